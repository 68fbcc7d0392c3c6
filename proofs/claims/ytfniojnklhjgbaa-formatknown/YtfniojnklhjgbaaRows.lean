/-
  No cell of these rows narrows 'for every input' (looked for: loops, veiled, ifaces, maps, wideKeys, modest, calm, conditions, laid).
  DERIVED. THE GIVEN ROWS OF THIS SEAT. 5 by the template 'for every input the law returns true; each argument reads behind the call as it read before'; 0 by the template 'total and deterministic' (their statements: YtfniojnklhjgbaaTotals.lean).
  GIVEN WITH THE SEED: the statements are not yours to turn. If you find one false, say at which input.
  Laid BY PROGRAM, IN A SANDBOX (cutbox-rows.mjs): the forced cells as the released guide's own fill.sh prints them over the translation 6d432565befa25e3… (all of the seat's roots in one cut). By AI agents, Wed Nov 11 2026. No macro, syntax, notation, axiom, sorry.
-/
import Derived.Test.YtfniojnklhjgbaaChecked
import GoSem.Claim
import GoSem.ClaimJoined
import GoSem.ClaimMapViews
import Derived.JoinedTies
import Derived.KernelRfl
namespace Go.Proofs.Ytfniojnklhjgbaa
/- THE CELL 'sum', in the pinned program and in every row, IS THE sha256 OF THE DUMP (.gsa) THAT YtfniojnklhjgbaaProg.lean LOADS. Nothing in Lean hashes anything: it is a label: what it is worth is what the hold of that sum in a sandbox is worth. -/
noncomputable def Try.pinned : Pinned := { name := "ytfniojnklhjgbaa", sum := "6d432565befa25e36d0c596ff9b835cdf07a04f9831a4e92588c352d6e8eb70a", checked := Try.checked }
namespace Rows
def none {H : Type} : Left H := { results := [], args := [] }

/-- 'stowagelaw14.FormatTells': WHATEVER THE INPUT: true; the input reads as it did. -/
def formatTellsSpec : ChangeSpec := { name := "formatTells", fn := fun _ => fun
  | [d1, d2] => { results := [.lit (.bool true)], args := [d1, d2] }
  | _ => none }
def formatTellsRow : OpenClaim := { program := "ytfniojnklhjgbaa", sum := "6d432565befa25e36d0c596ff9b835cdf07a04f9831a4e92588c352d6e8eb70a", func := "stowage/stowagelaw14.FormatTells", spec := "formatTells", unfollowed := true, recurses := true, apart := false }
def FormatTellsSaid : Prop := formatTellsRow.holds Try.pinned (OpenSpec.ofChange formatTellsSpec)

/-- ITS FALSE NEIGHBOUR: 'it returns false'. Refute it at one input. -/
def formatTellsWrong : ChangeSpec := { name := "formatTells", fn := fun _ => fun
  | [d1, d2] => { results := [.lit (.bool false)], args := [d1, d2] }
  | _ => none }
def FormatTellsWrongFalsely : Prop := formatTellsRow.holds Try.pinned (OpenSpec.ofChange formatTellsWrong)

/-- 'stowagelaw14.FormatJudges': WHATEVER THE INPUT: true; the input reads as it did. -/
def formatJudgesSpec : ChangeSpec := { name := "formatJudges", fn := fun _ => fun
  | [d1, d2, d3, d4] => { results := [.lit (.bool true)], args := [d1, d2, d3, d4] }
  | _ => none }
def formatJudgesRow : OpenClaim := { program := "ytfniojnklhjgbaa", sum := "6d432565befa25e36d0c596ff9b835cdf07a04f9831a4e92588c352d6e8eb70a", func := "stowage/stowagelaw14.FormatJudges", spec := "formatJudges", unfollowed := true, recurses := true, apart := false }
def FormatJudgesSaid : Prop := formatJudgesRow.holds Try.pinned (OpenSpec.ofChange formatJudgesSpec)

/-- ITS FALSE NEIGHBOUR: 'it returns false'. Refute it at one input. -/
def formatJudgesWrong : ChangeSpec := { name := "formatJudges", fn := fun _ => fun
  | [d1, d2, d3, d4] => { results := [.lit (.bool false)], args := [d1, d2, d3, d4] }
  | _ => none }
def FormatJudgesWrongFalsely : Prop := formatJudgesRow.holds Try.pinned (OpenSpec.ofChange formatJudgesWrong)

/-- 'stowagelaw14.FormatBack': WHATEVER THE INPUT: true; the input reads as it did. -/
def formatBackSpec : ChangeSpec := { name := "formatBack", fn := fun _ => fun
  | [d1, d2, d3, d4] => { results := [.lit (.bool true)], args := [d1, d2, d3, d4] }
  | _ => none }
def formatBackRow : OpenClaim := { program := "ytfniojnklhjgbaa", sum := "6d432565befa25e36d0c596ff9b835cdf07a04f9831a4e92588c352d6e8eb70a", func := "stowage/stowagelaw14.FormatBack", spec := "formatBack", unfollowed := true, recurses := true, apart := false }
def FormatBackSaid : Prop := formatBackRow.holds Try.pinned (OpenSpec.ofChange formatBackSpec)

/-- ITS FALSE NEIGHBOUR: 'it returns false'. Refute it at one input. -/
def formatBackWrong : ChangeSpec := { name := "formatBack", fn := fun _ => fun
  | [d1, d2, d3, d4] => { results := [.lit (.bool false)], args := [d1, d2, d3, d4] }
  | _ => none }
def FormatBackWrongFalsely : Prop := formatBackRow.holds Try.pinned (OpenSpec.ofChange formatBackWrong)

/-- 'stowagelaw14.FormatPlaces': WHATEVER THE INPUT: true; the input reads as it did. -/
def formatPlacesSpec : ChangeSpec := { name := "formatPlaces", fn := fun _ => fun
  | [d1, d2, d3, d4, d5, d6, d7, d8] => { results := [.lit (.bool true)], args := [d1, d2, d3, d4, d5, d6, d7, d8] }
  | _ => none }
def formatPlacesRow : OpenClaim := { program := "ytfniojnklhjgbaa", sum := "6d432565befa25e36d0c596ff9b835cdf07a04f9831a4e92588c352d6e8eb70a", func := "stowage/stowagelaw14.FormatPlaces", spec := "formatPlaces", unfollowed := true, recurses := true, apart := false }
def FormatPlacesSaid : Prop := formatPlacesRow.holds Try.pinned (OpenSpec.ofChange formatPlacesSpec)

/-- ITS FALSE NEIGHBOUR: 'it returns false'. Refute it at one input. -/
def formatPlacesWrong : ChangeSpec := { name := "formatPlaces", fn := fun _ => fun
  | [d1, d2, d3, d4, d5, d6, d7, d8] => { results := [.lit (.bool false)], args := [d1, d2, d3, d4, d5, d6, d7, d8] }
  | _ => none }
def FormatPlacesWrongFalsely : Prop := formatPlacesRow.holds Try.pinned (OpenSpec.ofChange formatPlacesWrong)

/-- 'stowagelaw14.FormatKnown': WHATEVER THE INPUT: true; the input reads as it did. -/
def formatKnownSpec : ChangeSpec := { name := "formatKnown", fn := fun _ => fun
  | [] => { results := [.lit (.bool true)], args := [] }
  | _ => none }
def formatKnownRow : OpenClaim := { program := "ytfniojnklhjgbaa", sum := "6d432565befa25e36d0c596ff9b835cdf07a04f9831a4e92588c352d6e8eb70a", func := "stowage/stowagelaw14.FormatKnown", spec := "formatKnown", unfollowed := true, recurses := true, apart := false }
def FormatKnownSaid : Prop := formatKnownRow.holds Try.pinned (OpenSpec.ofChange formatKnownSpec)

/-- ITS FALSE NEIGHBOUR: 'it returns false'. Refute it at one input. -/
def formatKnownWrong : ChangeSpec := { name := "formatKnown", fn := fun _ => fun
  | [] => { results := [.lit (.bool false)], args := [] }
  | _ => none }
def FormatKnownWrongFalsely : Prop := formatKnownRow.holds Try.pinned (OpenSpec.ofChange formatKnownWrong)

/- THE SECOND FORM. 'bulk': how many values and letters a reading holds, each counted each time it is reached (what is shared counts as often as it is met; a slice's spare places count too). A statement '..UptoSaid' is the law's where the arguments, and the package variables that the reading takes, are together of bulk at most 1048576: NARROWER than '..Said'. Prove '..Said' where nothing that the law and all that it calls make is longer than what came in: it says more and counts as full. Else prove '..UptoSaid'. A law counts once. -/
mutual
def uptoBulk {H : Type} : DataW H → Nat
  | .lit (.string bytes) => bytes.length + 1
  | .lit _ => 1
  | .nil => 1
  | .ptr d => uptoBulk d + 1
  | .slice elems spare => uptoBulkAll elems + uptoBulkAll spare + 1
  | .agg parts => uptoBulkAll parts + 1
  | .iface _ d => uptoBulk d + 1
  | .map entries => uptoBulkEntries entries + 1
  | .held _ => 1
def uptoBulkAll {H : Type} : List (DataW H) → Nat
  | [] => 0
  | d :: r => uptoBulk d + uptoBulkAll r
def uptoBulkEntries {H : Type} : List (Lit × DataW H) → Nat
  | [] => 0
  | x :: r => uptoBulkEntry x + uptoBulkEntries r
def uptoBulkEntry {H : Type} : Lit × DataW H → Nat
  | (.string bytes, d) => bytes.length + uptoBulk d + 1
  | (_, d) => uptoBulk d + 1
 end
def uptoSmall : (H : Type) → List (DataW H) → Bool := fun _ ds => decide (uptoBulkAll ds ≤ 1048576)
def OpenSpec.upto (s : _root_.Go.ChangeSpec) : _root_.Go.OpenSpec := { _root_.Go.OpenSpec.ofChange s with cond := some uptoSmall }

/-- 'stowagelaw14.FormatTells', WHERE WHAT IT READS IS OF BULK AT MOST 1048576: true; the input reads as it did. -/
def formatTellsUptoRow : OpenClaim := { program := "ytfniojnklhjgbaa", sum := "6d432565befa25e36d0c596ff9b835cdf07a04f9831a4e92588c352d6e8eb70a", func := "stowage/stowagelaw14.FormatTells", spec := "formatTells", unfollowed := true, recurses := true, apart := false, narrowed := true }
def FormatTellsUptoSaid : Prop := formatTellsUptoRow.holds Try.pinned (OpenSpec.upto formatTellsSpec)

/-- 'stowagelaw14.FormatJudges', WHERE WHAT IT READS IS OF BULK AT MOST 1048576: true; the input reads as it did. -/
def formatJudgesUptoRow : OpenClaim := { program := "ytfniojnklhjgbaa", sum := "6d432565befa25e36d0c596ff9b835cdf07a04f9831a4e92588c352d6e8eb70a", func := "stowage/stowagelaw14.FormatJudges", spec := "formatJudges", unfollowed := true, recurses := true, apart := false, narrowed := true }
def FormatJudgesUptoSaid : Prop := formatJudgesUptoRow.holds Try.pinned (OpenSpec.upto formatJudgesSpec)

/-- 'stowagelaw14.FormatBack', WHERE WHAT IT READS IS OF BULK AT MOST 1048576: true; the input reads as it did. -/
def formatBackUptoRow : OpenClaim := { program := "ytfniojnklhjgbaa", sum := "6d432565befa25e36d0c596ff9b835cdf07a04f9831a4e92588c352d6e8eb70a", func := "stowage/stowagelaw14.FormatBack", spec := "formatBack", unfollowed := true, recurses := true, apart := false, narrowed := true }
def FormatBackUptoSaid : Prop := formatBackUptoRow.holds Try.pinned (OpenSpec.upto formatBackSpec)

/-- 'stowagelaw14.FormatPlaces', WHERE WHAT IT READS IS OF BULK AT MOST 1048576: true; the input reads as it did. -/
def formatPlacesUptoRow : OpenClaim := { program := "ytfniojnklhjgbaa", sum := "6d432565befa25e36d0c596ff9b835cdf07a04f9831a4e92588c352d6e8eb70a", func := "stowage/stowagelaw14.FormatPlaces", spec := "formatPlaces", unfollowed := true, recurses := true, apart := false, narrowed := true }
def FormatPlacesUptoSaid : Prop := formatPlacesUptoRow.holds Try.pinned (OpenSpec.upto formatPlacesSpec)

/-- 'stowagelaw14.FormatKnown', WHERE WHAT IT READS IS OF BULK AT MOST 1048576: true; the input reads as it did. -/
def formatKnownUptoRow : OpenClaim := { program := "ytfniojnklhjgbaa", sum := "6d432565befa25e36d0c596ff9b835cdf07a04f9831a4e92588c352d6e8eb70a", func := "stowage/stowagelaw14.FormatKnown", spec := "formatKnown", unfollowed := true, recurses := true, apart := false, narrowed := true }
def FormatKnownUptoSaid : Prop := formatKnownUptoRow.holds Try.pinned (OpenSpec.upto formatKnownSpec)

end Rows
end Go.Proofs.Ytfniojnklhjgbaa
