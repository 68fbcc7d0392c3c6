/-
  No cell of these rows narrows 'for every input' (looked for: loops, veiled, ifaces, maps, wideKeys, modest, calm, conditions, laid).
  DERIVED. THE GIVEN ROWS OF THIS SEAT. 5 by the template 'for every input the law returns true; each argument reads behind the call as it read before'; 0 by the template 'total and deterministic' (their statements: YtkiojnledimihaaTotals.lean).
  GIVEN WITH THE SEED: the statements are not yours to turn. If you find one false, say at which input.
  Laid BY PROGRAM, IN A SANDBOX (cutbox-rows.mjs): the forced cells as the released guide's own fill.sh prints them over the translation 873ddcc4b4727622… (all of the seat's roots in one cut). By AI agents, Wed Nov 11 2026. No macro, syntax, notation, axiom, sorry.
-/
import Derived.Test.YtkiojnledimihaaChecked
import GoSem.Claim
import GoSem.ClaimJoined
import GoSem.ClaimMapViews
import Derived.JoinedTies
import Derived.KernelRfl
namespace Go.Proofs.Ytkiojnledimihaa
/- THE CELL 'sum', in the pinned program and in every row, IS THE sha256 OF THE DUMP (.gsa) THAT YtkiojnledimihaaProg.lean LOADS. Nothing in Lean hashes anything: it is a label: what it is worth is what the hold of that sum in a sandbox is worth. -/
noncomputable def Try.pinned : Pinned := { name := "ytkiojnledimihaa", sum := "873ddcc4b47276228bd7313a34d8242f63223b5b3016182c5658f97eea066c40", checked := Try.checked }
namespace Rows
def none {H : Type} : Left H := { results := [], args := [] }

/-- 'stowagelaw13.PlaceTells': WHATEVER THE INPUT: true; the input reads as it did. -/
def placeTellsSpec : ChangeSpec := { name := "placeTells", fn := fun _ => fun
  | [d1, d2] => { results := [.lit (.bool true)], args := [d1, d2] }
  | _ => none }
def placeTellsRow : OpenClaim := { program := "ytkiojnledimihaa", sum := "873ddcc4b47276228bd7313a34d8242f63223b5b3016182c5658f97eea066c40", func := "stowage/stowagelaw13.PlaceTells", spec := "placeTells", unfollowed := true, recurses := true, apart := false }
def PlaceTellsSaid : Prop := placeTellsRow.holds Try.pinned (OpenSpec.ofChange placeTellsSpec)

/-- ITS FALSE NEIGHBOUR: 'it returns false'. Refute it at one input. -/
def placeTellsWrong : ChangeSpec := { name := "placeTells", fn := fun _ => fun
  | [d1, d2] => { results := [.lit (.bool false)], args := [d1, d2] }
  | _ => none }
def PlaceTellsWrongFalsely : Prop := placeTellsRow.holds Try.pinned (OpenSpec.ofChange placeTellsWrong)

/-- 'stowagelaw13.PlaceParts': WHATEVER THE INPUT: true; the input reads as it did. -/
def placePartsSpec : ChangeSpec := { name := "placeParts", fn := fun _ => fun
  | [d1, d2] => { results := [.lit (.bool true)], args := [d1, d2] }
  | _ => none }
def placePartsRow : OpenClaim := { program := "ytkiojnledimihaa", sum := "873ddcc4b47276228bd7313a34d8242f63223b5b3016182c5658f97eea066c40", func := "stowage/stowagelaw13.PlaceParts", spec := "placeParts", unfollowed := true, recurses := true, apart := false }
def PlacePartsSaid : Prop := placePartsRow.holds Try.pinned (OpenSpec.ofChange placePartsSpec)

/-- ITS FALSE NEIGHBOUR: 'it returns false'. Refute it at one input. -/
def placePartsWrong : ChangeSpec := { name := "placeParts", fn := fun _ => fun
  | [d1, d2] => { results := [.lit (.bool false)], args := [d1, d2] }
  | _ => none }
def PlacePartsWrongFalsely : Prop := placePartsRow.holds Try.pinned (OpenSpec.ofChange placePartsWrong)

/-- 'stowagelaw13.PlaceMerges': WHATEVER THE INPUT: true; the input reads as it did. -/
def placeMergesSpec : ChangeSpec := { name := "placeMerges", fn := fun _ => fun
  | [d] => { results := [.lit (.bool true)], args := [d] }
  | _ => none }
def placeMergesRow : OpenClaim := { program := "ytkiojnledimihaa", sum := "873ddcc4b47276228bd7313a34d8242f63223b5b3016182c5658f97eea066c40", func := "stowage/stowagelaw13.PlaceMerges", spec := "placeMerges", unfollowed := true, recurses := true, apart := false }
def PlaceMergesSaid : Prop := placeMergesRow.holds Try.pinned (OpenSpec.ofChange placeMergesSpec)

/-- ITS FALSE NEIGHBOUR: 'it returns false'. Refute it at one input. -/
def placeMergesWrong : ChangeSpec := { name := "placeMerges", fn := fun _ => fun
  | [d] => { results := [.lit (.bool false)], args := [d] }
  | _ => none }
def PlaceMergesWrongFalsely : Prop := placeMergesRow.holds Try.pinned (OpenSpec.ofChange placeMergesWrong)

/-- 'stowagelaw13.PlaceWhole': WHATEVER THE INPUT: true; the input reads as it did. -/
def placeWholeSpec : ChangeSpec := { name := "placeWhole", fn := fun _ => fun
  | [d1, d2] => { results := [.lit (.bool true)], args := [d1, d2] }
  | _ => none }
def placeWholeRow : OpenClaim := { program := "ytkiojnledimihaa", sum := "873ddcc4b47276228bd7313a34d8242f63223b5b3016182c5658f97eea066c40", func := "stowage/stowagelaw13.PlaceWhole", spec := "placeWhole", unfollowed := true, recurses := true, apart := false }
def PlaceWholeSaid : Prop := placeWholeRow.holds Try.pinned (OpenSpec.ofChange placeWholeSpec)

/-- ITS FALSE NEIGHBOUR: 'it returns false'. Refute it at one input. -/
def placeWholeWrong : ChangeSpec := { name := "placeWhole", fn := fun _ => fun
  | [d1, d2] => { results := [.lit (.bool false)], args := [d1, d2] }
  | _ => none }
def PlaceWholeWrongFalsely : Prop := placeWholeRow.holds Try.pinned (OpenSpec.ofChange placeWholeWrong)

/-- 'stowagelaw13.PlaceKnown': WHATEVER THE INPUT: true; the input reads as it did. -/
def placeKnownSpec : ChangeSpec := { name := "placeKnown", fn := fun _ => fun
  | [] => { results := [.lit (.bool true)], args := [] }
  | _ => none }
def placeKnownRow : OpenClaim := { program := "ytkiojnledimihaa", sum := "873ddcc4b47276228bd7313a34d8242f63223b5b3016182c5658f97eea066c40", func := "stowage/stowagelaw13.PlaceKnown", spec := "placeKnown", unfollowed := true, recurses := true, apart := false }
def PlaceKnownSaid : Prop := placeKnownRow.holds Try.pinned (OpenSpec.ofChange placeKnownSpec)

/-- ITS FALSE NEIGHBOUR: 'it returns false'. Refute it at one input. -/
def placeKnownWrong : ChangeSpec := { name := "placeKnown", fn := fun _ => fun
  | [] => { results := [.lit (.bool false)], args := [] }
  | _ => none }
def PlaceKnownWrongFalsely : Prop := placeKnownRow.holds Try.pinned (OpenSpec.ofChange placeKnownWrong)

/- THE SECOND FORM. 'bulk': how many values and letters a reading holds, each counted each time it is reached (what is shared counts as often as it is met; a slice's spare places count too). A statement '..UptoSaid' is the law's where the arguments, and the package variables that the reading takes, are together of bulk at most 1048576: NARROWER than '..Said'. Prove '..Said' where nothing that the law and all that it calls make is longer than what came in: it says more and counts as full. Else prove '..UptoSaid'. A law counts once. -/
mutual
def uptoBulk {H : Type} : DataW H → Nat
  | .lit (.string bytes) => bytes.length + 1
  | .lit _ => 1
  | .nil => 1
  | .ptr d => uptoBulk d + 1
  | .slice elems spare => uptoBulkAll elems + uptoBulkAll spare + 1
  | .agg parts => uptoBulkAll parts + 1
  | .iface _ d => uptoBulk d + 1
  | .map entries => uptoBulkEntries entries + 1
  | .held _ => 1
def uptoBulkAll {H : Type} : List (DataW H) → Nat
  | [] => 0
  | d :: r => uptoBulk d + uptoBulkAll r
def uptoBulkEntries {H : Type} : List (Lit × DataW H) → Nat
  | [] => 0
  | x :: r => uptoBulkEntry x + uptoBulkEntries r
def uptoBulkEntry {H : Type} : Lit × DataW H → Nat
  | (.string bytes, d) => bytes.length + uptoBulk d + 1
  | (_, d) => uptoBulk d + 1
 end
def uptoSmall : (H : Type) → List (DataW H) → Bool := fun _ ds => decide (uptoBulkAll ds ≤ 1048576)
def OpenSpec.upto (s : _root_.Go.ChangeSpec) : _root_.Go.OpenSpec := { _root_.Go.OpenSpec.ofChange s with cond := some uptoSmall }

/-- 'stowagelaw13.PlaceTells', WHERE WHAT IT READS IS OF BULK AT MOST 1048576: true; the input reads as it did. -/
def placeTellsUptoRow : OpenClaim := { program := "ytkiojnledimihaa", sum := "873ddcc4b47276228bd7313a34d8242f63223b5b3016182c5658f97eea066c40", func := "stowage/stowagelaw13.PlaceTells", spec := "placeTells", unfollowed := true, recurses := true, apart := false, narrowed := true }
def PlaceTellsUptoSaid : Prop := placeTellsUptoRow.holds Try.pinned (OpenSpec.upto placeTellsSpec)

/-- 'stowagelaw13.PlaceParts', WHERE WHAT IT READS IS OF BULK AT MOST 1048576: true; the input reads as it did. -/
def placePartsUptoRow : OpenClaim := { program := "ytkiojnledimihaa", sum := "873ddcc4b47276228bd7313a34d8242f63223b5b3016182c5658f97eea066c40", func := "stowage/stowagelaw13.PlaceParts", spec := "placeParts", unfollowed := true, recurses := true, apart := false, narrowed := true }
def PlacePartsUptoSaid : Prop := placePartsUptoRow.holds Try.pinned (OpenSpec.upto placePartsSpec)

/-- 'stowagelaw13.PlaceMerges', WHERE WHAT IT READS IS OF BULK AT MOST 1048576: true; the input reads as it did. -/
def placeMergesUptoRow : OpenClaim := { program := "ytkiojnledimihaa", sum := "873ddcc4b47276228bd7313a34d8242f63223b5b3016182c5658f97eea066c40", func := "stowage/stowagelaw13.PlaceMerges", spec := "placeMerges", unfollowed := true, recurses := true, apart := false, narrowed := true }
def PlaceMergesUptoSaid : Prop := placeMergesUptoRow.holds Try.pinned (OpenSpec.upto placeMergesSpec)

/-- 'stowagelaw13.PlaceWhole', WHERE WHAT IT READS IS OF BULK AT MOST 1048576: true; the input reads as it did. -/
def placeWholeUptoRow : OpenClaim := { program := "ytkiojnledimihaa", sum := "873ddcc4b47276228bd7313a34d8242f63223b5b3016182c5658f97eea066c40", func := "stowage/stowagelaw13.PlaceWhole", spec := "placeWhole", unfollowed := true, recurses := true, apart := false, narrowed := true }
def PlaceWholeUptoSaid : Prop := placeWholeUptoRow.holds Try.pinned (OpenSpec.upto placeWholeSpec)

/-- 'stowagelaw13.PlaceKnown', WHERE WHAT IT READS IS OF BULK AT MOST 1048576: true; the input reads as it did. -/
def placeKnownUptoRow : OpenClaim := { program := "ytkiojnledimihaa", sum := "873ddcc4b47276228bd7313a34d8242f63223b5b3016182c5658f97eea066c40", func := "stowage/stowagelaw13.PlaceKnown", spec := "placeKnown", unfollowed := true, recurses := true, apart := false, narrowed := true }
def PlaceKnownUptoSaid : Prop := placeKnownUptoRow.holds Try.pinned (OpenSpec.upto placeKnownSpec)

end Rows
end Go.Proofs.Ytkiojnledimihaa
