/-
  No cell of these rows narrows 'for every input' (looked for: loops, veiled, ifaces, maps, wideKeys, modest, calm, conditions, laid).
  DERIVED. THE GIVEN ROWS OF THIS SEAT. 6 by the template 'for every input the law returns true; each argument reads behind the call as it read before'; 0 by the template 'total and deterministic' (their statements: YtfppmpfmafnfmaaTotals.lean).
  GIVEN WITH THE SEED: the statements are not yours to turn. If you find one false, say at which input.
  Laid BY PROGRAM, IN A SANDBOX (cutbox-rows.mjs): the forced cells as the released guide's own fill.sh prints them over the translation b18dc78a7c94b2dd… (all of the seat's roots in one cut). By AI agents, Wed Nov 11 2026. No macro, syntax, notation, axiom, sorry.
-/
import Derived.Test.YtfppmpfmafnfmaaChecked
import GoSem.Claim
import GoSem.ClaimJoined
import GoSem.ClaimMapViews
import Derived.JoinedTies
import Derived.KernelRfl
namespace Go.Proofs.Ytfppmpfmafnfmaa
/- THE CELL 'sum', in the pinned program and in every row, IS THE sha256 OF THE DUMP (.gsa) THAT YtfppmpfmafnfmaaProg.lean LOADS. Nothing in Lean hashes anything: it is a label: what it is worth is what the hold of that sum in a sandbox is worth. -/
noncomputable def Try.pinned : Pinned := { name := "ytfppmpfmafnfmaa", sum := "b18dc78a7c94b2dd33402d4d5b4a013edd9a54ff721a1074a8c7dd4b204f84cd", checked := Try.checked }
namespace Rows
def none {H : Type} : Left H := { results := [], args := [] }

/-- 'stowagelaw06.DriveScript': WHATEVER THE INPUT: true; the input reads as it did. -/
def driveScriptSpec : ChangeSpec := { name := "driveScript", fn := fun _ => fun
  | [d1, d2, d3] => { results := [.lit (.bool true)], args := [d1, d2, d3] }
  | _ => none }
def driveScriptRow : OpenClaim := { program := "ytfppmpfmafnfmaa", sum := "b18dc78a7c94b2dd33402d4d5b4a013edd9a54ff721a1074a8c7dd4b204f84cd", func := "stowage/stowagelaw06.DriveScript", spec := "driveScript", unfollowed := true, recurses := true, apart := false }
def DriveScriptSaid : Prop := driveScriptRow.holds Try.pinned (OpenSpec.ofChange driveScriptSpec)

/-- ITS FALSE NEIGHBOUR: 'it returns false'. Refute it at one input. -/
def driveScriptWrong : ChangeSpec := { name := "driveScript", fn := fun _ => fun
  | [d1, d2, d3] => { results := [.lit (.bool false)], args := [d1, d2, d3] }
  | _ => none }
def DriveScriptWrongFalsely : Prop := driveScriptRow.holds Try.pinned (OpenSpec.ofChange driveScriptWrong)

/-- 'stowagelaw06.DriveNames': WHATEVER THE INPUT: true; the input reads as it did. -/
def driveNamesSpec : ChangeSpec := { name := "driveNames", fn := fun _ => fun
  | [d] => { results := [.lit (.bool true)], args := [d] }
  | _ => none }
def driveNamesRow : OpenClaim := { program := "ytfppmpfmafnfmaa", sum := "b18dc78a7c94b2dd33402d4d5b4a013edd9a54ff721a1074a8c7dd4b204f84cd", func := "stowage/stowagelaw06.DriveNames", spec := "driveNames", unfollowed := true, recurses := true, apart := false }
def DriveNamesSaid : Prop := driveNamesRow.holds Try.pinned (OpenSpec.ofChange driveNamesSpec)

/-- ITS FALSE NEIGHBOUR: 'it returns false'. Refute it at one input. -/
def driveNamesWrong : ChangeSpec := { name := "driveNames", fn := fun _ => fun
  | [d] => { results := [.lit (.bool false)], args := [d] }
  | _ => none }
def DriveNamesWrongFalsely : Prop := driveNamesRow.holds Try.pinned (OpenSpec.ofChange driveNamesWrong)

/-- 'stowagelaw06.DriveNone': WHATEVER THE INPUT: true; the input reads as it did. -/
def driveNoneSpec : ChangeSpec := { name := "driveNone", fn := fun _ => fun
  | [d1, d2] => { results := [.lit (.bool true)], args := [d1, d2] }
  | _ => none }
def driveNoneRow : OpenClaim := { program := "ytfppmpfmafnfmaa", sum := "b18dc78a7c94b2dd33402d4d5b4a013edd9a54ff721a1074a8c7dd4b204f84cd", func := "stowage/stowagelaw06.DriveNone", spec := "driveNone", unfollowed := true, recurses := true, apart := false }
def DriveNoneSaid : Prop := driveNoneRow.holds Try.pinned (OpenSpec.ofChange driveNoneSpec)

/-- ITS FALSE NEIGHBOUR: 'it returns false'. Refute it at one input. -/
def driveNoneWrong : ChangeSpec := { name := "driveNone", fn := fun _ => fun
  | [d1, d2] => { results := [.lit (.bool false)], args := [d1, d2] }
  | _ => none }
def DriveNoneWrongFalsely : Prop := driveNoneRow.holds Try.pinned (OpenSpec.ofChange driveNoneWrong)

/-- 'stowagelaw06.DriveKeeps': WHATEVER THE INPUT: true; the input reads as it did. -/
def driveKeepsSpec : ChangeSpec := { name := "driveKeeps", fn := fun _ => fun
  | [d1, d2] => { results := [.lit (.bool true)], args := [d1, d2] }
  | _ => none }
def driveKeepsRow : OpenClaim := { program := "ytfppmpfmafnfmaa", sum := "b18dc78a7c94b2dd33402d4d5b4a013edd9a54ff721a1074a8c7dd4b204f84cd", func := "stowage/stowagelaw06.DriveKeeps", spec := "driveKeeps", unfollowed := true, recurses := true, apart := false }
def DriveKeepsSaid : Prop := driveKeepsRow.holds Try.pinned (OpenSpec.ofChange driveKeepsSpec)

/-- ITS FALSE NEIGHBOUR: 'it returns false'. Refute it at one input. -/
def driveKeepsWrong : ChangeSpec := { name := "driveKeeps", fn := fun _ => fun
  | [d1, d2] => { results := [.lit (.bool false)], args := [d1, d2] }
  | _ => none }
def DriveKeepsWrongFalsely : Prop := driveKeepsRow.holds Try.pinned (OpenSpec.ofChange driveKeepsWrong)

/-- 'stowagelaw06.DriveFuse': WHATEVER THE INPUT: true; the input reads as it did. -/
def driveFuseSpec : ChangeSpec := { name := "driveFuse", fn := fun _ => fun
  | [d1, d2] => { results := [.lit (.bool true)], args := [d1, d2] }
  | _ => none }
def driveFuseRow : OpenClaim := { program := "ytfppmpfmafnfmaa", sum := "b18dc78a7c94b2dd33402d4d5b4a013edd9a54ff721a1074a8c7dd4b204f84cd", func := "stowage/stowagelaw06.DriveFuse", spec := "driveFuse", unfollowed := true, recurses := true, apart := false }
def DriveFuseSaid : Prop := driveFuseRow.holds Try.pinned (OpenSpec.ofChange driveFuseSpec)

/-- ITS FALSE NEIGHBOUR: 'it returns false'. Refute it at one input. -/
def driveFuseWrong : ChangeSpec := { name := "driveFuse", fn := fun _ => fun
  | [d1, d2] => { results := [.lit (.bool false)], args := [d1, d2] }
  | _ => none }
def DriveFuseWrongFalsely : Prop := driveFuseRow.holds Try.pinned (OpenSpec.ofChange driveFuseWrong)

/-- 'stowagelaw06.DriveKnown': WHATEVER THE INPUT: true; the input reads as it did. -/
def driveKnownSpec : ChangeSpec := { name := "driveKnown", fn := fun _ => fun
  | [] => { results := [.lit (.bool true)], args := [] }
  | _ => none }
def driveKnownRow : OpenClaim := { program := "ytfppmpfmafnfmaa", sum := "b18dc78a7c94b2dd33402d4d5b4a013edd9a54ff721a1074a8c7dd4b204f84cd", func := "stowage/stowagelaw06.DriveKnown", spec := "driveKnown", unfollowed := true, recurses := true, apart := false }
def DriveKnownSaid : Prop := driveKnownRow.holds Try.pinned (OpenSpec.ofChange driveKnownSpec)

/-- ITS FALSE NEIGHBOUR: 'it returns false'. Refute it at one input. -/
def driveKnownWrong : ChangeSpec := { name := "driveKnown", fn := fun _ => fun
  | [] => { results := [.lit (.bool false)], args := [] }
  | _ => none }
def DriveKnownWrongFalsely : Prop := driveKnownRow.holds Try.pinned (OpenSpec.ofChange driveKnownWrong)

/- THE SECOND FORM. 'bulk': how many values and letters a reading holds, each counted each time it is reached (what is shared counts as often as it is met; a slice's spare places count too). A statement '..UptoSaid' is the law's where the arguments, and the package variables that the reading takes, are together of bulk at most 1048576: NARROWER than '..Said'. Prove '..Said' where nothing that the law and all that it calls make is longer than what came in: it says more and counts as full. Else prove '..UptoSaid'. A law counts once. -/
mutual
def uptoBulk {H : Type} : DataW H → Nat
  | .lit (.string bytes) => bytes.length + 1
  | .lit _ => 1
  | .nil => 1
  | .ptr d => uptoBulk d + 1
  | .slice elems spare => uptoBulkAll elems + uptoBulkAll spare + 1
  | .agg parts => uptoBulkAll parts + 1
  | .iface _ d => uptoBulk d + 1
  | .map entries => uptoBulkEntries entries + 1
  | .held _ => 1
def uptoBulkAll {H : Type} : List (DataW H) → Nat
  | [] => 0
  | d :: r => uptoBulk d + uptoBulkAll r
def uptoBulkEntries {H : Type} : List (Lit × DataW H) → Nat
  | [] => 0
  | x :: r => uptoBulkEntry x + uptoBulkEntries r
def uptoBulkEntry {H : Type} : Lit × DataW H → Nat
  | (.string bytes, d) => bytes.length + uptoBulk d + 1
  | (_, d) => uptoBulk d + 1
 end
def uptoSmall : (H : Type) → List (DataW H) → Bool := fun _ ds => decide (uptoBulkAll ds ≤ 1048576)
def OpenSpec.upto (s : _root_.Go.ChangeSpec) : _root_.Go.OpenSpec := { _root_.Go.OpenSpec.ofChange s with cond := some uptoSmall }

/-- 'stowagelaw06.DriveScript', WHERE WHAT IT READS IS OF BULK AT MOST 1048576: true; the input reads as it did. -/
def driveScriptUptoRow : OpenClaim := { program := "ytfppmpfmafnfmaa", sum := "b18dc78a7c94b2dd33402d4d5b4a013edd9a54ff721a1074a8c7dd4b204f84cd", func := "stowage/stowagelaw06.DriveScript", spec := "driveScript", unfollowed := true, recurses := true, apart := false, narrowed := true }
def DriveScriptUptoSaid : Prop := driveScriptUptoRow.holds Try.pinned (OpenSpec.upto driveScriptSpec)

/-- 'stowagelaw06.DriveNames', WHERE WHAT IT READS IS OF BULK AT MOST 1048576: true; the input reads as it did. -/
def driveNamesUptoRow : OpenClaim := { program := "ytfppmpfmafnfmaa", sum := "b18dc78a7c94b2dd33402d4d5b4a013edd9a54ff721a1074a8c7dd4b204f84cd", func := "stowage/stowagelaw06.DriveNames", spec := "driveNames", unfollowed := true, recurses := true, apart := false, narrowed := true }
def DriveNamesUptoSaid : Prop := driveNamesUptoRow.holds Try.pinned (OpenSpec.upto driveNamesSpec)

/-- 'stowagelaw06.DriveNone', WHERE WHAT IT READS IS OF BULK AT MOST 1048576: true; the input reads as it did. -/
def driveNoneUptoRow : OpenClaim := { program := "ytfppmpfmafnfmaa", sum := "b18dc78a7c94b2dd33402d4d5b4a013edd9a54ff721a1074a8c7dd4b204f84cd", func := "stowage/stowagelaw06.DriveNone", spec := "driveNone", unfollowed := true, recurses := true, apart := false, narrowed := true }
def DriveNoneUptoSaid : Prop := driveNoneUptoRow.holds Try.pinned (OpenSpec.upto driveNoneSpec)

/-- 'stowagelaw06.DriveKeeps', WHERE WHAT IT READS IS OF BULK AT MOST 1048576: true; the input reads as it did. -/
def driveKeepsUptoRow : OpenClaim := { program := "ytfppmpfmafnfmaa", sum := "b18dc78a7c94b2dd33402d4d5b4a013edd9a54ff721a1074a8c7dd4b204f84cd", func := "stowage/stowagelaw06.DriveKeeps", spec := "driveKeeps", unfollowed := true, recurses := true, apart := false, narrowed := true }
def DriveKeepsUptoSaid : Prop := driveKeepsUptoRow.holds Try.pinned (OpenSpec.upto driveKeepsSpec)

/-- 'stowagelaw06.DriveFuse', WHERE WHAT IT READS IS OF BULK AT MOST 1048576: true; the input reads as it did. -/
def driveFuseUptoRow : OpenClaim := { program := "ytfppmpfmafnfmaa", sum := "b18dc78a7c94b2dd33402d4d5b4a013edd9a54ff721a1074a8c7dd4b204f84cd", func := "stowage/stowagelaw06.DriveFuse", spec := "driveFuse", unfollowed := true, recurses := true, apart := false, narrowed := true }
def DriveFuseUptoSaid : Prop := driveFuseUptoRow.holds Try.pinned (OpenSpec.upto driveFuseSpec)

/-- 'stowagelaw06.DriveKnown', WHERE WHAT IT READS IS OF BULK AT MOST 1048576: true; the input reads as it did. -/
def driveKnownUptoRow : OpenClaim := { program := "ytfppmpfmafnfmaa", sum := "b18dc78a7c94b2dd33402d4d5b4a013edd9a54ff721a1074a8c7dd4b204f84cd", func := "stowage/stowagelaw06.DriveKnown", spec := "driveKnown", unfollowed := true, recurses := true, apart := false, narrowed := true }
def DriveKnownUptoSaid : Prop := driveKnownUptoRow.holds Try.pinned (OpenSpec.upto driveKnownSpec)

end Rows
end Go.Proofs.Ytfppmpfmafnfmaa
