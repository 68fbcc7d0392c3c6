/-
  NARROWER THAN 'FOR EVERY INPUT', by the rows' own cells (each row's printed sentence says how): TallyCounts: laid · TallyTrue: laid · TallyKnown: laid.
  DERIVED. THE GIVEN ROWS OF THIS SEAT. 3 by the template 'for every input the law returns true; each argument reads behind the call as it read before'; 0 by the template 'total and deterministic' (their statements: YtelkijiphhoacaaDoorTotals.lean).
  GIVEN WITH THE SEED: the statements are not yours to turn. If you find one false, say at which input.
  Laid BY PROGRAM, IN A SANDBOX (cutbox-rows.mjs): the forced cells as the released guide's own fill.sh prints them over the translation c975f23888f224ba… (all of the seat's roots in one cut). By AI agents, Wed Nov 11 2026. No macro, syntax, notation, axiom, sorry.
-/
import Derived.Test.YtelkijiphhoacaaDoorChecked
import GoSem.Claim
import GoSem.ClaimJoined
import GoSem.ClaimMapViews
import Derived.JoinedTies
import Derived.KernelRfl
namespace Go.Proofs.YtelkijiphhoacaaDoor
/- THE CELL 'sum', in the pinned program and in every row, IS THE sha256 OF THE DUMP (.gsa) THAT YtelkijiphhoacaaDoorProg.lean LOADS. Nothing in Lean hashes anything: it is a label: what it is worth is what the hold of that sum in a sandbox is worth. -/
noncomputable def Tryd.pinned : Pinned := { name := "ytelkijiphhoacaadoor", sum := "c975f23888f224bac248756d96951c4f218472c295c25e691014054ff3e94988", checked := Tryd.checked }
namespace Rows
def none {H : Type} : Left H := { results := [], args := [] }

/- WHAT THE LISTED PACKAGE-LEVEL VARIABLES READ AS WHEN THE CALL BEGINS. Each datum BY PROGRAM (the guide's laid-datum.mjs) off the statement by which the dump's own 'gosem.cut.vars' lays the variable. In a bare row this is a premise. The card (YtelkijiphhoacaaDoorCards.lean) ties it to the program's text. -/
def laid_stowage_journal_errForm {H : Type} : DataW H := .iface "*errors.errorString" (.ptr (.agg [.lit (.string [110, 111, 116, 32, 97, 115, 32, 97, 32, 106, 111, 117, 114, 110, 97, 108, 32, 105, 115, 32, 119, 114, 105, 116, 116, 101, 110])]))
def laid_stowage_journal_errTurned {H : Type} : DataW H := .iface "*errors.errorString" (.ptr (.agg [.lit (.string [110, 111, 116, 32, 119, 104, 97, 116, 32, 116, 104, 101, 32, 100, 105, 103, 101, 115, 116, 32, 119, 97, 115, 32, 109, 97, 100, 101, 32, 111, 102])]))

/-- 'stowagelaw09.TallyCounts': WHATEVER THE INPUT: true; the input reads as it did. -/
def tallyCountsSpec : ChangeSpec := { name := "tallyCounts", fn := fun _ => fun
  | [d1, d2, d3, d4] => { results := [.lit (.bool true)], args := [d1, d2, d3, d4] }
  | _ => none }
def tallyCountsRow : OpenClaim := { program := "ytelkijiphhoacaadoor", sum := "c975f23888f224bac248756d96951c4f218472c295c25e691014054ff3e94988", func := "stowage/stowagelaw09.TallyCounts", spec := "tallyCounts", inPlace := ["internal/reflectlite.TypeOf"], unfollowed := true, recurses := true, named := ["stowage/journal.errForm", "stowage/journal.errTurned"], apart := false, laid := [("stowage/journal.errForm", laid_stowage_journal_errForm), ("stowage/journal.errTurned", laid_stowage_journal_errTurned)] }
def TallyCountsSaid : Prop := tallyCountsRow.holds Tryd.pinned (OpenSpec.ofChange tallyCountsSpec)

/-- ITS FALSE NEIGHBOUR: 'it returns false'. Refute it at one input. -/
def tallyCountsWrong : ChangeSpec := { name := "tallyCounts", fn := fun _ => fun
  | [d1, d2, d3, d4] => { results := [.lit (.bool false)], args := [d1, d2, d3, d4] }
  | _ => none }
def TallyCountsWrongFalsely : Prop := tallyCountsRow.holds Tryd.pinned (OpenSpec.ofChange tallyCountsWrong)

/-- 'stowagelaw09.TallyTrue': WHATEVER THE INPUT: true; the input reads as it did. -/
def tallyTrueSpec : ChangeSpec := { name := "tallyTrue", fn := fun _ => fun
  | [d1, d2] => { results := [.lit (.bool true)], args := [d1, d2] }
  | _ => none }
def tallyTrueRow : OpenClaim := { program := "ytelkijiphhoacaadoor", sum := "c975f23888f224bac248756d96951c4f218472c295c25e691014054ff3e94988", func := "stowage/stowagelaw09.TallyTrue", spec := "tallyTrue", inPlace := ["internal/reflectlite.TypeOf"], unfollowed := true, recurses := true, named := ["stowage/journal.errForm", "stowage/journal.errTurned"], apart := false, laid := [("stowage/journal.errForm", laid_stowage_journal_errForm), ("stowage/journal.errTurned", laid_stowage_journal_errTurned)] }
def TallyTrueSaid : Prop := tallyTrueRow.holds Tryd.pinned (OpenSpec.ofChange tallyTrueSpec)

/-- ITS FALSE NEIGHBOUR: 'it returns false'. Refute it at one input. -/
def tallyTrueWrong : ChangeSpec := { name := "tallyTrue", fn := fun _ => fun
  | [d1, d2] => { results := [.lit (.bool false)], args := [d1, d2] }
  | _ => none }
def TallyTrueWrongFalsely : Prop := tallyTrueRow.holds Tryd.pinned (OpenSpec.ofChange tallyTrueWrong)

/-- 'stowagelaw09.TallyKnown': WHATEVER THE INPUT: true; the input reads as it did. -/
def tallyKnownSpec : ChangeSpec := { name := "tallyKnown", fn := fun _ => fun
  | [] => { results := [.lit (.bool true)], args := [] }
  | _ => none }
def tallyKnownRow : OpenClaim := { program := "ytelkijiphhoacaadoor", sum := "c975f23888f224bac248756d96951c4f218472c295c25e691014054ff3e94988", func := "stowage/stowagelaw09.TallyKnown", spec := "tallyKnown", inPlace := ["internal/reflectlite.TypeOf"], unfollowed := true, recurses := true, named := ["stowage/journal.errForm", "stowage/journal.errTurned"], apart := false, laid := [("stowage/journal.errForm", laid_stowage_journal_errForm), ("stowage/journal.errTurned", laid_stowage_journal_errTurned)] }
def TallyKnownSaid : Prop := tallyKnownRow.holds Tryd.pinned (OpenSpec.ofChange tallyKnownSpec)

/-- ITS FALSE NEIGHBOUR: 'it returns false'. Refute it at one input. -/
def tallyKnownWrong : ChangeSpec := { name := "tallyKnown", fn := fun _ => fun
  | [] => { results := [.lit (.bool false)], args := [] }
  | _ => none }
def TallyKnownWrongFalsely : Prop := tallyKnownRow.holds Tryd.pinned (OpenSpec.ofChange tallyKnownWrong)

/- THE SECOND FORM. 'bulk': how many values and letters a reading holds, each counted each time it is reached (what is shared counts as often as it is met; a slice's spare places count too). A statement '..UptoSaid' is the law's where the arguments, and the package variables that the reading takes, are together of bulk at most 1048576: NARROWER than '..Said'. Prove '..Said' where nothing that the law and all that it calls make is longer than what came in: it says more and counts as full. Else prove '..UptoSaid'. A law counts once. -/
mutual
def uptoBulk {H : Type} : DataW H → Nat
  | .lit (.string bytes) => bytes.length + 1
  | .lit _ => 1
  | .nil => 1
  | .ptr d => uptoBulk d + 1
  | .slice elems spare => uptoBulkAll elems + uptoBulkAll spare + 1
  | .agg parts => uptoBulkAll parts + 1
  | .iface _ d => uptoBulk d + 1
  | .map entries => uptoBulkEntries entries + 1
  | .held _ => 1
def uptoBulkAll {H : Type} : List (DataW H) → Nat
  | [] => 0
  | d :: r => uptoBulk d + uptoBulkAll r
def uptoBulkEntries {H : Type} : List (Lit × DataW H) → Nat
  | [] => 0
  | x :: r => uptoBulkEntry x + uptoBulkEntries r
def uptoBulkEntry {H : Type} : Lit × DataW H → Nat
  | (.string bytes, d) => bytes.length + uptoBulk d + 1
  | (_, d) => uptoBulk d + 1
 end
def uptoSmall : (H : Type) → List (DataW H) → Bool := fun _ ds => decide (uptoBulkAll ds ≤ 1048576)
def OpenSpec.upto (s : _root_.Go.ChangeSpec) : _root_.Go.OpenSpec := { _root_.Go.OpenSpec.ofChange s with cond := some uptoSmall }

/-- 'stowagelaw09.TallyCounts', WHERE WHAT IT READS IS OF BULK AT MOST 1048576: true; the input reads as it did. -/
def tallyCountsUptoRow : OpenClaim := { program := "ytelkijiphhoacaadoor", sum := "c975f23888f224bac248756d96951c4f218472c295c25e691014054ff3e94988", func := "stowage/stowagelaw09.TallyCounts", spec := "tallyCounts", inPlace := ["internal/reflectlite.TypeOf"], unfollowed := true, recurses := true, named := ["stowage/journal.errForm", "stowage/journal.errTurned"], apart := false, laid := [("stowage/journal.errForm", laid_stowage_journal_errForm), ("stowage/journal.errTurned", laid_stowage_journal_errTurned)], narrowed := true }
def TallyCountsUptoSaid : Prop := tallyCountsUptoRow.holds Tryd.pinned (OpenSpec.upto tallyCountsSpec)

/-- 'stowagelaw09.TallyTrue', WHERE WHAT IT READS IS OF BULK AT MOST 1048576: true; the input reads as it did. -/
def tallyTrueUptoRow : OpenClaim := { program := "ytelkijiphhoacaadoor", sum := "c975f23888f224bac248756d96951c4f218472c295c25e691014054ff3e94988", func := "stowage/stowagelaw09.TallyTrue", spec := "tallyTrue", inPlace := ["internal/reflectlite.TypeOf"], unfollowed := true, recurses := true, named := ["stowage/journal.errForm", "stowage/journal.errTurned"], apart := false, laid := [("stowage/journal.errForm", laid_stowage_journal_errForm), ("stowage/journal.errTurned", laid_stowage_journal_errTurned)], narrowed := true }
def TallyTrueUptoSaid : Prop := tallyTrueUptoRow.holds Tryd.pinned (OpenSpec.upto tallyTrueSpec)

/-- 'stowagelaw09.TallyKnown', WHERE WHAT IT READS IS OF BULK AT MOST 1048576: true; the input reads as it did. -/
def tallyKnownUptoRow : OpenClaim := { program := "ytelkijiphhoacaadoor", sum := "c975f23888f224bac248756d96951c4f218472c295c25e691014054ff3e94988", func := "stowage/stowagelaw09.TallyKnown", spec := "tallyKnown", inPlace := ["internal/reflectlite.TypeOf"], unfollowed := true, recurses := true, named := ["stowage/journal.errForm", "stowage/journal.errTurned"], apart := false, laid := [("stowage/journal.errForm", laid_stowage_journal_errForm), ("stowage/journal.errTurned", laid_stowage_journal_errTurned)], narrowed := true }
def TallyKnownUptoSaid : Prop := tallyKnownUptoRow.holds Tryd.pinned (OpenSpec.upto tallyKnownSpec)

end Rows
end Go.Proofs.YtelkijiphhoacaaDoor
