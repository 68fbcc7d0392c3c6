/-
  NARROWER THAN 'FOR EVERY INPUT', by the rows' own cells (each row's printed sentence says how): ShardAny: laid.
  DERIVED. THE GIVEN ROWS OF THIS SEAT. 1 by the template 'for every input the law returns true; each argument reads behind the call as it read before'; 0 by the template 'total and deterministic' (their statements: YtdohmokhfajjpaaGreatDoorTotals.lean).
  GIVEN WITH THE SEED: the statements are not yours to turn. If you find one false, say at which input.
  Laid BY PROGRAM, IN A SANDBOX (cutbox-rows.mjs): the forced cells as the released guide's own fill.sh prints them over the translation 5ab1d10bdc5b9bac… (all of the seat's roots in one cut). By AI agents, Wed Nov 11 2026. No macro, syntax, notation, axiom, sorry.
-/
import Derived.Test.YtdohmokhfajjpaaGreatDoorChecked
import GoSem.Claim
import GoSem.ClaimJoined
import GoSem.ClaimMapViews
import Derived.JoinedTies
import Derived.KernelRfl
namespace Go.Proofs.YtdohmokhfajjpaaGreatDoor
/- THE CELL 'sum', in the pinned program and in every row, IS THE sha256 OF THE DUMP (.gsa) THAT YtdohmokhfajjpaaGreatDoorProg.lean LOADS. Nothing in Lean hashes anything: it is a label: what it is worth is what the hold of that sum in a sandbox is worth. -/
noncomputable def Tryz.pinned : Pinned := { name := "ytdohmokhfajjpaagreatdoor", sum := "5ab1d10bdc5b9bacc45b3b468f5c9fd8563ad2736050958ca2a156a773d5bac6", checked := Tryz.checked }
namespace Rows
def none {H : Type} : Left H := { results := [], args := [] }

/- WHAT THE LISTED PACKAGE-LEVEL VARIABLES READ AS WHEN THE CALL BEGINS. Each datum BY PROGRAM (the guide's laid-datum.mjs) off the statement by which the dump's own 'gosem.cut.vars' lays the variable. In a bare row this is a premise. The card (YtdohmokhfajjpaaGreatDoorCards.lean) ties it to the program's text. -/
def laid_stowage_journal_errForm {H : Type} : DataW H := .iface "*errors.errorString" (.ptr (.agg [.lit (.string [110, 111, 116, 32, 97, 115, 32, 97, 32, 106, 111, 117, 114, 110, 97, 108, 32, 105, 115, 32, 119, 114, 105, 116, 116, 101, 110])]))
def laid_stowage_journal_errTurned {H : Type} : DataW H := .iface "*errors.errorString" (.ptr (.agg [.lit (.string [110, 111, 116, 32, 119, 104, 97, 116, 32, 116, 104, 101, 32, 100, 105, 103, 101, 115, 116, 32, 119, 97, 115, 32, 109, 97, 100, 101, 32, 111, 102])]))

/-- 'stowagelaw11.ShardAny': WHATEVER THE INPUT: true; the input reads as it did. -/
def shardAnySpec : ChangeSpec := { name := "shardAny", fn := fun _ => fun
  | [d1, d2, d3, d4, d5, d6] => { results := [.lit (.bool true)], args := [d1, d2, d3, d4, d5, d6] }
  | _ => none }
def shardAnyRow : OpenClaim := { program := "ytdohmokhfajjpaagreatdoor", sum := "5ab1d10bdc5b9bacc45b3b468f5c9fd8563ad2736050958ca2a156a773d5bac6", func := "stowage/stowagelaw11.ShardAny", spec := "shardAny", inPlace := ["internal/reflectlite.TypeOf"], unfollowed := true, recurses := true, named := ["stowage/journal.errForm", "stowage/journal.errTurned"], apart := false, laid := [("stowage/journal.errForm", laid_stowage_journal_errForm), ("stowage/journal.errTurned", laid_stowage_journal_errTurned)] }
def ShardAnySaid : Prop := shardAnyRow.holds Tryz.pinned (OpenSpec.ofChange shardAnySpec)

/-- ITS FALSE NEIGHBOUR: 'it returns false'. Refute it at one input. -/
def shardAnyWrong : ChangeSpec := { name := "shardAny", fn := fun _ => fun
  | [d1, d2, d3, d4, d5, d6] => { results := [.lit (.bool false)], args := [d1, d2, d3, d4, d5, d6] }
  | _ => none }
def ShardAnyWrongFalsely : Prop := shardAnyRow.holds Tryz.pinned (OpenSpec.ofChange shardAnyWrong)

/- THE SECOND FORM. 'bulk': how many values and letters a reading holds, each counted each time it is reached (what is shared counts as often as it is met; a slice's spare places count too). A statement '..UptoSaid' is the law's where the arguments, and the package variables that the reading takes, are together of bulk at most 1048576: NARROWER than '..Said'. Prove '..Said' where nothing that the law and all that it calls make is longer than what came in: it says more and counts as full. Else prove '..UptoSaid'. A law counts once. -/
mutual
def uptoBulk {H : Type} : DataW H → Nat
  | .lit (.string bytes) => bytes.length + 1
  | .lit _ => 1
  | .nil => 1
  | .ptr d => uptoBulk d + 1
  | .slice elems spare => uptoBulkAll elems + uptoBulkAll spare + 1
  | .agg parts => uptoBulkAll parts + 1
  | .iface _ d => uptoBulk d + 1
  | .map entries => uptoBulkEntries entries + 1
  | .held _ => 1
def uptoBulkAll {H : Type} : List (DataW H) → Nat
  | [] => 0
  | d :: r => uptoBulk d + uptoBulkAll r
def uptoBulkEntries {H : Type} : List (Lit × DataW H) → Nat
  | [] => 0
  | x :: r => uptoBulkEntry x + uptoBulkEntries r
def uptoBulkEntry {H : Type} : Lit × DataW H → Nat
  | (.string bytes, d) => bytes.length + uptoBulk d + 1
  | (_, d) => uptoBulk d + 1
 end
def uptoSmall : (H : Type) → List (DataW H) → Bool := fun _ ds => decide (uptoBulkAll ds ≤ 1048576)
def OpenSpec.upto (s : _root_.Go.ChangeSpec) : _root_.Go.OpenSpec := { _root_.Go.OpenSpec.ofChange s with cond := some uptoSmall }

/-- 'stowagelaw11.ShardAny', WHERE WHAT IT READS IS OF BULK AT MOST 1048576: true; the input reads as it did. -/
def shardAnyUptoRow : OpenClaim := { program := "ytdohmokhfajjpaagreatdoor", sum := "5ab1d10bdc5b9bacc45b3b468f5c9fd8563ad2736050958ca2a156a773d5bac6", func := "stowage/stowagelaw11.ShardAny", spec := "shardAny", inPlace := ["internal/reflectlite.TypeOf"], unfollowed := true, recurses := true, named := ["stowage/journal.errForm", "stowage/journal.errTurned"], apart := false, laid := [("stowage/journal.errForm", laid_stowage_journal_errForm), ("stowage/journal.errTurned", laid_stowage_journal_errTurned)], narrowed := true }
def ShardAnyUptoSaid : Prop := shardAnyUptoRow.holds Tryz.pinned (OpenSpec.upto shardAnySpec)

end Rows
end Go.Proofs.YtdohmokhfajjpaaGreatDoor
