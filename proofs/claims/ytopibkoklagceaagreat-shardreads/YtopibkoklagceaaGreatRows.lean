/-
  No cell of these rows narrows 'for every input' (looked for: loops, veiled, ifaces, maps, wideKeys, modest, calm, conditions, laid).
  DERIVED. THE GIVEN ROWS OF THIS SEAT. 2 by the template 'for every input the law returns true; each argument reads behind the call as it read before'; 0 by the template 'total and deterministic' (their statements: YtopibkoklagceaaGreatTotals.lean).
  GIVEN WITH THE SEED: the statements are not yours to turn. If you find one false, say at which input.
  Laid BY PROGRAM, IN A SANDBOX (cutbox-rows.mjs): the forced cells as the released guide's own fill.sh prints them over the translation 2cbb3e5f8f225279… (all of the seat's roots in one cut). By AI agents, Wed Nov 11 2026. No macro, syntax, notation, axiom, sorry.
-/
import Derived.Test.YtopibkoklagceaaGreatChecked
import GoSem.Claim
import GoSem.ClaimJoined
import GoSem.ClaimMapViews
import Derived.JoinedTies
import Derived.KernelRfl
namespace Go.Proofs.YtopibkoklagceaaGreat
/- THE CELL 'sum', in the pinned program and in every row, IS THE sha256 OF THE DUMP (.gsa) THAT YtopibkoklagceaaGreatProg.lean LOADS. Nothing in Lean hashes anything: it is a label: what it is worth is what the hold of that sum in a sandbox is worth. -/
noncomputable def Tryz.pinned : Pinned := { name := "ytopibkoklagceaagreat", sum := "2cbb3e5f8f2252795389c4890da92680cd36292d6ecc2eb49a937f3cb4dcaf8b", checked := Tryz.checked }
namespace Rows
def none {H : Type} : Left H := { results := [], args := [] }

/-- 'stowagelaw11.ShardLays': WHATEVER THE INPUT: true; the input reads as it did. -/
def shardLaysSpec : ChangeSpec := { name := "shardLays", fn := fun _ => fun
  | [d1, d2, d3, d4, d5] => { results := [.lit (.bool true)], args := [d1, d2, d3, d4, d5] }
  | _ => none }
def shardLaysRow : OpenClaim := { program := "ytopibkoklagceaagreat", sum := "2cbb3e5f8f2252795389c4890da92680cd36292d6ecc2eb49a937f3cb4dcaf8b", func := "stowage/stowagelaw11.ShardLays", spec := "shardLays", unfollowed := true, recurses := true, apart := false }
def ShardLaysSaid : Prop := shardLaysRow.holds Tryz.pinned (OpenSpec.ofChange shardLaysSpec)

/-- ITS FALSE NEIGHBOUR: 'it returns false'. Refute it at one input. -/
def shardLaysWrong : ChangeSpec := { name := "shardLays", fn := fun _ => fun
  | [d1, d2, d3, d4, d5] => { results := [.lit (.bool false)], args := [d1, d2, d3, d4, d5] }
  | _ => none }
def ShardLaysWrongFalsely : Prop := shardLaysRow.holds Tryz.pinned (OpenSpec.ofChange shardLaysWrong)

/-- 'stowagelaw11.ShardReads': WHATEVER THE INPUT: true; the input reads as it did. -/
def shardReadsSpec : ChangeSpec := { name := "shardReads", fn := fun _ => fun
  | [d1, d2, d3, d4] => { results := [.lit (.bool true)], args := [d1, d2, d3, d4] }
  | _ => none }
def shardReadsRow : OpenClaim := { program := "ytopibkoklagceaagreat", sum := "2cbb3e5f8f2252795389c4890da92680cd36292d6ecc2eb49a937f3cb4dcaf8b", func := "stowage/stowagelaw11.ShardReads", spec := "shardReads", unfollowed := true, recurses := true, apart := false }
def ShardReadsSaid : Prop := shardReadsRow.holds Tryz.pinned (OpenSpec.ofChange shardReadsSpec)

/-- ITS FALSE NEIGHBOUR: 'it returns false'. Refute it at one input. -/
def shardReadsWrong : ChangeSpec := { name := "shardReads", fn := fun _ => fun
  | [d1, d2, d3, d4] => { results := [.lit (.bool false)], args := [d1, d2, d3, d4] }
  | _ => none }
def ShardReadsWrongFalsely : Prop := shardReadsRow.holds Tryz.pinned (OpenSpec.ofChange shardReadsWrong)

/- THE SECOND FORM. 'bulk': how many values and letters a reading holds, each counted each time it is reached (what is shared counts as often as it is met; a slice's spare places count too). A statement '..UptoSaid' is the law's where the arguments, and the package variables that the reading takes, are together of bulk at most 1048576: NARROWER than '..Said'. Prove '..Said' where nothing that the law and all that it calls make is longer than what came in: it says more and counts as full. Else prove '..UptoSaid'. A law counts once. -/
mutual
def uptoBulk {H : Type} : DataW H → Nat
  | .lit (.string bytes) => bytes.length + 1
  | .lit _ => 1
  | .nil => 1
  | .ptr d => uptoBulk d + 1
  | .slice elems spare => uptoBulkAll elems + uptoBulkAll spare + 1
  | .agg parts => uptoBulkAll parts + 1
  | .iface _ d => uptoBulk d + 1
  | .map entries => uptoBulkEntries entries + 1
  | .held _ => 1
def uptoBulkAll {H : Type} : List (DataW H) → Nat
  | [] => 0
  | d :: r => uptoBulk d + uptoBulkAll r
def uptoBulkEntries {H : Type} : List (Lit × DataW H) → Nat
  | [] => 0
  | x :: r => uptoBulkEntry x + uptoBulkEntries r
def uptoBulkEntry {H : Type} : Lit × DataW H → Nat
  | (.string bytes, d) => bytes.length + uptoBulk d + 1
  | (_, d) => uptoBulk d + 1
 end
def uptoSmall : (H : Type) → List (DataW H) → Bool := fun _ ds => decide (uptoBulkAll ds ≤ 1048576)
def OpenSpec.upto (s : _root_.Go.ChangeSpec) : _root_.Go.OpenSpec := { _root_.Go.OpenSpec.ofChange s with cond := some uptoSmall }

/-- 'stowagelaw11.ShardLays', WHERE WHAT IT READS IS OF BULK AT MOST 1048576: true; the input reads as it did. -/
def shardLaysUptoRow : OpenClaim := { program := "ytopibkoklagceaagreat", sum := "2cbb3e5f8f2252795389c4890da92680cd36292d6ecc2eb49a937f3cb4dcaf8b", func := "stowage/stowagelaw11.ShardLays", spec := "shardLays", unfollowed := true, recurses := true, apart := false, narrowed := true }
def ShardLaysUptoSaid : Prop := shardLaysUptoRow.holds Tryz.pinned (OpenSpec.upto shardLaysSpec)

/-- 'stowagelaw11.ShardReads', WHERE WHAT IT READS IS OF BULK AT MOST 1048576: true; the input reads as it did. -/
def shardReadsUptoRow : OpenClaim := { program := "ytopibkoklagceaagreat", sum := "2cbb3e5f8f2252795389c4890da92680cd36292d6ecc2eb49a937f3cb4dcaf8b", func := "stowage/stowagelaw11.ShardReads", spec := "shardReads", unfollowed := true, recurses := true, apart := false, narrowed := true }
def ShardReadsUptoSaid : Prop := shardReadsUptoRow.holds Tryz.pinned (OpenSpec.upto shardReadsSpec)

end Rows
end Go.Proofs.YtopibkoklagceaaGreat
