/- A region that draws its order, walked once in the text's order, over a class of worlds that bears new blocks: calls that only make new blocks are let in, and what is known of the elder ones stays. -/
import Derived.Test.YtfhjioedelpgiaaDoorQi
import Derived.BigQuiet
import Derived.Deep.Quiet
namespace Go.Proofs.YtfhjioedelpgiaaDoor
open Go Go.RowKit
/-- A world of a class. -/
structure WC (C : World → Prop) where
  w : World
  ok : C w
section
variable {P : Program} {C : World → Prop}
theorem wp_region_class {id : Nat} {Q : Exit → Act → World → Prop} {a : Act} {w : World} {l : List Oper} (hm : P.follows .mixedOrders = true) (hB : Region.lexB .any l.toArray = true) (hC : C w.drew)
    (h : wpQuiet P l.toArray (fun w' => ∃ t : WC C, w' = t.w) (fun a' => ∀ w', (∃ t : WC C, w' = t.w) → Q .normal a' w') l a) : (Code.region id l.toArray true).wp P Q a w :=
  wp_region_quiet (C := fun w' => ∃ t : WC C, w' = t.w) hm hB ⟨⟨w.drew, hC⟩, rfl⟩ (by simpa using h)
theorem quiet_load_class {o : Oper} {a : Act} {K : Act → Prop} (ty : TypeId) (x : Operand) (ho : o.op = .load ty x) (g : Nat) (hx : a.eval x = .pointer (some ⟨g, 0, none⟩)) (t : TypeId) (cs : Array Value) (d : TypeDesc)
    (hg : ∀ w, C w → w.heap[g]? = some (.cells cs t (0, 0))) (hu : P.underlying ty = some d) (hd : (match d with | .struct _ | .array _ _ => true | _ => false) = true) (hi : (P.info? ty).map (·.size) = some cs.size)
    (h : K (a.put o.dst (.agg cs))) : o.quiet P a (fun w' => ∃ t : WC C, w' = t.w) K := by
  refine ⟨.agg cs, ?_, h⟩
  rintro w ⟨t', rfl⟩
  have hg' := hg _ t'.ok
  unfold Oper.quietAt execOp
  simp only [ho, hx, Instr.loadAt, Instr.sureAddr, Sem.run_bind, Sem.run_pure, Result.andThen_ok, run_loadVar_row t'.w g t ty cs (0, 0) d hg' hu hd hi]
  exact ⟨rfl, rfl⟩
end
end Go.Proofs.YtfhjioedelpgiaaDoor
