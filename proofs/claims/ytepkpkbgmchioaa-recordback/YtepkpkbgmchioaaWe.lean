/- Contract of record of the reader of package record. -/
import Derived.Test.YtepkpkbgmchioaaWd
import Derived.Test.YtepkpkbgmchioaaVy
import Derived.Laws.Tables
import Derived.Laws.Rows
namespace Go.Proofs.Ytepkpkbgmchioaa
open Go Go.RowKit

def zR : Rv := ⟨⟨#[]⟩, 0, false, 0, ⟨#[]⟩, 0, 0, ⟨#[]⟩, zeroD, .slice none 0 0, ⟨#[]⟩⟩
theorem zR_ok : zR.ok := ⟨rfl, by simp [zR, zeroD], by simp [zR, ByteArray.size], by simp [zR, ByteArray.size], by simp [zR, ByteArray.size], by simp [zR, ByteArray.size]⟩
theorem zeroR : (Try.prog.info? 45).map (·.zero) = some (some (.agg zR.cs)) := by kernel_rfl
theorem built_head (id : ByteArray) (time : Int) : Try.prog.built 45 [(0, .string id), (1, i64 time)] = some ({ zR with id := id, time := time } : Rv).cs := by kernel_rfl
theorem headR_ok {t : ByteArray} {v : Int} (h : t.size ≤ 65536) : ({ zR with id := t, time := v } : Rv).ok := ⟨zR_ok.sl, zR_ok.s8, by show t.size ≤ _; omega, zR_ok.e, zR_ok.d, zR_ok.u⟩
theorem Rv.one {r : Rv} (h : r.pv.oneCell' = true) : r.cs.all (·.oneCell') = true := by
  rw [Array.all_eq_true_iff_forall_mem]
  intro v hv
  rw [← Array.mem_toList_iff, Rv.toL] at hv
  simp only [List.mem_append, List.mem_cons, List.not_mem_nil, or_false, List.mem_map] at hv
  rcases hv with (rfl | rfl | rfl | rfl | rfl | rfl | rfl | rfl) | ⟨_, _, rfl⟩ | rfl | rfl <;> first | rfl | exact h
theorem only_setRow {S : Nat → Prop} (w : World) (g : Nat) (cs : Array Value) (h : S g) : Only S w (w.setRow g cs) := ⟨rfl, rfl, rfl, by simp, fun k _ hk => setRow_other w g k cs fun e => hk (e ▸ h)⟩
theorem run_storeR {w : World} {g : Nat} {r0 r : Rv} (h0 : r0.ok) (hr : r.ok) (hpv : r.pv.oneCell' = true) (hb : RBox w g r0) : (Instr.storeAt 45 (.pointer (some ⟨g, 0, none⟩)) (.agg r.cs)).run Try.prog w = .ok () (w.setRow g r.cs) ∧ RBox (w.setRow g r.cs) g r := by
  have e := run_storeVar_row (P := Try.prog) w g 45 45 r0.cs r.cs hb.at_ (by rw [hr.size]; exact sizeR) (by rw [h0.size, hr.size]) (Rv.one hpv)
  refine ⟨?_, RBox.mk' hr (setRow_heap w g r0.cs r.cs _ _ hb.at_)⟩
  simp only [Instr.storeAt, Instr.sureAddr, Sem.run_bind, Sem.run_pure, Result.andThen_ok, e]
theorem wpList_allocR {ops : Array Oper} {rest : List Oper} {o : Oper} {a : Act} {w : World} {Q : Exit → Act → World → Prop} (hg : o.guard = none) (ho : o.op = .alloc 45)
    (h : ∀ w1 g, RBox w1 g zR → Below w.heap.size w w1 → w.heap.size = g → wpList Try.prog ops Q rest (a.put o.dst (ptr g)) w1) : wpList Try.prog ops Q (o :: rest) a w := by
  refine wpList_plain hg fun _ hK => ?_
  obtain ⟨i, hq, hz'⟩ := Option.map_eq_some_iff.1 zeroR
  unfold Oper.wp execOp
  simp only [ho, Instr.alloc, zeroValue, typeInfo, Sem.run_bind, newVar, newRow]
  simp [hq, hz', Value.cells]
  exact hK _ _ (h _ _ (RBox.mk' zR_ok (CAt.made _ _ _)) (below_al _ _) rfl)
theorem wpList_storeR {ops : Array Oper} {rest : List Oper} {o : Oper} {a : Act} {w : World} {Q : Exit → Act → World → Prop} (hg : o.guard = none) (hdst : o.dst = none) (x y : Operand) (ho : o.op = .store 45 x y) (g : Nat) (hx : a.eval x = ptr g) {r0 r : Rv} (hy : a.eval y = .agg r.cs) (h0 : r0.ok) (hr : r.ok) (hpv : r.pv.oneCell' = true) (hb : RBox w g r0)
    (h : ∀ w1, RBox w1 g r → Only (fun b => b = g) w w1 → wpList Try.prog ops Q rest a w1) : wpList Try.prog ops Q (o :: rest) a w := by
  refine wpList_plain hg fun _ hK => ?_
  obtain ⟨e1, e2⟩ := run_storeR h0 hr hpv hb
  unfold Oper.wp execOp
  simp only [ho, hx, hy, ptr, Sem.run_bind, e1, Result.andThen_ok, Sem.run_pure]
  refine hK (a.put o.dst undef) _ ?_
  rw [hdst]
  exact h _ e2 (only_setRow _ _ _ rfl)
/-- The reader's block, the block of the result and that of the record. -/
structure RR (w : World) (p g2 g : Nat) (r : Rv) (s : Option (List Nat)) (W : World) : Prop where
  ok : r.ok
  zb : RBox W g2 zR
  rb : RBox W g r
  rd : Rd W p s
  only : Only (fun b => b = p) w W
  h1 : p < w.heap.size
  h2 : w.heap.size ≤ g2
  h3 : g2 < g
section
variable {w W W' : World} {p g2 g : Nat} {r r' : Rv} {s s' : Option (List Nat)} (h : RR w p g2 g r s W)
include h
theorem RR.below (hb : Below W.heap.size W W') : RR w p g2 g r s W' := ⟨h.ok, h.zb.below zR_ok hb, h.rb.below h.ok hb, h.rd.below hb, h.only.trans (Only.of_below hb), h.h1, h.h2, h.h3⟩
theorem RR.pp (hr : Rd W' p s') (ho : Only (fun b => b = p) W W') : RR w p g2 g r s' W' :=
  ⟨h.ok, h.zb.only zR_ok ho (by have := h.h1; have := h.h2; omega), h.rb.only h.ok ho (by have := h.h1; have := h.h2; have := h.h3; omega), hr, h.only.trans ho, h.h1, h.h2, h.h3⟩
theorem RR.v2 : V2 W p g r s W := ⟨h.ok, by have := h.h1; have := h.h2; have := h.h3; omega, h.rb, h.rd, Only.refl _ _⟩
theorem RR.ver (k : V2 W p g r' s' W') : RR w p g2 g r' s' W' :=
  ⟨k.ok, h.zb.only zR_ok k.only (by have := h.h1; have := h.h2; have := h.h3; omega), k.rb, k.rd, h.only.then k.only (fun i hi e => by have := h.h1; have := h.h2; have := h.h3; omega), h.h1, h.h2, h.h3⟩
theorem RR.set2 (b : Bool) : RR w p g2 g { r with mark := b } s (W.setCell ⟨g, 2, none⟩ (.bool b)) := by
  have ho : Only (fun b => b = g) W (W.setCell ⟨g, 2, none⟩ (.bool b)) := Only.set W _ _ rfl
  exact ⟨⟨h.ok.sl, h.ok.s8, h.ok.i, h.ok.e, h.ok.d, h.ok.u⟩, h.zb.only zR_ok ho (by have := h.h3; omega), h.rb.set2 h.ok b, h.rd.only ho (fun i e => by have := h.h1; have := h.h2; have := h.h3; omega), h.only.then ho (fun i hi e => by have := h.h1; have := h.h2; have := h.h3; omega), h.h1, h.h2, h.h3⟩
end
theorem RR.mk1 {w w1 w2 w3 w4 : World} {p g2 g : Nat} {r : Rv} {s : Option (List Nat)} (hp : p < w.heap.size) (hz : RBox w1 g2 zR) (hb : Below w.heap.size w w1) (hg : w.heap.size = g2) (hr : Rd w2 p s) (ho : Only (fun b => b = p) w1 w2)
    (hb3 : Below w2.heap.size w2 w3) (hg3 : w2.heap.size = g) (h4 : RBox w4 g r) (hk : r.ok) (ho4 : Only (fun b => b = g) w3 w4) : RR w p g2 g r s w4 := by
  have l1 := hz.at_.lt
  have l2 := ho.size
  have z2 := hz.only zR_ok ho (by omega)
  have z3 := z2.below zR_ok hb3
  have r3 := hr.below hb3
  exact ⟨hk, z3.only zR_ok ho4 (by omega), h4, r3.only ho4 (fun i e => by omega), ((((Only.of_below hb).trans ho).trans (Only.of_below hb3)).then ho4 fun i hi e => by have := hb.size; omega), hp, by omega, by omega⟩
theorem rdAny_eq (s : Option (List Nat)) : s.bind rdAny = (s.bind rdT).bind fun q => ((stT s).bind rdU).bind fun q2 => (st1 (stT s)).bind fun b => match b with
  | [] => none
  | c :: b => if 1 < c then none else if c = 1 then some (⟨q.1, q2.1, true, 0, [], 0, 0, [], zeroD, [], []⟩, b) else rdD q.1 q2.1 b := by
  cases s with
  | none => rfl
  | some L =>
  simp only [Option.bind_some, stT, st1]
  unfold rdAny
  cases h1 : rdT L with
  | none => rfl
  | some q =>
  obtain ⟨id, L1⟩ := q
  simp only [Option.bind_eq_bind, Option.bind_some, Option.map_some]
  cases h2 : rdU L1 with
  | none => rfl
  | some q2 => obtain ⟨t, L2⟩ := q2; rfl
theorem rdR_eq (s : Option (List Nat)) : s.bind rdR = (s.bind rdAny).bind fun q => if okRc q.1 then some q else none := by
  cases s with
  | none => rfl
  | some L => simp only [Option.bind_some]; unfold rdR; cases rdAny L <;> rfl
def RecS (w : World) (p : Nat) (s : Option (List Nat)) (e : Ending) (w' : World) : Prop :=
  ∃ (r : Rv) (ps : Ps), e = .returned (.agg r.cs) ∧ r.ok ∧ PLF w.heap.size w' r.pv ps ∧ Rd w' p ((s.bind rdR).map (·.2)) ∧ Only (fun b => b = p) w w' ∧ ∀ rc c, s.bind rdR = some (rc, c) → r.rc ps = rc
theorem ret_rowR {fn : Func} {q : Tmp} (h : fn.results = #[.cell q 45]) {R : Ending → World → Prop} {a : Act} {w : World} (g : Nat) {r : Rv}
    (hd0 : a.defers = []) (hp : a.tmps.getD q undef = .pointer (some ⟨g, 0, none⟩)) (hb : RBox w g r) (hr : r.ok) (hR : R (.returned (.agg r.cs)) w) : bodyPost Try.prog fn R .ret a w :=
  ⟨hd0, _, results_cell_row h _ _ g 45 r.cs (0, 0) _ hp hb.at_ underRec rfl (by rw [hr.size]; exact sizeR), hR⟩
#print axioms ret_rowR
end Go.Proofs.Ytepkpkbgmchioaa
