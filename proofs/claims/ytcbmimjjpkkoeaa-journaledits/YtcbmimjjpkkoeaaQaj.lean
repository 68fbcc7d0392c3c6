/- Texts laid into one: the remark ahead of each part says what is proved there. -/
import Derived.Test.YtcbmimjjpkkoeaaQai
import Derived.Great.BuildSlice
import Derived.Test.YtcbmimjjpkkoeaaQah
import Derived.Test.YtcbmimjjpkkoeaaQaf
/- journal.Find, Newest, Copy. -/
namespace Go.Proofs.Ytcbmimjjpkkoeaa
open Go Go.RowKit

theorem sizeJ : (Try.prog.info? 24).map (·.size) = some 2 := by kernel_rfl
theorem underJrn : Try.prog.underlying 24 = some (.struct (Try.prog.fieldsOf 24)) := by kernel_rfl
theorem zeroJ : (Try.prog.info? 24).map (·.zero) = some (some (.agg (jC 0 (.slice none 0 0)))) := by kernel_rfl
theorem builtZR : Try.prog.built 29 [] = some zR.cs := by kernel_rfl
theorem jC_size (s : Int) (v : Value) : (jC s v).size = 2 := rfl
theorem wpList_allocJ {ops : Array Oper} {rest : List Oper} {o : Oper} {a : Act} {w : World} {Q : Exit → Act → World → Prop} (hg : o.guard = none) (ho : o.op = .alloc 24)
    (h : ∀ w1 g, CAt w1 g (jC 0 (.slice none 0 0)) 24 → Below w.heap.size w w1 → w.heap.size = g → wpList Try.prog ops Q rest (a.put o.dst (ptr g)) w1) : wpList Try.prog ops Q (o :: rest) a w := by
  refine wpList_plain hg fun _ hK => ?_
  obtain ⟨i, hq, hz'⟩ := Option.map_eq_some_iff.1 zeroJ
  unfold Oper.wp execOp
  simp only [ho, Instr.alloc, zeroValue, typeInfo, Sem.run_bind, newVar, newRow]
  simp [hq, hz', Value.cells]
  exact hK _ _ (h _ _ (CAt.made _ _ _) (below_al _ _) rfl)
theorem run_storeJ {w : World} {g : Nat} {s0 s : Int} {v0 v : Value} (hv : v.oneCell' = true) (hb : CAt w g (jC s0 v0) 24) : (Instr.storeAt 24 (.pointer (some ⟨g, 0, none⟩)) (.agg (jC s v))).run Try.prog w = .ok () (w.setRow g (jC s v)) ∧ CAt (w.setRow g (jC s v)) g (jC s v) 24 := by
  have e := run_storeVar_row (P := Try.prog) w g 24 24 (jC s0 v0) (jC s v) hb (by rw [jC_size]; exact sizeJ) rfl (by simp [jC, hv, show (i64 s).oneCell' = true from rfl])
  refine ⟨?_, setRow_heap w g (jC s0 v0) (jC s v) _ _ hb⟩
  simp only [Instr.storeAt, Instr.sureAddr, Sem.run_bind, Sem.run_pure, Result.andThen_ok, e]
theorem wpList_storeJ {ops : Array Oper} {rest : List Oper} {o : Oper} {a : Act} {w : World} {Q : Exit → Act → World → Prop} (hg : o.guard = none) (hdst : o.dst = none) (x y : Operand) (ho : o.op = .store 24 x y) (g : Nat) (hx : a.eval x = ptr g) {s0 s : Int} {v0 v : Value} (hy : a.eval y = .agg (jC s v)) (hv : v.oneCell' = true) (hb : CAt w g (jC s0 v0) 24)
    (h : ∀ w1, CAt w1 g (jC s v) 24 → Only (fun b => b = g) w w1 → wpList Try.prog ops Q rest a w1) : wpList Try.prog ops Q (o :: rest) a w := by
  refine wpList_plain hg fun _ hK => ?_
  obtain ⟨e1, e2⟩ := run_storeJ (s := s) hv hb
  unfold Oper.wp execOp
  simp only [ho, hx, hy, ptr, Sem.run_bind, e1, Result.andThen_ok, Sem.run_pure]
  refine hK (a.put o.dst undef) _ ?_
  rw [hdst]
  exact h _ e2 (only_setRow _ _ _ rfl)
theorem ret_rowJ2 {fn : Func} {q u : Tmp} (h : fn.results = #[.cell q 24, .tmp u]) {R : Ending → World → Prop} {a : Act} {w : World} (g : Nat) {s : Int} {v x : Value}
    (hd0 : a.defers = []) (hp : a.tmps.getD q undef = .pointer (some ⟨g, 0, none⟩)) (hx : a.tmps.getD u undef = x) (hb : CAt w g (jC s v) 24) (hR : R (.returned (.tuple #[.agg (jC s v), x])) w) : bodyPost Try.prog fn R .ret a w := by
  refine ⟨hd0, .tuple #[.agg (jC s v), x], ?_, hR⟩
  have hl := run_loadVar_row (P := Try.prog) w g 24 24 (jC s v) (0, 0) _ hb underJrn rfl (by rw [jC_size]; exact sizeJ)
  simp only [results, h]
  simp only [Array.getD_eq_getD_getElem?] at hp hx
  simp [Result.andThen, hp, hx, asAddr, hl]
theorem ret_rowJ1 {fn : Func} {q : Tmp} (h : fn.results = #[.cell q 24]) {R : Ending → World → Prop} {a : Act} {w : World} (g : Nat) {s : Int} {v : Value}
    (hd0 : a.defers = []) (hp : a.tmps.getD q undef = .pointer (some ⟨g, 0, none⟩)) (hb : CAt w g (jC s v) 24) (hR : R (.returned (.agg (jC s v))) w) : bodyPost Try.prog fn R .ret a w :=
  ⟨hd0, _, results_cell_row h _ _ g 24 (jC s v) (0, 0) _ hp hb underJrn rfl (by rw [jC_size]; exact sizeJ), hR⟩
theorem ret_rowR2 {fn : Func} {q u : Tmp} (h : fn.results = #[.cell q 29, .tmp u]) {R : Ending → World → Prop} {a : Act} {w : World} (g : Nat) {r : Rv} {x : Value}
    (hd0 : a.defers = []) (hp : a.tmps.getD q undef = .pointer (some ⟨g, 0, none⟩)) (hx : a.tmps.getD u undef = x) (hb : RBox w g r) (hr : r.ok) (hR : R (.returned (.tuple #[.agg r.cs, x])) w) : bodyPost Try.prog fn R .ret a w := by
  refine ⟨hd0, .tuple #[.agg r.cs, x], ?_, hR⟩
  have hl := run_loadVar_row (P := Try.prog) w g 29 29 r.cs (0, 0) _ hb.at_ underRec rfl (by rw [hr.size]; exact sizeR)
  simp only [results, h]
  simp only [Array.getD_eq_getD_getElem?] at hp hx
  simp [Result.andThen, hp, hx, asAddr, hl]
theorem CAt.wholeJ {w : World} {g : Nat} {s : Int} {v : Value} (h : CAt w g (jC s v) 24) : ∀ j u, (jC s v)[j]? = some u → w.cell? ⟨g, 0 + j, none⟩ = some u := fun j u hu => by rw [Nat.zero_add, h.cell, hu]
/-- The parameter's block and the result's. -/
structure F2 (w : World) (g1 g2 : Nat) (s : Int) (v : Value) (W : World) : Prop where
  below : Below w.heap.size w W
  cj : CAt W g1 (jC s v) 24
  cr : RBox W g2 zR
theorem F2.on {w W W' : World} {g1 g2 : Nat} {s : Int} {v : Value} (h : F2 w g1 g2 s v W) (hb : Below W.heap.size W W') : F2 w g1 g2 s v W' := ⟨below_on h.below hb, h.cj.below hb, h.cr.below zR_ok hb⟩
def RecE (w : World) (rc : Rc) (rest : Array Value) (e : Ending) (w' : World) : Prop := ∃ y : Rp, e = .returned (.tuple (#[.agg y.r.cs] ++ rest)) ∧ y.rc = rc ∧ RpX w.heap.size w' y ∧ Below w.heap.size w w'
set_option maxRecDepth 100000 in
set_option maxHeartbeats 1000000 in
theorem find_bad (s : Int) (v : Value) (l : List Rp) (id : ByteArray) (w : World) (hl : RL w v l) (h : okJ ⟨s, rcs l⟩ = false) : Calls Try.prog 13 #[.agg (jC s v), .string id] w fun e w' => e = .returned (.tuple #[.agg zR.cs, i64 0, i64 2]) ∧ Below w.heap.size w w' := by
  have HL := hid hl
  obtain ⟨po, c, rfl, _⟩ := hl
  have hck := fun W (hW : Below w.heap.size w W) => jcheck_any s _ l W (HL.out.below hW)
  rw [h] at hck
  simp only [Bool.false_eq_true, if_false] at hck
  have HCK := hid hck
  obtain ⟨Z, hZ⟩ : ∃ Z, zR = Z := ⟨_, rfl⟩
  have HZ := hid hZ
  clear hck h hZ
  go_enter Try.func13, Try.ntmps13
  go_wp2_with (first
    | ((with_reducible refine wpList_boxT 24 rfl _ rfl (jC s (.slice po l.length c)) ?_ ?_); exact rfl; intro w1 g1 hc1 hb1 hg1; have HC1 := hid hc1; have HB1 := hid hb1; clear hb1 hc1)
    | ((with_reducible refine wpList_allocR rfl rfl ?_); intro w2 g2 hz2 hb2 hg2; have HF : Hid (F2 w g1 g2 s (.slice po l.length c) w2) := hid ⟨below_on HB1.out hb2, HC1.out.below hb2, hz2⟩; have HG := hid (show w.heap.size ≤ g2 by have := HB1.out.size; omega); clear hz2 hb2 hg2)
    | ((with_reducible refine wpList_load_at 24 _ rfl ?_ g1 0 ?_ (jC s (.slice po l.length c)) (.struct (Try.prog.fieldsOf 24)) ?_ underJrn rfl ?_ ?_); exact rfl; exact rfl; exact HF.out.cj.wholeJ; exact sizeJ)
    | (go_at_call 19; refine (HCK.out _ HF.out.below).mono ?_; rintro e w3 ⟨rfl, hb3⟩; replace HF := hid (HF.out.on hb3); clear hb3)
    | ((with_reducible refine wpList_build_want 29 _ rfl ?_ Z.cs ?_ ?_); exact rfl; (rw [← HZ.out]; exact builtZR))
    | ((with_reducible refine wpList_storeR rfl rfl _ _ rfl g2 ?_ (r := Z) ?_ zR_ok ?_ ?_ HF.out.cr ?_); exact rfl; exact rfl; (rw [← HZ.out]; exact zR_ok); (rw [← HZ.out]; rfl); intro w5 h5 o5; have H5 := hid h5; have O5 := hid o5; clear h5 o5))
  refine ret_row3 rfl g2 rfl rfl rfl rfl H5.out (by rw [← HZ.out]; exact zR_ok) ⟨by rw [← HZ.out]; rfl, ?_⟩
  exact below_tr HF.out.below (O5.out.below HF.out.below.size (fun i e => by have := HG.out; omega))
set_option maxRecDepth 100000 in
set_option maxHeartbeats 1000000 in
theorem find_miss (s : Int) (v : Value) (l : List Rp) (id : ByteArray) (w : World) (hl : RL w v l) (h : okJ ⟨s, rcs l⟩ = true) (ha : atI (rcs l) (lst id) = none) : Calls Try.prog 13 #[.agg (jC s v), .string id] w fun e w' => e = .returned (.tuple #[.agg zR.cs, i64 0, i64 6]) ∧ Below w.heap.size w w' := by
  have HL := hid hl
  obtain ⟨po, c, rfl, _⟩ := hl
  have hck := fun W (hW : Below w.heap.size w W) => jcheck_any s _ l W (HL.out.below hW)
  rw [h] at hck
  simp only [if_true] at hck
  have HCK := hid hck
  have hpl := fun W (hW : Below w.heap.size w W) => place_any _ l id W (HL.out.below hW)
  rw [ha] at hpl
  have HPL : Hid (∀ W, Below w.heap.size w W → Calls Try.prog 28 #[.slice po l.length c, .string id] W fun e w' => e = .returned (i64 (-1)) ∧ Below W.heap.size W w') := hid hpl
  clear hck h hpl ha
  obtain ⟨Z, hZ⟩ : ∃ Z, zR = Z := ⟨_, rfl⟩
  have HZ := hid hZ
  clear hZ
  go_enter Try.func13, Try.ntmps13
  go_wp2_with (first
    | ((with_reducible refine wpList_boxT 24 rfl _ rfl (jC s (.slice po l.length c)) ?_ ?_); exact rfl; intro w1 g1 hc1 hb1 hg1; have HC1 := hid hc1; have HB1 := hid hb1; clear hb1 hc1)
    | ((with_reducible refine wpList_allocR rfl rfl ?_); intro w2 g2 hz2 hb2 hg2; have HF : Hid (F2 w g1 g2 s (.slice po l.length c) w2) := hid ⟨below_on HB1.out hb2, HC1.out.below hb2, hz2⟩; have HG := hid (show w.heap.size ≤ g2 by have := HB1.out.size; omega); clear hz2 hb2 hg2)
    | ((with_reducible refine wpList_load_at 24 _ rfl ?_ g1 0 ?_ (jC s (.slice po l.length c)) (.struct (Try.prog.fieldsOf 24)) ?_ underJrn rfl ?_ ?_); exact rfl; exact rfl; exact HF.out.cj.wholeJ; exact sizeJ)
    | (go_at_call 19; refine (HCK.out _ HF.out.below).mono ?_; rintro e w3 ⟨rfl, hb3⟩; replace HF := hid (HF.out.on hb3); have c1 := HF.out.cj.j1; clear hb3)
    | (go_at_call 28; refine (HPL.out _ HF.out.below).mono ?_; rintro e w4 ⟨rfl, hb4⟩; replace HF := hid (HF.out.on hb4); clear c1; have c1 := HF.out.cj.j1; clear hb4)
    | ((with_reducible refine wpList_build_want 29 _ rfl ?_ Z.cs ?_ ?_); exact rfl; (rw [← HZ.out]; exact builtZR))
    | ((with_reducible refine wpList_storeR rfl rfl _ _ rfl g2 ?_ (r := Z) ?_ zR_ok ?_ ?_ HF.out.cr ?_); exact rfl; exact rfl; (rw [← HZ.out]; exact zR_ok); (rw [← HZ.out]; rfl); intro w5 h5 o5; have H5 := hid h5; have O5 := hid o5; clear h5 o5))
  refine ret_row3 rfl g2 rfl rfl rfl rfl H5.out (by rw [← HZ.out]; exact zR_ok) ⟨by rw [← HZ.out]; rfl, ?_⟩
  exact below_tr HF.out.below (O5.out.below HF.out.below.size (fun i e => by have := HG.out; omega))
set_option maxRecDepth 100000 in
set_option maxHeartbeats 1000000 in
theorem find_ok (s : Int) (v : Value) (l : List Rp) (id : ByteArray) (w : World) (hl : RL w v l) (h : okJ ⟨s, rcs l⟩ = true) (i : Nat) (ha : atI (rcs l) (lst id) = some i) (x : Rp) (hx : l[i]? = some x) : Calls Try.prog 13 #[.agg (jC s v), .string id] w (RecE w x.rc #[i64 i, i64 0]) := by
  have HL := hid hl
  obtain ⟨po, c, rfl, _⟩ := hl
  have hck := fun W (hW : Below w.heap.size w W) => jcheck_any s _ l W (HL.out.below hW)
  rw [h] at hck
  simp only [if_true] at hck
  have HCK := hid hck
  have hpl := fun W (hW : Below w.heap.size w W) => place_any _ l id W (HL.out.below hW)
  rw [ha] at hpl
  have HPL : Hid (∀ W, Below w.heap.size w W → Calls Try.prog 28 #[.slice po l.length c, .string id] W fun e w' => e = .returned (i64 (i : Int)) ∧ Below W.heap.size W w') := hid hpl
  have hil := (List.getElem?_eq_some_iff.1 hx).1
  have hil' : (i : Int) < (l.length : Int) := by omega
  obtain ⟨b, o, x', e1, hx', hrx, hkx, hox⟩ := HL.out.at (Below.refl w.heap.size w) hil
  rw [hx] at hx'
  cases hx'
  subst e1
  have hok := hkx.ok
  have HR := hid hrx
  have HXO := hid hkx
  clear hck h hpl ha hrx hkx hx
  go_enter Try.func13, Try.ntmps13
  go_wp2_with (first
    | ((with_reducible refine wpList_boxT 24 rfl _ rfl (jC s (.slice (some ⟨b, o, none⟩) l.length c)) ?_ ?_); exact rfl; intro w1 g1 hc1 hb1 hg1; have HC1 := hid hc1; have HB1 := hid hb1; clear hb1 hc1)
    | ((with_reducible refine wpList_allocR rfl rfl ?_); intro w2 g2 hz2 hb2 hg2; have HF : Hid (F2 w g1 g2 s (.slice (some ⟨b, o, none⟩) l.length c) w2) := hid ⟨below_on HB1.out hb2, HC1.out.below hb2, hz2⟩; have HG := hid (show w.heap.size ≤ g2 by have := HB1.out.size; omega); clear hz2 hb2 hg2)
    | ((with_reducible refine wpList_load_at 24 _ rfl ?_ g1 0 ?_ (jC s (.slice (some ⟨b, o, none⟩) l.length c)) (.struct (Try.prog.fieldsOf 24)) ?_ underJrn rfl ?_ ?_); exact rfl; exact rfl; exact HF.out.cj.wholeJ; exact sizeJ)
    | (go_at_call 19; refine (HCK.out _ HF.out.below).mono ?_; rintro e w3 ⟨rfl, hb3⟩; replace HF := hid (HF.out.on hb3); have c1 := HF.out.cj.j1; clear hb3)
    | (go_at_call 28; refine (HPL.out _ HF.out.below).mono ?_; rintro e w4 ⟨rfl, hb4⟩; replace HF := hid (HF.out.on hb4); clear c1; have c1 := HF.out.cj.j1; clear hb4)
    | ((with_reducible refine wpList_loadM rfl _ rfl b (o + i * 42) ?_ x.r hok (rangeAt_below HR.out HF.out.below) ?_); exact rfl)
    | (go_at_call 23; refine (copyR_any x _ (HXO.out.below HF.out.below)).mono ?_; rintro e w5 ⟨y, rfl, hyx, hy, hyo, hb5⟩; have HW4 := hid HF.out.below.size; replace HF := hid (HF.out.on hb5); have HY := hid (hy.base HW4.out); have HYX := hid hyx; have hyk := hy.ok; clear hyx hy hb5 c1)
    | ((with_reducible refine wpList_storeR rfl rfl _ _ rfl g2 ?_ (r := y.r) ?_ zR_ok hyk hyo HF.out.cr ?_); exact rfl; exact rfl; intro w6 h6 o6; have H6 := hid h6; have O6 := hid o6; have HY6 := hid (HY.out.other HF.out.cr.at_ o6); clear h6 o6))
  refine ret_row3 rfl g2 rfl rfl rfl rfl H6.out hyk ⟨y, rfl, HYX.out, HY6.out, ?_⟩
  exact below_tr HF.out.below (O6.out.below HF.out.below.size (fun i e => by have := HG.out; omega))
#print axioms find_ok
end Go.Proofs.Ytcbmimjjpkkoeaa

/- journal.Newest, Remove. -/
namespace Go.Proofs.Ytcbmimjjpkkoeaa
open Go Go.RowKit

set_option maxRecDepth 100000 in
set_option maxHeartbeats 1000000 in
theorem newest_bad (s : Int) (v : Value) (l : List Rp) (w : World) (hl : RL w v l) (h : okJ ⟨s, rcs l⟩ = false) : Calls Try.prog 15 #[.agg (jC s v)] w fun e w' => e = .returned (.tuple #[.agg zR.cs, i64 2]) ∧ Below w.heap.size w w' := by
  have HL := hid hl
  obtain ⟨po, c, rfl, _⟩ := hl
  have hck := fun W (hW : Below w.heap.size w W) => jcheck_any s _ l W (HL.out.below hW)
  rw [h] at hck
  simp only [Bool.false_eq_true, if_false] at hck
  have HCK := hid hck
  clear hck h
  obtain ⟨Z, hZ⟩ : ∃ Z, zR = Z := ⟨_, rfl⟩
  have HZ := hid hZ
  clear hZ
  go_enter Try.func15, Try.ntmps15
  go_wp2_with (first
    | ((with_reducible refine wpList_boxT 24 rfl _ rfl (jC s (.slice po l.length c)) ?_ ?_); exact rfl; intro w1 g1 hc1 hb1 hg1; have HC1 := hid hc1; have HB1 := hid hb1; clear hb1 hc1)
    | ((with_reducible refine wpList_allocR rfl rfl ?_); intro w2 g2 hz2 hb2 hg2; have HF : Hid (F2 w g1 g2 s (.slice po l.length c) w2) := hid ⟨below_on HB1.out hb2, HC1.out.below hb2, hz2⟩; have HG := hid (show w.heap.size ≤ g2 by have := HB1.out.size; omega); clear hz2 hb2 hg2)
    | ((with_reducible refine wpList_load_at 24 _ rfl ?_ g1 0 ?_ (jC s (.slice po l.length c)) (.struct (Try.prog.fieldsOf 24)) ?_ underJrn rfl ?_ ?_); exact rfl; exact rfl; exact HF.out.cj.wholeJ; exact sizeJ)
    | (go_at_call 19; refine (HCK.out _ HF.out.below).mono ?_; rintro e w3 ⟨rfl, hb3⟩; replace HF := hid (HF.out.on hb3); have c1 := HF.out.cj.j1; clear hb3)
    | ((with_reducible refine wpList_build_want 29 _ rfl ?_ Z.cs ?_ ?_); exact rfl; (rw [← HZ.out]; exact builtZR))
    | ((with_reducible refine wpList_storeR rfl rfl _ _ rfl g2 ?_ (r := Z) ?_ zR_ok ?_ ?_ HF.out.cr ?_); exact rfl; exact rfl; (rw [← HZ.out]; exact zR_ok); (rw [← HZ.out]; rfl); intro w5 h5 o5; have H5 := hid h5; have O5 := hid o5; clear h5 o5))
  refine ret_rowR2 rfl g2 rfl rfl rfl H5.out (by rw [← HZ.out]; exact zR_ok) ⟨by rw [← HZ.out]; rfl, ?_⟩
  exact below_tr HF.out.below (O5.out.below HF.out.below.size (fun i e => by have := HG.out; omega))
set_option maxRecDepth 100000 in
set_option maxHeartbeats 1000000 in
theorem newest_miss (s : Int) (v : Value) (l : List Rp) (w : World) (hl : RL w v l) (h : okJ ⟨s, rcs l⟩ = true) (h0 : l.length = 0) : Calls Try.prog 15 #[.agg (jC s v)] w fun e w' => e = .returned (.tuple #[.agg zR.cs, i64 6]) ∧ Below w.heap.size w w' := by
  have HL := hid hl
  obtain ⟨po, c, rfl, _⟩ := hl
  have hck := fun W (hW : Below w.heap.size w W) => jcheck_any s _ l W (HL.out.below hW)
  rw [h] at hck
  simp only [if_true] at hck
  have HCK := hid hck
  have h0' : (l.length : Int) = 0 := by omega
  clear hck h h0
  obtain ⟨Z, hZ⟩ : ∃ Z, zR = Z := ⟨_, rfl⟩
  have HZ := hid hZ
  clear hZ
  go_enter Try.func15, Try.ntmps15
  go_wp2_with (first
    | ((with_reducible refine wpList_boxT 24 rfl _ rfl (jC s (.slice po l.length c)) ?_ ?_); exact rfl; intro w1 g1 hc1 hb1 hg1; have HC1 := hid hc1; have HB1 := hid hb1; clear hb1 hc1)
    | ((with_reducible refine wpList_allocR rfl rfl ?_); intro w2 g2 hz2 hb2 hg2; have HF : Hid (F2 w g1 g2 s (.slice po l.length c) w2) := hid ⟨below_on HB1.out hb2, HC1.out.below hb2, hz2⟩; have HG := hid (show w.heap.size ≤ g2 by have := HB1.out.size; omega); clear hz2 hb2 hg2)
    | ((with_reducible refine wpList_load_at 24 _ rfl ?_ g1 0 ?_ (jC s (.slice po l.length c)) (.struct (Try.prog.fieldsOf 24)) ?_ underJrn rfl ?_ ?_); exact rfl; exact rfl; exact HF.out.cj.wholeJ; exact sizeJ)
    | (go_at_call 19; refine (HCK.out _ HF.out.below).mono ?_; rintro e w3 ⟨rfl, hb3⟩; replace HF := hid (HF.out.on hb3); have c1 := HF.out.cj.j1; clear hb3)
    | ((with_reducible refine wpList_build_want 29 _ rfl ?_ Z.cs ?_ ?_); exact rfl; (rw [← HZ.out]; exact builtZR))
    | ((with_reducible refine wpList_storeR rfl rfl _ _ rfl g2 ?_ (r := Z) ?_ zR_ok ?_ ?_ HF.out.cr ?_); exact rfl; exact rfl; (rw [← HZ.out]; exact zR_ok); (rw [← HZ.out]; rfl); intro w5 h5 o5; have H5 := hid h5; have O5 := hid o5; clear h5 o5))
  refine ret_rowR2 rfl g2 rfl rfl rfl H5.out (by rw [← HZ.out]; exact zR_ok) ⟨by rw [← HZ.out]; rfl, ?_⟩
  exact below_tr HF.out.below (O5.out.below HF.out.below.size (fun i e => by have := HG.out; omega))
set_option maxRecDepth 100000 in
set_option maxHeartbeats 1000000 in
theorem newest_ok (s : Int) (v : Value) (l : List Rp) (w : World) (hl : RL w v l) (h : okJ ⟨s, rcs l⟩ = true) (x : Rp) (hx : l[0]? = some x) : Calls Try.prog 15 #[.agg (jC s v)] w (RecE w x.rc #[i64 0]) := by
  have HL := hid hl
  obtain ⟨po, c, rfl, _⟩ := hl
  have hck := fun W (hW : Below w.heap.size w W) => jcheck_any s _ l W (HL.out.below hW)
  rw [h] at hck
  simp only [if_true] at hck
  have HCK := hid hck
  have hil := (List.getElem?_eq_some_iff.1 hx).1
  have hil' : (0 : Int) < (l.length : Int) := by omega
  have hil2 : ¬ (l.length : Int) = 0 := by omega
  obtain ⟨b, o, x', e1, hx', hrx, hkx, hox⟩ := HL.out.at (Below.refl w.heap.size w) hil
  rw [hx] at hx'
  cases hx'
  subst e1
  rw [Nat.zero_mul, Nat.add_zero] at hrx
  have hok := hkx.ok
  have HR := hid hrx
  have HXO := hid hkx
  clear hck h hrx hkx hx
  go_enter Try.func15, Try.ntmps15
  go_wp2_with (first
    | ((with_reducible refine wpList_boxT 24 rfl _ rfl (jC s (.slice (some ⟨b, o, none⟩) l.length c)) ?_ ?_); exact rfl; intro w1 g1 hc1 hb1 hg1; have HC1 := hid hc1; have HB1 := hid hb1; clear hb1 hc1)
    | ((with_reducible refine wpList_allocR rfl rfl ?_); intro w2 g2 hz2 hb2 hg2; have HF : Hid (F2 w g1 g2 s (.slice (some ⟨b, o, none⟩) l.length c) w2) := hid ⟨below_on HB1.out hb2, HC1.out.below hb2, hz2⟩; have HG := hid (show w.heap.size ≤ g2 by have := HB1.out.size; omega); clear hz2 hb2 hg2)
    | ((with_reducible refine wpList_load_at 24 _ rfl ?_ g1 0 ?_ (jC s (.slice (some ⟨b, o, none⟩) l.length c)) (.struct (Try.prog.fieldsOf 24)) ?_ underJrn rfl ?_ ?_); exact rfl; exact rfl; exact HF.out.cj.wholeJ; exact sizeJ)
    | (go_at_call 19; refine (HCK.out _ HF.out.below).mono ?_; rintro e w3 ⟨rfl, hb3⟩; replace HF := hid (HF.out.on hb3); have c1 := HF.out.cj.j1; clear hb3)
    | ((with_reducible refine wpList_loadM rfl _ rfl b o ?_ x.r hok (rangeAt_below HR.out HF.out.below) ?_); exact rfl)
    | (go_at_call 23; refine (copyR_any x _ (HXO.out.below HF.out.below)).mono ?_; rintro e w5 ⟨y, rfl, hyx, hy, hyo, hb5⟩; have HW4 := hid HF.out.below.size; replace HF := hid (HF.out.on hb5); have HY := hid (hy.base HW4.out); have HYX := hid hyx; have hyk := hy.ok; clear hyx hy hb5 c1)
    | ((with_reducible refine wpList_storeR rfl rfl _ _ rfl g2 ?_ (r := y.r) ?_ zR_ok hyk hyo HF.out.cr ?_); exact rfl; exact rfl; intro w6 h6 o6; have H6 := hid h6; have O6 := hid o6; have HY6 := hid (HY.out.other HF.out.cr.at_ o6); clear h6 o6))
  refine ret_rowR2 rfl g2 rfl rfl rfl H6.out hyk ⟨y, rfl, HYX.out, HY6.out, ?_⟩
  exact below_tr HF.out.below (O6.out.below HF.out.below.size (fun i e => by have := HG.out; omega))
/-- The parameter's block and the result's. -/
structure G2 (w : World) (g1 g2 : Nat) (s : Int) (v : Value) (W : World) : Prop where
  below : Below w.heap.size w W
  cj : CAt W g1 (jC s v) 24
  cr : CAt W g2 (jC 0 (.slice none 0 0)) 24
theorem G2.on {w W W' : World} {g1 g2 : Nat} {s : Int} {v : Value} (h : G2 w g1 g2 s v W) (hb : Below W.heap.size W W') : G2 w g1 g2 s v W' := ⟨below_on h.below hb, h.cj.below hb, h.cr.below hb⟩
theorem builtZJ : Try.prog.built 24 [] = some (jC 0 (.slice none 0 0)) := by kernel_rfl
theorem builtJ (s : Int) (po : Option Addr) (n c : Nat) : Try.prog.built 24 [(0, i64 s), (1, .slice po n c)] = some (jC s (.slice po n c)) := by kernel_rfl
theorem two_set {w : World} {g1 g2 : Nat} {s : Int} {v u t : Value} (h : CAt w g1 (jC s v) 24) (hne : g1 ≠ g2) : CAt ((w.setCell ⟨g2, 0, none⟩ u).setCell ⟨g2, 1, none⟩ t) g1 (jC s v) 24 :=
  (h.keep (heap_setCell_ne _ ⟨g2, 0, none⟩ _ _ hne)).keep (heap_setCell_ne _ ⟨g2, 1, none⟩ _ _ hne)
/-- A journal and an error. -/
def JouE (w : World) (s : Int) (rs : List Rc) (e : Ending) (w' : World) : Prop := ∃ v m, e = .returned (.tuple #[.agg (jC s v), i64 0]) ∧ Rs w.heap.size w' v m ∧ rcs m = rs ∧ Below w.heap.size w w'
set_option maxRecDepth 100000 in
set_option maxHeartbeats 1000000 in
theorem rem_bad (s : Int) (v : Value) (l : List Rp) (id : ByteArray) (w : World) (hl : RL w v l) (h : okJ ⟨s, rcs l⟩ = false) : Calls Try.prog 9 #[.agg (jC s v), .string id] w fun e w' => e = .returned (.tuple #[.agg (jC 0 (.slice none 0 0)), i64 2]) ∧ Below w.heap.size w w' := by
  have HL := hid hl
  obtain ⟨po, c, rfl, _⟩ := hl
  obtain ⟨Z, hZ⟩ : ∃ Z, zR = Z := ⟨_, rfl⟩
  have HZ := hid hZ
  clear hZ
  have HFI : Hid (∀ W, Below w.heap.size w W → Calls Try.prog 13 #[.agg (jC s (.slice po l.length c)), .string id] W fun e w' => e = .returned (.tuple #[.agg Z.cs, i64 0, i64 2]) ∧ Below W.heap.size W w') := hid fun W hW => by rw [← HZ.out]; exact find_bad s _ l id W (HL.out.below hW) h
  clear h
  go_enter Try.func9, Try.ntmps9
  go_wp2_with (first
    | ((with_reducible refine wpList_boxT 24 rfl _ rfl (jC s (.slice po l.length c)) ?_ ?_); exact rfl; intro w1 g1 hc1 hb1 hg1; have HC1 := hid hc1; have HB1 := hid hb1; clear hb1 hc1)
    | ((with_reducible refine wpList_allocJ rfl rfl ?_); intro w2 g2 hz2 hb2 hg2; have HF : Hid (G2 w g1 g2 s (.slice po l.length c) w2) := hid ⟨below_on HB1.out hb2, HC1.out.below hb2, hz2⟩; have HG := hid (show w.heap.size ≤ g2 by have := HB1.out.size; omega); have HG12 := hid (show g1 < g2 by have := HC1.out.lt; omega); clear hz2 hb2 hg2)
    | (go_at_call 13; refine (HFI.out _ HF.out.below).mono ?_; rintro e w3 ⟨rfl, hb3⟩; replace HF := hid (HF.out.on hb3); clear hb3)
    | ((with_reducible refine wpList_load_at 24 _ rfl ?_ g1 0 ?_ (jC s (.slice po l.length c)) (.struct (Try.prog.fieldsOf 24)) ?_ underJrn rfl ?_ ?_); exact rfl; exact rfl; exact HF.out.cj.wholeJ; exact sizeJ)
    | ((with_reducible refine wpList_allocR rfl rfl ?_); intro w4 g4 hz4 hb4 hg4; have HZ4 := hid hz4; have HB4 := hid hb4; have HG4 := hid hg4; clear hz4 hb4 hg4)
    | ((with_reducible refine wpList_storeR rfl rfl _ _ rfl g4 ?_ (r := Z) ?_ zR_ok ?_ ?_ HZ4.out ?_); exact rfl; exact rfl; (rw [← HZ.out]; exact zR_ok); (rw [← HZ.out]; rfl); intro w5 h5 o5; replace HF := hid (HF.out.on (Own1.mk1 HB4.out HG4.out h5 o5).below); have c0 := HF.out.cj.j0; clear h5 o5 HZ4)
    | ((with_reducible refine wpList_build_want 24 _ rfl ?_ (jC 0 (.slice none 0 0)) ?_ ?_); exact rfl; exact builtZJ)
    | ((with_reducible refine wpList_storeJ rfl rfl _ _ rfl g2 ?_ (s := 0) (v := .slice none 0 0) ?_ rfl HF.out.cr ?_); exact rfl; exact rfl; intro w6 h6 o6; have H6 := hid h6; have O6 := hid o6; clear h6 o6))
  refine ret_rowJ2 rfl g2 rfl rfl rfl H6.out ⟨rfl, ?_⟩
  exact below_tr HF.out.below (O6.out.below HF.out.below.size (fun i e => by have := HG.out; omega))
set_option maxRecDepth 100000 in
set_option maxHeartbeats 1000000 in
theorem rem_miss (s : Int) (v : Value) (l : List Rp) (id : ByteArray) (w : World) (hl : RL w v l) (h : okJ ⟨s, rcs l⟩ = true) (ha : atI (rcs l) (lst id) = none) : Calls Try.prog 9 #[.agg (jC s v), .string id] w fun e w' => e = .returned (.tuple #[.agg (jC 0 (.slice none 0 0)), i64 6]) ∧ Below w.heap.size w w' := by
  have HL := hid hl
  obtain ⟨po, c, rfl, _⟩ := hl
  obtain ⟨Z, hZ⟩ : ∃ Z, zR = Z := ⟨_, rfl⟩
  have HZ := hid hZ
  clear hZ
  have HFI : Hid (∀ W, Below w.heap.size w W → Calls Try.prog 13 #[.agg (jC s (.slice po l.length c)), .string id] W fun e w' => e = .returned (.tuple #[.agg Z.cs, i64 0, i64 6]) ∧ Below W.heap.size W w') := hid fun W hW => by rw [← HZ.out]; exact find_miss s _ l id W (HL.out.below hW) h ha
  clear h ha
  go_enter Try.func9, Try.ntmps9
  go_wp2_with (first
    | ((with_reducible refine wpList_boxT 24 rfl _ rfl (jC s (.slice po l.length c)) ?_ ?_); exact rfl; intro w1 g1 hc1 hb1 hg1; have HC1 := hid hc1; have HB1 := hid hb1; clear hb1 hc1)
    | ((with_reducible refine wpList_allocJ rfl rfl ?_); intro w2 g2 hz2 hb2 hg2; have HF : Hid (G2 w g1 g2 s (.slice po l.length c) w2) := hid ⟨below_on HB1.out hb2, HC1.out.below hb2, hz2⟩; have HG := hid (show w.heap.size ≤ g2 by have := HB1.out.size; omega); have HG12 := hid (show g1 < g2 by have := HC1.out.lt; omega); clear hz2 hb2 hg2)
    | (go_at_call 13; refine (HFI.out _ HF.out.below).mono ?_; rintro e w3 ⟨rfl, hb3⟩; replace HF := hid (HF.out.on hb3); clear hb3)
    | ((with_reducible refine wpList_load_at 24 _ rfl ?_ g1 0 ?_ (jC s (.slice po l.length c)) (.struct (Try.prog.fieldsOf 24)) ?_ underJrn rfl ?_ ?_); exact rfl; exact rfl; exact HF.out.cj.wholeJ; exact sizeJ)
    | ((with_reducible refine wpList_allocR rfl rfl ?_); intro w4 g4 hz4 hb4 hg4; have HZ4 := hid hz4; have HB4 := hid hb4; have HG4 := hid hg4; clear hz4 hb4 hg4)
    | ((with_reducible refine wpList_storeR rfl rfl _ _ rfl g4 ?_ (r := Z) ?_ zR_ok ?_ ?_ HZ4.out ?_); exact rfl; exact rfl; (rw [← HZ.out]; exact zR_ok); (rw [← HZ.out]; rfl); intro w5 h5 o5; replace HF := hid (HF.out.on (Own1.mk1 HB4.out HG4.out h5 o5).below); have c0 := HF.out.cj.j0; clear h5 o5 HZ4)
    | ((with_reducible refine wpList_build_want 24 _ rfl ?_ (jC 0 (.slice none 0 0)) ?_ ?_); exact rfl; exact builtZJ)
    | ((with_reducible refine wpList_storeJ rfl rfl _ _ rfl g2 ?_ (s := 0) (v := .slice none 0 0) ?_ rfl HF.out.cr ?_); exact rfl; exact rfl; intro w6 h6 o6; have H6 := hid h6; have O6 := hid o6; clear h6 o6))
  refine ret_rowJ2 rfl g2 rfl rfl rfl H6.out ⟨rfl, ?_⟩
  exact below_tr HF.out.below (O6.out.below HF.out.below.size (fun i e => by have := HG.out; omega))
set_option maxRecDepth 100000 in
set_option maxHeartbeats 1000000 in
theorem rem_full (v : Value) (l : List Rp) (id : ByteArray) (w : World) (hl : RL w v l) (h : okJ ⟨1099511627776, rcs l⟩ = true) (i : Nat) (ha : atI (rcs l) (lst id) = some i) (x : Rp) (hx : l[i]? = some x) : Calls Try.prog 9 #[.agg (jC 1099511627776 v), .string id] w fun e w' => e = .returned (.tuple #[.agg (jC 0 (.slice none 0 0)), i64 8]) ∧ Below w.heap.size w w' := by
  have HL := hid hl
  obtain ⟨po, c, rfl, _⟩ := hl
  have HFI : Hid (∀ W, Below w.heap.size w W → Calls Try.prog 13 #[.agg (jC 1099511627776 (.slice po l.length c)), .string id] W (RecE W x.rc #[i64 i, i64 0])) := hid fun W hW => find_ok 1099511627776 _ l id W (HL.out.below hW) h i ha x hx
  clear h ha hx
  go_enter Try.func9, Try.ntmps9
  go_wp2_with (first
    | ((with_reducible refine wpList_boxT 24 rfl _ rfl (jC 1099511627776 (.slice po l.length c)) ?_ ?_); exact rfl; intro w1 g1 hc1 hb1 hg1; have HC1 := hid hc1; have HB1 := hid hb1; clear hb1 hc1)
    | ((with_reducible refine wpList_allocJ rfl rfl ?_); intro w2 g2 hz2 hb2 hg2; have HF : Hid (G2 w g1 g2 1099511627776 (.slice po l.length c) w2) := hid ⟨below_on HB1.out hb2, HC1.out.below hb2, hz2⟩; have HG := hid (show w.heap.size ≤ g2 by have := HB1.out.size; omega); have HG12 := hid (show g1 < g2 by have := HC1.out.lt; omega); clear hz2 hb2 hg2)
    | (go_at_call 13; refine (HFI.out _ HF.out.below).mono ?_; rintro e w3 ⟨y, rfl, hyx, hy, hb3⟩; replace HF := hid (HF.out.on hb3); have hyk := hy.ok; have hyo : y.r.pv.oneCell' = true := (by obtain ⟨p0, c0, e0, _⟩ := hy.pl.1; rw [e0]; rfl); clear hb3 hyx hy)
    | ((with_reducible refine wpList_load_at 24 _ rfl ?_ g1 0 ?_ (jC 1099511627776 (.slice po l.length c)) (.struct (Try.prog.fieldsOf 24)) ?_ underJrn rfl ?_ ?_); exact rfl; exact rfl; exact HF.out.cj.wholeJ; exact sizeJ)
    | ((with_reducible refine wpList_allocR rfl rfl ?_); intro w4 g4 hz4 hb4 hg4; have HZ4 := hid hz4; have HB4 := hid hb4; have HG4 := hid hg4; clear hz4 hb4 hg4)
    | ((with_reducible refine wpList_storeR rfl rfl _ _ rfl g4 ?_ (r := y.r) ?_ zR_ok hyk hyo HZ4.out ?_); exact rfl; exact rfl; intro w5 h5 o5; replace HF := hid (HF.out.on (Own1.mk1 HB4.out HG4.out h5 o5).below); have c0 := HF.out.cj.j0; have c1 := HF.out.cj.j1; clear h5 o5 HZ4)
    | ((with_reducible refine wpList_build_want 24 _ rfl ?_ (jC 0 (.slice none 0 0)) ?_ ?_); exact rfl; exact builtZJ)
    | ((with_reducible refine wpList_storeJ rfl rfl _ _ rfl g2 ?_ (s := 0) (v := .slice none 0 0) ?_ rfl HF.out.cr ?_); exact rfl; exact rfl; intro w6 h6 o6; have H6 := hid h6; have O6 := hid o6; clear h6 o6))
  refine ret_rowJ2 rfl g2 rfl rfl rfl H6.out ⟨rfl, ?_⟩
  exact below_tr HF.out.below (O6.out.below HF.out.below.size (fun i e => by have := HG.out; omega))
set_option maxRecDepth 100000 in
set_option maxHeartbeats 1000000 in
theorem rem_ok (s : Int) (v : Value) (l : List Rp) (id : ByteArray) (w : World) (hl : RL w v l) (h : okJ ⟨s, rcs l⟩ = true) (i : Nat) (ha : atI (rcs l) (lst id) = some i) (x : Rp) (hx : l[i]? = some x) (hs0 : 0 ≤ s) (hs : s < 1099511627776) : Calls Try.prog 9 #[.agg (jC s v), .string id] w (JouE w (s + 1) (wout (rcs l) (lst id))) := by
  have HL := hid hl
  obtain ⟨po, c, rfl, _⟩ := hl
  have HFI : Hid (∀ W, Below w.heap.size w W → Calls Try.prog 13 #[.agg (jC s (.slice po l.length c)), .string id] W (RecE W x.rc #[i64 i, i64 0])) := hid fun W hW => find_ok s _ l id W (HL.out.below hW) h i ha x hx
  have hs' : ¬ s = 1099511627776 := by omega
  clear h ha hx
  go_enter Try.func9, Try.ntmps9
  go_wp2_with (first
    | ((with_reducible refine wpList_boxT 24 rfl _ rfl (jC s (.slice po l.length c)) ?_ ?_); exact rfl; intro w1 g1 hc1 hb1 hg1; have HC1 := hid hc1; have HB1 := hid hb1; clear hb1 hc1)
    | ((with_reducible refine wpList_allocJ rfl rfl ?_); intro w2 g2 hz2 hb2 hg2; have HF : Hid (G2 w g1 g2 s (.slice po l.length c) w2) := hid ⟨below_on HB1.out hb2, HC1.out.below hb2, hz2⟩; have HG := hid (show w.heap.size ≤ g2 by have := HB1.out.size; omega); have HG12 := hid (show g1 < g2 by have := HC1.out.lt; omega); clear hz2 hb2 hg2)
    | (go_at_call 13; refine (HFI.out _ HF.out.below).mono ?_; rintro e w3 ⟨y, rfl, hyx, hy, hb3⟩; replace HF := hid (HF.out.on hb3); have hyk := hy.ok; have hyo : y.r.pv.oneCell' = true := (by obtain ⟨p0, c0, e0, _⟩ := hy.pl.1; rw [e0]; rfl); clear hb3 hyx hy)
    | ((with_reducible refine wpList_load_at 24 _ rfl ?_ g1 0 ?_ (jC s (.slice po l.length c)) (.struct (Try.prog.fieldsOf 24)) ?_ underJrn rfl ?_ ?_); exact rfl; exact rfl; exact HF.out.cj.wholeJ; exact sizeJ)
    | ((with_reducible refine wpList_allocR rfl rfl ?_); intro w4 g4 hz4 hb4 hg4; have HZ4 := hid hz4; have HB4 := hid hb4; have HG4 := hid hg4; clear hz4 hb4 hg4)
    | ((with_reducible refine wpList_storeR rfl rfl _ _ rfl g4 ?_ (r := y.r) ?_ zR_ok hyk hyo HZ4.out ?_); exact rfl; exact rfl; intro w5 h5 o5; replace HF := hid (HF.out.on (Own1.mk1 HB4.out HG4.out h5 o5).below); have c0 := HF.out.cj.j0; have c1 := HF.out.cj.j1; clear h5 o5 HZ4)
    | ((with_reducible refine wpList_build_want 24 _ rfl ?_ (jC 0 (.slice none 0 0)) ?_ ?_); exact rfl; exact builtZJ)
    | ((with_reducible refine wpList_storeJ rfl rfl _ _ rfl g2 ?_ (s := 0) (v := .slice none 0 0) ?_ rfl HF.out.cr ?_); exact rfl; exact rfl; intro w6 h6 o6; have H6 := hid h6; have O6 := hid o6; clear h6 o6))
  have HK := hid (show ∀ W, Below w5.heap.size w5 W → W.cell? ⟨g1, 0, none⟩ = some (i64 s) ∧ W.cell? ⟨g1, 1, none⟩ = some (.slice po l.length c) from fun W hW => ⟨(HF.out.cj.below hW).j0, (HF.out.cj.below hW).j1⟩)
  have HD := hid (below_drew w5)
  have hw1 : IntKind.i64.wrap (s + 1) = s + 1 := by rw [IntKind.wrap_i64]; omega
  go_region_held3 (fun w' => w'.cell? ⟨g1, 0, none⟩ = some (i64 s) ∧ w'.cell? ⟨g1, 1, none⟩ = some (.slice po l.length c)) (first | with_reducible exact HK.out _ HD.out | with_reducible exact HK.out _ HB7.out | with_reducible exact HST.out _ _) ((go_at_call 21; refine (without_any _ l id _ (HL.out.below (below_on HF.out.below (below_drew _)))).mono ?_; rintro e w7 ⟨v7, m7, rfl, hr7, he7, hb7⟩; obtain ⟨p7, c7, hv7, _⟩ := hr7.buf.form; subst hv7; have HB7 := hid (below_on (below_drew w5) hb7); have kr := HF.out.cr.below HB7.out; have k0 := kr.j0; have k1 := kr.j1; have kf := kr.free; have HKR := hid kr; have HST := hid (fun (u t : Value) => have h9 := two_set (u := u) (t := t) (HF.out.cj.below HB7.out) (show g1 ≠ g2 by have := HG12.out; omega); (⟨h9.j0, h9.j1⟩ : ((w7.setCell ⟨g2, 0, none⟩ u).setCell ⟨g2, 1, none⟩ t).cell? ⟨g1, 0, none⟩ = some (i64 s) ∧ ((w7.setCell ⟨g2, 0, none⟩ u).setCell ⟨g2, 1, none⟩ t).cell? ⟨g1, 1, none⟩ = some (.slice po l.length c))); have HR7 := hid hr7; have HE7 := hid he7; clear kr hr7 he7 hb7))
  go_wp2
  have hfin : CAt ((w7.setCell ⟨g2, 0, none⟩ (i64 (s + 1))).setCell ⟨g2, 1, none⟩ (.slice p7 m7.length c7)) g2 (jC (s + 1) (.slice p7 m7.length c7)) 24 := (HKR.out.set 0 _).set 1 _
  have hO : Only (fun b => b = g2) w7 ((w7.setCell ⟨g2, 0, none⟩ (i64 (s + 1))).setCell ⟨g2, 1, none⟩ (.slice p7 m7.length c7)) := (Only.set (S := fun b => b = g2) w7 ⟨g2, 0, none⟩ _ rfl).trans (Only.set (S := fun b => b = g2) _ ⟨g2, 1, none⟩ _ rfl)
  refine ret_rowJ2 rfl g2 rfl rfl rfl hfin ⟨_, m7, rfl, (HR7.out.only hO (fun i e => ?_)).base HF.out.below.size, HE7.out, ?_⟩
  · subst e; show i < w5.heap.size; exact HF.out.cr.lt
  · exact below_tr (below_on HF.out.below HB7.out) (hO.below (below_on HF.out.below HB7.out).size (fun i e => by have := HG.out; omega))
#print axioms rem_ok
#print axioms rem_full
end Go.Proofs.Ytcbmimjjpkkoeaa

/- A slice literal of one record. -/
namespace Go.Proofs.Ytcbmimjjpkkoeaa
open Go Go.RowKit

theorem fold_zip : ∀ (V : List Value) (k : Nat) (C : Array Value), ((V.zipIdx k).foldl (fun cs (p : Value × Nat) => cs.setIfInBounds p.2 p.1) C).toList = setAll C.toList k V
  | [], k, C => rfl
  | v :: r, k, C => by
    rw [List.zipIdx_cons, List.foldl_cons, fold_zip r (k + 1), setAll, Array.toList_setIfInBounds]
theorem fill_one (C V : Array Value) (hC : C.size = 42) (hV : V.size = 42) : Instr.fill (fun i => some (i * 42, 42)) C [(0, .agg V)] = some V := by
  have h2 : ¬ (0 * 42 + V.size > C.size) := by omega
  simp only [Instr.fill, Value.cells, hV, ne_eq, not_true_eq_false, decide_false, Bool.false_or, decide_eq_true_eq]
  rw [if_neg (by omega)]
  congr 1
  apply Array.toList_inj.1
  rw [← Array.foldl_toList, Array.toList_zipIdx]
  have e := fold_zip V.toList 0 C
  simp only [Nat.zero_mul, Nat.zero_add]
  refine Eq.trans ?_ (e.trans ?_)
  · rfl
  · rw [setAll_splice (by simp [hC, hV]), List.take_zero, List.nil_append, Nat.zero_add, List.drop_of_length_le (by simp [hC, hV]), List.append_nil]
theorem run_buildOne (w : World) (r : Rv) (hr : r.ok) : (Instr.buildSlice 22 1 #[(0, .agg r.cs)]).run Try.prog w = .ok (.slice (some ⟨w.heap.size, 0, none⟩) 1 1) (w.alloc (.cells r.cs 29)) := by
  obtain ⟨i0, hi0, hz0, hz1, hz2⟩ := info_parts Try.infoRec
  refine run_buildSlice w 22 29 1 _ r.cs i0 _ Try.underlying22 hi0 hz0 (by rw [hz1]; decide) (by rw [hz1]; decide) ?_
  rw [hz1]
  exact fill_one _ _ (by simp) hr.size
theorem exec_buildOne {a : Act} {o : Oper} {x : Operand} {r : Rv} {W : World} (hr : r.ok) (ho : o.op = .buildSlice 22 1 #[(0, x)]) (hx : a.eval x = .agg r.cs) : (execOp a.eval o).run Try.prog W = .ok (.value (.slice (some ⟨W.heap.size, 0, none⟩) 1 1)) (W.alloc (.cells r.cs 29)) := by
  unfold execOp
  have := run_buildOne W r hr
  simp only [ho, List.map_toArray, List.map_cons, List.map_nil, hx, Sem.run_bind, this, Result.andThen_ok, Sem.run_pure]
theorem wpList_buildOne {ops : Array Oper} {rest : List Oper} {o : Oper} {a : Act} {w : World} {Q : Exit → Act → World → Prop} (hg : o.guard = none) (x : Operand) (ho : o.op = .buildSlice 22 1 #[(0, x)]) {r : Rv} (hr : r.ok) (hx : a.eval x = .agg r.cs)
    (h : ∀ w1 g, CAt w1 g r.cs 29 → Below w.heap.size w w1 → w.heap.size = g → wpList Try.prog ops Q rest (a.put o.dst (.slice (some ⟨g, 0, none⟩) 1 1)) w1) : wpList Try.prog ops Q (o :: rest) a w := by
  refine wpList_plain hg fun _ hK => ?_
  unfold Oper.wp
  rw [exec_buildOne hr ho hx]
  exact hK _ _ (h _ _ (CAt.made _ _ _) (below_al _ _) rfl)
theorem step_run_val {P : Program} {w : World} {ops : Array Oper} {o : Oper} {a : Act} {K : Act → World → Prop} {Q : Exit → Act → World → Prop} {E : Prop} (hgd : o.guard = none) (v : Value) (w' : World)
    (hr : (execOp a.eval o).run P w = .ok (.value v) w') (h : K (a.put o.dst v) w') : if Region.wanted o (yielded ops a.tmps) = true then Oper.wp P o a w K Q else E := by
  rw [if_pos (by simp [Region.wanted, hgd])]
  unfold Oper.wp
  rw [hr]
  exact h
#print axioms wpList_buildOne
end Go.Proofs.Ytcbmimjjpkkoeaa

/- records: two lists of records. -/
namespace Go.Proofs.Ytcbmimjjpkkoeaa
open Go Go.RowKit

theorem run_loadM {w : World} {b o : Nat} {r : Rv} (hr : r.ok) (hc : w.rangeAt b o r.cs.toList) : (Instr.loadAt 29 (.pointer (some ⟨b, o, none⟩))).run Try.prog w = .ok (.agg r.cs) w := by
  have := run_loadAt_mid (P := Try.prog) w b o 29 r.cs.toList (.struct (Try.prog.fieldsOf 29)) hc underRec rfl (by rw [sizeR42 (x := ⟨r, []⟩) hr]; exact sizeR)
  simpa using this
theorem RL.where {w : World} {v : Value} {l : List Rp} (h : RL w v l) {i : Nat} {x : Rp} (hx : l[i]? = some x) : ∃ b o c, v = .slice (some ⟨b, o, none⟩) l.length c ∧ l.length ≤ c ∧ RCells w b o l := by
  obtain ⟨po, c, h1, h2, _, _, h3, _⟩ := h
  rcases h3 with h3 | ⟨b, o, rfl, h3⟩
  · rw [h3] at hx; cases hx
  · exact ⟨b, o, c, h1, h2, h3⟩
theorem RCells.below {w w' : World} {b o : Nat} {l : List Rp} (h : RCells w b o l) (hb : Below w.heap.size w w') : RCells w' b o l := h.keep fun a ha => World.cell?_of_block (hb.block a.block (cell_lt' ha))

end Go.Proofs.Ytcbmimjjpkkoeaa

/- Contract of Copy, the document's. -/
namespace Go.Proofs.Ytcbmimjjpkkoeaa
open Go Go.RowKit

theorem PBuf.made0 (w : World) (B : Nat) (hB : B ≤ w.heap.size) : PBuf B (w.alloc (.cells #[] 52)) (.slice (some ⟨w.heap.size, 0, none⟩) 0 0) [] := World.ownsRow_made w #[] 0 hB (by unfold maxLen; omega) (by simp)
set_option maxRecDepth 100000 in
set_option maxHeartbeats 400000 in
theorem rcopy_any (r : Rv) (hk : r.ok) (po : Option Addr) (c : Nat) (ps : Ps) (w : World) (hv : r.pv = .slice po ps.length c) (h : PL w r.pv ps) (hc : po = none → c = 0) (hn : ps.length ≤ 100000) : Calls Try.prog 6 #[.agg r.cs] w (CopS w r ps) := by
  have HF : Hid (∀ W, Below w.heap.size w W → ∃ p3 c3 W', (Builtin.append_ #[27, 27] 27 #[.slice (some ⟨W.heap.size, 0, none⟩) 0 0, .slice po ps.length c]).run Try.prog (W.alloc (.cells #[] 52)) = .ok (.slice p3 ps.length c3) W' ∧ PLF W.heap.size W' (.slice p3 ps.length c3) ps ∧ Below W.heap.size W W') := hid (fun W hb => by
    obtain ⟨v1, w1, hr, hb1, hg⟩ := (PBuf.made0 W W.heap.size (Nat.le_refl _)).app po c ps (hv ▸ (h.below hb).below (below_al _ _)) hc (by simpa using by omega) (by rw [size_al]; omega)
    rw [List.nil_append] at hb1
    obtain ⟨p1, c1, hv1, hc1⟩ := hb1.form
    subst hv1
    refine ⟨p1, c1, w1, hr, (hb1.pl hn c1 hc1 (Or.inr rfl)).2, below_grown (below_al W _) hg (Nat.le_refl _) (fun b hb => ?_)⟩
    simp [Value.ownBlock] at hb
    omega)
  have HV := hid hv
  clear h hc hv
  go_enter Try.func6, Try.ntmps6
  go_wp2_with (first
    | ((with_reducible refine wpList_boxR rfl _ rfl r.cs ?_ ?_); exact rfl; intro w1 g1 hc1 hb1 hg1; have HA1 := hid (RBox.mk' hk hc1); have HB1 := hid hb1; clear hc1 hb1)
    | ((with_reducible refine wpList_allocR rfl rfl ?_); intro w2 g2 hz2 hb2 hg2; have HZ2 := hid hz2; have HA2 := hid (HA1.out.below hk hb2); have HB2 := hid (below_on HB1.out hb2); have HG := hid (show g1 < g2 ∧ w.heap.size ≤ g1 ∧ g2 < w2.heap.size from ⟨by have := HA1.out.at_.lt; omega, by omega, HZ2.out.at_.lt⟩); have c40 := (HA2.out.below hk (below_al w2 (.cells #[] 52))).c40; rw [HV.out] at c40; obtain ⟨p3, c3, w3, hr3, hp3, hb3⟩ := HF.out _ HB2.out; have HRUN := hid hr3; have HP3 := hid hp3; have HB3 := hid hb3; clear hz2 hb2 hg2 HA1 HB1 hr3 hp3 hb3)
    | (at_builtin; (refine wpList_append_run _ _ 27 27 rfl rfl _ _ _ rfl rfl HRUN.out ?_); have HZ3 := hid (HZ2.out.below zR_ok HB3.out); have ha3 := HA2.out.below hk HB3.out; clear c40; have d40 := ha3.c40; have f40 := ha3.free; have hs := ha3.set40 hk (.slice p3 ps.length c3); have ho : Only (fun b => b = g1) w3 (w3.setCell ⟨g1, 40, none⟩ (.slice p3 ps.length c3)) := Only.set w3 _ _ rfl; have HA4 := hid hs; have HZ4 := hid (HZ3.out.only zR_ok ho (by have := HG.out; omega)); have HP4 := hid (HP3.out.only ho (fun i e => by have := HG.out; omega)); have HB4 := hid (below_tr (below_on HB2.out HB3.out) (ho.below (below_on HB2.out HB3.out).size (fun i e => by have := HG.out; omega))); clear ha3 hs ho)
    | ((with_reducible refine wpList_load_at 29 _ rfl ?_ g1 0 ?_ ({ r with pv := .slice p3 ps.length c3 } : Rv).cs (.struct (Try.prog.fieldsOf 29)) ?_ underRec rfl ?_ ?_); exact rfl; exact rfl; exact HA4.out.whole; (rw [Rv.size_of (r := { r with pv := .slice p3 ps.length c3 }) hk.sl]; exact sizeR))
    | ((with_reducible refine wpList_storeR rfl rfl _ _ rfl g2 ?_ (r := { r with pv := .slice p3 ps.length c3 }) ?_ zR_ok ?_ ?_ HZ4.out ?_); exact rfl; exact rfl; exact ⟨hk.sl, hk.s8, hk.i, hk.e, hk.d, hk.u⟩; exact rfl; intro w5 h5 o5; have H5 := hid h5; have O5 := hid o5; clear h5 o5))
  refine ret_rowR rfl g2 rfl rfl H5.out ⟨hk.sl, hk.s8, hk.i, hk.e, hk.d, hk.u⟩ ⟨_, rfl, ?_, ?_⟩
  · exact (HP4.out.only O5.out (fun i e => by have := HG.out; omega)).base HB2.out.size
  · exact below_tr HB4.out (O5.out.below HB4.out.size (fun i e => by have := HG.out; omega))
#print axioms rcopy_any
end Go.Proofs.Ytcbmimjjpkkoeaa
