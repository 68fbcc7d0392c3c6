/- Texts laid into one: the remark ahead of each part says what is proved there. -/
import Derived.Test.YtcbmimjjpkkoeaaGreatDoorQaj
import Derived.Test.YtcbmimjjpkkoeaaGreatDoorQae
import Derived.ChangeArms
import Derived.ChangeSlices
import Derived.OpenShut
import Derived.Lib.SlBytesConst
import Derived.Deep.Cut
/- Contract of told of package record, for records. -/
namespace Go.Proofs.YtcbmimjjpkkoeaaGreatDoor
open Go Go.RowKit

theorem step_storeR {w : World} {ops : Array Oper} {o : Oper} {a : Act} {K : Act → World → Prop} {Q : Exit → Act → World → Prop} {E : Prop} (hgd : o.guard = none) (hdst : o.dst = none) (x y : Operand) (ho : o.op = .store 45 x y) (g : Nat) (hx : a.eval x = ptr g) {r0 r : Rv} (hy : a.eval y = .agg r.cs) (h0 : r0.ok) (hr : r.ok) (hpv : r.pv.oneCell' = true) (hb : RBox w g r0)
    (h : ∀ w1, RBox w1 g r → Only (fun b => b = g) w w1 → K a w1) : if Region.wanted o (yielded ops a.tmps) = true then Oper.wp Tryz.prog o a w K Q else E := by
  have hw : Region.wanted o (yielded ops a.tmps) = true := by simp [Region.wanted, hgd]
  rw [if_pos hw]
  obtain ⟨e1, e2⟩ := run_storeR h0 hr hpv hb
  unfold Oper.wp execOp
  simp only [ho, hx, hy, ptr, Sem.run_bind, e1, Result.andThen_ok, Sem.run_pure]
  show K (a.put o.dst undef) _
  rw [hdst]
  exact h _ e2 (only_setRow _ _ _ rfl)
theorem ret_row3 {fn : Func} {q u t : Tmp} (h : fn.results = #[.cell q 45, .tmp u, .tmp t]) {R : Ending → World → Prop} {a : Act} {w : World} (g : Nat) {r : Rv} {v x : Value}
    (hd0 : a.defers = []) (hp : a.tmps.getD q undef = .pointer (some ⟨g, 0, none⟩)) (hv : a.tmps.getD u undef = v) (hx : a.tmps.getD t undef = x) (hb : RBox w g r) (hr : r.ok) (hR : R (.returned (.tuple #[.agg r.cs, v, x])) w) : bodyPost Tryz.prog fn R .ret a w := by
  refine ⟨hd0, .tuple #[.agg r.cs, v, x], ?_, hR⟩
  have hl := run_loadVar_row (P := Tryz.prog) w g 45 45 r.cs (0, 0) _ hb.at_ underRec rfl (by rw [hr.size]; exact sizeR)
  simp only [results, h]
  simp only [Array.getD_eq_getD_getElem?] at hp hv hx
  simp [Result.andThen, hp, hv, hx, asAddr, hl]
set_option maxRecDepth 100000 in
set_option maxHeartbeats 300000 in
theorem toldR_bad (w : World) (p : Nat) (r : Rv) (hr : r.ok) (h : Rd w p none) : Calls Tryz.prog 105 #[ptr p, .agg r.cs] w fun e w' => e = .returned (.tuple #[.agg zR.cs, .slice none 0 0, i64 4]) ∧ Below w.heap.size w w' := by
  have hp := h.lt
  obtain ⟨po, L, h1, hrest⟩ := h
  clear hrest
  have H1 := hid h1
  obtain ⟨Z, hZ⟩ : ∃ Z, zR = Z := ⟨_, rfl⟩
  have zok : Z.ok := hZ ▸ zR_ok
  have zone : Z.pv.oneCell' = true := hZ ▸ rfl
  have HZZ := hid hZ
  have HR := hid hr
  clear h1 hr hZ
  go_enter Tryz.func105, Tryz.ntmps105
  go_wp2_with (first
    | ((with_reducible refine wpList_boxR rfl _ rfl r.cs ?_ ?_); exact rfl; intro w1 g1 hc1 hb1 hg1; have HB1 := hid hb1; clear hc1 hb1)
    | ((with_reducible refine wpList_allocR rfl rfl ?_); intro w2 g2 hz2 hb2 hg2; rw [HZZ.out] at hz2; have HZ2 := hid hz2; have HB2 := hid (below_on HB1.out hb2); have HG2 := hid (show w.heap.size ≤ g2 by have := HB1.out.size; omega); clear hz2 hb2 hg2 HB1; have c1 := (H1.out.below HB2.out).cell 1; simp at c1)
    | ((with_reducible refine wpList_allocR rfl rfl ?_); intro w3 g3 hz3 hb3 hg3; rw [HZZ.out] at hz3; have HZ3 := hid hz3; have HG3 := hid (show g2 < g3 by have := HZ2.out.at_.lt; omega); have HB3 := hid (below_on HB2.out hb3); have HZ4 := hid (HZ2.out.below zok hb3); clear hz3 hb3 hg3 HZ2 HB2 c1))
  have HSF : Hid (∀ W, Only (fun b => b = g2) w3 W → (Instr.loadAt 45 (.pointer (some ⟨g3, 0, none⟩))).run Tryz.prog W = .ok (.agg Z.cs) W ∧ W.cell? ⟨p, 1, none⟩ = some (i64 4)) := fun W ho =>
    ⟨run_loadR zok (HZ3.out.only zok ho (by have := HG3.out; omega)), by
      have := ((H1.out.below HB3.out).keep (ho.block p (by have := HB3.out.size; omega) (by have := HG2.out; omega))).cell 1
      simpa using this⟩
  refine wp_region_held_drew (S := fun W => (Instr.loadAt 45 (.pointer (some ⟨g3, 0, none⟩))).run Tryz.prog W = .ok (.agg Z.cs) W ∧ W.cell? ⟨p, 1, none⟩ = some (i64 4)) (by kernel_rfl) (HSF.out _ (Only.of_below (below_drew _))) (fun hHeld => ?_)
  refine wpAnyH_take (i := 0) (oi := ⟨some 13, .load 45 (.tmp 7), 45, _, _, none⟩) (v := .agg Z.cs) rfl (by kernel_rfl) (by kernel_rfl) (by kernel_rfl) (fun _ _ _ h => h) (Or.inl ⟨by rfl, fun W hW => exec_load rfl rfl hW.1⟩) hHeld ?_
  refine wpAnyH_take (i := 1) (oi := ⟨some 14, .move (.tmp 0), _, _, _, none⟩) (v := ptr p) rfl (by kernel_rfl) (by kernel_rfl) (by kernel_rfl) (fun _ _ _ h => h) (Or.inl ⟨by rfl, by intro W hW; go_simp⟩) hHeld ?_
  refine wpAnyH_take (i := 2) (oi := ⟨some 15, .nilCheck (.tmp 14), _, _, _, none⟩) (v := ptr p) rfl (by kernel_rfl) (by kernel_rfl) (by kernel_rfl) (fun _ _ _ h => h) (Or.inl ⟨by rfl, by intro W hW; go_simp⟩) hHeld ?_
  refine wpAnyH_take (i := 3) (oi := ⟨some 16, .fieldAddr 152 (.tmp 15) 1, _, _, _, none⟩) (v := .pointer (some ⟨p, 1, none⟩)) rfl (by kernel_rfl) (by kernel_rfl) (by kernel_rfl) (fun _ _ _ h => h) (Or.inl ⟨by rfl, by intro W hW; go_simp⟩) hHeld ?_
  refine wpAnyH_take (i := 4) (oi := ⟨some 17, .load 29 (.tmp 16), 29, _, _, none⟩) (v := i64 4) rfl (by kernel_rfl) (by kernel_rfl) (by kernel_rfl) (fun _ _ _ h => h) (Or.inl ⟨by rfl, by intro W hW; have c1 := hW.2; go_simp⟩) hHeld ?_
  refine wpAnyH_ready (rs := [5]) (by kernel_rfl) (by simp) ?_
  refine AllReadyH.cons (o := ⟨none, .store 45 (.tmp 4) (.tmp 13), _, _, _, none⟩) rfl (fun K hK => ?_) AllReadyH.nil
  with_reducible refine step_storeR ?_ ?_ (.tmp 4) (.tmp 13) ?_ g2 ?_ (r := Z) ?_ zok zok zone (HZ4.out.below zok (below_drew _)) ?_
  · exact rfl
  · exact rfl
  · exact rfl
  · kernel_rfl
  · kernel_rfl
  intro w5 h5 o5
  have H5 := hid h5
  have O5 := hid ((Only.of_below (below_drew w3)).trans o5)
  clear h5 o5
  refine hK.out _ _ (HSF.out _ O5.out) (fun hHeld => ?_)
  clear hK K
  refine wpAnyH_take (i := 6) (oi := ⟨some 5, .assign (.const (.slice none 0 0)), 25, _, _, none⟩) (v := .slice none 0 0) rfl (by kernel_rfl) (by kernel_rfl) (by kernel_rfl) (fun _ _ _ h => h) (Or.inl ⟨by rfl, by intro W hW; go_simp⟩) hHeld ?_
  refine wpAnyH_take (i := 7) (oi := ⟨some 6, .assign (.tmp 17), 29, _, _, none⟩) (v := i64 4) rfl (by kernel_rfl) (by kernel_rfl) (by kernel_rfl) (fun _ _ _ h => h) (Or.inl ⟨by rfl, by intro W hW; go_simp⟩) hHeld ?_
  refine wpAnyH_done (by kernel_rfl) ?_ _
  simp only [Act.put, List.setIfInBounds_toArray, List.set_cons_zero, List.set_cons_succ]
  go_wp2
  refine ret_row3 rfl g2 (v := .slice none 0 0) (x := i64 4) rfl rfl rfl rfl H5.out zok ⟨by rw [HZZ.out], ?_⟩
  exact below_tr HB3.out (O5.out.below HB3.out.size (fun i e => by have := HG2.out; omega))
def TolR (w : World) (L : List Nat) (r : Rv) (e : Ending) (w' : World) : Prop := ∃ out, e = .returned (.tuple #[.agg r.cs, out, i64 0]) ∧ OutB w.heap.size w' out L ∧ Below w.heap.size w w'
set_option maxRecDepth 100000 in
set_option maxHeartbeats 300000 in
theorem toldR_ok (w : World) (p : Nat) (r : Rv) (hr : r.ok) (hone : r.pv.oneCell' = true) (M : List Nat) (h : Rd w p (some M)) : Calls Tryz.prog 105 #[ptr p, .agg r.cs] w (TolR w M r) := by
  have hp := h.lt
  obtain ⟨po, L, h1, h2, h3, h4, h5, h6, h7⟩ := h
  have e : M = L := by rcases h5 with h | h <;> cases h; rfl
  subst e
  have H1 := hid h1
  have H2 := hid h2
  have H4 := hid h4
  obtain ⟨Z, hZ⟩ : ∃ Z, zR = Z := ⟨_, rfl⟩
  have zok : Z.ok := hZ ▸ zR_ok
  have HZZ := hid hZ
  have HR := hid hr
  clear h1 hr hZ h2 h3 h4 h5 h7
  go_enter Tryz.func105, Tryz.ntmps105
  go_wp2_with (first
    | ((with_reducible refine wpList_boxR rfl _ rfl r.cs ?_ ?_); exact rfl; intro w1 g1 hc1 hb1 hg1; have HA1 := hid (RBox.mk' HR.out hc1); have HB1 := hid hb1; clear hc1 hb1)
    | ((with_reducible refine wpList_allocR rfl rfl ?_); intro w2 g2 hz2 hb2 hg2; rw [HZZ.out] at hz2; have HZ2 := hid hz2; have HA2 := hid (HA1.out.below HR.out hb2); have HB2 := hid (below_on HB1.out hb2); have HG2 := hid (show w.heap.size ≤ g2 ∧ g1 < g2 by have := HB1.out.size; have := HA1.out.at_.lt; omega); clear hz2 hb2 hg2 HB1 HA1; have c1 := (H1.out.below HB2.out).cell 1; simp at c1))
  clear c1
  have HSF : Hid (∀ W, Only (fun b => b = g2) w2 W → (Instr.loadAt 45 (.pointer (some ⟨g1, 0, none⟩))).run Tryz.prog W = .ok (.agg r.cs) W ∧ W.cell? ⟨p, 0, none⟩ = some (.slice po M.length M.length)) := fun W ho =>
    ⟨run_loadR HR.out (HA2.out.only HR.out ho (by have := HG2.out; omega)), by
      have := ((H1.out.below HB2.out).keep (ho.block p (by have := HB2.out.size; omega) (by have := HG2.out; omega))).cell 0
      simpa using this⟩
  refine wp_region_held_drew (S := fun W => (Instr.loadAt 45 (.pointer (some ⟨g1, 0, none⟩))).run Tryz.prog W = .ok (.agg r.cs) W ∧ W.cell? ⟨p, 0, none⟩ = some (.slice po M.length M.length)) (by kernel_rfl) (HSF.out _ (Only.of_below (below_drew _))) (fun hHeld => ?_)
  refine wpAnyH_take (i := 0) (oi := ⟨some 18, .load 45 (.tmp 3), 45, _, _, none⟩) (v := .agg r.cs) rfl (by kernel_rfl) (by kernel_rfl) (by kernel_rfl) (fun _ _ _ h => h) (Or.inl ⟨by rfl, fun W hW => exec_load rfl rfl hW.1⟩) hHeld ?_
  refine wpAnyH_take (i := 1) (oi := ⟨some 19, .move (.tmp 0), _, _, _, none⟩) (v := ptr p) rfl (by kernel_rfl) (by kernel_rfl) (by kernel_rfl) (fun _ _ _ h => h) (Or.inl ⟨by rfl, by intro W hW; go_simp⟩) hHeld ?_
  refine wpAnyH_take (i := 2) (oi := ⟨some 20, .nilCheck (.tmp 19), _, _, _, none⟩) (v := ptr p) rfl (by kernel_rfl) (by kernel_rfl) (by kernel_rfl) (fun _ _ _ h => h) (Or.inl ⟨by rfl, by intro W hW; go_simp⟩) hHeld ?_
  refine wpAnyH_take (i := 3) (oi := ⟨some 21, .fieldAddr 152 (.tmp 20) 0, _, _, _, none⟩) (v := .pointer (some ⟨p, 0, none⟩)) rfl (by kernel_rfl) (by kernel_rfl) (by kernel_rfl) (fun _ _ _ h => h) (Or.inl ⟨by rfl, by intro W hW; go_simp⟩) hHeld ?_
  refine wpAnyH_take (i := 4) (oi := ⟨some 22, .load 25 (.tmp 21), 25, _, _, none⟩) (v := .slice po M.length M.length) rfl (by kernel_rfl) (by kernel_rfl) (by kernel_rfl) (fun _ _ _ h => h) (Or.inl ⟨by rfl, by intro W hW; have c1 := hW.2; go_simp⟩) hHeld ?_
  refine wpAnyH_ready (rs := [5]) (by kernel_rfl) (by simp) ?_
  refine AllReadyH.cons rfl (fun K hK => ?_) AllReadyH.nil
  go_simp
  refine (fresh_any po M.length M _ (H2.out.below (below_on HB2.out (below_drew _))) (fun e => by rw [H4.out e]; rfl) (by omega)).mono ?_
  rintro e w3 ⟨v3, rfl, ho3, hb3⟩
  have HO3 := hid ho3
  have HB3 := hid (below_on (below_drew w2) hb3)
  clear ho3 hb3
  go_wp2_with fail
  refine hK.out _ _ (HSF.out _ (Only.of_below HB3.out)) (fun hHeld => ?_)
  clear hK K
  refine wpAnyH_ready (rs := [6]) (by kernel_rfl) (by simp) ?_
  refine AllReadyH.cons (o := ⟨none, .store 45 (.tmp 4) (.tmp 18), _, _, _, none⟩) rfl (fun K hK => ?_) AllReadyH.nil
  with_reducible refine step_storeR ?_ ?_ (.tmp 4) (.tmp 18) ?_ g2 ?_ (r := r) ?_ zok HR.out hone (HZ2.out.below zok HB3.out) ?_
  · exact rfl
  · exact rfl
  · exact rfl
  · kernel_rfl
  · kernel_rfl
  intro w5 h5 o5
  have H5 := hid h5
  have O5 := hid ((Only.of_below HB3.out).trans o5)
  have HO5 := hid (HO3.out.only o5 (fun i e => by have h1 := (HO3.out.blk i e).1; have h2 : w2.heap.size ≤ i := h1; have := HZ2.out.at_.lt; omega))
  clear h5 o5
  refine hK.out _ _ (HSF.out _ O5.out) (fun hHeld => ?_)
  clear hK K
  refine wpAnyH_take (i := 7) (oi := ⟨some 5, .assign (.tmp 23), 25, _, _, none⟩) (v := v3) rfl (by kernel_rfl) (by kernel_rfl) (by kernel_rfl) (fun _ _ _ h => h) (Or.inl ⟨by rfl, by intro W hW; go_simp⟩) hHeld ?_
  refine wpAnyH_take (i := 8) (oi := ⟨some 6, .assign (.const (.int .i64 0)), 29, _, _, none⟩) (v := i64 0) rfl (by kernel_rfl) (by kernel_rfl) (by kernel_rfl) (fun _ _ _ h => h) (Or.inl ⟨by rfl, by intro W hW; go_simp⟩) hHeld ?_
  refine wpAnyH_done (by kernel_rfl) ?_ _
  simp only [Act.put, List.setIfInBounds_toArray, List.set_cons_zero, List.set_cons_succ]
  go_wp2
  refine ret_row3 rfl g2 (v := v3) (x := i64 0) rfl rfl rfl rfl H5.out HR.out ⟨v3, rfl, HO5.out.base HB2.out.size, ?_⟩
  exact below_tr HB2.out (O5.out.below HB2.out.size (fun i e => by have := HG2.out; omega))
end Go.Proofs.YtcbmimjjpkkoeaaGreatDoor

/- Contract of Read of package record. -/
namespace Go.Proofs.YtcbmimjjpkkoeaaGreatDoor
open Go Go.RowKit

def ReadOk (w : World) (rc : Rc) (L : List Nat) (e : Ending) (w' : World) : Prop := ∃ (r : Rv) (ps : Ps) (out : Value), e = .returned (.tuple #[.agg r.cs, out, i64 0]) ∧ r.ok ∧ r.rc ps = rc ∧ PLF w.heap.size w' r.pv ps ∧ OutB w.heap.size w' out L ∧ Below w.heap.size w w'
set_option maxRecDepth 100000 in
set_option maxHeartbeats 400000 in
theorem read_bad (po : Option Addr) (c : Nat) (bs : List Nat) (w : World) (h : BL w po bs) (hc : bs.length ≤ c) (hn : bs.length ≤ 100000) (h8 : ∀ x ∈ bs, x < 256) (hq : rdR bs = none) :
    Calls Tryz.prog 93 #[.slice po bs.length c] w fun e w' => e = .returned (.tuple #[.agg zR.cs, .slice none 0 0, i64 4]) ∧ Below w.heap.size w w' := by
  have hro := fun w1 (hb : Below w.heap.size w w1) => readerOf_any po c bs w1 (h.below hb) hc hn h8
  have HRO := hid hro
  have HQ : Hid ((some bs).bind rdR = none) := hid hq
  clear h h8 hq hro
  go_enter Tryz.func93, Tryz.ntmps93
  go_wp2_with (first
    | ((with_reducible refine wpList_allocR rfl rfl ?_); intro w1 g1 hz1 hb1 hg1; have HZ1 := hid hz1; have HB1 := hid hb1; clear hz1 hb1)
    | (go_at_call 104; refine (HRO.out _ HB1.out).mono ?_; rintro e w2 ⟨rfl, hr2, hb2⟩; have HZ2 := hid (And.intro HZ1.out.at_.lt (HZ1.out.below zR_ok hb2)); have HB2 := hid (below_on HB1.out hb2); have HR2 := hid hr2; clear hr2 hb2 HZ1)
    | (go_at_call 106; refine (record_any _ _ _ HR2.out).mono ?_; rintro e w3 ⟨r, ps, rfl, hok, hpl, hr3, ho3, hval⟩; have HB3 := hid (below_tr HB2.out (ho3.below HB2.out.size (fun i e => by have := HB1.out.size; omega))); have HZ3 := hid (HZ2.out.2.only zR_ok ho3 (by have := HZ2.out.1; omega)); have HK := hid hok; rw [HQ.out] at hr3; have HR3 := hid hr3; clear hr3 ho3 hpl hok hval HR2)
    | (go_at_call 105; refine (toldR_bad _ _ r HK.out HR3.out).mono ?_; rintro e w4 ⟨rfl, hb4⟩; have HZ4 := hid (HZ3.out.below zR_ok hb4); have HB4 := hid (below_on HB3.out hb4); clear hb4)
    | ((with_reducible refine wpList_storeR rfl rfl _ _ rfl g1 ?_ (r := zR) ?_ zR_ok zR_ok rfl HZ4.out ?_); exact rfl; exact rfl; intro w5 h5 o5; have H5 := hid h5; have O5 := hid o5; clear h5 o5))
  refine ret_row3 rfl g1 (v := .slice none 0 0) (x := i64 4) rfl rfl rfl rfl H5.out zR_ok ⟨rfl, ?_⟩
  exact below_tr HB4.out (O5.out.below HB4.out.size (fun i e => by omega))
set_option maxRecDepth 100000 in
set_option maxHeartbeats 400000 in
theorem read_ok (po : Option Addr) (c : Nat) (bs : List Nat) (w : World) (h : BL w po bs) (hc : bs.length ≤ c) (hn : bs.length ≤ 100000) (h8 : ∀ x ∈ bs, x < 256) {rc : Rc} {L : List Nat} (hq : rdR bs = some (rc, L)) :
    Calls Tryz.prog 93 #[.slice po bs.length c] w (ReadOk w rc L) := by
  have hro := fun w1 (hb : Below w.heap.size w w1) => readerOf_any po c bs w1 (h.below hb) hc hn h8
  have HRO := hid hro
  have HQ : Hid ((some bs).bind rdR = some (rc, L)) := hid hq
  clear h h8 hq hro
  go_enter Tryz.func93, Tryz.ntmps93
  go_wp2_with (first
    | ((with_reducible refine wpList_allocR rfl rfl ?_); intro w1 g1 hz1 hb1 hg1; have HZ1 := hid hz1; have HB1 := hid hb1; clear hz1 hb1)
    | (go_at_call 104; refine (HRO.out _ HB1.out).mono ?_; rintro e w2 ⟨rfl, hr2, hb2⟩; have HZ2 := hid (And.intro HZ1.out.at_.lt (HZ1.out.below zR_ok hb2)); have HB2 := hid (below_on HB1.out hb2); have HR2 := hid hr2; clear hr2 hb2 HZ1)
    | (go_at_call 106; refine (record_any _ _ _ HR2.out).mono ?_; rintro e w3 ⟨r, ps, rfl, hok, hpl, hr3, ho3, hval⟩; have HB3 := hid (below_tr HB2.out (ho3.below HB2.out.size (fun i e => by have := HB1.out.size; omega))); have HZ3 := hid (HZ2.out.2.only zR_ok ho3 (by have := HZ2.out.1; omega)); have HK := hid hok; rw [HQ.out] at hr3; have HR3 := hid hr3; have HVAL := hid (hval _ _ HQ.out); have hone : r.pv.oneCell' = true := (by obtain ⟨_, _, _, e⟩ := hpl.form; rw [e]; rfl); have HPL := hid hpl; clear hr3 ho3 hpl hok hval HR2)
    | (go_at_call 105; refine (toldR_ok _ _ r HK.out hone L HR3.out).mono ?_; rintro e w4 ⟨out, rfl, hout, hb4⟩; have HOUT := hid hout; have HZ4 := hid (HZ3.out.below zR_ok hb4); have HB4 := hid (below_on HB3.out hb4); have HPL4 := hid (HPL.out.only (Only.of_below (S := fun _ => False) hb4) (fun _ h => h.elim)); clear hb4 hout)
    | ((with_reducible refine wpList_storeR rfl rfl _ _ rfl g1 ?_ (r := r) ?_ zR_ok HK.out hone HZ4.out ?_); exact rfl; exact rfl; intro w5 h5 o5; have H5 := hid h5; have O5 := hid o5; clear h5 o5))
  refine ret_row3 rfl g1 (v := out) (x := i64 0) rfl rfl rfl rfl H5.out HK.out ?_
  have l1 := HZ2.out.1
  have l2 := HB2.out.size
  have l3 := HB3.out.size
  have l4 := HB1.out.size
  have l5 := HZ3.out.at_.lt
  have l6 := HZ2.out.2.at_.lt
  refine ⟨r, ps, out, rfl, HK.out, HVAL.out, PLF.base (HPL4.out.only O5.out (fun i e => by omega)) l2, OutB.base (HOUT.out.only O5.out (fun i e => by have := (HOUT.out.blk i e).1; omega)) l3, ?_⟩
  exact below_tr HB4.out (O5.out.below HB4.out.size (fun i e => by omega))
#print axioms read_ok
#print axioms read_bad
end Go.Proofs.YtcbmimjjpkkoeaaGreatDoor

/- Bytes that came in. -/
namespace Go.Proofs.YtcbmimjjpkkoeaaGreatDoor
open Go Go.RowKit

theorem plain_at (a : Addr) (w : World) (h : w.cell? a ≠ none) : ∃ b o, a = ⟨b, o, none⟩ := by
  obtain ⟨b, o, sp⟩ := a
  cases sp with
  | none => exact ⟨b, o, rfl⟩
  | some s =>
    exfalso; apply h
    unfold World.cell?
    split <;> simp
theorem bounds8 {k : Int} (h : (Lit.int .u8 k).wf = true) : 0 ≤ k ∧ k ≤ 255 := by
  simp [Lit.wf, IntKind.min, IntKind.max, IntKind.signed, IntKind.bits] at h; omega
theorem wf64 {k : Int} (h : (Lit.int .i64 k).wf = true) : -9223372036854775808 ≤ k ∧ k ≤ 9223372036854775807 := by
  simp [Lit.wf, IntKind.min, IntKind.max, IntKind.signed, IntKind.bits] at h; omega
/-- What is told of bytes that came in. -/
def IsB (w : World) (a : Option Addr) (len cap : Nat) : Prop := ∃ bs : List Nat, bs.length = len ∧ len ≤ cap ∧ BL w a bs ∧ (∀ x ∈ bs, x < 256) ∧ (a = none → cap = 0)
theorem bytes_open {H : Type} {enc : TypeId × Value → H} {w : World} {held : Bool} {fuel : Nat} {a : Option Addr} {len cap : Nat} {x : DataW H × List MemPlace}
    (h : DataW.trod enc Tryz.prog w 0 (fun _ => true) held fuel 25 (Value.slice a len cap).cells.toList = some x) : IsB w a len cap := by
  rcases Go.ChangeShapes.open_ints Tryz.underlying25 Tryz.underlying5 (by kernel_rfl) h with ⟨hcs, _⟩ | ⟨ad, l, c, zs, hcs, _, hl, hm, hz, _, hcell, hwz⟩
  · simp [Value.cells] at hcs
    obtain ⟨rfl, rfl, rfl⟩ := hcs
    exact ⟨[], rfl, Nat.le_refl _, Or.inl rfl, by simp, fun _ => rfl⟩
  · simp [Value.cells] at hcs
    obtain ⟨rfl, rfl, rfl⟩ := hcs
    have hz' : zs.length = cap := by simpa using hz
    have hbd : ∀ i, i < len → 0 ≤ zs.getD i 0 ∧ zs.getD i 0 ≤ 255 := fun i hi => by
      have hlt : i < zs.length := by omega
      have e : zs.getD i 0 = zs[i] := by simp [List.getD, hlt]
      rw [e]; exact bounds8 (hwz _ (List.getElem_mem hlt))
    refine ⟨(List.range len).map fun i => (zs.getD i 0).toNat, by simp, hl, ?_, fun y hy => ?_, fun e => by cases e⟩
    · by_cases h0 : len = 0
      · subst h0; exact Or.inl rfl
      · obtain ⟨b, o, rfl⟩ := plain_at ad w (by have := hcell 0 (by omega); rw [add_zero'] at this; rw [this]; simp)
        refine Or.inr ⟨b, o, rfl, fun i hi => ?_⟩
        have hi' : i < len := by simpa using hi
        have hc := hcell i (by omega)
        rw [add_none] at hc
        rw [hc]
        have e1 : ((List.range len).map fun i => (zs.getD i 0).toNat).getD i 0 = (zs.getD i 0).toNat := by simp [List.getD, hi']
        rw [e1]; unfold u8; rw [Int.toNat_of_nonneg (hbd i hi').1]
    · obtain ⟨i, hi, rfl⟩ := List.mem_map.1 hy
      have := hbd i (by simpa using hi)
      omega
#print axioms bytes_open
end Go.Proofs.YtcbmimjjpkkoeaaGreatDoor

/- The walk of RecordNumbers, some cases. (Written by tools/gen_Vj.py.) -/
namespace Go.Proofs.YtcbmimjjpkkoeaaGreatDoor
open Go Go.RowKit
section
variable (s : ByteArray) (a : Option Addr) (cap : Nat) (bs : List Nat) (w : World)
end
end Go.Proofs.YtcbmimjjpkkoeaaGreatDoor

/- The walk of RecordNumbers, some cases. (Written by tools/gen_Vj.py.) -/
namespace Go.Proofs.YtcbmimjjpkkoeaaGreatDoor
open Go Go.RowKit
section
variable (s : ByteArray) (a : Option Addr) (cap : Nat) (bs : List Nat) (w : World)
end
end Go.Proofs.YtcbmimjjpkkoeaaGreatDoor

/- The walk of RecordNumbers, some cases. (Written by tools/gen_Vj.py.) -/
namespace Go.Proofs.YtcbmimjjpkkoeaaGreatDoor
open Go Go.RowKit
section
variable (s : ByteArray) (a : Option Addr) (cap : Nat) (bs : List Nat) (w : World)
end
end Go.Proofs.YtcbmimjjpkkoeaaGreatDoor

/- The walk of RecordNumbers, some cases. (Written by tools/gen_Vj.py.) -/
namespace Go.Proofs.YtcbmimjjpkkoeaaGreatDoor
open Go Go.RowKit
section
variable (s : ByteArray) (a : Option Addr) (cap : Nat) (bs : List Nat) (w : World)
end
end Go.Proofs.YtcbmimjjpkkoeaaGreatDoor

/- RecordNumbers, whatever comes in. -/
namespace Go.Proofs.YtcbmimjjpkkoeaaGreatDoor
open Go Go.RowKit


end Go.Proofs.YtcbmimjjpkkoeaaGreatDoor

/- Contracts of mark and awake, the examples. -/
namespace Go.Proofs.YtcbmimjjpkkoeaaGreatDoor
open Go Go.RowKit

def mk5 : Rv := mkR ⟨#[110, 117, 108, 108]⟩ 5
def mB : List Nat := [4, 110, 117, 108, 108, 5, 1]
theorem mk5_ok : mk5.ok := mkR_ok (by simp [ByteArray.size])
theorem mk5_may : okRc (mk5.rc []) = true := by kernel_rfl
theorem mk5_bytes : rcB (mk5.rc []) = mB := by kernel_rfl
theorem mk5_read : rdR (mB ++ [9]) = some (mk5.rc [], [9]) := by kernel_rfl
theorem built_mk5 : Tryz.prog.built 45 [(0, .string ⟨#[110, 117, 108, 108]⟩), (1, .int .i64 5), (2, .bool true)] = some mk5.cs := by kernel_rfl

#print axioms mk5_read
end Go.Proofs.YtcbmimjjpkkoeaaGreatDoor

/- Contract of awake, the examples. -/
namespace Go.Proofs.YtcbmimjjpkkoeaaGreatDoor
open Go Go.RowKit

abbrev c7 : Array Value := #[.int .u8 4, .int .u8 110, .int .u8 117, .int .u8 108, .int .u8 108, .int .u8 5, .int .u8 1]
theorem under5 : Tryz.prog.underlying 5 = some (.int .u8) := by kernel_rfl
theorem bl7 (w : World) (fz : Nat × Nat) : BL (w.alloc (.cells c7 5 fz)) (some ⟨w.heap.size, 0, none⟩) mB := Or.inr ⟨_, _, rfl, fun i hi => by
  have h := heap_alloc_new w (.cells c7 5 fz)
  simp only [World.cell?, h, Nat.zero_add]
  match i, hi with
  | 0, _ | 1, _ | 2, _ | 3, _ | 4, _ | 5, _ | 6, _ => rfl⟩
theorem bl9 (w : World) : BL (w.alloc (.cells #[.int .u8 9] 5)) (some ⟨w.heap.size, 0, none⟩) [9] := Or.inr ⟨_, _, rfl, fun i hi => by
  have h := heap_alloc_new w (.cells #[.int .u8 9] 5)
  simp only [World.cell?, h, Nat.zero_add]
  match i, hi with
  | 0, _ => rfl⟩
theorem grow9 (w : World) (fz : Nat × Nat) : ∃ po cc w3, (Builtin.append_ #[25, 25] 25 #[.slice (some ⟨w.heap.size, 0, none⟩) 7 7, .slice (some ⟨w.heap.size + 1, 0, none⟩) 1 1]).run Tryz.prog ((w.alloc (.cells c7 5 fz)).alloc (.cells #[.int .u8 9] 5)) = .ok (.slice po (mB ++ [9]).length cc) w3 ∧ BL w3 po (mB ++ [9]) ∧ (mB ++ [9]).length ≤ cc ∧ Below w.heap.size w w3 := by
  obtain ⟨i0, hi0, hz0, hz1, hz2⟩ := info_parts Tryz.info5
  have h7 := (bl7 w fz).below (below_al _ (.cells #[.int .u8 9] 5))
  have h9 := bl9 (w.alloc (.cells c7 5 fz))
  rw [size_al] at h9
  generalize hW : (w.alloc (.cells c7 5 fz)).alloc (.cells #[.int .u8 9] 5) = W at *
  have hr := run_append_grow (P := Tryz.prog) W 25 25 5 i0 (.int .u8 0) Tryz.underlying25 hi0 hz0 ⟨w.heap.size, 0, none⟩ 7 7 (mB.map u8) (by rw [hz1]; rfl) (fun j v hj => by
      have hjl : j < mB.length := by
        rcases Nat.lt_or_ge j mB.length with q | q
        · exact q
        · rw [List.getElem?_eq_none (by simpa using q)] at hj; cases hj
      rcases h7 with h | ⟨b, o, e2, h⟩
      · cases h
      · cases e2
        rw [add_none, h j hjl]; simp [hjl] at hj; rw [← hj]; simp [List.getD, hjl]) ⟨w.heap.size + 1, 0, none⟩ 1 1 [u8 9] (by rw [hz1]; rfl) (fun j v hj => by
      rcases h9 with h | ⟨b, o, e2, h⟩
      · cases h
      · cases e2
        match j, hj with
        | 0, hj => rw [add_none, h 0 (by decide)]; simpa using hj) (by decide) (by decide) (by rw [hz2]; decide)
  refine ⟨_, _, _, hr, Or.inr ⟨_, _, rfl, fun i hi => ?_⟩, grownCap_ge W 8 7 5, ?_⟩
  · have h := heap_alloc_new W.drew (.cells ((mB.map u8).toArray ++ [u8 9].toArray ++ Builtin.zeroCells (Value.int .u8 0).cells (grownCap W (7 + 1) 7 5 - (7 + 1))) 5)
    have e : W.drew.heap.size = W.heap.size := rfl
    rw [e] at h
    simp only [World.cell?, h, Nat.zero_add]
    rw [Array.getElem?_append_left (by simpa [mB] using hi)]
    match i, hi with
    | 0, _ | 1, _ | 2, _ | 3, _ | 4, _ | 5, _ | 6, _ | 7, _ => rfl
  · subst hW
    exact below_on (below_on (below_al _ _) (below_al _ _)) (below_on (below_drew _) (below_al _ _))
#print axioms grow9
theorem mB_lt : ∀ z ∈ mB, z < 256 := by decide
theorem mB9_lt : ∀ z ∈ mB ++ [9], z < 256 := by decide
end Go.Proofs.YtcbmimjjpkkoeaaGreatDoor

/- Contract of awake, the examples: the walk. -/
namespace Go.Proofs.YtcbmimjjpkkoeaaGreatDoor
open Go Go.RowKit

theorem step_run_ex {P : Program} {w : World} {ops : Array Oper} {o : Oper} {a : Act} {K : Act → World → Prop} {Q : Exit → Act → World → Prop} {E : Prop} (hgd : o.guard = none) (v : Value) (w' : World)
    (hr : (execOp a.eval o).run P w = .ok (.value v) w') (h : K (a.put o.dst v) w') : if Region.wanted o (yielded ops a.tmps) = true then Oper.wp P o a w K Q else E := by
  have hw : Region.wanted o (yielded ops a.tmps) = true := by simp [Region.wanted, hgd]
  rw [if_pos hw]
  unfold Oper.wp
  rw [hr]
  exact h
theorem exec_conv {a : Act} {o : Oper} {x : Operand} {v : Value} {W W' : World} (ho : o.op = .convert 25 25 x) (hx : a.eval x = v) (h : (convert 25 25 v).run Tryz.prog W = .ok v W') : (execOp a.eval o).run Tryz.prog W = .ok (.value v) W' := by
  unfold execOp
  simp only [ho, hx, Sem.run_bind, h, Result.andThen_ok, Sem.run_pure]

end Go.Proofs.YtcbmimjjpkkoeaaGreatDoor

/- RecordAgain. -/
namespace Go.Proofs.YtcbmimjjpkkoeaaGreatDoor
open Go Go.RowKit


end Go.Proofs.YtcbmimjjpkkoeaaGreatDoor

/- RecordUints: how many bytes a number has; too many bytes. -/
namespace Go.Proofs.YtcbmimjjpkkoeaaGreatDoor
open Go Go.RowKit

theorem nb_span : ∀ n : Nat, (1 < (nb n).length → 128 ^ ((nb n).length - 1) ≤ n) ∧ n < 128 ^ (nb n).length := by
  intro n
  induction n using Nat.strongRecOn with
  | _ n ih =>
    by_cases h : n < 128
    · rw [nb_lt h]; simp; omega
    · rw [nb_ge h]
      have := ih (n / 128) (by omega)
      have hp := nb_pos (n / 128)
      rw [List.length_cons]
      generalize (nb (n / 128)).length = l at *
      obtain ⟨h1, h2⟩ := this
      constructor
      · intro _
        rw [Nat.add_sub_cancel]
        by_cases hl : 1 < l
        · have h3 := h1 hl
          obtain ⟨j, rfl⟩ : ∃ j, l = j + 1 := ⟨l - 1, by omega⟩
          rw [Nat.add_sub_cancel] at h3
          rw [Nat.pow_succ]
          have := Nat.div_add_mod n 128
          have : 128 ^ j * 128 ≤ n / 128 * 128 := Nat.mul_le_mul_right _ h3
          omega
        · have : l = 1 := by omega
          subst this; omega
      · rw [Nat.pow_succ]
        have := Nat.div_add_mod n 128
        have := Nat.mod_lt n (show 0 < 128 by decide)
        have : (n / 128 + 1) * 128 ≤ 128 ^ l * 128 := Nat.mul_le_mul_right _ h2
        omega
theorem shr_eq (k s : Nat) : (k : Int) >>> s = ((k >>> s : Nat) : Int) := rfl
theorem shr_zero (k s p : Nat) (hp : 2 ^ s = p) (h : k < p) : (k : Int) >>> s = 0 := by
  rw [shr_eq, Nat.shiftRight_eq_div_pow, hp, Nat.div_eq_of_lt h]; rfl
theorem shr_pos (k s p : Nat) (hp : 2 ^ s = p) (h : p ≤ k) : ((k : Int) >>> s == 0) = false := by
  rw [shr_eq, Nat.shiftRight_eq_div_pow, hp]
  have : 0 < p := by rw [← hp]; exact Nat.two_pow_pos s
  have := Nat.div_pos h this
  simp
  omega
theorem all256 {x y : List Nat} (h : ∀ z ∈ x, z < 256) (h' : ∀ z ∈ y, z < 256) : ∀ z ∈ x ++ y, z < 256 := fun z hz => by
  rcases List.mem_append.1 hz with e | e
  · exact h z e
  · exact h' z e
#print axioms nb_span
end Go.Proofs.YtcbmimjjpkkoeaaGreatDoor

/- Contract of large. -/
namespace Go.Proofs.YtcbmimjjpkkoeaaGreatDoor
open Go Go.RowKit

theorem Rv.pv_at {r : Rv} (h : r.sum.length = 32) : r.cs[40]? = some r.pv := by
  unfold Rv.cs
  rw [Array.getElem?_append_right (by simp), Array.getElem?_append_right (by rw [sumC_size, h]; simp), sumC_size, h]
  rfl
theorem Rv.up_at {r : Rv} (h : r.sum.length = 32) : r.cs[41]? = some (.string r.up) := by
  unfold Rv.cs
  rw [Array.getElem?_append_right (by simp), Array.getElem?_append_right (by rw [sumC_size, h]; simp), sumC_size, h]
  rfl
/-- Is a record more than is gone through? -/
def bigR (r : Rv) (n : Nat) : Bool := decide (100 < n) || decide (1000 < r.id.size) || decide (1000 < r.etag.size) || decide (1000 < r.data.size) || decide (1000 < r.up.size)

end Go.Proofs.YtcbmimjjpkkoeaaGreatDoor

/- RecordBack: a record's bytes. -/
namespace Go.Proofs.YtcbmimjjpkkoeaaGreatDoor
open Go Go.RowKit

theorem psB_byte (ps : Ps) : ∀ z ∈ psB ps, z < 256 := fun z hz => by
  unfold psB at hz
  obtain ⟨l, hl, hz⟩ := List.mem_flatten.1 hz
  obtain ⟨q, _, rfl⟩ := List.mem_map.1 hl
  exact all256 (nb_byte _) (nb_byte _) z hz
theorem vB_byte (r : Rv) (hr : r.ok) (ps : Ps) : ∀ z ∈ vB r ps, z < 256 := by
  unfold vB
  exact all256 (nb_byte _) (all256 (tb_lt _) (all256 (nb_byte _) (all256 (nb_byte _) (all256 (tb_lt _) (all256 hr.s8 (all256 (nb_byte _) (all256 (psB_byte _) (tb_lt _))))))))
theorem rcB_byte (r : Rv) (hr : r.ok) (ps : Ps) : ∀ z ∈ rcB (r.rc ps), z < 256 := by
  cases hm : r.mark
  · rw [rcB_vers hm]
    exact all256 (tb_lt _) (all256 (nb_byte _) (all256 (by simp) (vB_byte r hr ps)))
  · rw [rcB_mark hm]
    exact all256 (tb_lt _) (all256 (nb_byte _) (by simp))
theorem okPs_get : ∀ {last : Int} {l : Ps}, okPs last l = true → ∀ i, i < l.length → (l.getD i (0, 0)).1 ≤ 10000 ∧ (l.getD i (0, 0)).2 ≤ 65536
  | _, [], _, i, hi => by simp at hi
  | last, p :: t, h, i, hi => by
    simp [okPs, inR] at h
    obtain ⟨⟨⟨h1, h2⟩, h3, h4⟩, h5⟩ := h
    cases i with
    | zero => simp; omega
    | succ i => simpa using okPs_get h5 i (by simpa using hi)
theorem rcB_len (r : Rv) (hr : r.ok) (ps : Ps) (h : okRc (r.rc ps) = true) : (rcB (r.rc ps)).length ≤ 1000 := by
  obtain ⟨q1, q2, q3⟩ := okRc_id h
  have l1 := tb_le (s := r.id) (by omega)
  have l2 := ib_le (n := r.time) (by omega)
  cases hm : r.mark
  · rw [rcB_vers hm]
    have hv : versOk r ps = true := by rw [okRc_vers r ps hm hr.sl] at h; simp only [Bool.and_eq_true] at h; exact h.2
    obtain ⟨a1, a2, a3, a4, a5, a6, a7, a8, a9, a10, a11⟩ := versOk_iff hv
    have e1 := ib_le (n := r.size) (by omega)
    have e2 := tb_le (s := r.etag) (by omega)
    have e3 := ib_le (n := r.k) (by omega)
    have e4 := ib_le (n := r.m) (by omega)
    have e5 := tb_le (s := r.data) (by omega)
    have e6 := nb_le (n := ps.length) (by omega)
    have e7 := psB_le (okPs_get a10) ps.length (Nat.le_refl _)
    rw [List.take_length] at e7
    have e8 := tb_le (s := r.up) (by omega)
    unfold vB
    simp only [List.length_append, hr.sl, List.length_cons, List.length_nil]
    omega
  · rw [rcB_mark hm]
    simp only [List.length_append, List.length_cons, List.length_nil]
    omega
#print axioms rcB_len
end Go.Proofs.YtcbmimjjpkkoeaaGreatDoor

/- RecordBack: the walks. -/
namespace Go.Proofs.YtcbmimjjpkkoeaaGreatDoor
open Go Go.RowKit

theorem CAt.whole {w : World} {g : Nat} {cs : Array Value} {t : TypeId} (h : CAt w g cs t) : ∀ j v, cs[j]? = some v → w.cell? ⟨g, 0 + j, none⟩ = some v := fun j v hv => by rw [Nat.zero_add, h.cell, hv]
theorem Rv.size_of {r : Rv} (h : r.sum.length = 32) : r.cs.size = 42 := by simp [Rv.cs, sumC_size, h]
/-- Two records in boxes. -/
structure Two (w W : World) (ga gb : Nat) (ra rb : Rv) : Prop where
  below : Below w.heap.size w W
  ca : CAt W ga ra.cs 45
  cb : CAt W gb rb.cs 45
theorem Two.on {w W W' : World} {ga gb : Nat} {ra rb : Rv} (h : Two w W ga gb ra rb) (hb : Below W.heap.size W W') : Two w W' ga gb ra rb := ⟨below_on h.below hb, h.ca.below hb, h.cb.below hb⟩
end Go.Proofs.YtcbmimjjpkkoeaaGreatDoor

/- Records that came in. -/
namespace Go.Proofs.YtcbmimjjpkkoeaaGreatDoor
open Go Go.RowKit

/-- What is told of a record that came in. -/
structure IsR (w : World) (r : Rv) : Prop where
  sl : r.sum.length = 32
  s8 : ∀ x ∈ r.sum, x < 256
  parts : ∃ (po : Option Addr) (c : Nat) (ps : Ps), r.pv = .slice po ps.length c ∧ ps.length ≤ c ∧ (ps = [] ∨ ∃ b o, po = some ⟨b, o, none⟩ ∧ PCells w b o ps)
set_option maxRecDepth 100000 in
theorem take1 {cs : List Value} {k : Nat} {v : Value} (h : (cs.drop k).take 1 = [v]) : cs.drop k = v :: cs.drop (k + 1) := by
  cases hd : cs.drop k with
  | nil => rw [hd] at h; cases h
  | cons a t =>
    rw [hd] at h
    have e : a = v := by simpa using h
    subst e
    have : cs.drop (k + 1) = t := by rw [← List.drop_drop, hd]; rfl
    rw [this]
section
variable {H : Type} {enc : TypeId × Value → H} {w : World} {held : Bool} {fuel : Nat}
set_option maxRecDepth 100000 in
theorem sum_read {cs : List Value} {x : DataW H × List MemPlace} (h : DataW.trod enc Tryz.prog w 0 (fun _ => true) held fuel 42 cs = some x) : ∃ l : List Nat, l.length = 32 ∧ (∀ z ∈ l, z < 256) ∧ cs = l.map u8 := by
  obtain ⟨xs, m, _, _, hcl, hxl, hf⟩ := DataW.trod_array Tryz.underlying42 h
  have h32 : cs.length = 32 := by rw [hcl]; kernel_rfl
  have k5 : Tryz.prog.cellsOf 5 = 1 := by kernel_rfl
  have each : ∀ i, i < 32 → ∃ z : Nat, z < 256 ∧ cs[i]? = some (u8 z) := fun i hi => by
    have h1 := hf i hi
    rw [k5, Nat.mul_one, List.getElem?_eq_getElem (by omega)] at h1
    obtain ⟨z, e, _, wz⟩ := DataW.trod_int Tryz.underlying5 h1
    have hb := bounds8 wz
    refine ⟨z.toNat, by omega, ?_⟩
    have e2 := congrArg (·[0]?) e
    simp only [List.getElem?_take, List.getElem?_drop] at e2
    simp at e2
    rw [e2]; unfold u8; rw [Int.toNat_of_nonneg hb.1]
  refine ⟨(List.range 32).map fun i => if h : i < 32 then (each i h).choose else 0, by simp, fun z hz => ?_, ?_⟩
  · obtain ⟨i, hi, rfl⟩ := List.mem_map.1 hz
    have hi' : i < 32 := by simpa using hi
    simp only [hi', dite_true]
    exact (each i hi').choose_spec.1
  · apply List.ext_getElem?
    intro i
    by_cases hi : i < 32
    · rw [(each i hi).choose_spec.2]
      simp [hi]
    · rw [List.getElem?_eq_none (by omega), List.getElem?_eq_none (by simp; omega)]
set_option maxRecDepth 100000 in
theorem part_read {cs : List Value} {x : DataW H × List MemPlace} (h : DataW.trod enc Tryz.prog w 0 (fun _ => true) held fuel 59 cs = some x) : ∃ a b : Int, cs = [i64 a, i64 b] := by
  obtain ⟨xs, n, _, _, hcl, hxl, hf⟩ := DataW.trod_struct Tryz.underlying59 h
  have h2 : cs.length = 2 := by rw [hcl]; kernel_rfl
  have hx2 : xs.length = 2 := by rw [hxl]; rfl
  have k3 : Tryz.prog.cellsOf 3 = 1 := by kernel_rfl
  match cs, h2, xs, hx2 with
  | [c0, c1], _, [y0, y1], _ =>
    have f0 : DataW.trod enc Tryz.prog w 0 (fun _ => true) held n 3 (([c0, c1].drop 0).take (Tryz.prog.cellsOf 3)) = some y0 := hf 0 _ rfl
    rw [k3] at f0
    have f1 : DataW.trod enc Tryz.prog w 0 (fun _ => true) held n 3 (([c0, c1].drop 1).take (Tryz.prog.cellsOf 3)) = some y1 := hf 1 _ rfl
    rw [k3] at f1
    obtain ⟨z0, e0, _, _⟩ := DataW.trod_int Tryz.underlying3 f0
    obtain ⟨z1, e1, _, _⟩ := DataW.trod_int Tryz.underlying3 f1
    simp at e0 e1
    subst e0 e1
    exact ⟨z0, z1, rfl⟩
set_option maxRecDepth 100000 in
theorem parts_read {cs : List Value} {x : DataW H × List MemPlace} (h : DataW.trod enc Tryz.prog w 0 (fun _ => true) held fuel 43 cs = some x) :
    ∃ (po : Option Addr) (c : Nat) (ps : Ps), cs = [.slice po ps.length c] ∧ ps.length ≤ c ∧ (ps = [] ∨ ∃ b o, po = some ⟨b, o, none⟩ ∧ PCells w b o ps) := by
  have k2 : Tryz.prog.cellsOf 59 = 2 := by kernel_rfl
  rcases DataW.trod_slice Tryz.underlying43 h with ⟨hcs, _⟩ | ⟨ad, l, c, elems, rest, n, _, hcs, _, _, hl, _, hlen, hel, _, _⟩
  · exact ⟨none, 0, [], hcs, Nat.le_refl _, Or.inl rfl⟩
  · rw [k2] at hel
    have each : ∀ i, i < l → ∃ a b : Int, w.cell? ((ad.add (i * 2)).add 0) = some (i64 a) ∧ w.cell? ((ad.add (i * 2)).add 1) = some (i64 b) := fun i hi => by
      have h1 := hel i hi
      rw [List.getElem?_eq_getElem (by omega)] at h1
      obtain ⟨ds, hc1, hc2⟩ := Option.bind_eq_some_iff.1 h1
      obtain ⟨a, b, rfl⟩ := part_read hc2
      obtain ⟨_, _, hcell⟩ := World.cells?_some hc1
      exact ⟨a, b, by rw [hcell 0 (by decide)]; rfl, by rw [hcell 1 (by decide)]; rfl⟩
    by_cases h0 : l = 0
    · subst h0; exact ⟨some ad, c, [], hcs, hl, Or.inl rfl⟩
    obtain ⟨a0, b0, h00, _⟩ := each 0 (by omega)
    rw [Nat.zero_mul, add_zero', add_zero'] at h00
    obtain ⟨b, o, rfl⟩ := plain_at ad w (by rw [h00]; simp)
    have each2 : ∀ i, i < l → ∃ q : Int × Int, w.cell? ⟨b, o + i * 2, none⟩ = some (i64 q.1) ∧ w.cell? ⟨b, o + i * 2 + 1, none⟩ = some (i64 q.2) := fun i hi => by
      obtain ⟨u, v, h1, h2⟩ := each i hi
      rw [add_none, add_none] at h1 h2
      exact ⟨(u, v), h1, h2⟩
    clear each
    refine ⟨_, c, (List.range l).map fun i => if h : i < l then (each2 i h).choose else (0, 0), by rw [hcs]; simp, by simpa using hl, Or.inr ⟨b, o, rfl, fun i hi => ?_⟩⟩
    have hi' : i < l := by simpa using hi
    have e := (each2 i hi').choose_spec
    have eg : ((List.range l).map fun i => if h : i < l then (each2 i h).choose else (0, 0)).getD i (0, 0) = (each2 i hi').choose := by simp [List.getD, hi']
    rw [eg]
    exact e
set_option maxRecDepth 100000 in
theorem rec_read {cs : List Value} {x : DataW H × List MemPlace} (h : DataW.trod enc Tryz.prog w 0 (fun _ => true) held fuel 45 cs = some x) : ∃ r : Rv, IsR w r ∧ cs = r.cs.toList := by
  obtain ⟨xs, n, _, _, hcl, hxl, hf⟩ := DataW.trod_struct Tryz.underlying45 h
  have h42 : cs.length = 42 := by rw [hcl]; kernel_rfl
  have hx : xs.length = 11 := by rw [hxl]; rfl
  have k3 : Tryz.prog.cellsOf 3 = 1 := by kernel_rfl
  have k9 : Tryz.prog.cellsOf 9 = 1 := by kernel_rfl
  have k4 : Tryz.prog.cellsOf 4 = 1 := by kernel_rfl
  have kD : Tryz.prog.cellsOf 42 = 32 := by kernel_rfl
  have kP : Tryz.prog.cellsOf 43 = 1 := by kernel_rfl
  match xs, hx with
  | [y0, y1, y2, y3, y4, y5, y6, y7, y8, y9, y10], _ =>
    have f0 : DataW.trod enc Tryz.prog w 0 (fun _ => true) held n 9 ((cs.drop 0).take (Tryz.prog.cellsOf 9)) = some y0 := hf 0 _ rfl
    have f1 : DataW.trod enc Tryz.prog w 0 (fun _ => true) held n 3 ((cs.drop 1).take (Tryz.prog.cellsOf 3)) = some y1 := hf 1 _ rfl
    have f2 : DataW.trod enc Tryz.prog w 0 (fun _ => true) held n 4 ((cs.drop 2).take (Tryz.prog.cellsOf 4)) = some y2 := hf 2 _ rfl
    have f3 : DataW.trod enc Tryz.prog w 0 (fun _ => true) held n 3 ((cs.drop 3).take (Tryz.prog.cellsOf 3)) = some y3 := hf 3 _ rfl
    have f4 : DataW.trod enc Tryz.prog w 0 (fun _ => true) held n 9 ((cs.drop 4).take (Tryz.prog.cellsOf 9)) = some y4 := hf 4 _ rfl
    have f5 : DataW.trod enc Tryz.prog w 0 (fun _ => true) held n 3 ((cs.drop 5).take (Tryz.prog.cellsOf 3)) = some y5 := hf 5 _ rfl
    have f6 : DataW.trod enc Tryz.prog w 0 (fun _ => true) held n 3 ((cs.drop 6).take (Tryz.prog.cellsOf 3)) = some y6 := hf 6 _ rfl
    have f7 : DataW.trod enc Tryz.prog w 0 (fun _ => true) held n 9 ((cs.drop 7).take (Tryz.prog.cellsOf 9)) = some y7 := hf 7 _ rfl
    have f8 : DataW.trod enc Tryz.prog w 0 (fun _ => true) held n 42 ((cs.drop 8).take (Tryz.prog.cellsOf 42)) = some y8 := hf 8 _ rfl
    have f9 : DataW.trod enc Tryz.prog w 0 (fun _ => true) held n 43 ((cs.drop 40).take (Tryz.prog.cellsOf 43)) = some y9 := hf 9 _ rfl
    have f10 : DataW.trod enc Tryz.prog w 0 (fun _ => true) held n 9 ((cs.drop 41).take (Tryz.prog.cellsOf 9)) = some y10 := hf 10 _ rfl
    rw [k9] at f0 f4 f7 f10
    rw [k3] at f1 f3 f5 f6
    rw [k4] at f2
    rw [kD] at f8
    rw [kP] at f9
    obtain ⟨s0, e0, _, _⟩ := DataW.trod_string Tryz.underlying9 f0
    obtain ⟨z1, e1, _, _⟩ := DataW.trod_int Tryz.underlying3 f1
    obtain ⟨b2, e2, _⟩ := DataW.trod_bool Tryz.underlying4 f2
    obtain ⟨z3, e3, _, _⟩ := DataW.trod_int Tryz.underlying3 f3
    obtain ⟨s4, e4, _, _⟩ := DataW.trod_string Tryz.underlying9 f4
    obtain ⟨z5, e5, _, _⟩ := DataW.trod_int Tryz.underlying3 f5
    obtain ⟨z6, e6, _, _⟩ := DataW.trod_int Tryz.underlying3 f6
    obtain ⟨s7, e7, _, _⟩ := DataW.trod_string Tryz.underlying9 f7
    obtain ⟨l8, hl8, h8, e8⟩ := sum_read f8
    obtain ⟨po, c, ps, e9, hc, hp⟩ := parts_read f9
    obtain ⟨s10, e10, _, _⟩ := DataW.trod_string Tryz.underlying9 f10
    refine ⟨⟨s0, z1, b2, z3, s4, z5, z6, s7, l8, .slice po ps.length c, s10⟩, ⟨hl8, h8, po, c, ps, rfl, hc, hp⟩, ?_⟩
    have d8 : cs.drop 8 = l8.map u8 ++ cs.drop 40 := by
      have := (List.take_append_drop 32 (cs.drop 8)).symm
      rw [e8, List.drop_drop] at this
      exact this
    have d42 : cs.drop 42 = [] := List.drop_of_length_le (by omega)
    rw [Rv.toL]
    have := take1 e0
    rw [List.drop_zero] at this
    rw [this, take1 e1, take1 e2, take1 e3, take1 e4, take1 e5, take1 e6, take1 e7, d8, take1 e9, take1 e10, d42]
    rfl
end
#print axioms rec_read
end Go.Proofs.YtcbmimjjpkkoeaaGreatDoor

/- RecordBack, whatever comes in. -/
namespace Go.Proofs.YtcbmimjjpkkoeaaGreatDoor
open Go Go.RowKit

theorem bigR_no {r : Rv} {n : Nat} (h : ¬ bigR r n = true) : n ≤ 100 ∧ r.id.size ≤ 1000 ∧ r.etag.size ≤ 1000 ∧ r.data.size ≤ 1000 ∧ r.up.size ≤ 1000 := by
  simp [bigR] at h; omega

end Go.Proofs.YtcbmimjjpkkoeaaGreatDoor
