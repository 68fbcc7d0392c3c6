/- Contract of told of package record, for records. -/
import Derived.Test.YtepkpkbgmchioaaWf
import Derived.Test.YtepkpkbgmchioaaVj
namespace Go.Proofs.Ytepkpkbgmchioaa
open Go Go.RowKit

theorem step_storeR {w : World} {ops : Array Oper} {o : Oper} {a : Act} {K : Act → World → Prop} {Q : Exit → Act → World → Prop} {E : Prop} (hgd : o.guard = none) (hdst : o.dst = none) (x y : Operand) (ho : o.op = .store 45 x y) (g : Nat) (hx : a.eval x = ptr g) {r0 r : Rv} (hy : a.eval y = .agg r.cs) (h0 : r0.ok) (hr : r.ok) (hpv : r.pv.oneCell' = true) (hb : RBox w g r0)
    (h : ∀ w1, RBox w1 g r → Only (fun b => b = g) w w1 → K a w1) : if Region.wanted o (yielded ops a.tmps) = true then Oper.wp Try.prog o a w K Q else E := by
  have hw : Region.wanted o (yielded ops a.tmps) = true := by simp [Region.wanted, hgd]
  rw [if_pos hw]
  obtain ⟨e1, e2⟩ := run_storeR h0 hr hpv hb
  unfold Oper.wp execOp
  simp only [ho, hx, hy, ptr, Sem.run_bind, e1, Result.andThen_ok, Sem.run_pure]
  show K (a.put o.dst undef) _
  rw [hdst]
  exact h _ e2 (only_setRow _ _ _ rfl)
theorem ret_row3 {fn : Func} {q u t : Tmp} (h : fn.results = #[.cell q 45, .tmp u, .tmp t]) {R : Ending → World → Prop} {a : Act} {w : World} (g : Nat) {r : Rv} {v x : Value}
    (hd0 : a.defers = []) (hp : a.tmps.getD q undef = .pointer (some ⟨g, 0, none⟩)) (hv : a.tmps.getD u undef = v) (hx : a.tmps.getD t undef = x) (hb : RBox w g r) (hr : r.ok) (hR : R (.returned (.tuple #[.agg r.cs, v, x])) w) : bodyPost Try.prog fn R .ret a w := by
  refine ⟨hd0, .tuple #[.agg r.cs, v, x], ?_, hR⟩
  have hl := run_loadVar_row (P := Try.prog) w g 45 45 r.cs (0, 0) _ hb.at_ underRec rfl (by rw [hr.size]; exact sizeR)
  simp only [results, h]
  simp only [Array.getD_eq_getD_getElem?] at hp hv hx
  simp [Result.andThen, hp, hv, hx, asAddr, hl]
set_option maxRecDepth 100000 in
set_option maxHeartbeats 300000 in
theorem toldR_bad (w : World) (p : Nat) (r : Rv) (hr : r.ok) (h : Rd w p none) : Calls Try.prog 54 #[ptr p, .agg r.cs] w fun e w' => e = .returned (.tuple #[.agg zR.cs, .slice none 0 0, i64 4]) ∧ Below w.heap.size w w' := by
  have hp := h.lt
  obtain ⟨po, L, h1, hrest⟩ := h
  clear hrest
  have H1 := hid h1
  obtain ⟨Z, hZ⟩ : ∃ Z, zR = Z := ⟨_, rfl⟩
  have zok : Z.ok := hZ ▸ zR_ok
  have zone : Z.pv.oneCell' = true := hZ ▸ rfl
  have HZZ := hid hZ
  have HR := hid hr
  clear h1 hr hZ
  go_enter Try.func54, Try.ntmps54
  go_wp2_with (first
    | ((with_reducible refine wpList_boxR rfl _ rfl r.cs ?_ ?_); exact rfl; intro w1 g1 hc1 hb1 hg1; have HB1 := hid hb1; clear hc1 hb1)
    | ((with_reducible refine wpList_allocR rfl rfl ?_); intro w2 g2 hz2 hb2 hg2; rw [HZZ.out] at hz2; have HZ2 := hid hz2; have HB2 := hid (below_on HB1.out hb2); have HG2 := hid (show w.heap.size ≤ g2 by have := HB1.out.size; omega); clear hz2 hb2 hg2 HB1; have c1 := (H1.out.below HB2.out).cell 1; simp at c1)
    | ((with_reducible refine wpList_allocR rfl rfl ?_); intro w3 g3 hz3 hb3 hg3; rw [HZZ.out] at hz3; have HZ3 := hid hz3; have HG3 := hid (show g2 < g3 by have := HZ2.out.at_.lt; omega); have HB3 := hid (below_on HB2.out hb3); have HZ4 := hid (HZ2.out.below zok hb3); clear hz3 hb3 hg3 HZ2 HB2 c1))
  have HSF : Hid (∀ W, Only (fun b => b = g2) w3 W → (Instr.loadAt 45 (.pointer (some ⟨g3, 0, none⟩))).run Try.prog W = .ok (.agg Z.cs) W ∧ W.cell? ⟨p, 1, none⟩ = some (i64 4)) := fun W ho =>
    ⟨run_loadR zok (HZ3.out.only zok ho (by have := HG3.out; omega)), by
      have := ((H1.out.below HB3.out).keep (ho.block p (by have := HB3.out.size; omega) (by have := HG2.out; omega))).cell 1
      simpa using this⟩
  refine wp_region_held_drew (S := fun W => (Instr.loadAt 45 (.pointer (some ⟨g3, 0, none⟩))).run Try.prog W = .ok (.agg Z.cs) W ∧ W.cell? ⟨p, 1, none⟩ = some (i64 4)) (by kernel_rfl) (HSF.out _ (Only.of_below (below_drew _))) (fun hHeld => ?_)
  refine wpAnyH_take (i := 0) (oi := ⟨some 13, .load 45 (.tmp 7), 45, _, _, none⟩) (v := .agg Z.cs) rfl (by kernel_rfl) (by kernel_rfl) (by kernel_rfl) (fun _ _ _ h => h) (Or.inl ⟨by rfl, fun W hW => exec_load rfl rfl hW.1⟩) hHeld ?_
  refine wpAnyH_take (i := 1) (oi := ⟨some 14, .move (.tmp 0), 66, _, _, none⟩) (v := ptr p) rfl (by kernel_rfl) (by kernel_rfl) (by kernel_rfl) (fun _ _ _ h => h) (Or.inl ⟨by rfl, by intro W hW; go_simp⟩) hHeld ?_
  refine wpAnyH_take (i := 2) (oi := ⟨some 15, .nilCheck (.tmp 14), 0, _, _, none⟩) (v := ptr p) rfl (by kernel_rfl) (by kernel_rfl) (by kernel_rfl) (fun _ _ _ h => h) (Or.inl ⟨by rfl, by intro W hW; go_simp⟩) hHeld ?_
  refine wpAnyH_take (i := 3) (oi := ⟨some 16, .fieldAddr 83 (.tmp 15) 1, 0, _, _, none⟩) (v := .pointer (some ⟨p, 1, none⟩)) rfl (by kernel_rfl) (by kernel_rfl) (by kernel_rfl) (fun _ _ _ h => h) (Or.inl ⟨by rfl, by intro W hW; go_simp⟩) hHeld ?_
  refine wpAnyH_take (i := 4) (oi := ⟨some 17, .load 23 (.tmp 16), 23, _, _, none⟩) (v := i64 4) rfl (by kernel_rfl) (by kernel_rfl) (by kernel_rfl) (fun _ _ _ h => h) (Or.inl ⟨by rfl, by intro W hW; have c1 := hW.2; go_simp⟩) hHeld ?_
  refine wpAnyH_ready (rs := [5]) (by kernel_rfl) (by simp) ?_
  refine AllReadyH.cons (o := ⟨none, .store 45 (.tmp 4) (.tmp 13), _, _, _, none⟩) rfl (fun K hK => ?_) AllReadyH.nil
  with_reducible refine step_storeR ?_ ?_ (.tmp 4) (.tmp 13) ?_ g2 ?_ (r := Z) ?_ zok zok zone (HZ4.out.below zok (below_drew _)) ?_
  · exact rfl
  · exact rfl
  · exact rfl
  · kernel_rfl
  · kernel_rfl
  intro w5 h5 o5
  have H5 := hid h5
  have O5 := hid ((Only.of_below (below_drew w3)).trans o5)
  clear h5 o5
  refine hK.out _ _ (HSF.out _ O5.out) (fun hHeld => ?_)
  clear hK K
  refine wpAnyH_take (i := 6) (oi := ⟨some 5, .assign (.const (.slice none 0 0)), 22, _, _, none⟩) (v := .slice none 0 0) rfl (by kernel_rfl) (by kernel_rfl) (by kernel_rfl) (fun _ _ _ h => h) (Or.inl ⟨by rfl, by intro W hW; go_simp⟩) hHeld ?_
  refine wpAnyH_take (i := 7) (oi := ⟨some 6, .assign (.tmp 17), 23, _, _, none⟩) (v := i64 4) rfl (by kernel_rfl) (by kernel_rfl) (by kernel_rfl) (fun _ _ _ h => h) (Or.inl ⟨by rfl, by intro W hW; go_simp⟩) hHeld ?_
  refine wpAnyH_done (by kernel_rfl) ?_ _
  simp only [Act.put, List.setIfInBounds_toArray, List.set_cons_zero, List.set_cons_succ]
  go_wp2
  refine ret_row3 rfl g2 (v := .slice none 0 0) (x := i64 4) rfl rfl rfl rfl H5.out zok ⟨by rw [HZZ.out], ?_⟩
  exact below_tr HB3.out (O5.out.below HB3.out.size (fun i e => by have := HG2.out; omega))
def TolR (w : World) (L : List Nat) (r : Rv) (e : Ending) (w' : World) : Prop := ∃ out, e = .returned (.tuple #[.agg r.cs, out, i64 0]) ∧ OutB w.heap.size w' out L ∧ Below w.heap.size w w'
set_option maxRecDepth 100000 in
set_option maxHeartbeats 300000 in
theorem toldR_ok (w : World) (p : Nat) (r : Rv) (hr : r.ok) (hone : r.pv.oneCell' = true) (M : List Nat) (h : Rd w p (some M)) : Calls Try.prog 54 #[ptr p, .agg r.cs] w (TolR w M r) := by
  have hp := h.lt
  obtain ⟨po, L, h1, h2, h3, h4, h5, h6, h7⟩ := h
  have e : M = L := by rcases h5 with h | h <;> cases h; rfl
  subst e
  have H1 := hid h1
  have H2 := hid h2
  have H4 := hid h4
  obtain ⟨Z, hZ⟩ : ∃ Z, zR = Z := ⟨_, rfl⟩
  have zok : Z.ok := hZ ▸ zR_ok
  have HZZ := hid hZ
  have HR := hid hr
  clear h1 hr hZ h2 h3 h4 h5 h7
  go_enter Try.func54, Try.ntmps54
  go_wp2_with (first
    | ((with_reducible refine wpList_boxR rfl _ rfl r.cs ?_ ?_); exact rfl; intro w1 g1 hc1 hb1 hg1; have HA1 := hid (RBox.mk' HR.out hc1); have HB1 := hid hb1; clear hc1 hb1)
    | ((with_reducible refine wpList_allocR rfl rfl ?_); intro w2 g2 hz2 hb2 hg2; rw [HZZ.out] at hz2; have HZ2 := hid hz2; have HA2 := hid (HA1.out.below HR.out hb2); have HB2 := hid (below_on HB1.out hb2); have HG2 := hid (show w.heap.size ≤ g2 ∧ g1 < g2 by have := HB1.out.size; have := HA1.out.at_.lt; omega); clear hz2 hb2 hg2 HB1 HA1; have c1 := (H1.out.below HB2.out).cell 1; simp at c1))
  clear c1
  have HSF : Hid (∀ W, Only (fun b => b = g2) w2 W → (Instr.loadAt 45 (.pointer (some ⟨g1, 0, none⟩))).run Try.prog W = .ok (.agg r.cs) W ∧ W.cell? ⟨p, 0, none⟩ = some (.slice po M.length M.length)) := fun W ho =>
    ⟨run_loadR HR.out (HA2.out.only HR.out ho (by have := HG2.out; omega)), by
      have := ((H1.out.below HB2.out).keep (ho.block p (by have := HB2.out.size; omega) (by have := HG2.out; omega))).cell 0
      simpa using this⟩
  refine wp_region_held_drew (S := fun W => (Instr.loadAt 45 (.pointer (some ⟨g1, 0, none⟩))).run Try.prog W = .ok (.agg r.cs) W ∧ W.cell? ⟨p, 0, none⟩ = some (.slice po M.length M.length)) (by kernel_rfl) (HSF.out _ (Only.of_below (below_drew _))) (fun hHeld => ?_)
  refine wpAnyH_take (i := 0) (oi := ⟨some 18, .load 45 (.tmp 3), 45, _, _, none⟩) (v := .agg r.cs) rfl (by kernel_rfl) (by kernel_rfl) (by kernel_rfl) (fun _ _ _ h => h) (Or.inl ⟨by rfl, fun W hW => exec_load rfl rfl hW.1⟩) hHeld ?_
  refine wpAnyH_take (i := 1) (oi := ⟨some 19, .move (.tmp 0), 66, _, _, none⟩) (v := ptr p) rfl (by kernel_rfl) (by kernel_rfl) (by kernel_rfl) (fun _ _ _ h => h) (Or.inl ⟨by rfl, by intro W hW; go_simp⟩) hHeld ?_
  refine wpAnyH_take (i := 2) (oi := ⟨some 20, .nilCheck (.tmp 19), 0, _, _, none⟩) (v := ptr p) rfl (by kernel_rfl) (by kernel_rfl) (by kernel_rfl) (fun _ _ _ h => h) (Or.inl ⟨by rfl, by intro W hW; go_simp⟩) hHeld ?_
  refine wpAnyH_take (i := 3) (oi := ⟨some 21, .fieldAddr 83 (.tmp 20) 0, 0, _, _, none⟩) (v := .pointer (some ⟨p, 0, none⟩)) rfl (by kernel_rfl) (by kernel_rfl) (by kernel_rfl) (fun _ _ _ h => h) (Or.inl ⟨by rfl, by intro W hW; go_simp⟩) hHeld ?_
  refine wpAnyH_take (i := 4) (oi := ⟨some 22, .load 22 (.tmp 21), 22, _, _, none⟩) (v := .slice po M.length M.length) rfl (by kernel_rfl) (by kernel_rfl) (by kernel_rfl) (fun _ _ _ h => h) (Or.inl ⟨by rfl, by intro W hW; have c1 := hW.2; go_simp⟩) hHeld ?_
  refine wpAnyH_ready (rs := [5]) (by kernel_rfl) (by simp) ?_
  refine AllReadyH.cons rfl (fun K hK => ?_) AllReadyH.nil
  go_simp
  refine (fresh_any po M.length M _ (H2.out.below (below_on HB2.out (below_drew _))) (fun e => by rw [H4.out e]; rfl) (by omega)).mono ?_
  rintro e w3 ⟨v3, rfl, ho3, hb3⟩
  have HO3 := hid ho3
  have HB3 := hid (below_on (below_drew w2) hb3)
  clear ho3 hb3
  go_wp2_with fail
  refine hK.out _ _ (HSF.out _ (Only.of_below HB3.out)) (fun hHeld => ?_)
  clear hK K
  refine wpAnyH_ready (rs := [6]) (by kernel_rfl) (by simp) ?_
  refine AllReadyH.cons (o := ⟨none, .store 45 (.tmp 4) (.tmp 18), _, _, _, none⟩) rfl (fun K hK => ?_) AllReadyH.nil
  with_reducible refine step_storeR ?_ ?_ (.tmp 4) (.tmp 18) ?_ g2 ?_ (r := r) ?_ zok HR.out hone (HZ2.out.below zok HB3.out) ?_
  · exact rfl
  · exact rfl
  · exact rfl
  · kernel_rfl
  · kernel_rfl
  intro w5 h5 o5
  have H5 := hid h5
  have O5 := hid ((Only.of_below HB3.out).trans o5)
  have HO5 := hid (HO3.out.only o5 (fun i e => by have h1 := (HO3.out.blk i e).1; have h2 : w2.heap.size ≤ i := h1; have := HZ2.out.at_.lt; omega))
  clear h5 o5
  refine hK.out _ _ (HSF.out _ O5.out) (fun hHeld => ?_)
  clear hK K
  refine wpAnyH_take (i := 7) (oi := ⟨some 5, .assign (.tmp 23), 22, _, _, none⟩) (v := v3) rfl (by kernel_rfl) (by kernel_rfl) (by kernel_rfl) (fun _ _ _ h => h) (Or.inl ⟨by rfl, by intro W hW; go_simp⟩) hHeld ?_
  refine wpAnyH_take (i := 8) (oi := ⟨some 6, .assign (.const (.int .i64 0)), 23, _, _, none⟩) (v := i64 0) rfl (by kernel_rfl) (by kernel_rfl) (by kernel_rfl) (fun _ _ _ h => h) (Or.inl ⟨by rfl, by intro W hW; go_simp⟩) hHeld ?_
  refine wpAnyH_done (by kernel_rfl) ?_ _
  simp only [Act.put, List.setIfInBounds_toArray, List.set_cons_zero, List.set_cons_succ]
  go_wp2
  refine ret_row3 rfl g2 (v := v3) (x := i64 0) rfl rfl rfl rfl H5.out HR.out ⟨v3, rfl, HO5.out.base HB2.out.size, ?_⟩
  exact below_tr HB2.out (O5.out.below HB2.out.size (fun i e => by have := HG2.out; omega))
end Go.Proofs.Ytepkpkbgmchioaa
