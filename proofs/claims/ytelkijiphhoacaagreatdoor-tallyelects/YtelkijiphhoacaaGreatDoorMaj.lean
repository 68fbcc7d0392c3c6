/- Texts laid into one, cut to what is needed: the remark ahead of each part says what is proved there. -/
import Derived.Test.YtelkijiphhoacaaGreatDoorMai
import Derived.Test.YtelkijiphhoacaaGreatDoorMad
import Derived.ChangeArms
import Derived.ChangeSlices
import Derived.OpenShut
import Derived.Lib.SlBytesConst
import Derived.Deep.Cut
import Derived.Laws.OwnMore
import Derived.Test.YtelkijiphhoacaaGreatDoorMab
import Derived.Deep.MidRow
/- Contract of told of package record, for records. -/
namespace Go.Proofs.YtelkijiphhoacaaGreatDoor
open Go Go.RowKit

theorem step_storeR {w : World} {ops : Array Oper} {o : Oper} {a : Act} {K : Act → World → Prop} {Q : Exit → Act → World → Prop} {E : Prop} (hgd : o.guard = none) (hdst : o.dst = none) (x y : Operand) (ho : o.op = .store 74 x y) (g : Nat) (hx : a.eval x = ptr g) {r0 r : Rv} (hy : a.eval y = .agg r.cs) (h0 : r0.ok) (hr : r.ok) (hpv : r.pv.oneCell' = true) (hb : RBox w g r0)
    (h : ∀ w1, RBox w1 g r → Only (fun b => b = g) w w1 → K a w1) : if Region.wanted o (yielded ops a.tmps) = true then Oper.wp Tryz.prog o a w K Q else E := by
  have hw : Region.wanted o (yielded ops a.tmps) = true := by simp [Region.wanted, hgd]
  rw [if_pos hw]
  obtain ⟨e1, e2⟩ := run_storeR h0 hr hpv hb
  unfold Oper.wp execOp
  simp only [ho, hx, hy, ptr, Sem.run_bind, e1, Result.andThen_ok, Sem.run_pure]
  show K (a.put o.dst undef) _
  rw [hdst]
  exact h _ e2 (only_setRow _ _ _ rfl)
theorem ret_row3 {fn : Func} {q u t : Tmp} (h : fn.results = #[.cell q 74, .tmp u, .tmp t]) {R : Ending → World → Prop} {a : Act} {w : World} (g : Nat) {r : Rv} {v x : Value}
    (hd0 : a.defers = []) (hp : a.tmps.getD q undef = .pointer (some ⟨g, 0, none⟩)) (hv : a.tmps.getD u undef = v) (hx : a.tmps.getD t undef = x) (hb : RBox w g r) (hr : r.ok) (hR : R (.returned (.tuple #[.agg r.cs, v, x])) w) : bodyPost Tryz.prog fn R .ret a w := by
  refine ⟨hd0, .tuple #[.agg r.cs, v, x], ?_, hR⟩
  have hl := run_loadVar_row (P := Tryz.prog) w g 74 74 r.cs (0, 0) _ hb.at_ underRec rfl (by rw [hr.size]; exact sizeR)
  simp only [results, h]
  simp only [Array.getD_eq_getD_getElem?] at hp hv hx
  simp [Result.andThen, hp, hv, hx, asAddr, hl]
set_option maxRecDepth 100000 in
set_option maxHeartbeats 300000 in
theorem toldR_bad (w : World) (p : Nat) (r : Rv) (hr : r.ok) (h : Rd w p none) : Calls Tryz.prog 96 #[ptr p, .agg r.cs] w fun e w' => e = .returned (.tuple #[.agg zR.cs, .slice none 0 0, i64 4]) ∧ Below w.heap.size w w' := by
  have hp := h.lt
  obtain ⟨po, L, h1, hrest⟩ := h
  clear hrest
  have H1 := hid h1
  obtain ⟨Z, hZ⟩ : ∃ Z, zR = Z := ⟨_, rfl⟩
  have zok : Z.ok := hZ ▸ zR_ok
  have zone : Z.pv.oneCell' = true := hZ ▸ rfl
  have HZZ := hid hZ
  have HR := hid hr
  clear h1 hr hZ
  go_enter Tryz.func96, Tryz.ntmps96
  go_wp2_with (first
    | ((with_reducible refine wpList_boxR rfl _ rfl r.cs ?_ ?_); exact rfl; intro w1 g1 hc1 hb1 hg1; have HB1 := hid hb1; clear hc1 hb1)
    | ((with_reducible refine wpList_allocR rfl rfl ?_); intro w2 g2 hz2 hb2 hg2; rw [HZZ.out] at hz2; have HZ2 := hid hz2; have HB2 := hid (below_on HB1.out hb2); have HG2 := hid (show w.heap.size ≤ g2 by have := HB1.out.size; omega); clear hz2 hb2 hg2 HB1; have c1 := (H1.out.below HB2.out).cell 1; simp at c1)
    | ((with_reducible refine wpList_allocR rfl rfl ?_); intro w3 g3 hz3 hb3 hg3; rw [HZZ.out] at hz3; have HZ3 := hid hz3; have HG3 := hid (show g2 < g3 by have := HZ2.out.at_.lt; omega); have HB3 := hid (below_on HB2.out hb3); have HZ4 := hid (HZ2.out.below zok hb3); clear hz3 hb3 hg3 HZ2 HB2 c1))
  have HSF : Hid (∀ W, Only (fun b => b = g2) w3 W → (Instr.loadAt 74 (.pointer (some ⟨g3, 0, none⟩))).run Tryz.prog W = .ok (.agg Z.cs) W ∧ W.cell? ⟨p, 1, none⟩ = some (i64 4)) := fun W ho =>
    ⟨run_loadR zok (HZ3.out.only zok ho (by have := HG3.out; omega)), by
      have := ((H1.out.below HB3.out).keep (ho.block p (by have := HB3.out.size; omega) (by have := HG2.out; omega))).cell 1
      simpa using this⟩
  refine wp_region_held_drew (S := fun W => (Instr.loadAt 74 (.pointer (some ⟨g3, 0, none⟩))).run Tryz.prog W = .ok (.agg Z.cs) W ∧ W.cell? ⟨p, 1, none⟩ = some (i64 4)) (by kernel_rfl) (HSF.out _ (Only.of_below (below_drew _))) (fun hHeld => ?_)
  refine wpAnyH_take (i := 0) (oi := ⟨some 13, .load 74 (.tmp 7), 74, _, _, none⟩) (v := .agg Z.cs) rfl (by kernel_rfl) (by kernel_rfl) (by kernel_rfl) (fun _ _ _ h => h) (Or.inl ⟨by rfl, fun W hW => exec_load rfl rfl hW.1⟩) hHeld ?_
  refine wpAnyH_take (i := 1) (oi := ⟨some 14, .move (.tmp 0), _, _, _, none⟩) (v := ptr p) rfl (by kernel_rfl) (by kernel_rfl) (by kernel_rfl) (fun _ _ _ h => h) (Or.inl ⟨by rfl, by intro W hW; go_simp⟩) hHeld ?_
  refine wpAnyH_take (i := 2) (oi := ⟨some 15, .nilCheck (.tmp 14), _, _, _, none⟩) (v := ptr p) rfl (by kernel_rfl) (by kernel_rfl) (by kernel_rfl) (fun _ _ _ h => h) (Or.inl ⟨by rfl, by intro W hW; go_simp⟩) hHeld ?_
  refine wpAnyH_take (i := 3) (oi := ⟨some 16, .fieldAddr 165 (.tmp 15) 1, _, _, _, none⟩) (v := .pointer (some ⟨p, 1, none⟩)) rfl (by kernel_rfl) (by kernel_rfl) (by kernel_rfl) (fun _ _ _ h => h) (Or.inl ⟨by rfl, by intro W hW; go_simp⟩) hHeld ?_
  refine wpAnyH_take (i := 4) (oi := ⟨some 17, .load 32 (.tmp 16), 32, _, _, none⟩) (v := i64 4) rfl (by kernel_rfl) (by kernel_rfl) (by kernel_rfl) (fun _ _ _ h => h) (Or.inl ⟨by rfl, by intro W hW; have c1 := hW.2; go_simp⟩) hHeld ?_
  refine wpAnyH_ready (rs := [5]) (by kernel_rfl) (by simp) ?_
  refine AllReadyH.cons (o := ⟨none, .store 74 (.tmp 4) (.tmp 13), _, _, _, none⟩) rfl (fun K hK => ?_) AllReadyH.nil
  with_reducible refine step_storeR ?_ ?_ (.tmp 4) (.tmp 13) ?_ g2 ?_ (r := Z) ?_ zok zok zone (HZ4.out.below zok (below_drew _)) ?_
  · exact rfl
  · exact rfl
  · exact rfl
  · kernel_rfl
  · kernel_rfl
  intro w5 h5 o5
  have H5 := hid h5
  have O5 := hid ((Only.of_below (below_drew w3)).trans o5)
  clear h5 o5
  refine hK.out _ _ (HSF.out _ O5.out) (fun hHeld => ?_)
  clear hK K
  refine wpAnyH_take (i := 6) (oi := ⟨some 5, .assign (.const (.slice none 0 0)), 28, _, _, none⟩) (v := .slice none 0 0) rfl (by kernel_rfl) (by kernel_rfl) (by kernel_rfl) (fun _ _ _ h => h) (Or.inl ⟨by rfl, by intro W hW; go_simp⟩) hHeld ?_
  refine wpAnyH_take (i := 7) (oi := ⟨some 6, .assign (.tmp 17), 32, _, _, none⟩) (v := i64 4) rfl (by kernel_rfl) (by kernel_rfl) (by kernel_rfl) (fun _ _ _ h => h) (Or.inl ⟨by rfl, by intro W hW; go_simp⟩) hHeld ?_
  refine wpAnyH_done (by kernel_rfl) ?_ _
  simp only [Act.put, List.setIfInBounds_toArray, List.set_cons_zero, List.set_cons_succ]
  go_wp2
  refine ret_row3 rfl g2 (v := .slice none 0 0) (x := i64 4) rfl rfl rfl rfl H5.out zok ⟨by rw [HZZ.out], ?_⟩
  exact below_tr HB3.out (O5.out.below HB3.out.size (fun i e => by have := HG2.out; omega))
def TolR (w : World) (L : List Nat) (r : Rv) (e : Ending) (w' : World) : Prop := ∃ out, e = .returned (.tuple #[.agg r.cs, out, i64 0]) ∧ OutB w.heap.size w' out L ∧ Below w.heap.size w w'
set_option maxRecDepth 100000 in
set_option maxHeartbeats 300000 in
theorem toldR_ok (w : World) (p : Nat) (r : Rv) (hr : r.ok) (hone : r.pv.oneCell' = true) (M : List Nat) (h : Rd w p (some M)) : Calls Tryz.prog 96 #[ptr p, .agg r.cs] w (TolR w M r) := by
  have hp := h.lt
  obtain ⟨po, L, h1, h2, h3, h4, h5, h6, h7⟩ := h
  have e : M = L := by rcases h5 with h | h <;> cases h; rfl
  subst e
  have H1 := hid h1
  have H2 := hid h2
  have H4 := hid h4
  obtain ⟨Z, hZ⟩ : ∃ Z, zR = Z := ⟨_, rfl⟩
  have zok : Z.ok := hZ ▸ zR_ok
  have HZZ := hid hZ
  have HR := hid hr
  clear h1 hr hZ h2 h3 h4 h5 h7
  go_enter Tryz.func96, Tryz.ntmps96
  go_wp2_with (first
    | ((with_reducible refine wpList_boxR rfl _ rfl r.cs ?_ ?_); exact rfl; intro w1 g1 hc1 hb1 hg1; have HA1 := hid (RBox.mk' HR.out hc1); have HB1 := hid hb1; clear hc1 hb1)
    | ((with_reducible refine wpList_allocR rfl rfl ?_); intro w2 g2 hz2 hb2 hg2; rw [HZZ.out] at hz2; have HZ2 := hid hz2; have HA2 := hid (HA1.out.below HR.out hb2); have HB2 := hid (below_on HB1.out hb2); have HG2 := hid (show w.heap.size ≤ g2 ∧ g1 < g2 by have := HB1.out.size; have := HA1.out.at_.lt; omega); clear hz2 hb2 hg2 HB1 HA1; have c1 := (H1.out.below HB2.out).cell 1; simp at c1))
  clear c1
  have HSF : Hid (∀ W, Only (fun b => b = g2) w2 W → (Instr.loadAt 74 (.pointer (some ⟨g1, 0, none⟩))).run Tryz.prog W = .ok (.agg r.cs) W ∧ W.cell? ⟨p, 0, none⟩ = some (.slice po M.length M.length)) := fun W ho =>
    ⟨run_loadR HR.out (HA2.out.only HR.out ho (by have := HG2.out; omega)), by
      have := ((H1.out.below HB2.out).keep (ho.block p (by have := HB2.out.size; omega) (by have := HG2.out; omega))).cell 0
      simpa using this⟩
  refine wp_region_held_drew (S := fun W => (Instr.loadAt 74 (.pointer (some ⟨g1, 0, none⟩))).run Tryz.prog W = .ok (.agg r.cs) W ∧ W.cell? ⟨p, 0, none⟩ = some (.slice po M.length M.length)) (by kernel_rfl) (HSF.out _ (Only.of_below (below_drew _))) (fun hHeld => ?_)
  refine wpAnyH_take (i := 0) (oi := ⟨some 18, .load 74 (.tmp 3), 74, _, _, none⟩) (v := .agg r.cs) rfl (by kernel_rfl) (by kernel_rfl) (by kernel_rfl) (fun _ _ _ h => h) (Or.inl ⟨by rfl, fun W hW => exec_load rfl rfl hW.1⟩) hHeld ?_
  refine wpAnyH_take (i := 1) (oi := ⟨some 19, .move (.tmp 0), _, _, _, none⟩) (v := ptr p) rfl (by kernel_rfl) (by kernel_rfl) (by kernel_rfl) (fun _ _ _ h => h) (Or.inl ⟨by rfl, by intro W hW; go_simp⟩) hHeld ?_
  refine wpAnyH_take (i := 2) (oi := ⟨some 20, .nilCheck (.tmp 19), _, _, _, none⟩) (v := ptr p) rfl (by kernel_rfl) (by kernel_rfl) (by kernel_rfl) (fun _ _ _ h => h) (Or.inl ⟨by rfl, by intro W hW; go_simp⟩) hHeld ?_
  refine wpAnyH_take (i := 3) (oi := ⟨some 21, .fieldAddr 165 (.tmp 20) 0, _, _, _, none⟩) (v := .pointer (some ⟨p, 0, none⟩)) rfl (by kernel_rfl) (by kernel_rfl) (by kernel_rfl) (fun _ _ _ h => h) (Or.inl ⟨by rfl, by intro W hW; go_simp⟩) hHeld ?_
  refine wpAnyH_take (i := 4) (oi := ⟨some 22, .load 28 (.tmp 21), 28, _, _, none⟩) (v := .slice po M.length M.length) rfl (by kernel_rfl) (by kernel_rfl) (by kernel_rfl) (fun _ _ _ h => h) (Or.inl ⟨by rfl, by intro W hW; have c1 := hW.2; go_simp⟩) hHeld ?_
  refine wpAnyH_ready (rs := [5]) (by kernel_rfl) (by simp) ?_
  refine AllReadyH.cons rfl (fun K hK => ?_) AllReadyH.nil
  go_simp
  refine (fresh_any po M.length M _ (H2.out.below (below_on HB2.out (below_drew _))) (fun e => by rw [H4.out e]; rfl) (by omega)).mono ?_
  rintro e w3 ⟨v3, rfl, ho3, hb3⟩
  have HO3 := hid ho3
  have HB3 := hid (below_on (below_drew w2) hb3)
  clear ho3 hb3
  go_wp2_with fail
  refine hK.out _ _ (HSF.out _ (Only.of_below HB3.out)) (fun hHeld => ?_)
  clear hK K
  refine wpAnyH_ready (rs := [6]) (by kernel_rfl) (by simp) ?_
  refine AllReadyH.cons (o := ⟨none, .store 74 (.tmp 4) (.tmp 18), _, _, _, none⟩) rfl (fun K hK => ?_) AllReadyH.nil
  with_reducible refine step_storeR ?_ ?_ (.tmp 4) (.tmp 18) ?_ g2 ?_ (r := r) ?_ zok HR.out hone (HZ2.out.below zok HB3.out) ?_
  · exact rfl
  · exact rfl
  · exact rfl
  · kernel_rfl
  · kernel_rfl
  intro w5 h5 o5
  have H5 := hid h5
  have O5 := hid ((Only.of_below HB3.out).trans o5)
  have HO5 := hid (HO3.out.only o5 (fun i e => by have h1 := (HO3.out.blk i e).1; have h2 : w2.heap.size ≤ i := h1; have := HZ2.out.at_.lt; omega))
  clear h5 o5
  refine hK.out _ _ (HSF.out _ O5.out) (fun hHeld => ?_)
  clear hK K
  refine wpAnyH_take (i := 7) (oi := ⟨some 5, .assign (.tmp 23), 28, _, _, none⟩) (v := v3) rfl (by kernel_rfl) (by kernel_rfl) (by kernel_rfl) (fun _ _ _ h => h) (Or.inl ⟨by rfl, by intro W hW; go_simp⟩) hHeld ?_
  refine wpAnyH_take (i := 8) (oi := ⟨some 6, .assign (.const (.int .i64 0)), 32, _, _, none⟩) (v := i64 0) rfl (by kernel_rfl) (by kernel_rfl) (by kernel_rfl) (fun _ _ _ h => h) (Or.inl ⟨by rfl, by intro W hW; go_simp⟩) hHeld ?_
  refine wpAnyH_done (by kernel_rfl) ?_ _
  simp only [Act.put, List.setIfInBounds_toArray, List.set_cons_zero, List.set_cons_succ]
  go_wp2
  refine ret_row3 rfl g2 (v := v3) (x := i64 0) rfl rfl rfl rfl H5.out HR.out ⟨v3, rfl, HO5.out.base HB2.out.size, ?_⟩
  exact below_tr HB2.out (O5.out.below HB2.out.size (fun i e => by have := HG2.out; omega))
end Go.Proofs.YtelkijiphhoacaaGreatDoor

/- Contract of Read of package record. -/
namespace Go.Proofs.YtelkijiphhoacaaGreatDoor
open Go Go.RowKit

def ReadOk (w : World) (rc : Rc) (L : List Nat) (e : Ending) (w' : World) : Prop := ∃ (r : Rv) (ps : Ps) (out : Value), e = .returned (.tuple #[.agg r.cs, out, i64 0]) ∧ r.ok ∧ r.rc ps = rc ∧ PLF w.heap.size w' r.pv ps ∧ OutB w.heap.size w' out L ∧ Below w.heap.size w w'
set_option maxRecDepth 100000 in
set_option maxHeartbeats 400000 in
theorem read_bad (po : Option Addr) (c : Nat) (bs : List Nat) (w : World) (h : BL w po bs) (hc : bs.length ≤ c) (hn : bs.length ≤ 100000) (h8 : ∀ x ∈ bs, x < 256) (hq : rdR bs = none) :
    Calls Tryz.prog 81 #[.slice po bs.length c] w fun e w' => e = .returned (.tuple #[.agg zR.cs, .slice none 0 0, i64 4]) ∧ Below w.heap.size w w' := by
  have hro := fun w1 (hb : Below w.heap.size w w1) => readerOf_any po c bs w1 (h.below hb) hc hn h8
  have HRO := hid hro
  have HQ : Hid ((some bs).bind rdR = none) := hid hq
  clear h h8 hq hro
  go_enter Tryz.func81, Tryz.ntmps81
  go_wp2_with (first
    | ((with_reducible refine wpList_allocR rfl rfl ?_); intro w1 g1 hz1 hb1 hg1; have HZ1 := hid hz1; have HB1 := hid hb1; clear hz1 hb1)
    | (go_at_call 95; refine (HRO.out _ HB1.out).mono ?_; rintro e w2 ⟨rfl, hr2, hb2⟩; have HZ2 := hid (And.intro HZ1.out.at_.lt (HZ1.out.below zR_ok hb2)); have HB2 := hid (below_on HB1.out hb2); have HR2 := hid hr2; clear hr2 hb2 HZ1)
    | (go_at_call 97; refine (record_any _ _ _ HR2.out).mono ?_; rintro e w3 ⟨r, ps, rfl, hok, hpl, hr3, ho3, hval⟩; have HB3 := hid (below_tr HB2.out (ho3.below HB2.out.size (fun i e => by have := HB1.out.size; omega))); have HZ3 := hid (HZ2.out.2.only zR_ok ho3 (by have := HZ2.out.1; omega)); have HK := hid hok; rw [HQ.out] at hr3; have HR3 := hid hr3; clear hr3 ho3 hpl hok hval HR2)
    | (go_at_call 96; refine (toldR_bad _ _ r HK.out HR3.out).mono ?_; rintro e w4 ⟨rfl, hb4⟩; have HZ4 := hid (HZ3.out.below zR_ok hb4); have HB4 := hid (below_on HB3.out hb4); clear hb4)
    | ((with_reducible refine wpList_storeR rfl rfl _ _ rfl g1 ?_ (r := zR) ?_ zR_ok zR_ok rfl HZ4.out ?_); exact rfl; exact rfl; intro w5 h5 o5; have H5 := hid h5; have O5 := hid o5; clear h5 o5))
  refine ret_row3 rfl g1 (v := .slice none 0 0) (x := i64 4) rfl rfl rfl rfl H5.out zR_ok ⟨rfl, ?_⟩
  exact below_tr HB4.out (O5.out.below HB4.out.size (fun i e => by omega))
set_option maxRecDepth 100000 in
set_option maxHeartbeats 400000 in
theorem read_ok (po : Option Addr) (c : Nat) (bs : List Nat) (w : World) (h : BL w po bs) (hc : bs.length ≤ c) (hn : bs.length ≤ 100000) (h8 : ∀ x ∈ bs, x < 256) {rc : Rc} {L : List Nat} (hq : rdR bs = some (rc, L)) :
    Calls Tryz.prog 81 #[.slice po bs.length c] w (ReadOk w rc L) := by
  have hro := fun w1 (hb : Below w.heap.size w w1) => readerOf_any po c bs w1 (h.below hb) hc hn h8
  have HRO := hid hro
  have HQ : Hid ((some bs).bind rdR = some (rc, L)) := hid hq
  clear h h8 hq hro
  go_enter Tryz.func81, Tryz.ntmps81
  go_wp2_with (first
    | ((with_reducible refine wpList_allocR rfl rfl ?_); intro w1 g1 hz1 hb1 hg1; have HZ1 := hid hz1; have HB1 := hid hb1; clear hz1 hb1)
    | (go_at_call 95; refine (HRO.out _ HB1.out).mono ?_; rintro e w2 ⟨rfl, hr2, hb2⟩; have HZ2 := hid (And.intro HZ1.out.at_.lt (HZ1.out.below zR_ok hb2)); have HB2 := hid (below_on HB1.out hb2); have HR2 := hid hr2; clear hr2 hb2 HZ1)
    | (go_at_call 97; refine (record_any _ _ _ HR2.out).mono ?_; rintro e w3 ⟨r, ps, rfl, hok, hpl, hr3, ho3, hval⟩; have HB3 := hid (below_tr HB2.out (ho3.below HB2.out.size (fun i e => by have := HB1.out.size; omega))); have HZ3 := hid (HZ2.out.2.only zR_ok ho3 (by have := HZ2.out.1; omega)); have HK := hid hok; rw [HQ.out] at hr3; have HR3 := hid hr3; have HVAL := hid (hval _ _ HQ.out); have hone : r.pv.oneCell' = true := (by obtain ⟨_, _, _, e⟩ := hpl.form; rw [e]; rfl); have HPL := hid hpl; clear hr3 ho3 hpl hok hval HR2)
    | (go_at_call 96; refine (toldR_ok _ _ r HK.out hone L HR3.out).mono ?_; rintro e w4 ⟨out, rfl, hout, hb4⟩; have HOUT := hid hout; have HZ4 := hid (HZ3.out.below zR_ok hb4); have HB4 := hid (below_on HB3.out hb4); have HPL4 := hid (HPL.out.only (Only.of_below (S := fun _ => False) hb4) (fun _ h => h.elim)); clear hb4 hout)
    | ((with_reducible refine wpList_storeR rfl rfl _ _ rfl g1 ?_ (r := r) ?_ zR_ok HK.out hone HZ4.out ?_); exact rfl; exact rfl; intro w5 h5 o5; have H5 := hid h5; have O5 := hid o5; clear h5 o5))
  refine ret_row3 rfl g1 (v := out) (x := i64 0) rfl rfl rfl rfl H5.out HK.out ?_
  have l1 := HZ2.out.1
  have l2 := HB2.out.size
  have l3 := HB3.out.size
  have l4 := HB1.out.size
  have l5 := HZ3.out.at_.lt
  have l6 := HZ2.out.2.at_.lt
  refine ⟨r, ps, out, rfl, HK.out, HVAL.out, PLF.base (HPL4.out.only O5.out (fun i e => by omega)) l2, OutB.base (HOUT.out.only O5.out (fun i e => by have := (HOUT.out.blk i e).1; omega)) l3, ?_⟩
  exact below_tr HB4.out (O5.out.below HB4.out.size (fun i e => by omega))
end Go.Proofs.YtelkijiphhoacaaGreatDoor

/- Bytes that came in. -/
namespace Go.Proofs.YtelkijiphhoacaaGreatDoor
open Go Go.RowKit

theorem plain_at (a : Addr) (w : World) (h : w.cell? a ≠ none) : ∃ b o, a = ⟨b, o, none⟩ := by
  obtain ⟨b, o, sp⟩ := a
  cases sp with
  | none => exact ⟨b, o, rfl⟩
  | some s =>
    exfalso; apply h
    unfold World.cell?
    split <;> simp
theorem bounds8 {k : Int} (h : (Lit.int .u8 k).wf = true) : 0 ≤ k ∧ k ≤ 255 := by
  simp [Lit.wf, IntKind.min, IntKind.max, IntKind.signed, IntKind.bits] at h; omega
/-- What is told of bytes that came in. -/
def IsB (w : World) (a : Option Addr) (len cap : Nat) : Prop := ∃ bs : List Nat, bs.length = len ∧ len ≤ cap ∧ BL w a bs ∧ (∀ x ∈ bs, x < 256) ∧ (a = none → cap = 0)
theorem bytes_open {H : Type} {enc : TypeId × Value → H} {w : World} {held : Bool} {fuel : Nat} {a : Option Addr} {len cap : Nat} {x : DataW H × List MemPlace}
    (h : DataW.trod enc Tryz.prog w 0 (fun _ => true) held fuel 28 (Value.slice a len cap).cells.toList = some x) : IsB w a len cap := by
  rcases Go.ChangeShapes.open_ints Tryz.underlying28 Tryz.underlying5 (by kernel_rfl) h with ⟨hcs, _⟩ | ⟨ad, l, c, zs, hcs, _, hl, hm, hz, _, hcell, hwz⟩
  · simp [Value.cells] at hcs
    obtain ⟨rfl, rfl, rfl⟩ := hcs
    exact ⟨[], rfl, Nat.le_refl _, Or.inl rfl, by simp, fun _ => rfl⟩
  · simp [Value.cells] at hcs
    obtain ⟨rfl, rfl, rfl⟩ := hcs
    have hz' : zs.length = cap := by simpa using hz
    have hbd : ∀ i, i < len → 0 ≤ zs.getD i 0 ∧ zs.getD i 0 ≤ 255 := fun i hi => by
      have hlt : i < zs.length := by omega
      have e : zs.getD i 0 = zs[i] := by simp [List.getD, hlt]
      rw [e]; exact bounds8 (hwz _ (List.getElem_mem hlt))
    refine ⟨(List.range len).map fun i => (zs.getD i 0).toNat, by simp, hl, ?_, fun y hy => ?_, fun e => by cases e⟩
    · by_cases h0 : len = 0
      · subst h0; exact Or.inl rfl
      · obtain ⟨b, o, rfl⟩ := plain_at ad w (by have := hcell 0 (by omega); rw [add_zero'] at this; rw [this]; simp)
        refine Or.inr ⟨b, o, rfl, fun i hi => ?_⟩
        have hi' : i < len := by simpa using hi
        have hc := hcell i (by omega)
        rw [add_none] at hc
        rw [hc]
        have e1 : ((List.range len).map fun i => (zs.getD i 0).toNat).getD i 0 = (zs.getD i 0).toNat := by simp [List.getD, hi']
        rw [e1]; unfold u8; rw [Int.toNat_of_nonneg (hbd i hi').1]
    · obtain ⟨i, hi, rfl⟩ := List.mem_map.1 hy
      have := hbd i (by simpa using hi)
      omega
end Go.Proofs.YtelkijiphhoacaaGreatDoor

/- Contract of awake, the examples. -/
namespace Go.Proofs.YtelkijiphhoacaaGreatDoor
open Go Go.RowKit

abbrev c7 : Array Value := #[.int .u8 4, .int .u8 110, .int .u8 117, .int .u8 108, .int .u8 108, .int .u8 5, .int .u8 1]
end Go.Proofs.YtelkijiphhoacaaGreatDoor

/- RecordUints: how many bytes a number has; too many bytes. -/
namespace Go.Proofs.YtelkijiphhoacaaGreatDoor
open Go Go.RowKit

theorem all256 {x y : List Nat} (h : ∀ z ∈ x, z < 256) (h' : ∀ z ∈ y, z < 256) : ∀ z ∈ x ++ y, z < 256 := fun z hz => by
  rcases List.mem_append.1 hz with e | e
  · exact h z e
  · exact h' z e
end Go.Proofs.YtelkijiphhoacaaGreatDoor

/- RecordBack: a record's bytes. -/
namespace Go.Proofs.YtelkijiphhoacaaGreatDoor
open Go Go.RowKit

theorem psB_byte (ps : Ps) : ∀ z ∈ psB ps, z < 256 := fun z hz => by
  unfold psB at hz
  obtain ⟨l, hl, hz⟩ := List.mem_flatten.1 hz
  obtain ⟨q, _, rfl⟩ := List.mem_map.1 hl
  exact all256 (nb_byte _) (nb_byte _) z hz
theorem vB_byte (r : Rv) (hr : r.ok) (ps : Ps) : ∀ z ∈ vB r ps, z < 256 := by
  unfold vB
  exact all256 (nb_byte _) (all256 (tb_lt _) (all256 (nb_byte _) (all256 (nb_byte _) (all256 (tb_lt _) (all256 hr.s8 (all256 (nb_byte _) (all256 (psB_byte _) (tb_lt _))))))))
theorem rcB_byte (r : Rv) (hr : r.ok) (ps : Ps) : ∀ z ∈ rcB (r.rc ps), z < 256 := by
  cases hm : r.mark
  · rw [rcB_vers hm]
    exact all256 (tb_lt _) (all256 (nb_byte _) (all256 (by simp) (vB_byte r hr ps)))
  · rw [rcB_mark hm]
    exact all256 (tb_lt _) (all256 (nb_byte _) (by simp))
theorem okPs_get : ∀ {last : Int} {l : Ps}, okPs last l = true → ∀ i, i < l.length → (l.getD i (0, 0)).1 ≤ 10000 ∧ (l.getD i (0, 0)).2 ≤ 65536
  | _, [], _, i, hi => by simp at hi
  | last, p :: t, h, i, hi => by
    simp [okPs, inR] at h
    obtain ⟨⟨⟨h1, h2⟩, h3, h4⟩, h5⟩ := h
    cases i with
    | zero => simp; omega
    | succ i => simpa using okPs_get h5 i (by simpa using hi)
theorem rcB_len (r : Rv) (hr : r.ok) (ps : Ps) (h : okRc (r.rc ps) = true) : (rcB (r.rc ps)).length ≤ 1000 := by
  obtain ⟨q1, q2, q3⟩ := okRc_id h
  have l1 := tb_le (s := r.id) (by omega)
  have l2 := ib_le (n := r.time) (by omega)
  cases hm : r.mark
  · rw [rcB_vers hm]
    have hv : versOk r ps = true := by rw [okRc_vers r ps hm hr.sl] at h; simp only [Bool.and_eq_true] at h; exact h.2
    obtain ⟨a1, a2, a3, a4, a5, a6, a7, a8, a9, a10, a11⟩ := versOk_iff hv
    have e1 := ib_le (n := r.size) (by omega)
    have e2 := tb_le (s := r.etag) (by omega)
    have e3 := ib_le (n := r.k) (by omega)
    have e4 := ib_le (n := r.m) (by omega)
    have e5 := tb_le (s := r.data) (by omega)
    have e6 := nb_le (n := ps.length) (by omega)
    have e7 := psB_le (okPs_get a10) ps.length (Nat.le_refl _)
    rw [List.take_length] at e7
    have e8 := tb_le (s := r.up) (by omega)
    unfold vB
    simp only [List.length_append, hr.sl, List.length_cons, List.length_nil]
    omega
  · rw [rcB_mark hm]
    simp only [List.length_append, List.length_cons, List.length_nil]
    omega
end Go.Proofs.YtelkijiphhoacaaGreatDoor

/- RecordBack: the walks. -/
namespace Go.Proofs.YtelkijiphhoacaaGreatDoor
open Go Go.RowKit

theorem CAt.whole {w : World} {g : Nat} {cs : Array Value} {t : TypeId} (h : CAt w g cs t) : ∀ j v, cs[j]? = some v → w.cell? ⟨g, 0 + j, none⟩ = some v := fun j v hv => by rw [Nat.zero_add, h.cell, hv]
theorem Rv.size_of {r : Rv} (h : r.sum.length = 32) : r.cs.size = 42 := by simp [Rv.cs, sumC_size, h]
/-- Two records in boxes. -/
structure Two (w W : World) (ga gb : Nat) (ra rb : Rv) : Prop where
  below : Below w.heap.size w W
  ca : CAt W ga ra.cs 74
  cb : CAt W gb rb.cs 74
theorem Two.on {w W W' : World} {ga gb : Nat} {ra rb : Rv} (h : Two w W ga gb ra rb) (hb : Below W.heap.size W W') : Two w W' ga gb ra rb := ⟨below_on h.below hb, h.ca.below hb, h.cb.below hb⟩
end Go.Proofs.YtelkijiphhoacaaGreatDoor

/- Lists of records in memory. -/
namespace Go.Proofs.YtelkijiphhoacaaGreatDoor
open Go Go.RowKit

/-- A record as a value, and its parts. -/
structure Rp where
  r : Rv
  ps : Ps
def Rp.rc (x : Rp) : Rc := x.r.rc x.ps
def rcs (l : List Rp) : List Rc := l.map Rp.rc
theorem rcs_len (l : List Rp) : (rcs l).length = l.length := by simp [rcs]
theorem rcs_get (l : List Rp) (i : Nat) : (rcs l)[i]? = l[i]?.map Rp.rc := by simp [rcs]
theorem rc_id (x : Rp) : x.rc.id = lst x.r.id := rfl
/-- A record whose parts lie in memory. -/
structure RpOk (w : World) (x : Rp) : Prop where
  ok : x.r.ok
  pl : PL w x.r.pv x.ps
  nil : ∀ n c, x.r.pv = .slice none n c → c = 0
theorem RpOk.keep {w w' : World} {x : Rp} (h : RpOk w x) (hk : ∀ a, w.cell? a ≠ none → w'.cell? a = w.cell? a) : RpOk w' x := ⟨h.ok, h.pl.keep hk, h.nil⟩
theorem RpOk.below {w w' : World} {x : Rp} (h : RpOk w x) (hb : Below w.heap.size w w') : RpOk w' x := ⟨h.ok, h.pl.below hb, h.nil⟩
theorem RpOk.form {w : World} {x : Rp} (h : RpOk w x) : ∃ po c, x.r.pv = .slice po x.ps.length c ∧ (po = none → c = 0) ∧ x.ps.length ≤ c ∧ x.ps.length ≤ 100000 := by
  obtain ⟨po, c, h1, h2, h3, _⟩ := h.pl
  exact ⟨po, c, h1, fun e => h.nil _ c (by rw [h1, e]), h2, h3⟩
/-- .. in no block below B; they may be written. -/
structure RpX (B : Nat) (w : World) (x : Rp) : Prop where
  ok : x.r.ok
  pl : PLF B w x.r.pv x.ps
theorem RpX.one {B : Nat} {w : World} {x : Rp} (h : RpX B w x) : RpOk w x := ⟨h.ok, h.pl.1, h.pl.2.2⟩
theorem RpX.only {B : Nat} {w w' : World} {x : Rp} {S : Nat → Prop} (h : RpX B w x) (hO : Only S w w') (hS : ∀ i, S i → i < B) : RpX B w' x := ⟨h.ok, h.pl.only hO hS⟩
theorem RpX.below {B : Nat} {w w' : World} {x : Rp} (h : RpX B w x) (hb : Below w.heap.size w w') : RpX B w' x := h.only (S := fun _ => False) (Only.of_below hb) (fun _ h => h.elim)
theorem RpX.base {B C : Nat} {w : World} {x : Rp} (h : RpX B w x) (hC : C ≤ B) : RpX C w x := ⟨h.ok, h.pl.base hC⟩
theorem sizeR42 {x : Rp} (h : x.r.ok) : x.r.cs.toList.length = 42 := by rw [Array.length_toList, h.size]

def flatR (l : List Rp) : List Value := l.flatMap fun x => x.r.cs.toList
theorem flatR_cons (x : Rp) (l : List Rp) : flatR (x :: l) = x.r.cs.toList ++ flatR l := rfl
theorem flatR_app (l m : List Rp) : flatR (l ++ m) = flatR l ++ flatR m := by simp [flatR]
theorem flatR_len : ∀ {l : List Rp}, (∀ x ∈ l, x.r.ok) → (flatR l).length = l.length * 42
  | [], _ => rfl
  | x :: l, h => by
    rw [flatR_cons, List.length_append, sizeR42 (h x (by simp)), flatR_len (l := l) (fun y hy => h y (by simp [hy])), List.length_cons]; omega
theorem flatR_get : ∀ {l : List Rp}, (∀ x ∈ l, x.r.ok) → ∀ {i : Nat} {x : Rp}, l[i]? = some x → ∀ {j : Nat}, j < 42 → (flatR l)[i * 42 + j]? = x.r.cs[j]?
  | [], _, i, x, e, j, _ => by simp at e
  | y :: l, h, 0, x, e, j, hj => by
    simp at e
    subst e
    rw [flatR_cons, Nat.zero_mul, Nat.zero_add, List.getElem?_append_left (by rw [sizeR42 (h y (by simp))]; exact hj), Array.getElem?_toList]
  | y :: l, h, i + 1, x, e, j, hj => by
    rw [flatR_cons, List.getElem?_append_right (by rw [sizeR42 (h y (by simp))]; omega), sizeR42 (h y (by simp)), show (i + 1) * 42 + j - 42 = i * 42 + j by omega]
    exact flatR_get (l := l) (fun z hz => h z (by simp [hz])) (by simpa using e) hj
theorem Rv.cs_one (r : Rv) (hp : r.pv.oneCell' = true) : ∀ v ∈ r.cs.toList, v.oneCell' = true := by
  intro v hv
  rw [Rv.toL] at hv
  simp only [List.mem_append, List.mem_cons, List.not_mem_nil, or_false, List.mem_map] at hv
  rcases hv with (rfl | rfl | rfl | rfl | rfl | rfl | rfl | rfl) | ⟨_, _, rfl⟩ | rfl | rfl <;> first | rfl | exact hp
theorem RpOk.one {w : World} {x : Rp} (h : RpOk w x) : ∀ v ∈ x.r.cs.toList, v.oneCell' = true := by
  obtain ⟨po, c, e, _⟩ := h.form
  exact x.r.cs_one (by rw [e]; rfl)
theorem flatR_one {w : World} {l : List Rp} (h : ∀ x ∈ l, RpOk w x) : ∀ v ∈ flatR l, v.oneCell' = true := by
  intro v hv
  obtain ⟨x, hx, hv⟩ := List.mem_flatMap.1 hv
  exact (h x hx).one v hv

/-- The cells of the records lie there, one behind the other. -/
def RCells (w : World) (b o : Nat) (l : List Rp) : Prop := ∀ i x, l[i]? = some x → ∀ j v, x.r.cs[j]? = some v → w.cell? ⟨b, o + i * 42 + j, none⟩ = some v
theorem RCells.range {w : World} {b o : Nat} {l : List Rp} (h : RCells w b o l) {i : Nat} {x : Rp} (e : l[i]? = some x) : w.rangeAt b (o + i * 42) x.r.cs.toList := fun j v hv => h i x e j v (by simpa using hv)
theorem RCells.keep {w w' : World} {b o : Nat} {l : List Rp} (h : RCells w b o l) (hk : ∀ a, w.cell? a ≠ none → w'.cell? a = w.cell? a) : RCells w' b o l := fun i x e j v hv => by
  have := h i x e j v hv
  rw [hk _ (by rw [this]; simp)]; exact this
theorem RCells.flat {w : World} {b o : Nat} {l : List Rp} (hk : ∀ x ∈ l, x.r.ok) (h : w.rangeAt b o (flatR l)) : RCells w b o l := fun i x e j v hv => by
  have hj : j < 42 := by
    rcases Nat.lt_or_ge j 42 with q | q
    · exact q
    · rw [Array.getElem?_eq_none (by rw [(hk x (List.mem_of_getElem? e)).size]; exact q)] at hv; cases hv
  rw [Nat.add_assoc]
  exact h (i * 42 + j) v (by rw [flatR_get hk e hj]; exact hv)
theorem RCells.unflat {w : World} {b o : Nat} {l : List Rp} (hk : ∀ x ∈ l, x.r.ok) (h : RCells w b o l) : w.rangeAt b o (flatR l) := fun j v hv => by
  have hj : j < l.length * 42 := by
    rcases Nat.lt_or_ge j (l.length * 42) with q | q
    · exact q
    · rw [List.getElem?_eq_none (by rw [flatR_len hk]; exact q)] at hv; cases hv
  have hi : j / 42 < l.length := by omega
  obtain ⟨x, hx⟩ : ∃ x, l[j / 42]? = some x := ⟨_, List.getElem?_eq_getElem hi⟩
  have e := flatR_get hk hx (j := j % 42) (Nat.mod_lt _ (by omega))
  rw [show j / 42 * 42 + j % 42 = j by omega, hv] at e
  have := h (j / 42) x hx (j % 42) v e.symm
  rwa [show o + j / 42 * 42 + j % 42 = o + j by omega] at this
/-- The slice v leads to the records l. -/
def RL (w : World) (v : Value) (l : List Rp) : Prop := ∃ po c, v = .slice po l.length c ∧ l.length ≤ c ∧ l.length ≤ 100000 ∧ (po = none → c = 0) ∧ (l = [] ∨ ∃ b o, po = some ⟨b, o, none⟩ ∧ RCells w b o l) ∧ ∀ x ∈ l, RpOk w x
theorem RL.each {w : World} {v : Value} {l : List Rp} (h : RL w v l) : ∀ x ∈ l, RpOk w x := by obtain ⟨_, _, _, _, _, _, _, h⟩ := h; exact h
theorem RL.ok {w : World} {v : Value} {l : List Rp} (h : RL w v l) : ∀ x ∈ l, x.r.ok := fun x hx => (h.each x hx).ok
theorem RL.keep {w w' : World} {v : Value} {l : List Rp} (h : RL w v l) (hk : ∀ a, w.cell? a ≠ none → w'.cell? a = w.cell? a) : RL w' v l := by
  obtain ⟨po, c, h1, h2, h3, h4, h5, h6⟩ := h
  refine ⟨po, c, h1, h2, h3, h4, ?_, fun x hx => (h6 x hx).keep hk⟩
  rcases h5 with h5 | ⟨b, o, e, h5⟩
  · exact Or.inl h5
  · exact Or.inr ⟨b, o, e, h5.keep hk⟩
theorem RL.below {w w' : World} {v : Value} {l : List Rp} (h : RL w v l) (hb : Below w.heap.size w w') : RL w' v l :=
  h.keep fun a ha => World.cell?_of_block (hb.block a.block (cell_lt' ha))
theorem RL.nil (w : World) : RL w (.slice none 0 0) [] := ⟨none, 0, rfl, Nat.le_refl _, by simp, fun _ => rfl, Or.inl rfl, fun x hx => by cases hx⟩
theorem RL.len {w : World} {v : Value} {l : List Rp} (h : RL w v l) : l.length ≤ 100000 := by obtain ⟨_, _, _, _, h, _⟩ := h; exact h
/-- Records in a row of their own. -/
def RBuf (B : Nat) (w : World) (v : Value) (l : List Rp) : Prop := w.ownsRow B 74 42 v l.length (flatR l)
theorem RBuf.nil (B : Nat) (w : World) : RBuf B w (.slice none 0 0) [] := World.ownsRow_nil w B _ 42
theorem RBuf.form {B : Nat} {w : World} {v : Value} {l : List Rp} (h : RBuf B w v l) : ∃ po c, v = .slice po l.length c ∧ l.length ≤ c ∧ (po = none → c = 0) := by
  rcases h.2 with ⟨rfl, h0⟩ | ⟨g, cap, cur, rfl, _, _, h1, _⟩
  · exact ⟨none, 0, by rw [h0], by omega, fun _ => rfl⟩
  · exact ⟨_, cap, rfl, h1, fun e => by cases e⟩
theorem RBuf.keep {B : Nat} {w w' : World} {v : Value} {l : List Rp} (h : RBuf B w v l) (hk : ∀ b, v.ownBlock = some b → w'.heap[b]? = w.heap[b]?) : RBuf B w' v l := ownsRow_keep h hk
theorem RBuf.below {B : Nat} {w w' : World} {v : Value} {l : List Rp} (h : RBuf B w v l) (hb : Below w.heap.size w w') : RBuf B w' v l := h.keep fun b hv => hb.block b (own_ge h b hv).2
theorem RBuf.base {B C : Nat} {w : World} {v : Value} {l : List Rp} (h : RBuf B w v l) (hC : C ≤ B) : RBuf C w v l := own_base h hC
theorem RBuf.rl {B : Nat} {w : World} {v : Value} {l : List Rp} (h : RBuf B w v l) (hx : ∀ x ∈ l, RpOk w x) (hn : l.length ≤ 100000) : RL w v l := by
  rcases h.2 with ⟨rfl, h0⟩ | ⟨g, cap, cur, rfl, hB, hg, h1, _, h3, h4⟩
  · obtain rfl := List.eq_nil_of_length_eq_zero h0
    exact RL.nil w
  · refine ⟨_, cap, rfl, h1, hn, (fun e => by cases e), Or.inr ⟨g, 0, rfl, RCells.flat (fun x hx' => (hx x hx').ok) fun j v hv => ?_⟩, hx⟩
    have hc : CAt w g cur 74 := hg
    have hl := flatR_len (l := l) (fun x hx' => (hx x hx').ok)
    have hj : j < l.length * 42 := by
      rcases Nat.lt_or_ge j (l.length * 42) with q | q
      · exact q
      · rw [List.getElem?_eq_none (by omega)] at hv; cases hv
    rw [Nat.zero_add, hc.cell]
    rw [← h4, List.getElem?_take, if_pos hj] at hv
    simpa using hv
/-- Records in memory of their own, their parts too. -/
structure Rs (B : Nat) (w : World) (v : Value) (l : List Rp) : Prop where
  buf : RBuf B w v l
  each : ∀ x ∈ l, RpX B w x
theorem Rs.nil (B : Nat) (w : World) : Rs B w (.slice none 0 0) [] := ⟨RBuf.nil B w, fun x hx => by cases hx⟩
theorem Rs.rl {B : Nat} {w : World} {v : Value} {l : List Rp} (h : Rs B w v l) (hn : l.length ≤ 100000) : RL w v l := h.buf.rl (fun x hx => (h.each x hx).one) hn
theorem Rs.below {B : Nat} {w w' : World} {v : Value} {l : List Rp} (h : Rs B w v l) (hb : Below w.heap.size w w') : Rs B w' v l := ⟨h.buf.below hb, fun x hx => (h.each x hx).below hb⟩
theorem Rs.only {B : Nat} {w w' : World} {v : Value} {l : List Rp} {S : Nat → Prop} (h : Rs B w v l) (hO : Only S w w') (hS : ∀ i, S i → i < B) : Rs B w' v l :=
  ⟨h.buf.keep fun b hv => hO.block b (own_ge h.buf b hv).2 (fun k => by have := hS b k; have := (own_ge h.buf b hv).1; omega), fun x hx => (h.each x hx).only hO hS⟩
theorem Rs.base {B C : Nat} {w : World} {v : Value} {l : List Rp} (h : Rs B w v l) (hC : C ≤ B) : Rs C w v l := ⟨h.buf.base hC, fun x hx => (h.each x hx).base hC⟩
theorem setAll_splice {cs vs : List Value} {o : Nat} (h : o + vs.length ≤ cs.length) : setAll cs o vs = cs.take o ++ (vs ++ cs.drop (o + vs.length)) := by
  have e : cs = cs.take o ++ ((cs.drop o).take vs.length ++ cs.drop (o + vs.length)) := by
    rw [← List.drop_drop, List.take_append_drop, List.take_append_drop]
  have hl : (cs.take o).length = o := by rw [List.length_take]; omega
  have := setAll_app (cs.take o) vs ((cs.drop o).take vs.length) (cs.drop (o + vs.length)) (by rw [List.length_take, List.length_drop]; omega)
  rw [hl, ← e] at this
  exact this
theorem flatR_set {l : List Rp} (hk : ∀ x ∈ l, x.r.ok) {i : Nat} (hi : i < l.length) {y : Rp} : flatR (l.set i y) = (flatR l).take (i * 42) ++ (y.r.cs.toList ++ (flatR l).drop (i * 42 + 42)) := by
  have e : l = l.take i ++ l[i] :: l.drop (i + 1) := by rw [List.getElem_cons_drop, List.take_append_drop]
  have hl : (flatR (l.take i)).length = i * 42 := by
    rw [flatR_len (fun x hx => hk x (List.mem_of_mem_take hx)), List.length_take, Nat.min_eq_left (by omega)]
  have hl2 : (l[i].r.cs.toList).length = 42 := sizeR42 (hk _ (List.getElem_mem hi))
  have e2 : flatR l = flatR (l.take i) ++ (l[i].r.cs.toList ++ flatR (l.drop (i + 1))) := by
    conv => lhs; rw [e]
    rw [flatR_app, flatR_cons]
  have e3 : (flatR l).drop (i * 42 + 42) = flatR (l.drop (i + 1)) := by
    rw [e2, ← List.drop_drop, List.drop_left' hl, List.drop_left' hl2]
  rw [List.set_eq_take_append_cons_drop, if_pos hi, flatR_app, flatR_cons, e3, e2, List.take_left' hl]
/-- A record is stored at its place. -/
theorem RBuf.set {B : Nat} {w : World} {v : Value} {l : List Rp} (h : RBuf B w v l) (hk : ∀ x ∈ l, x.r.ok) {i : Nat} (hi : i < l.length) {y : Rp} (hy : y.r.ok) :
    ∃ g c, v = .slice (some ⟨g, 0, none⟩) l.length c ∧ B ≤ g ∧ w.there g (i * 42) 42 ∧ (∃ cs, CAt w g cs 74) ∧ RBuf B (w.setCells g (i * 42) y.r.cs.toList) v (l.set i y) ∧ Only (fun b => b = g) w (w.setCells g (i * 42) y.r.cs.toList) := by
  rcases h.2 with ⟨rfl, h0⟩ | ⟨g, cap, cur, rfl, hB, hg, h1, hm, h3, h4⟩
  · omega
  have hc : CAt w g cur 74 := hg
  refine ⟨g, cap, rfl, hB, fun j hj => ⟨?_, hc.free _⟩, ⟨cur, hc⟩, ⟨?_, Or.inr ⟨g, cap, _, by rw [List.length_set], hB, CAt.setCells y.r.cs.toList (i * 42) cur w hc, by rw [List.length_set]; exact h1, hm, ?_, ?_⟩⟩, only_setCells _ _ _ _ rfl⟩
  · rw [hc.cell, Array.getElem?_eq_getElem (by omega)]; rfl
  · rw [flatR_len (fun x hx => ?_)]
    rcases List.mem_or_eq_of_mem_set hx with hx | rfl
    · exact hk x hx
    · exact hy
  · have e := setAll_splice (cs := cur.toList) (vs := y.r.cs.toList) (o := i * 42) (by rw [sizeR42 hy, Array.length_toList]; omega)
    rw [List.size_toArray, e, List.length_append, List.length_append, List.length_take, List.length_drop, sizeR42 hy, Array.length_toList]; omega
  · have e := setAll_splice (cs := cur.toList) (vs := y.r.cs.toList) (o := i * 42) (by rw [sizeR42 hy, Array.length_toList]; omega)
    rw [List.toList_toArray, e, sizeR42 hy, List.length_set, flatR_set hk hi, ← h4]
    have ha : (cur.toList.take (i * 42)).length = i * 42 := by rw [List.length_take, Array.length_toList]; omega
    rw [List.take_append, ha, List.take_append, sizeR42 hy, List.take_of_length_le (l := cur.toList.take (i * 42)) (by omega), List.take_of_length_le (l := y.r.cs.toList) (by rw [sizeR42 hy]; omega), List.take_take, Nat.min_eq_left (by omega), List.drop_take, show l.length * 42 - i * 42 - 42 = l.length * 42 - (i * 42 + 42) by omega]
theorem Tryz.infoRec : (Tryz.prog.info? 74).map (fun i => (i.zero, i.size, i.bytes)) = some (some (.agg zR.cs), 42, 160) := by kernel_rfl
end Go.Proofs.YtelkijiphhoacaaGreatDoor
