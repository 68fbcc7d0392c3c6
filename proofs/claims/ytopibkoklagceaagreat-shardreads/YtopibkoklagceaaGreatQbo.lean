/- Texts laid into one, cut to what is needed: the remark ahead of each part says what is proved there. -/
import Derived.Test.YtopibkoklagceaaGreatQbn
/- ShardReads: the walk. (Written by tools/gen_Zzg.py.) -/
namespace Go.Proofs.YtopibkoklagceaaGreat
open Go Go.RowKit

set_option maxRecDepth 100000 in
set_option maxHeartbeats 8000000 in
theorem reads_core (r : Rv) (hr : r.ok) (pr : Option Addr) (cr : Nat) (ps : Ps) (v : Value) (l : List Cv) (x y : Int) (w : World) (hv : r.pv = .slice pr ps.length cr) (hp : PL w r.pv ps) (hpn : pr = none → cr = 0) (hl : CL w v l) (hx : (Lit.int .i64 x).wf = true) (hy : (Lit.int .i64 y).wf = true)
  (hlg : ∀ W, Below w.heap.size w W → Calls Tryz.prog 14 #[v, .agg r.cs] W fun e w' => e = .returned (.bool false) ∧ Below W.heap.size W w') :
  Calls Tryz.prog 4 #[v, .agg r.cs, .int .i64 x, .int .i64 y] w fun e w' => e = .returned (.bool true) ∧ Below w.heap.size w w' := by
 have HLG := hid hlg
 have HLN : Hid (l.length ≤ 1000) := by obtain ⟨_, _, _, _, h, _⟩ := hl; exact h
 have HCP := hid (fun W (hW : Below w.heap.size w W) => copies11_any v l W (hl.below hW))
 unfold CpS at HCP
 have HCR := hid (fun W (hW : Below w.heap.size w W) => rcopy11_any r hr pr cr ps W hv (hp.below hW) hpn (by obtain ⟨_, _, _, _, h, _⟩ := hp; exact h))
 unfold CpR at HCR
 -- the answers
 have HSR : Hid (∀ W u L s, CL W u L → cps L = cps l → s.ok → Lk r s → PL W s.pv ps → Calls Tryz.prog 17 #[u, .agg s.cs] W (WhU W (rdrE r ps (cps l)) (rdrB r ps (cps l)))) := hid (fun W u L s h1 h2 h3 h4 h5 => by
  have := sread_any s h3 ps u L W h5 h1
  rw [h2, h4.rdE, h4.rdB] at this
  exact this)
 have HRR := hid (fun W (hW : Below w.heap.size w W) => rread11_any r hr ps v l W (hp.below hW) (hl.below hW))
 have HSP : Hid (∀ W u L s, CL W u L → cps L = cps l → s.ok → Lk r s → PL W s.pv ps → Calls Tryz.prog 19 #[u, .agg s.cs, .int .i64 x, .int .i64 y] W (PtW W (prtE r ps (cps l) x y) (prtB r ps (cps l) x y))) := hid (fun W u L s h1 h2 h3 h4 h5 => by
  have := partW_any s h3 ps u L x y W h5 h1 hx hy
  rw [h2, h4.ptE, h4.ptB] at this
  exact this)
 have HRP := hid (fun W (hW : Below w.heap.size w W) => rpart11_any r hr ps v l x y W (hp.below hW) (hl.below hW))
 have HSM : Hid (∀ W u L s, CL W u L → cps L = cps l → s.ok → Lk r s → PL W s.pv ps → Calls Tryz.prog 21 #[u, .agg s.cs] W (MeW W (rdrE r ps (cps l)) (mdL r ps (cps l)) (mdN r ps (cps l)))) := hid (fun W u L s h1 h2 h3 h4 h5 => by
  have := mendW_any s h3 ps u L W h5 h1
  rw [h2] at this
  have e1 := h4.mdL ps (cps l)
  have e2 := h4.mdN ps (cps l)
  unfold mdL at e1
  unfold mdN at e2
  rw [e1, e2, h4.rdE] at this
  exact this)
 have HRM : Hid (∀ W, Below w.heap.size w W → Calls Tryz.prog 22 #[v, .agg r.cs] W (RmU W (rdrE r ps (cps l)) (mdL r ps (cps l)) (mdN r ps (cps l)))) := hid (fun W hW => rmend11_any r hr ps v l W (hp.below hW) (hl.below hW))
 have HB1 := hid (And.intro (rdrB_lt r ps (cps l)) (rdrB_len r ps (cps l)))
 have HB2 := hid (prtB_lt r ps (cps l) x y)
 have HL1 := hid (And.intro (mdL_lt r ps (cps l)) (mdL_len r ps (cps l)))
 have HN1 := hid (mdN_len r ps (cps l))
 generalize rdrE r ps (cps l) = E1 at HSR HRR HSM HRM
 generalize rdrB r ps (cps l) = Ba at HSR HRR HB1
 generalize prtE r ps (cps l) x y = E2 at HSP HRP
 generalize prtB r ps (cps l) x y = Bb at HSP HRP HB2
 generalize mdL r ps (cps l) = Ls at HSM HRM HL1
 generalize mdN r ps (cps l) = ns at HSM HRM HN1
 have HSA := hid (fun W u L (hW : Below w.heap.size w W) (h1 : CL W u L) (h2 : cps L = cps l) => same11_any u v L l W h1 (hl.below hW) h2)
 have HSS : Hid (∀ W s, Below w.heap.size w W → s.ok → Lk r s → PL W s.pv ps → Calls Tryz.prog 26 #[.agg s.cs, .agg r.cs] W fun e w' => e = .returned (.bool true) ∧ Below W.heap.size W w') := hid (fun W s hW h1 h2 h3 => by
  have := rsame_any s r h1 hr ps ps W h3 (hp.below hW)
  rw [h2.rc, show decide (r.rc ps = r.rc ps) = true by simp] at this
  exact this)
 have HSB := hid (fun (W : World) (u q : Value) (X : List Nat) (h1 : SL W u X) (h2 : SL W q X) (h8 : ∀ z ∈ X, z < 256) => (by have h := sameB_any h1 h2 h8 h8; rw [show decide (X = X) = true by simp] at h; exact h : Calls Tryz.prog 23 #[u, q] W fun e w' => e = .returned (.bool true) ∧ w' = W))
 have HSL := hid (fun (W : World) (u q : Value) (h1 : LR W u Ls) (h2 : LR W q Ls) => sameL11 u q Ls W h1 h2 HL1.out.1 (by have := HL1.out.2; omega))
 have HSI := hid (fun (W : World) (p q : Option Addr) (c d : Nat) (h1 : H.IntAt W p ns.length (fun i => ns.getD i 0)) (h2 : H.IntAt W q ns.length (fun i => ns.getD i 0)) => H.sameInts_true p q ns.length c d (fun i => ns.getD i 0) W (by have := HN1.out; omega) h1 h2)
 have e1 : (E1 != E1) = false := by simp
 have e2 : (E2 != E2) = false := by simp
 obtain ⟨po, c, rfl, _⟩ := hl
 obtain ⟨n, hn⟩ : ∃ n, l.length = n := ⟨_, rfl⟩
 rw [hn] at HLG HCP HRR HRP HRM HSA ⊢
 obtain ⟨X, hX⟩ : ∃ X, r.cs = X := ⟨_, rfl⟩
 have HXS := hid (show X.size = 42 from hX ▸ hr.size)
 have HXE := hid hX
 have HRK := hid hr
 rw [hX] at HLG HCR HRR HRP HRM HSS ⊢
 clear hr hv hp hpn hx hy hlg hX hn
 go_enter Tryz.func4, Tryz.ntmps4
 go_wp2_with (first
  | ((with_reducible refine wpList_boxR rfl _ rfl X ?_ ?_); exact rfl; intro w1 g5 hc1 hb1 hg1; have HC1 := hid hc1; have HB0 := hid hb1; clear hc1 hb1 hg1)
  | ((with_reducible refine wpList_load_at 40 _ rfl ?_ g5 0 ?_ X (.struct (Tryz.prog.fieldsOf 40)) ?_ underRec rfl ?_ ?_); exact rfl; exact rfl; exact HC1.out.whole; (rw [HXS.out]; exact sizeR))
  | (go_at_call 14; refine (HLG.out _ HB0.out).mono ?_; rintro e w3 ⟨rfl, hb3⟩; have HB3 := hid (below_on HB0.out hb3); have HC5 := hid (show CAt w3 g5 r.cs 40 by rw [HXE.out]; exact HC1.out.below hb3); clear hb3))
 clear HLG HC1
 replace HCP := hid (fun W (hW : Below w3.heap.size w3 W) => HCP.out W (below_on HB3.out hW))
 replace HCR := hid (fun W (hW : Below w3.heap.size w3 W) => HCR.out W (below_on HB3.out hW))
 have HSF : Hid (∀ W, Below w3.heap.size w3 W → (fun W => (Instr.loadAt 40 (.pointer (some ⟨g5, 0, none⟩))).run Tryz.prog W = .ok (.agg X) W) W) := hid (fun W hW => by have := run_loadR HRK.out (RBox.mk' HRK.out (HC5.out.below hW)); rw [HXE.out] at this; exact this)
 go_cut [9, 10] from 26 (fun s9 s10 wc => ∃ (pi : Option Addr) (ni ci : Nat) (L : List Cv) (s : Rv) (g10 : Nat), s9 = .slice pi ni ci ∧ s10 = ptr g10 ∧ Hid (E3 w g5 g10 r ps l (.slice pi ni ci) L s wc))
 case first =>
  clear HSR HRR HSP HRP HSM HRM HSA HSS HSB HSL HSI
  refine wp_region_held_drew (S := (fun W => (Instr.loadAt 40 (.pointer (some ⟨g5, 0, none⟩))).run Tryz.prog W = .ok (.agg X) W)) (by kernel_rfl) (HSF.out _ (below_drew _)) (fun hHeld => ?_)
  have HD := hid (below_drew w3)
  generalize w3.drew = wd at hHeld HD ⊢
  refine wpAnyH_take (i := 0) (oi := ⟨some 29, .move (.tmp 0), _, _, _, none⟩) (v := .slice po n c) rfl (by kernel_rfl) (by kernel_rfl) (by kernel_rfl) (fun _ _ _ h => h) (Or.inl ⟨by kernel_rfl, by intro W hW; go_simp⟩) hHeld ?_
  refine wpAnyH_take (i := 2) (oi := ⟨some 31, .load 40 (.tmp 5), _, _, _, none⟩) (v := .agg X) rfl (by kernel_rfl) (by kernel_rfl) (by kernel_rfl) (fun _ _ _ h => h) (Or.inl ⟨by kernel_rfl, fun W hW => exec_load rfl (by kernel_rfl) hW⟩) hHeld ?_
  refine wpAnyH_ready (rs := [1, 4]) (by kernel_rfl) (by simp) ?_
  refine (AllReadyH.cons (o := ⟨some 30, .call { callee := .value (.func 15), args := #[.tmp 29], argTypes := #[35] }, _, _, _, none⟩) rfl (fun K hK => ?_) (AllReadyH.cons (o := ⟨some 10, .alloc 40, _, _, _, none⟩) rfl (fun K hK => ?_) AllReadyH.nil))
  ·refine step_call rfl 15 #[.slice po n c] (by kernel_rfl) ((HCP.out _ HD.out).mono ?_)
   rintro e wa ⟨vi, L, rfl, hci, hce, hb1⟩
   obtain ⟨pi, ci, hvi, -⟩ := hci.buf.form
   obtain ⟨ni, hni⟩ : ∃ ni, (L.map Cv.row).length = ni := ⟨_, rfl⟩
   rw [hni] at hvi
   subst hvi
   have HCI := hid hci
   have HCE := hid hce
   replace HD := hid (below_on HD.out hb1)
   clear hci hce hb1 hni
   refine ⟨_, rfl, hK.out _ _ (HSF.out _ HD.out) (fun hHeld => ?_)⟩
   clear hK K
   refine wpAnyH_ready (rs := [3, 4]) (by kernel_rfl) (by simp) ?_
   refine (AllReadyH.cons (o := ⟨some 32, .call { callee := .value (.func 16), args := #[.tmp 31], argTypes := #[40] }, _, _, _, none⟩) rfl (fun K hK => ?_) (AllReadyH.cons (o := ⟨some 10, .alloc 40, _, _, _, none⟩) rfl (fun K hK => ?_) AllReadyH.nil))
   ·refine step_call rfl 16 #[.agg X] (by kernel_rfl) ((HCR.out _ HD.out).mono ?_)
    rintro e wb ⟨s, rfl, hsk, hso, hlk, hpl, hb3⟩
    have HPL := hid hpl.1
    have HSK := hid hsk
    have HLK := hid hlk
    have HSO := hid hso
    replace HCI := hid (HCI.out.on hb3)
    replace HD := hid (below_on HD.out hb3)
    clear hsk hso hlk hpl hb3
    refine ⟨_, rfl, hK.out _ _ (HSF.out _ HD.out) (fun hHeld => ?_)⟩
    clear hK K
    refine wpAnyH_ready (rs := [4]) (by kernel_rfl) (by simp) ?_
    refine (AllReadyH.cons (o := ⟨some 10, .alloc 40, _, _, _, none⟩) rfl (fun K hK => ?_) AllReadyH.nil)
    with_reducible refine step_run_val ?_ (ptr wb.heap.size) (wb.alloc (.cells zR.cs 40)) ?_ ?_
    ·exact rfl
    ·exact exec_newR11 rfl
    have hA := CAt.made wb zR.cs 40
    have hB := below_al wb (.cells zR.cs 40)
    have HL10 := hid (show w3.heap.size ≤ wb.heap.size from HD.out.size)
    replace HCI := hid (HCI.out.on hB)
    have HNE := hid (show ∀ a n c, s.pv = .slice (some a) n c → ps ≠ [] → a.block ≠ wb.heap.size from fun a n c e hne => by have := HPL.out.blk11 e hne; omega)
    replace HPL := hid (HPL.out.below hB)
    replace HD := hid (below_on HD.out hB)
    have HA := hid hA
    clear hA hB
    generalize hnw : wb.alloc (.cells zR.cs 40) = wal at HA HD HCI HPL ⊢
    generalize hng : wb.heap.size = g10 at HA HL10 HNE ⊢
    clear hnw hng
    refine hK.out _ _ (HSF.out _ HD.out) (fun hHeld => ?_)
    clear hK K
    refine wpAnyH_take (i := 5) (oi := ⟨some 9, .assign (.tmp 30), _, _, _, none⟩) (v := .slice pi ni ci) rfl (by kernel_rfl) (by kernel_rfl) (by kernel_rfl) (fun _ _ _ h => h) (Or.inl ⟨by kernel_rfl, by intro W hW; go_simp⟩) hHeld ?_
    refine wpAnyH_ready (rs := [6]) (by kernel_rfl) (by simp) ?_
    refine AllReadyH.cons (o := ⟨none, .store 40 (.tmp 10) (.tmp 32), _, _, _, none⟩) rfl (fun K hK => ?_) AllReadyH.nil
    with_reducible refine step_storeR ?_ ?_ (.tmp 10) (.tmp 32) ?_ g10 ?_ (r := s) ?_ zR_ok HSK.out HSO.out (RBox.mk' zR_ok HA.out) ?_
    ·exact rfl
    ·exact rfl
    ·exact rfl
    ·kernel_rfl
    ·kernel_rfl
    intro wy h8 o8
    have HD8 := hid (below_tr HD.out (o8.below HD.out.size (fun i e => by have := HL10.out; omega)))
    have HFIN := hid (E3.make HB3.out HC5.out HD.out HCI.out HCE.out HLN.out HPL.out HNE.out HSK.out HLK.out HL10.out HA.out h8.at_ o8)
    clear h8 o8
    refine hK.out _ _ (HSF.out _ HD8.out) (fun hHeld => ?_)
    clear hK K
    refine wpAnyH_done (by kernel_rfl) ?_ _
    (try simp only [Act.put, List.setIfInBounds_toArray, List.set_cons_zero, List.set_cons_succ])
    go_wp2_with fail
    go_meet
    case rel => exact ⟨pi, ni, ci, L, s, g10, rfl, rfl, HFIN⟩
   ·with_reducible refine step_run_val ?_ (ptr wa.heap.size) (wa.alloc (.cells zR.cs 40)) ?_ ?_
    ·exact rfl
    ·exact exec_newR11 rfl
    have hA := CAt.made wa zR.cs 40
    have hB := below_al wa (.cells zR.cs 40)
    have HL10 := hid (show w3.heap.size ≤ wa.heap.size from HD.out.size)
    replace HCI := hid (HCI.out.on hB)
    replace HD := hid (below_on HD.out hB)
    have HA := hid hA
    clear hA hB
    generalize hnw : wa.alloc (.cells zR.cs 40) = wal at HA HD HCI ⊢
    generalize hng : wa.heap.size = g10 at HA HL10 ⊢
    clear hnw hng
    refine hK.out _ _ (HSF.out _ HD.out) (fun hHeld => ?_)
    clear hK K
    refine wpAnyH_ready (rs := [3]) (by kernel_rfl) (by simp) ?_
    refine (AllReadyH.cons (o := ⟨some 32, .call { callee := .value (.func 16), args := #[.tmp 31], argTypes := #[40] }, _, _, _, none⟩) rfl (fun K hK => ?_) AllReadyH.nil)
    refine step_call rfl 16 #[.agg X] (by kernel_rfl) ((HCR.out _ HD.out).mono ?_)
    rintro e wb ⟨s, rfl, hsk, hso, hlk, hpl, hb3⟩
    have HPL := hid hpl.1
    have HSK := hid hsk
    have HLK := hid hlk
    have HSO := hid hso
    have HNE := hid (show ∀ a n c, s.pv = .slice (some a) n c → ps ≠ [] → a.block ≠ g10 from fun a n c e hne => by have := (hpl.2.1 a n c e hne).1; have := HA.out.lt; omega)
    replace HA := hid (HA.out.below hb3)
    replace HCI := hid (HCI.out.on hb3)
    replace HD := hid (below_on HD.out hb3)
    clear hsk hso hlk hpl hb3
    refine ⟨_, rfl, hK.out _ _ (HSF.out _ HD.out) (fun hHeld => ?_)⟩
    clear hK K
    refine wpAnyH_take (i := 5) (oi := ⟨some 9, .assign (.tmp 30), _, _, _, none⟩) (v := .slice pi ni ci) rfl (by kernel_rfl) (by kernel_rfl) (by kernel_rfl) (fun _ _ _ h => h) (Or.inl ⟨by kernel_rfl, by intro W hW; go_simp⟩) hHeld ?_
    refine wpAnyH_ready (rs := [6]) (by kernel_rfl) (by simp) ?_
    refine AllReadyH.cons (o := ⟨none, .store 40 (.tmp 10) (.tmp 32), _, _, _, none⟩) rfl (fun K hK => ?_) AllReadyH.nil
    with_reducible refine step_storeR ?_ ?_ (.tmp 10) (.tmp 32) ?_ g10 ?_ (r := s) ?_ zR_ok HSK.out HSO.out (RBox.mk' zR_ok HA.out) ?_
    ·exact rfl
    ·exact rfl
    ·exact rfl
    ·kernel_rfl
    ·kernel_rfl
    intro wy h8 o8
    have HD8 := hid (below_tr HD.out (o8.below HD.out.size (fun i e => by have := HL10.out; omega)))
    have HFIN := hid (E3.make HB3.out HC5.out HD.out HCI.out HCE.out HLN.out HPL.out HNE.out HSK.out HLK.out HL10.out HA.out h8.at_ o8)
    clear h8 o8
    refine hK.out _ _ (HSF.out _ HD8.out) (fun hHeld => ?_)
    clear hK K
    refine wpAnyH_done (by kernel_rfl) ?_ _
    (try simp only [Act.put, List.setIfInBounds_toArray, List.set_cons_zero, List.set_cons_succ])
    go_wp2_with fail
    go_meet
    case rel => exact ⟨pi, ni, ci, L, s, g10, rfl, rfl, HFIN⟩
  ·with_reducible refine step_run_val ?_ (ptr wd.heap.size) (wd.alloc (.cells zR.cs 40)) ?_ ?_
   ·exact rfl
   ·exact exec_newR11 rfl
   have hA := CAt.made wd zR.cs 40
   have hB := below_al wd (.cells zR.cs 40)
   have HL10 := hid (show w3.heap.size ≤ wd.heap.size from HD.out.size)
   replace HD := hid (below_on HD.out hB)
   have HA := hid hA
   clear hA hB
   generalize hnw : wd.alloc (.cells zR.cs 40) = wal at HA HD ⊢
   generalize hng : wd.heap.size = g10 at HA HL10 ⊢
   clear hnw hng
   refine hK.out _ _ (HSF.out _ HD.out) (fun hHeld => ?_)
   clear hK K
   refine wpAnyH_ready (rs := [1]) (by kernel_rfl) (by simp) ?_
   refine (AllReadyH.cons (o := ⟨some 30, .call { callee := .value (.func 15), args := #[.tmp 29], argTypes := #[35] }, _, _, _, none⟩) rfl (fun K hK => ?_) AllReadyH.nil)
   refine step_call rfl 15 #[.slice po n c] (by kernel_rfl) ((HCP.out _ HD.out).mono ?_)
   rintro e wa ⟨vi, L, rfl, hci, hce, hb1⟩
   obtain ⟨pi, ci, hvi, -⟩ := hci.buf.form
   obtain ⟨ni, hni⟩ : ∃ ni, (L.map Cv.row).length = ni := ⟨_, rfl⟩
   rw [hni] at hvi
   subst hvi
   have HCI := hid hci
   have HCE := hid hce
   replace HA := hid (HA.out.below hb1)
   replace HD := hid (below_on HD.out hb1)
   clear hci hce hb1 hni
   refine ⟨_, rfl, hK.out _ _ (HSF.out _ HD.out) (fun hHeld => ?_)⟩
   clear hK K
   refine wpAnyH_ready (rs := [3]) (by kernel_rfl) (by simp) ?_
   refine (AllReadyH.cons (o := ⟨some 32, .call { callee := .value (.func 16), args := #[.tmp 31], argTypes := #[40] }, _, _, _, none⟩) rfl (fun K hK => ?_) AllReadyH.nil)
   refine step_call rfl 16 #[.agg X] (by kernel_rfl) ((HCR.out _ HD.out).mono ?_)
   rintro e wb ⟨s, rfl, hsk, hso, hlk, hpl, hb3⟩
   have HPL := hid hpl.1
   have HSK := hid hsk
   have HLK := hid hlk
   have HSO := hid hso
   have HNE := hid (show ∀ a n c, s.pv = .slice (some a) n c → ps ≠ [] → a.block ≠ g10 from fun a n c e hne => by have := (hpl.2.1 a n c e hne).1; have := HA.out.lt; omega)
   replace HA := hid (HA.out.below hb3)
   replace HCI := hid (HCI.out.on hb3)
   replace HD := hid (below_on HD.out hb3)
   clear hsk hso hlk hpl hb3
   refine ⟨_, rfl, hK.out _ _ (HSF.out _ HD.out) (fun hHeld => ?_)⟩
   clear hK K
   refine wpAnyH_take (i := 5) (oi := ⟨some 9, .assign (.tmp 30), _, _, _, none⟩) (v := .slice pi ni ci) rfl (by kernel_rfl) (by kernel_rfl) (by kernel_rfl) (fun _ _ _ h => h) (Or.inl ⟨by kernel_rfl, by intro W hW; go_simp⟩) hHeld ?_
   refine wpAnyH_ready (rs := [6]) (by kernel_rfl) (by simp) ?_
   refine AllReadyH.cons (o := ⟨none, .store 40 (.tmp 10) (.tmp 32), _, _, _, none⟩) rfl (fun K hK => ?_) AllReadyH.nil
   with_reducible refine step_storeR ?_ ?_ (.tmp 10) (.tmp 32) ?_ g10 ?_ (r := s) ?_ zR_ok HSK.out HSO.out (RBox.mk' zR_ok HA.out) ?_
   ·exact rfl
   ·exact rfl
   ·exact rfl
   ·kernel_rfl
   ·kernel_rfl
   intro wy h8 o8
   have HD8 := hid (below_tr HD.out (o8.below HD.out.size (fun i e => by have := HL10.out; omega)))
   have HFIN := hid (E3.make HB3.out HC5.out HD.out HCI.out HCE.out HLN.out HPL.out HNE.out HSK.out HLK.out HL10.out HA.out h8.at_ o8)
   clear h8 o8
   refine hK.out _ _ (HSF.out _ HD8.out) (fun hHeld => ?_)
   clear hK K
   refine wpAnyH_done (by kernel_rfl) ?_ _
   (try simp only [Act.put, List.setIfInBounds_toArray, List.set_cons_zero, List.set_cons_succ])
   go_wp2_with fail
   go_meet
   case rel => exact ⟨pi, ni, ci, L, s, g10, rfl, rfl, HFIN⟩
 case rest =>
  obtain ⟨pi, ni, ci, L, s, g10, rfl, rfl, HE⟩ := hcut
  clear HCP HCR HSF HC5 HB3
  obtain ⟨Y, hY⟩ : ∃ Y, s.cs = Y := ⟨_, rfl⟩
  have HYS := hid (show Y.size = 42 from hY ▸ HE.out.ok.size)
  have HF := hid (fun W (hW : Below wc.heap.size wc W) => (And.intro (by have h := ((HE.out.on hW).c5); rw [HXE.out] at h; exact h.whole) (by have h := ((HE.out.on hW).c10); rw [hY] at h; exact h.whole) : (∀ (j : Nat) (x : Value), X[j]? = some x → W.cell? ⟨g5, 0 + j, none⟩ = some x) ∧ (∀ (j : Nat) (x : Value), Y[j]? = some x → W.cell? ⟨g10, 0 + j, none⟩ = some x)))
  replace HSR := hid (fun W (hW : Below wc.heap.size wc W) => (by have h := HSR.out W _ L s (HE.out.on hW).cl HE.out.eq HE.out.ok HE.out.lk (HE.out.on hW).pl; rw [hY] at h; exact h : Calls Tryz.prog 17 #[.slice pi ni ci, .agg Y] W (WhU W E1 Ba)))
  replace HSP := hid (fun W (hW : Below wc.heap.size wc W) => (by have h := HSP.out W _ L s (HE.out.on hW).cl HE.out.eq HE.out.ok HE.out.lk (HE.out.on hW).pl; rw [hY] at h; exact h : Calls Tryz.prog 19 #[.slice pi ni ci, .agg Y, .int .i64 x, .int .i64 y] W (PtW W E2 Bb)))
  replace HSM := hid (fun W (hW : Below wc.heap.size wc W) => (by have h := HSM.out W _ L s (HE.out.on hW).cl HE.out.eq HE.out.ok HE.out.lk (HE.out.on hW).pl; rw [hY] at h; exact h : Calls Tryz.prog 21 #[.slice pi ni ci, .agg Y] W (MeW W E1 Ls ns)))
  replace HRR := hid (fun W (hW : Below wc.heap.size wc W) => HRR.out W (below_on HE.out.below hW))
  replace HRP := hid (fun W (hW : Below wc.heap.size wc W) => HRP.out W (below_on HE.out.below hW))
  replace HRM := hid (fun W (hW : Below wc.heap.size wc W) => HRM.out W (below_on HE.out.below hW))
  replace HSA := hid (fun W (hW : Below wc.heap.size wc W) => HSA.out W _ L (below_on HE.out.below hW) (HE.out.on hW).cl HE.out.eq)
  replace HSS := hid (fun W (hW : Below wc.heap.size wc W) => (by have h := HSS.out W s (below_on HE.out.below hW) HE.out.ok HE.out.lk (HE.out.on hW).pl; rw [hY] at h; exact h : Calls Tryz.prog 26 #[.agg Y, .agg X] W fun e w' => e = .returned (.bool true) ∧ Below W.heap.size W w'))
  unfold WhU at HSR
  unfold RdU at HRR
  unfold PtW at HSP
  unfold PtU at HRP
  unfold MeW at HSM
  unfold RmU at HRM
  obtain ⟨nA, hnA⟩ : ∃ nA, Ba.length = nA := ⟨_, rfl⟩
  have HNA := hid hnA
  rw [hnA] at HSR HRR
  obtain ⟨nn, hnn⟩ : ∃ nn, ns.length = nn := ⟨_, rfl⟩
  rw [hnn] at HSM HRM HSI
  have HBW := hid (Below.refl wc.heap.size wc)
  have HBE := hid HE.out.below
  have T1 : Hid True := hid trivial
  have T2 : Hid True := hid trivial
  clear hY hnA hnn
  go_upto_region 10 with (first
   | ((with_reducible refine wpList_load_at 40 _ rfl ?_ g5 0 ?_ X (.struct (Tryz.prog.fieldsOf 40)) ?_ underRec rfl ?_ ?_); exact rfl; exact rfl; exact (HF.out _ HBW.out).1; (rw [HXS.out]; exact sizeR))
   | ((with_reducible refine wpList_load_at 40 _ rfl ?_ g10 0 ?_ Y (.struct (Tryz.prog.fieldsOf 40)) ?_ underRec rfl ?_ ?_); exact rfl; exact rfl; exact (HF.out _ HBW.out).2; (rw [HYS.out]; exact sizeR))
   | (go_at_call 17; refine (HSR.out _ HBW.out).mono ?_; rintro e w4 ⟨pa, rfl, hba, hb4⟩; have HA4 := hid hba; replace HBW := hid hb4; clear hba hb4)
   | (go_at_call 18; refine (HRR.out _ HBW.out).mono ?_; rintro e w5 ⟨pb, cb, rfl, hbb, hle, -, hb5⟩; have HA5 := hid (HA4.out.below hb5); have HSLb := hid (show SL w5 (.slice pb nA cb) Ba from ⟨pb, cb, by rw [HNA.out], hbb, by rw [HNA.out]; exact hle⟩); have HS45 := hid hb5.size; replace HBW := hid (below_on HBW.out hb5); have HBW0 := hid HBW.out; clear hbb hle hb5)
   | (go_at_call 19; refine (HSP.out _ HBW.out).mono ?_; rintro e w6 ⟨vc, rfl, hbc, hoc, hb6⟩; obtain ⟨pc, nc, cc, rfl⟩ : ∃ pc nc cc, vc = .slice pc nc cc := (by obtain ⟨q1, q2, q3⟩ := Buf.form hbc; exact ⟨q1, _, q2, q3⟩); have HC6 := hid hbc; have HO6 := hid hoc; have HB56 := hid hb6; replace HBW := hid (below_on HBW.out hb6); clear hbc hoc hb6)
   | (go_at_call 20; refine (HRP.out _ HBW.out).mono ?_; rintro e w7 ⟨vd, rfl, hbd, hb7⟩; obtain ⟨pd, nd, cd, rfl⟩ : ∃ pd nd cd, vd = .slice pd nd cd := (by obtain ⟨q1, q2, q3⟩ := Buf.form hbd; exact ⟨q1, _, q2, q3⟩); have HD7 := hid hbd; have HB67 := hid hb7; replace HBW := hid (below_on HBW.out hb7); clear hbd hb7)
   | (go_at_call 21; refine (HSM.out _ HBW.out).mono ?_; rintro e w8 ⟨ux, vx, rfl, hb8, hux, px, cx, rfl, hix⟩; have HSX := hid (show LR w8 ux Ls from hux.elim (fun h => by rw [h.1, h.2]; exact LR.nil _) (fun h => h.lr)); obtain ⟨pv, cv, ev, -⟩ := id HSX.out; subst ev; have HUX := hid hux; have HIX := hid hix; have HB78 := hid hb8; replace HBW := hid (below_on HBW.out hb8); clear hb8 hux hix)
   | (go_at_call 22; refine (HRM.out _ HBW.out).mono ?_; rintro e w9 ⟨uy, vy, rfl, hb9, huy, py, cy, rfl, hiy⟩; obtain ⟨pw, cw, ew, -⟩ := id huy; subst ew; have HSY := hid huy; have HIY := hid hiy; have HB89 := hid hb9; replace HBW := hid (below_on HBW.out hb9); clear hb9 huy hiy))
  have b59 := below_on (below_on (below_on HB56.out HB67.out) HB78.out) HB89.out
  have HA9 := hid (HA5.out.below b59)
  have HS9 := hid (HSLb.out.below b59)
  have HC9 := hid (HC6.out.below (below_on (below_on HB67.out HB78.out) HB89.out))
  have HO9 := hid (HO6.out.below (below_on (below_on HB67.out HB78.out) HB89.out))
  have HD9 := hid (HD7.out.below (below_on HB78.out HB89.out))
  have HX9 := hid (HSX.out.below HB89.out)
  have HIX9 := hid (H.IntAt.below HIX.out HB89.out)
  have HUX9 := hid (HUX.out.imp id (fun h => h.below HB89.out))
  have HAB := hid (show ∀ b, (Value.slice pa nA nA).ownBlock = some b → b < w5.heap.size from fun b e => by have := (own_ge HA4.out b e).2; have := HS45.out; omega)
  have HCB := hid (show ∀ b, (Value.slice pc nc cc).ownBlock = some b → b < w7.heap.size from fun b e => by have := (own_ge HC6.out b e).2; have := HB67.out.size; omega)
  have H57 := hid (show w5.heap.size ≤ w7.heap.size by have := HB56.out.size; have := HB67.out.size; omega)
  have HCW := hid (show wc.heap.size ≤ w5.heap.size ∧ wc.heap.size ≤ w7.heap.size by have := HBW0.out.size; have := H57.out; omega)
  clear b59 HA4 HA5 HSLb HC6 HO6 HD7 HSX HIX HUX HB56 HB67 HB78 HB89 HS45 HSR HRR HSP HRP HSM HRM HBW0
  go_upto_region 12 with (first
   | (clear T1; go_at_call 23; refine (HSB.out w9 _ _ Ba HA9.out.sl HS9.out HB1.out.1).mono ?_; rintro e wq ⟨rfl, hw⟩; have hw2 := hw.symm; subst hw2)
   | (clear T2; go_at_call 23; refine (HSB.out w9 _ _ Bb HC9.out.sl HD9.out.sl HB2.out).mono ?_; rintro e wq ⟨rfl, hw⟩; have hw2 := hw.symm; subst hw2)
   | (go_at_call 10; refine (HSL.out w9 _ _ HX9.out HSY.out).mono ?_; rintro e w10 ⟨rfl, hb10⟩; have HB10 := hid hb10; clear hb10)
   | (go_at_call 24; refine (HSI.out w10 px py cx cy (H.IntAt.below HIX9.out HB10.out) (H.IntAt.below HIY.out HB10.out)).mono ?_; rintro e w11 ⟨rfl, k, hk⟩; have HB11 := hid (below_on HB10.out (show Below w10.heap.size w10 w11 by rw [hk]; exact below_drewN w10 k)); clear hk))
  have HOA := hid (over_out ((HA9.out.below HB11.out).out) HB1.out.1 (by have := HB1.out.2; omega))
  have HO11 := hid (HO9.out.below HB11.out)
  have HUX11 := hid (HUX9.out.imp id (fun h => h.below HB11.out))
  replace HBW := hid (below_on HBW.out HB11.out)
  clear HA9 HS9 HC9 HO9 HD9 HX9 HIX9 HUX9 HSY HIY HB10 HB11 HSB HSL HSI
  go_upto_region 13 with (go_at_call 11; refine HOA.out.mono ?_; rintro e w12 ⟨rfl, ho12⟩; have HO12 := hid ho12; clear ho12)
  have HOC := hid (overS_any (HO11.out.only HO12.out (fun i h => by have := HAB.out i h.1; omega)))
  have HUX12 := hid (HUX11.out.imp id (fun h => h.only11 HO12.out (fun i h => by have := HAB.out i h.1; have := H57.out; omega)))
  replace HBW := hid (below_tr HBW.out (HO12.out.below HBW.out.size (fun i h => h.2)))
  clear HOA HO11 HUX11 HO12
  go_upto_region 14 with (go_at_call 11; refine HOC.out.mono ?_; rintro e w13 ⟨rfl, ho13⟩; have HO13 := hid ho13; clear ho13)
  have HUX13 := hid (HUX12.out.imp id (fun h => h.only11 HO13.out (fun i h => by have := HCB.out i h.1; omega)))
  replace HBW := hid (below_tr HBW.out (HO13.out.below HBW.out.size (fun i h => by have := h.2; have := HCW.out; omega)))
  clear HOC HUX12 HO13 HAB HCB
  have HO0 := hid (ll_ovI rfl HUX13.out HL1.out.1)
  obtain ⟨N, hN⟩ : ∃ N, Ls.length = N := ⟨_, rfl⟩
  have hN16 : N ≤ 16 := by rw [← hN]; exact HL1.out.2
  rw [hN] at HO0 ⊢
  clear HUX13 hN
  go_wp2_with fail
  go_loopw [25] (fun q wr => ∃ i : Nat, i ≤ N ∧ q = .int .i64 (i : Int) ∧ Hid (OvI w7.heap.size w13 wr pv N)) (fun q _ => ((N : Int) - intOf q).toNat)
  case atStart => exact ⟨0, Nat.zero_le _, rfl, HO0⟩
  case round =>
   obtain ⟨i, hi, rfl, HO⟩ := hrel
   by_cases hlt : i < N
   ·obtain ⟨g, vs, gj, cs, rfl, h2, h3, h4, h5, h6, h7⟩ := HO.out.row i hlt
    have c1 : wr.cell? ⟨g, i, none⟩ = some (.slice (some ⟨gj, 0, none⟩) cs.size cs.size) := by rw [h2.cell]; exact h3
    have HOV := hid (over11_any gj cs.size cs.size wr h7 h5 cs h6 rfl)
    have HST := hid (fun (W2 : World) (ho : Only (fun b => b = gj) wr W2) (hu : CellsU W2 gj cs.size) (ha : ∃ cs', CAt W2 gj cs' 5 ∧ cs'.size = cs.size) => HO.out.step h4 h6 ho hu ha)
    have hi' : (i : Int) < (N : Int) := by omega
    have hw : IntKind.i64.wrap ((i : Int) + 1) = (i : Int) + 1 := IntWalk.i64_in _ ⟨by omega, by omega⟩
    clear h2 h3 h4 h5 h6 h7
    go_wp2_with (go_at_call 11; refine HOV.out.mono ?_; rintro e w14 ⟨rfl, ho7, hu7, ha7⟩; have HO7 := hid (HST.out w14 ho7 hu7 ha7); clear ho7 hu7 ha7)
    go_roundw
    case rel => exact ⟨i + 1, hlt, by congr 1, HO7⟩
    case measure => simp only [intOf]; omega
   ·have hq : ¬ (i : Int) < (N : Int) := by omega
    replace HBW := hid (below_tr HBW.out (HO.out.on.below HBW.out.size (fun x h => by have h2 : w7.heap.size ≤ x := h; have := HCW.out; omega)))
    clear HO HO0
    go_wp2_with (first
     | ((with_reducible refine wpList_load_at 40 _ rfl ?_ g5 0 ?_ X (.struct (Tryz.prog.fieldsOf 40)) ?_ underRec rfl ?_ ?_); exact rfl; exact rfl; exact (HF.out _ HBW.out).1; (rw [HXS.out]; exact sizeR))
     | ((with_reducible refine wpList_load_at 40 _ rfl ?_ g10 0 ?_ Y (.struct (Tryz.prog.fieldsOf 40)) ?_ underRec rfl ?_ ?_); exact rfl; exact rfl; exact (HF.out _ HBW.out).2; (rw [HYS.out]; exact sizeR))
     | (go_at_call 25; refine (HSA.out _ HBW.out).mono ?_; rintro e w15 ⟨rfl, hb15⟩; replace HBW := hid (below_on HBW.out hb15); clear hb15)
     | (go_at_call 26; refine (HSS.out _ HBW.out).mono ?_; rintro e w16 ⟨rfl, hb16⟩; replace HBW := hid (below_on HBW.out hb16); clear hb16)
     | (go_at_call 13; refine (awake11_any _).mono ?_; rintro e w17 ⟨rfl, hb17⟩; replace HBW := hid (below_on HBW.out hb17); clear hb17))
    go_ret
    exact ⟨rfl, below_on HBE.out HBW.out⟩
end Go.Proofs.YtopibkoklagceaaGreat
