/- Texts laid into one: the remark ahead of each part says what is proved there. -/
import Derived.Test.YtcbmimjjpkkoeaaQax
/- JournalEdits, walked. -/
namespace Go.Proofs.Ytcbmimjjpkkoeaa
open Go Go.RowKit

set_option maxRecDepth 100000 in
set_option maxHeartbeats 4000000 in
theorem edits_m (s : Int) (v : Value) (l : List Rp) (x : Rp) (id : ByteArray) (w : World) (hl : IsJ w v l) (hx : IsP w x) (h1 : bigJ l = false) (h2 : bigP x = false) (h3 : ¬ 1000 < id.size) : Calls Try.prog 3 #[.agg (jC s v), .agg x.r.cs, .string id] w fun e w' => e = .returned (.bool true) ∧ Below w.heap.size w w' := by
  have HLG : Hid (∀ W, Below w.heap.size w W → Calls Try.prog 4 #[.agg (jC s v)] W fun e w' => e = .returned (.bool false) ∧ Below W.heap.size W w') := hid (fun W hW => by have := Large_any s v l W (hl.below hW); rw [h1] at this; exact this)
  obtain ⟨X, hX⟩ : ∃ X, x.r.cs = X := ⟨_, rfl⟩
  have HXE := hid hX
  have HXS : Hid (X.size = 42) := hid (by rw [← hX]; exact cs_size8 hx.sl)
  have HLR : Hid (∀ W g, Below w.heap.size w W → CAt W g X 29 → Calls Try.prog 4 #[.agg (jC 0 (.slice (some ⟨g, 0, none⟩) 1 1))] W fun e w' => e = .returned (.bool false) ∧ Below W.heap.size W w') := hid (fun W g hW hc => by rw [← HXE.out] at hc; have := Large_any 0 _ [x] W (one_isj hc (hx.below hW)); rw [bigJ_one, h2] at this; exact this)
  have HL := hid (hl.rl h1)
  have HX := hid (hx.ok h2)
  have hok := HX.out.ok
  have h3' : ¬ 1000 < (id.size : Int) := by omega
  have HLL : Hid (l.length ≤ 100000) := hid HL.out.len
  clear h1 h2 h3 hx
  rw [hX]
  obtain ⟨po, c, rfl, _⟩ := hl
  obtain ⟨n, hn⟩ : ∃ n, l.length = n := ⟨_, rfl⟩
  have HN := hid hn
  rw [hn] at HLG ⊢
  clear hn hX
  have T1 : Hid True := hid trivial
  rw [HN.out] at HLL
  go_enter Try.func3, Try.ntmps3
  go_upto_region 3 with (first
    | ((with_reducible refine wpList_boxT 24 rfl _ rfl (jC s (.slice po n c)) ?_ ?_); exact rfl; intro w1 gj hc1 hb1 hg1; have HC1 := hid hc1; have HB1 := hid hb1; clear hb1 hc1 hg1)
    | ((with_reducible refine wpList_boxR rfl _ rfl X ?_ ?_); exact rfl; intro w2 gr hc2 hb2 hg2; have HF : Hid (E0 w gj gr s (.slice po n c) x.r w2) := hid ⟨below_on HB1.out hb2, HC1.out.below hb2, (by rw [HXE.out]; exact hc2)⟩; clear hb2 hc2 hg2)
    | ((with_reducible refine wpList_load_at 24 _ rfl ?_ gj 0 ?_ (jC s (.slice po n c)) (.struct (Try.prog.fieldsOf 24)) ?_ underJrn rfl ?_ ?_); exact rfl; exact rfl; exact HF.out.cj.wholeJ; exact sizeJ)
    | (clear T1; go_at_call 4; refine (HLG.out _ HF.out.below).mono ?_; rintro e w3 ⟨rfl, hb3⟩; replace HF := hid (HF.out.on hb3); clear hb3)
    | ((with_reducible refine wpList_load_at 29 _ rfl ?_ gr 0 ?_ X (.struct (Try.prog.fieldsOf 29)) ?_ underRec rfl ?_ ?_); exact rfl; exact rfl; (rw [← HXE.out]; exact HF.out.cx.whole); (rw [HXS.out]; exact sizeR))
    | ((with_reducible refine wpList_buildOneW _ rfl ?_ X HXS.out ?_ ?_); exact rfl; exact rfl; intro w4 g4 hc4 hb4 hg4; replace HF := hid (HF.out.on hb4); have HC4 := hid hc4; clear hc4 hb4 hg4)
    | ((with_reducible refine wpList_build_want 24 _ rfl ?_ (jC 0 (.slice (some ⟨g4, 0, none⟩) 1 1)) ?_ ?_); exact rfl; exact builtJr _ _ _)
    | (go_at_call 4; refine (HLR.out _ g4 HF.out.below HC4.out).mono ?_; rintro e w5 ⟨rfl, hb5⟩; replace HF := hid (HF.out.on hb5); clear hb5 HC4))
  have HX5 := hid HXE.out
  have HCJ := hid (fun W (hW : Below w5.heap.size w5 W) => rjcopy_any s _ l W (HL.out.below (below_on HF.out.below hW)))
  rw [HN.out] at HCJ
  have HCR := hid (fun W (hW : Below w5.heap.size w5 W) => rcopyR_any x W (HX.out.below (below_on HF.out.below hW)))
  have HSF : Hid (∀ W, Below w5.heap.size w5 W → (fun W => (Instr.loadAt 24 (.pointer (some ⟨gj, 0, none⟩))).run Try.prog W = .ok (.agg (jC s (.slice po n c))) W ∧ (Instr.loadAt 29 (.pointer (some ⟨gr, 0, none⟩))).run Try.prog W = .ok (.agg x.r.cs) W) W) := hid (fun W hW => ⟨run_loadJ (HF.out.cj.below hW), run_loadR hok (RBox.mk' hok (HF.out.cx.below hW))⟩)
  go_cut [7, 8] from 28 (fun s7 s8 wc => ∃ (g7 g8 : Nat) (vi : Value) (mi : List Rp) (yi : Rp), s7 = ptr g7 ∧ s8 = ptr g8 ∧ Hid (E1 w gj gr g7 g8 s (.slice po n c) x l vi mi yi wc))
  case first =>
    refine wp_region_held_drew (S := (fun W => (Instr.loadAt 24 (.pointer (some ⟨gj, 0, none⟩))).run Try.prog W = .ok (.agg (jC s (.slice po n c))) W ∧ (Instr.loadAt 29 (.pointer (some ⟨gr, 0, none⟩))).run Try.prog W = .ok (.agg x.r.cs) W)) (by kernel_rfl) (HSF.out _ (below_drew _)) (fun hHeld => ?_)
    have HD := hid (below_drew w5)
    refine wpAnyH_take (i := 0) (oi := ⟨some 41, .load 24 (.tmp 3), _, _, _, none⟩) (v := .agg (jC s (.slice po n c))) rfl (by kernel_rfl) (by kernel_rfl) (by kernel_rfl) (fun _ _ _ h => h) (Or.inl ⟨by kernel_rfl, fun W hW => exec_load rfl (by kernel_rfl) hW.1⟩) hHeld ?_
    refine wpAnyH_take (i := 2) (oi := ⟨some 43, .load 29 (.tmp 4), _, _, _, none⟩) (v := .agg x.r.cs) rfl (by kernel_rfl) (by kernel_rfl) (by kernel_rfl) (fun _ _ _ h => h) (Or.inl ⟨by kernel_rfl, fun W hW => exec_load rfl (by kernel_rfl) hW.2⟩) hHeld ?_
    refine wpAnyH_ready (rs := [1, 4, 5]) (by kernel_rfl) (by simp) ?_
    refine AllReadyH.cons rfl (fun K hK => ?_) (AllReadyH.cons (o := ⟨some 7, .alloc 24, _, _, _, none⟩) rfl (fun K hK => ?_) (AllReadyH.cons (o := ⟨some 8, .alloc 29, _, _, _, none⟩) rfl (fun K hK => ?_) AllReadyH.nil))
    · go_simp
      refine (HCJ.out _ HD.out).mono ?_
      rintro e wa ⟨vi, mi, rfl, hr1, he1, hb1⟩
      obtain ⟨pi, ci, hvi, _⟩ := hr1.buf.form
      subst hvi
      have HRl := hid (own_ge hr1.buf)
      have HR := hid (hr1.base HD.out.size)
      have HEE := hid he1
      replace HD := hid (below_on HD.out hb1)
      clear hr1 he1 hb1
      go_wp2_with fail
      refine hK.out _ _ (HSF.out _ HD.out) (fun hHeld => ?_)
      clear hK K
      refine wpAnyH_ready (rs := [3, 4, 5]) (by kernel_rfl) (by simp) ?_
      refine AllReadyH.cons rfl (fun K hK => ?_) (AllReadyH.cons (o := ⟨some 7, .alloc 24, _, _, _, none⟩) rfl (fun K hK => ?_) (AllReadyH.cons (o := ⟨some 8, .alloc 29, _, _, _, none⟩) rfl (fun K hK => ?_) AllReadyH.nil))
      · go_simp
        refine (HCR.out _ HD.out).mono ?_
        rintro e wb ⟨yi, rfl, hyx, hy, hyo, hb2⟩
        have hyk := hy.ok
        have HY := hid (hy.base HD.out.size)
        have HYX := hid hyx
        replace HR := hid (HR.out.below hb2)
        replace HD := hid (below_on HD.out hb2)
        clear hy hyx hb2
        go_wp2_with fail
        refine hK.out _ _ (HSF.out _ HD.out) (fun hHeld => ?_)
        clear hK K
        refine wpAnyH_ready (rs := [4, 5]) (by kernel_rfl) (by simp) ?_
        refine AllReadyH.cons (o := ⟨some 7, .alloc 24, _, _, _, none⟩) rfl (fun K hK => ?_) (AllReadyH.cons (o := ⟨some 8, .alloc 29, _, _, _, none⟩) rfl (fun K hK => ?_) AllReadyH.nil)
        · with_reducible refine step_run_val ?_ (ptr wb.heap.size) (wb.alloc (.cells (jC 0 (.slice none 0 0)) 24)) ?_ ?_
          · exact rfl
          · exact exec_newJ rfl
          have hA := CAt.made wb ((jC 0 (.slice none 0 0))) 24
          have hB := below_al wb (.cells (jC 0 (.slice none 0 0)) 24)
          have HL7 := hid (show w5.heap.size ≤ wb.heap.size from HD.out.size)
          have HN7 : Hid (∀ b, (Value.slice pi mi.length ci).ownBlock = some b → b ≠ wb.heap.size) := hid (fun b e => by have := (own_ge HR.out.buf b e).2; omega)
          replace HR := hid (HR.out.below hB)
          replace HY := hid (HY.out.below hB)
          replace HD := hid (below_on HD.out hB)
          have HA4 := hid hA
          clear hA hB
          generalize hnw : wb.alloc (.cells (jC 0 (.slice none 0 0)) 24) = wwb7 at HA4 HD HR HY ⊢
          generalize hng : wb.heap.size = g7 at HA4 HL7 HN7 ⊢
          clear hnw hng
          refine hK.out _ _ (HSF.out _ HD.out) (fun hHeld => ?_)
          clear hK K
          refine wpAnyH_ready (rs := [5]) (by kernel_rfl) (by simp) ?_
          refine AllReadyH.cons (o := ⟨some 8, .alloc 29, _, _, _, none⟩) rfl (fun K hK => ?_) AllReadyH.nil
          with_reducible refine step_run_val ?_ (ptr wwb7.heap.size) (wwb7.alloc (.cells zR.cs 29)) ?_ ?_
          · exact rfl
          · exact exec_newR rfl
          have hA := CAt.made wwb7 zR.cs 29
          have hB := below_al wwb7 (.cells zR.cs 29)
          have HL8 := hid (show w5.heap.size ≤ wwb7.heap.size from HD.out.size)
          have HN8 : Hid (∀ b, (Value.slice pi mi.length ci).ownBlock = some b → b ≠ wwb7.heap.size) := hid (fun b e => by have := (own_ge HR.out.buf b e).2; omega)
          replace HR := hid (HR.out.below hB)
          replace HY := hid (HY.out.below hB)
          have HNE : Hid (g7 ≠ wwb7.heap.size) := hid (by have := HA4.out.lt; omega)
          replace HA4 := hid (HA4.out.below hB)
          replace HD := hid (below_on HD.out hB)
          have HA5 := hid hA
          clear hA hB
          generalize hnw : wwb7.alloc (.cells zR.cs 29) = wwwb78 at HA5 HD HR HY HA4 ⊢
          generalize hng : wwb7.heap.size = g8 at HA5 HL8 HN8 HNE ⊢
          clear hnw hng
          refine hK.out _ _ (HSF.out _ HD.out) (fun hHeld => ?_)
          clear hK K
          refine wpAnyH_ready (rs := [6]) (by kernel_rfl) (by simp) ?_
          refine AllReadyH.cons (o := ⟨none, .store 24 (.tmp 7) (.tmp 42), _, _, _, none⟩) rfl (fun K hK => ?_) AllReadyH.nil
          with_reducible refine step_storeJ ?_ ?_ (.tmp 7) (.tmp 42) ?_ g7 ?_ (s := s) (v := .slice pi mi.length ci) ?_ ?_ HA4.out ?_
          · exact rfl
          · exact rfl
          · exact rfl
          · kernel_rfl
          · kernel_rfl
          · exact rfl
          intro wx h7 o7
          have H7 := hid h7
          have O7 := hid o7
          have HD7 := hid (below_tr HD.out (o7.below HD.out.size (fun i e => by have := HL7.out; omega)))
          have HA5x := hid (HA5.out.keep (o7.block g8 HA5.out.lt (fun e => HNE.out e.symm)))
          clear h7 o7
          refine hK.out _ _ (HSF.out _ HD7.out) (fun hHeld => ?_)
          clear hK K
          refine wpAnyH_ready (rs := [7]) (by kernel_rfl) (by simp) ?_
          refine AllReadyH.cons (o := ⟨none, .store 29 (.tmp 8) (.tmp 44), _, _, _, none⟩) rfl (fun K hK => ?_) AllReadyH.nil
          with_reducible refine step_storeR ?_ ?_ (.tmp 8) (.tmp 44) ?_ g8 ?_ (r := yi.r) ?_ zR_ok hyk hyo (RBox.mk' zR_ok HA5x.out) ?_
          · exact rfl
          · exact rfl
          · exact rfl
          · kernel_rfl
          · kernel_rfl
          intro wy h8 o8
          have HD8 := hid (below_tr HD7.out (o8.below HD7.out.size (fun i e => by have := HL8.out; omega)))
          have HML : Hid (mi.length ≤ 100000) := hid (by have h9 := congrArg List.length HEE.out; rw [rcs_len, rcs_len, HN.out] at h9; have := HLL.out; omega)
          have HFIN := hid (E1.make HF.out HD.out HR.out HEE.out HML.out HY.out HYX.out HN7.out HN8.out HL7.out HL8.out HNE.out HA4.out H7.out O7.out HA5x.out h8.at_ o8)
          clear h8 o8
          refine hK.out _ _ (HSF.out _ HD8.out) (fun hHeld => ?_)
          clear hK K
          refine wpAnyH_done (by kernel_rfl) ?_ _
          (try simp only [Act.put, List.setIfInBounds_toArray, List.set_cons_zero, List.set_cons_succ])
          go_wp2_with fail
          go_meet
          case rel => exact ⟨g7, g8, _, mi, yi, rfl, rfl, HFIN.out⟩
        · with_reducible refine step_run_val ?_ (ptr wb.heap.size) (wb.alloc (.cells zR.cs 29)) ?_ ?_
          · exact rfl
          · exact exec_newR rfl
          have hA := CAt.made wb zR.cs 29
          have hB := below_al wb (.cells zR.cs 29)
          have HL8 := hid (show w5.heap.size ≤ wb.heap.size from HD.out.size)
          have HN8 : Hid (∀ b, (Value.slice pi mi.length ci).ownBlock = some b → b ≠ wb.heap.size) := hid (fun b e => by have := (own_ge HR.out.buf b e).2; omega)
          replace HR := hid (HR.out.below hB)
          replace HY := hid (HY.out.below hB)
          replace HD := hid (below_on HD.out hB)
          have HA5 := hid hA
          clear hA hB
          generalize hnw : wb.alloc (.cells zR.cs 29) = wwb8 at HA5 HD HR HY ⊢
          generalize hng : wb.heap.size = g8 at HA5 HL8 HN8 ⊢
          clear hnw hng
          refine hK.out _ _ (HSF.out _ HD.out) (fun hHeld => ?_)
          clear hK K
          refine wpAnyH_ready (rs := [4]) (by kernel_rfl) (by simp) ?_
          refine AllReadyH.cons (o := ⟨some 7, .alloc 24, _, _, _, none⟩) rfl (fun K hK => ?_) AllReadyH.nil
          with_reducible refine step_run_val ?_ (ptr wwb8.heap.size) (wwb8.alloc (.cells (jC 0 (.slice none 0 0)) 24)) ?_ ?_
          · exact rfl
          · exact exec_newJ rfl
          have hA := CAt.made wwb8 ((jC 0 (.slice none 0 0))) 24
          have hB := below_al wwb8 (.cells (jC 0 (.slice none 0 0)) 24)
          have HL7 := hid (show w5.heap.size ≤ wwb8.heap.size from HD.out.size)
          have HN7 : Hid (∀ b, (Value.slice pi mi.length ci).ownBlock = some b → b ≠ wwb8.heap.size) := hid (fun b e => by have := (own_ge HR.out.buf b e).2; omega)
          replace HR := hid (HR.out.below hB)
          replace HY := hid (HY.out.below hB)
          have HNE : Hid (wwb8.heap.size ≠ g8) := hid (by have := HA5.out.lt; omega)
          replace HA5 := hid (HA5.out.below hB)
          replace HD := hid (below_on HD.out hB)
          have HA4 := hid hA
          clear hA hB
          generalize hnw : wwb8.alloc (.cells (jC 0 (.slice none 0 0)) 24) = wwwb87 at HA4 HD HR HY HA5 ⊢
          generalize hng : wwb8.heap.size = g7 at HA4 HL7 HN7 HNE ⊢
          clear hnw hng
          refine hK.out _ _ (HSF.out _ HD.out) (fun hHeld => ?_)
          clear hK K
          refine wpAnyH_ready (rs := [6]) (by kernel_rfl) (by simp) ?_
          refine AllReadyH.cons (o := ⟨none, .store 24 (.tmp 7) (.tmp 42), _, _, _, none⟩) rfl (fun K hK => ?_) AllReadyH.nil
          with_reducible refine step_storeJ ?_ ?_ (.tmp 7) (.tmp 42) ?_ g7 ?_ (s := s) (v := .slice pi mi.length ci) ?_ ?_ HA4.out ?_
          · exact rfl
          · exact rfl
          · exact rfl
          · kernel_rfl
          · kernel_rfl
          · exact rfl
          intro wx h7 o7
          have H7 := hid h7
          have O7 := hid o7
          have HD7 := hid (below_tr HD.out (o7.below HD.out.size (fun i e => by have := HL7.out; omega)))
          have HA5x := hid (HA5.out.keep (o7.block g8 HA5.out.lt (fun e => HNE.out e.symm)))
          clear h7 o7
          refine hK.out _ _ (HSF.out _ HD7.out) (fun hHeld => ?_)
          clear hK K
          refine wpAnyH_ready (rs := [7]) (by kernel_rfl) (by simp) ?_
          refine AllReadyH.cons (o := ⟨none, .store 29 (.tmp 8) (.tmp 44), _, _, _, none⟩) rfl (fun K hK => ?_) AllReadyH.nil
          with_reducible refine step_storeR ?_ ?_ (.tmp 8) (.tmp 44) ?_ g8 ?_ (r := yi.r) ?_ zR_ok hyk hyo (RBox.mk' zR_ok HA5x.out) ?_
          · exact rfl
          · exact rfl
          · exact rfl
          · kernel_rfl
          · kernel_rfl
          intro wy h8 o8
          have HD8 := hid (below_tr HD7.out (o8.below HD7.out.size (fun i e => by have := HL8.out; omega)))
          have HML : Hid (mi.length ≤ 100000) := hid (by have h9 := congrArg List.length HEE.out; rw [rcs_len, rcs_len, HN.out] at h9; have := HLL.out; omega)
          have HFIN := hid (E1.make HF.out HD.out HR.out HEE.out HML.out HY.out HYX.out HN7.out HN8.out HL7.out HL8.out HNE.out HA4.out H7.out O7.out HA5x.out h8.at_ o8)
          clear h8 o8
          refine hK.out _ _ (HSF.out _ HD8.out) (fun hHeld => ?_)
          clear hK K
          refine wpAnyH_done (by kernel_rfl) ?_ _
          (try simp only [Act.put, List.setIfInBounds_toArray, List.set_cons_zero, List.set_cons_succ])
          go_wp2_with fail
          go_meet
          case rel => exact ⟨g7, g8, _, mi, yi, rfl, rfl, HFIN.out⟩
      · with_reducible refine step_run_val ?_ (ptr wa.heap.size) (wa.alloc (.cells (jC 0 (.slice none 0 0)) 24)) ?_ ?_
        · exact rfl
        · exact exec_newJ rfl
        have hA := CAt.made wa ((jC 0 (.slice none 0 0))) 24
        have hB := below_al wa (.cells (jC 0 (.slice none 0 0)) 24)
        have HL7 := hid (show w5.heap.size ≤ wa.heap.size from HD.out.size)
        have HN7 : Hid (∀ b, (Value.slice pi mi.length ci).ownBlock = some b → b ≠ wa.heap.size) := hid (fun b e => by have := (own_ge HR.out.buf b e).2; omega)
        replace HR := hid (HR.out.below hB)
        replace HD := hid (below_on HD.out hB)
        have HA4 := hid hA
        clear hA hB
        generalize hnw : wa.alloc (.cells (jC 0 (.slice none 0 0)) 24) = wwa7 at HA4 HD HR ⊢
        generalize hng : wa.heap.size = g7 at HA4 HL7 HN7 ⊢
        clear hnw hng
        refine hK.out _ _ (HSF.out _ HD.out) (fun hHeld => ?_)
        clear hK K
        refine wpAnyH_ready (rs := [3, 5]) (by kernel_rfl) (by simp) ?_
        refine AllReadyH.cons rfl (fun K hK => ?_) (AllReadyH.cons (o := ⟨some 8, .alloc 29, _, _, _, none⟩) rfl (fun K hK => ?_) AllReadyH.nil)
        · go_simp
          refine (HCR.out _ HD.out).mono ?_
          rintro e wb ⟨yi, rfl, hyx, hy, hyo, hb2⟩
          have hyk := hy.ok
          have HY := hid (hy.base HD.out.size)
          have HYX := hid hyx
          replace HR := hid (HR.out.below hb2)
          replace HA4 := hid (HA4.out.below hb2)
          replace HD := hid (below_on HD.out hb2)
          clear hy hyx hb2
          go_wp2_with fail
          refine hK.out _ _ (HSF.out _ HD.out) (fun hHeld => ?_)
          clear hK K
          refine wpAnyH_ready (rs := [5]) (by kernel_rfl) (by simp) ?_
          refine AllReadyH.cons (o := ⟨some 8, .alloc 29, _, _, _, none⟩) rfl (fun K hK => ?_) AllReadyH.nil
          with_reducible refine step_run_val ?_ (ptr wb.heap.size) (wb.alloc (.cells zR.cs 29)) ?_ ?_
          · exact rfl
          · exact exec_newR rfl
          have hA := CAt.made wb zR.cs 29
          have hB := below_al wb (.cells zR.cs 29)
          have HL8 := hid (show w5.heap.size ≤ wb.heap.size from HD.out.size)
          have HN8 : Hid (∀ b, (Value.slice pi mi.length ci).ownBlock = some b → b ≠ wb.heap.size) := hid (fun b e => by have := (own_ge HR.out.buf b e).2; omega)
          replace HR := hid (HR.out.below hB)
          replace HY := hid (HY.out.below hB)
          have HNE : Hid (g7 ≠ wb.heap.size) := hid (by have := HA4.out.lt; omega)
          replace HA4 := hid (HA4.out.below hB)
          replace HD := hid (below_on HD.out hB)
          have HA5 := hid hA
          clear hA hB
          generalize hnw : wb.alloc (.cells zR.cs 29) = wwb8 at HA5 HD HR HY HA4 ⊢
          generalize hng : wb.heap.size = g8 at HA5 HL8 HN8 HNE ⊢
          clear hnw hng
          refine hK.out _ _ (HSF.out _ HD.out) (fun hHeld => ?_)
          clear hK K
          refine wpAnyH_ready (rs := [6]) (by kernel_rfl) (by simp) ?_
          refine AllReadyH.cons (o := ⟨none, .store 24 (.tmp 7) (.tmp 42), _, _, _, none⟩) rfl (fun K hK => ?_) AllReadyH.nil
          with_reducible refine step_storeJ ?_ ?_ (.tmp 7) (.tmp 42) ?_ g7 ?_ (s := s) (v := .slice pi mi.length ci) ?_ ?_ HA4.out ?_
          · exact rfl
          · exact rfl
          · exact rfl
          · kernel_rfl
          · kernel_rfl
          · exact rfl
          intro wx h7 o7
          have H7 := hid h7
          have O7 := hid o7
          have HD7 := hid (below_tr HD.out (o7.below HD.out.size (fun i e => by have := HL7.out; omega)))
          have HA5x := hid (HA5.out.keep (o7.block g8 HA5.out.lt (fun e => HNE.out e.symm)))
          clear h7 o7
          refine hK.out _ _ (HSF.out _ HD7.out) (fun hHeld => ?_)
          clear hK K
          refine wpAnyH_ready (rs := [7]) (by kernel_rfl) (by simp) ?_
          refine AllReadyH.cons (o := ⟨none, .store 29 (.tmp 8) (.tmp 44), _, _, _, none⟩) rfl (fun K hK => ?_) AllReadyH.nil
          with_reducible refine step_storeR ?_ ?_ (.tmp 8) (.tmp 44) ?_ g8 ?_ (r := yi.r) ?_ zR_ok hyk hyo (RBox.mk' zR_ok HA5x.out) ?_
          · exact rfl
          · exact rfl
          · exact rfl
          · kernel_rfl
          · kernel_rfl
          intro wy h8 o8
          have HD8 := hid (below_tr HD7.out (o8.below HD7.out.size (fun i e => by have := HL8.out; omega)))
          have HML : Hid (mi.length ≤ 100000) := hid (by have h9 := congrArg List.length HEE.out; rw [rcs_len, rcs_len, HN.out] at h9; have := HLL.out; omega)
          have HFIN := hid (E1.make HF.out HD.out HR.out HEE.out HML.out HY.out HYX.out HN7.out HN8.out HL7.out HL8.out HNE.out HA4.out H7.out O7.out HA5x.out h8.at_ o8)
          clear h8 o8
          refine hK.out _ _ (HSF.out _ HD8.out) (fun hHeld => ?_)
          clear hK K
          refine wpAnyH_done (by kernel_rfl) ?_ _
          (try simp only [Act.put, List.setIfInBounds_toArray, List.set_cons_zero, List.set_cons_succ])
          go_wp2_with fail
          go_meet
          case rel => exact ⟨g7, g8, _, mi, yi, rfl, rfl, HFIN.out⟩
        · with_reducible refine step_run_val ?_ (ptr wwa7.heap.size) (wwa7.alloc (.cells zR.cs 29)) ?_ ?_
          · exact rfl
          · exact exec_newR rfl
          have hA := CAt.made wwa7 zR.cs 29
          have hB := below_al wwa7 (.cells zR.cs 29)
          have HL8 := hid (show w5.heap.size ≤ wwa7.heap.size from HD.out.size)
          have HN8 : Hid (∀ b, (Value.slice pi mi.length ci).ownBlock = some b → b ≠ wwa7.heap.size) := hid (fun b e => by have := (own_ge HR.out.buf b e).2; omega)
          replace HR := hid (HR.out.below hB)
          have HNE : Hid (g7 ≠ wwa7.heap.size) := hid (by have := HA4.out.lt; omega)
          replace HA4 := hid (HA4.out.below hB)
          replace HD := hid (below_on HD.out hB)
          have HA5 := hid hA
          clear hA hB
          generalize hnw : wwa7.alloc (.cells zR.cs 29) = wwwa78 at HA5 HD HR HA4 ⊢
          generalize hng : wwa7.heap.size = g8 at HA5 HL8 HN8 HNE ⊢
          clear hnw hng
          refine hK.out _ _ (HSF.out _ HD.out) (fun hHeld => ?_)
          clear hK K
          refine wpAnyH_ready (rs := [3]) (by kernel_rfl) (by simp) ?_
          refine AllReadyH.cons rfl (fun K hK => ?_) AllReadyH.nil
          go_simp
          refine (HCR.out _ HD.out).mono ?_
          rintro e wb ⟨yi, rfl, hyx, hy, hyo, hb2⟩
          have hyk := hy.ok
          have HY := hid (hy.base HD.out.size)
          have HYX := hid hyx
          replace HR := hid (HR.out.below hb2)
          replace HA4 := hid (HA4.out.below hb2)
          replace HA5 := hid (HA5.out.below hb2)
          replace HD := hid (below_on HD.out hb2)
          clear hy hyx hb2
          go_wp2_with fail
          refine hK.out _ _ (HSF.out _ HD.out) (fun hHeld => ?_)
          clear hK K
          refine wpAnyH_ready (rs := [6]) (by kernel_rfl) (by simp) ?_
          refine AllReadyH.cons (o := ⟨none, .store 24 (.tmp 7) (.tmp 42), _, _, _, none⟩) rfl (fun K hK => ?_) AllReadyH.nil
          with_reducible refine step_storeJ ?_ ?_ (.tmp 7) (.tmp 42) ?_ g7 ?_ (s := s) (v := .slice pi mi.length ci) ?_ ?_ HA4.out ?_
          · exact rfl
          · exact rfl
          · exact rfl
          · kernel_rfl
          · kernel_rfl
          · exact rfl
          intro wx h7 o7
          have H7 := hid h7
          have O7 := hid o7
          have HD7 := hid (below_tr HD.out (o7.below HD.out.size (fun i e => by have := HL7.out; omega)))
          have HA5x := hid (HA5.out.keep (o7.block g8 HA5.out.lt (fun e => HNE.out e.symm)))
          clear h7 o7
          refine hK.out _ _ (HSF.out _ HD7.out) (fun hHeld => ?_)
          clear hK K
          refine wpAnyH_ready (rs := [7]) (by kernel_rfl) (by simp) ?_
          refine AllReadyH.cons (o := ⟨none, .store 29 (.tmp 8) (.tmp 44), _, _, _, none⟩) rfl (fun K hK => ?_) AllReadyH.nil
          with_reducible refine step_storeR ?_ ?_ (.tmp 8) (.tmp 44) ?_ g8 ?_ (r := yi.r) ?_ zR_ok hyk hyo (RBox.mk' zR_ok HA5x.out) ?_
          · exact rfl
          · exact rfl
          · exact rfl
          · kernel_rfl
          · kernel_rfl
          intro wy h8 o8
          have HD8 := hid (below_tr HD7.out (o8.below HD7.out.size (fun i e => by have := HL8.out; omega)))
          have HML : Hid (mi.length ≤ 100000) := hid (by have h9 := congrArg List.length HEE.out; rw [rcs_len, rcs_len, HN.out] at h9; have := HLL.out; omega)
          have HFIN := hid (E1.make HF.out HD.out HR.out HEE.out HML.out HY.out HYX.out HN7.out HN8.out HL7.out HL8.out HNE.out HA4.out H7.out O7.out HA5x.out h8.at_ o8)
          clear h8 o8
          refine hK.out _ _ (HSF.out _ HD8.out) (fun hHeld => ?_)
          clear hK K
          refine wpAnyH_done (by kernel_rfl) ?_ _
          (try simp only [Act.put, List.setIfInBounds_toArray, List.set_cons_zero, List.set_cons_succ])
          go_wp2_with fail
          go_meet
          case rel => exact ⟨g7, g8, _, mi, yi, rfl, rfl, HFIN.out⟩
      · with_reducible refine step_run_val ?_ (ptr wa.heap.size) (wa.alloc (.cells zR.cs 29)) ?_ ?_
        · exact rfl
        · exact exec_newR rfl
        have hA := CAt.made wa zR.cs 29
        have hB := below_al wa (.cells zR.cs 29)
        have HL8 := hid (show w5.heap.size ≤ wa.heap.size from HD.out.size)
        have HN8 : Hid (∀ b, (Value.slice pi mi.length ci).ownBlock = some b → b ≠ wa.heap.size) := hid (fun b e => by have := (own_ge HR.out.buf b e).2; omega)
        replace HR := hid (HR.out.below hB)
        replace HD := hid (below_on HD.out hB)
        have HA5 := hid hA
        clear hA hB
        generalize hnw : wa.alloc (.cells zR.cs 29) = wwa8 at HA5 HD HR ⊢
        generalize hng : wa.heap.size = g8 at HA5 HL8 HN8 ⊢
        clear hnw hng
        refine hK.out _ _ (HSF.out _ HD.out) (fun hHeld => ?_)
        clear hK K
        refine wpAnyH_ready (rs := [3, 4]) (by kernel_rfl) (by simp) ?_
        refine AllReadyH.cons rfl (fun K hK => ?_) (AllReadyH.cons (o := ⟨some 7, .alloc 24, _, _, _, none⟩) rfl (fun K hK => ?_) AllReadyH.nil)
        · go_simp
          refine (HCR.out _ HD.out).mono ?_
          rintro e wb ⟨yi, rfl, hyx, hy, hyo, hb2⟩
          have hyk := hy.ok
          have HY := hid (hy.base HD.out.size)
          have HYX := hid hyx
          replace HR := hid (HR.out.below hb2)
          replace HA5 := hid (HA5.out.below hb2)
          replace HD := hid (below_on HD.out hb2)
          clear hy hyx hb2
          go_wp2_with fail
          refine hK.out _ _ (HSF.out _ HD.out) (fun hHeld => ?_)
          clear hK K
          refine wpAnyH_ready (rs := [4]) (by kernel_rfl) (by simp) ?_
          refine AllReadyH.cons (o := ⟨some 7, .alloc 24, _, _, _, none⟩) rfl (fun K hK => ?_) AllReadyH.nil
          with_reducible refine step_run_val ?_ (ptr wb.heap.size) (wb.alloc (.cells (jC 0 (.slice none 0 0)) 24)) ?_ ?_
          · exact rfl
          · exact exec_newJ rfl
          have hA := CAt.made wb ((jC 0 (.slice none 0 0))) 24
          have hB := below_al wb (.cells (jC 0 (.slice none 0 0)) 24)
          have HL7 := hid (show w5.heap.size ≤ wb.heap.size from HD.out.size)
          have HN7 : Hid (∀ b, (Value.slice pi mi.length ci).ownBlock = some b → b ≠ wb.heap.size) := hid (fun b e => by have := (own_ge HR.out.buf b e).2; omega)
          replace HR := hid (HR.out.below hB)
          replace HY := hid (HY.out.below hB)
          have HNE : Hid (wb.heap.size ≠ g8) := hid (by have := HA5.out.lt; omega)
          replace HA5 := hid (HA5.out.below hB)
          replace HD := hid (below_on HD.out hB)
          have HA4 := hid hA
          clear hA hB
          generalize hnw : wb.alloc (.cells (jC 0 (.slice none 0 0)) 24) = wwb7 at HA4 HD HR HY HA5 ⊢
          generalize hng : wb.heap.size = g7 at HA4 HL7 HN7 HNE ⊢
          clear hnw hng
          refine hK.out _ _ (HSF.out _ HD.out) (fun hHeld => ?_)
          clear hK K
          refine wpAnyH_ready (rs := [6]) (by kernel_rfl) (by simp) ?_
          refine AllReadyH.cons (o := ⟨none, .store 24 (.tmp 7) (.tmp 42), _, _, _, none⟩) rfl (fun K hK => ?_) AllReadyH.nil
          with_reducible refine step_storeJ ?_ ?_ (.tmp 7) (.tmp 42) ?_ g7 ?_ (s := s) (v := .slice pi mi.length ci) ?_ ?_ HA4.out ?_
          · exact rfl
          · exact rfl
          · exact rfl
          · kernel_rfl
          · kernel_rfl
          · exact rfl
          intro wx h7 o7
          have H7 := hid h7
          have O7 := hid o7
          have HD7 := hid (below_tr HD.out (o7.below HD.out.size (fun i e => by have := HL7.out; omega)))
          have HA5x := hid (HA5.out.keep (o7.block g8 HA5.out.lt (fun e => HNE.out e.symm)))
          clear h7 o7
          refine hK.out _ _ (HSF.out _ HD7.out) (fun hHeld => ?_)
          clear hK K
          refine wpAnyH_ready (rs := [7]) (by kernel_rfl) (by simp) ?_
          refine AllReadyH.cons (o := ⟨none, .store 29 (.tmp 8) (.tmp 44), _, _, _, none⟩) rfl (fun K hK => ?_) AllReadyH.nil
          with_reducible refine step_storeR ?_ ?_ (.tmp 8) (.tmp 44) ?_ g8 ?_ (r := yi.r) ?_ zR_ok hyk hyo (RBox.mk' zR_ok HA5x.out) ?_
          · exact rfl
          · exact rfl
          · exact rfl
          · kernel_rfl
          · kernel_rfl
          intro wy h8 o8
          have HD8 := hid (below_tr HD7.out (o8.below HD7.out.size (fun i e => by have := HL8.out; omega)))
          have HML : Hid (mi.length ≤ 100000) := hid (by have h9 := congrArg List.length HEE.out; rw [rcs_len, rcs_len, HN.out] at h9; have := HLL.out; omega)
          have HFIN := hid (E1.make HF.out HD.out HR.out HEE.out HML.out HY.out HYX.out HN7.out HN8.out HL7.out HL8.out HNE.out HA4.out H7.out O7.out HA5x.out h8.at_ o8)
          clear h8 o8
          refine hK.out _ _ (HSF.out _ HD8.out) (fun hHeld => ?_)
          clear hK K
          refine wpAnyH_done (by kernel_rfl) ?_ _
          (try simp only [Act.put, List.setIfInBounds_toArray, List.set_cons_zero, List.set_cons_succ])
          go_wp2_with fail
          go_meet
          case rel => exact ⟨g7, g8, _, mi, yi, rfl, rfl, HFIN.out⟩
        · with_reducible refine step_run_val ?_ (ptr wwa8.heap.size) (wwa8.alloc (.cells (jC 0 (.slice none 0 0)) 24)) ?_ ?_
          · exact rfl
          · exact exec_newJ rfl
          have hA := CAt.made wwa8 ((jC 0 (.slice none 0 0))) 24
          have hB := below_al wwa8 (.cells (jC 0 (.slice none 0 0)) 24)
          have HL7 := hid (show w5.heap.size ≤ wwa8.heap.size from HD.out.size)
          have HN7 : Hid (∀ b, (Value.slice pi mi.length ci).ownBlock = some b → b ≠ wwa8.heap.size) := hid (fun b e => by have := (own_ge HR.out.buf b e).2; omega)
          replace HR := hid (HR.out.below hB)
          have HNE : Hid (wwa8.heap.size ≠ g8) := hid (by have := HA5.out.lt; omega)
          replace HA5 := hid (HA5.out.below hB)
          replace HD := hid (below_on HD.out hB)
          have HA4 := hid hA
          clear hA hB
          generalize hnw : wwa8.alloc (.cells (jC 0 (.slice none 0 0)) 24) = wwwa87 at HA4 HD HR HA5 ⊢
          generalize hng : wwa8.heap.size = g7 at HA4 HL7 HN7 HNE ⊢
          clear hnw hng
          refine hK.out _ _ (HSF.out _ HD.out) (fun hHeld => ?_)
          clear hK K
          refine wpAnyH_ready (rs := [3]) (by kernel_rfl) (by simp) ?_
          refine AllReadyH.cons rfl (fun K hK => ?_) AllReadyH.nil
          go_simp
          refine (HCR.out _ HD.out).mono ?_
          rintro e wb ⟨yi, rfl, hyx, hy, hyo, hb2⟩
          have hyk := hy.ok
          have HY := hid (hy.base HD.out.size)
          have HYX := hid hyx
          replace HR := hid (HR.out.below hb2)
          replace HA4 := hid (HA4.out.below hb2)
          replace HA5 := hid (HA5.out.below hb2)
          replace HD := hid (below_on HD.out hb2)
          clear hy hyx hb2
          go_wp2_with fail
          refine hK.out _ _ (HSF.out _ HD.out) (fun hHeld => ?_)
          clear hK K
          refine wpAnyH_ready (rs := [6]) (by kernel_rfl) (by simp) ?_
          refine AllReadyH.cons (o := ⟨none, .store 24 (.tmp 7) (.tmp 42), _, _, _, none⟩) rfl (fun K hK => ?_) AllReadyH.nil
          with_reducible refine step_storeJ ?_ ?_ (.tmp 7) (.tmp 42) ?_ g7 ?_ (s := s) (v := .slice pi mi.length ci) ?_ ?_ HA4.out ?_
          · exact rfl
          · exact rfl
          · exact rfl
          · kernel_rfl
          · kernel_rfl
          · exact rfl
          intro wx h7 o7
          have H7 := hid h7
          have O7 := hid o7
          have HD7 := hid (below_tr HD.out (o7.below HD.out.size (fun i e => by have := HL7.out; omega)))
          have HA5x := hid (HA5.out.keep (o7.block g8 HA5.out.lt (fun e => HNE.out e.symm)))
          clear h7 o7
          refine hK.out _ _ (HSF.out _ HD7.out) (fun hHeld => ?_)
          clear hK K
          refine wpAnyH_ready (rs := [7]) (by kernel_rfl) (by simp) ?_
          refine AllReadyH.cons (o := ⟨none, .store 29 (.tmp 8) (.tmp 44), _, _, _, none⟩) rfl (fun K hK => ?_) AllReadyH.nil
          with_reducible refine step_storeR ?_ ?_ (.tmp 8) (.tmp 44) ?_ g8 ?_ (r := yi.r) ?_ zR_ok hyk hyo (RBox.mk' zR_ok HA5x.out) ?_
          · exact rfl
          · exact rfl
          · exact rfl
          · kernel_rfl
          · kernel_rfl
          intro wy h8 o8
          have HD8 := hid (below_tr HD7.out (o8.below HD7.out.size (fun i e => by have := HL8.out; omega)))
          have HML : Hid (mi.length ≤ 100000) := hid (by have h9 := congrArg List.length HEE.out; rw [rcs_len, rcs_len, HN.out] at h9; have := HLL.out; omega)
          have HFIN := hid (E1.make HF.out HD.out HR.out HEE.out HML.out HY.out HYX.out HN7.out HN8.out HL7.out HL8.out HNE.out HA4.out H7.out O7.out HA5x.out h8.at_ o8)
          clear h8 o8
          refine hK.out _ _ (HSF.out _ HD8.out) (fun hHeld => ?_)
          clear hK K
          refine wpAnyH_done (by kernel_rfl) ?_ _
          (try simp only [Act.put, List.setIfInBounds_toArray, List.set_cons_zero, List.set_cons_succ])
          go_wp2_with fail
          go_meet
          case rel => exact ⟨g7, g8, _, mi, yi, rfl, rfl, HFIN.out⟩
    · with_reducible refine step_run_val ?_ (ptr w5.drew.heap.size) (w5.drew.alloc (.cells (jC 0 (.slice none 0 0)) 24)) ?_ ?_
      · exact rfl
      · exact exec_newJ rfl
      have hA := CAt.made w5.drew ((jC 0 (.slice none 0 0))) 24
      have hB := below_al w5.drew (.cells (jC 0 (.slice none 0 0)) 24)
      have HL7 := hid (show w5.heap.size ≤ w5.drew.heap.size from HD.out.size)
      replace HD := hid (below_on HD.out hB)
      have HA4 := hid hA
      clear hA hB
      generalize hnw : w5.drew.alloc (.cells (jC 0 (.slice none 0 0)) 24) = ww5drew7 at HA4 HD ⊢
      generalize hng : w5.drew.heap.size = g7 at HA4 HL7 ⊢
      clear hnw hng
      refine hK.out _ _ (HSF.out _ HD.out) (fun hHeld => ?_)
      clear hK K
      refine wpAnyH_ready (rs := [1, 5]) (by kernel_rfl) (by simp) ?_
      refine AllReadyH.cons rfl (fun K hK => ?_) (AllReadyH.cons (o := ⟨some 8, .alloc 29, _, _, _, none⟩) rfl (fun K hK => ?_) AllReadyH.nil)
      · go_simp
        refine (HCJ.out _ HD.out).mono ?_
        rintro e wa ⟨vi, mi, rfl, hr1, he1, hb1⟩
        obtain ⟨pi, ci, hvi, _⟩ := hr1.buf.form
        subst hvi
        have HRl := hid (own_ge hr1.buf)
        have HR := hid (hr1.base HD.out.size)
        have HEE := hid he1
        have HN7 : Hid (∀ b, (Value.slice pi mi.length ci).ownBlock = some b → b ≠ g7) := hid (fun b e => by have := (HRl.out b e).1; have := HA4.out.lt; omega)
        replace HA4 := hid (HA4.out.below hb1)
        replace HD := hid (below_on HD.out hb1)
        clear hr1 he1 hb1
        go_wp2_with fail
        refine hK.out _ _ (HSF.out _ HD.out) (fun hHeld => ?_)
        clear hK K
        refine wpAnyH_ready (rs := [3, 5]) (by kernel_rfl) (by simp) ?_
        refine AllReadyH.cons rfl (fun K hK => ?_) (AllReadyH.cons (o := ⟨some 8, .alloc 29, _, _, _, none⟩) rfl (fun K hK => ?_) AllReadyH.nil)
        · go_simp
          refine (HCR.out _ HD.out).mono ?_
          rintro e wb ⟨yi, rfl, hyx, hy, hyo, hb2⟩
          have hyk := hy.ok
          have HY := hid (hy.base HD.out.size)
          have HYX := hid hyx
          replace HR := hid (HR.out.below hb2)
          replace HA4 := hid (HA4.out.below hb2)
          replace HD := hid (below_on HD.out hb2)
          clear hy hyx hb2
          go_wp2_with fail
          refine hK.out _ _ (HSF.out _ HD.out) (fun hHeld => ?_)
          clear hK K
          refine wpAnyH_ready (rs := [5]) (by kernel_rfl) (by simp) ?_
          refine AllReadyH.cons (o := ⟨some 8, .alloc 29, _, _, _, none⟩) rfl (fun K hK => ?_) AllReadyH.nil
          with_reducible refine step_run_val ?_ (ptr wb.heap.size) (wb.alloc (.cells zR.cs 29)) ?_ ?_
          · exact rfl
          · exact exec_newR rfl
          have hA := CAt.made wb zR.cs 29
          have hB := below_al wb (.cells zR.cs 29)
          have HL8 := hid (show w5.heap.size ≤ wb.heap.size from HD.out.size)
          have HN8 : Hid (∀ b, (Value.slice pi mi.length ci).ownBlock = some b → b ≠ wb.heap.size) := hid (fun b e => by have := (own_ge HR.out.buf b e).2; omega)
          replace HR := hid (HR.out.below hB)
          replace HY := hid (HY.out.below hB)
          have HNE : Hid (g7 ≠ wb.heap.size) := hid (by have := HA4.out.lt; omega)
          replace HA4 := hid (HA4.out.below hB)
          replace HD := hid (below_on HD.out hB)
          have HA5 := hid hA
          clear hA hB
          generalize hnw : wb.alloc (.cells zR.cs 29) = wwb8 at HA5 HD HR HY HA4 ⊢
          generalize hng : wb.heap.size = g8 at HA5 HL8 HN8 HNE ⊢
          clear hnw hng
          refine hK.out _ _ (HSF.out _ HD.out) (fun hHeld => ?_)
          clear hK K
          refine wpAnyH_ready (rs := [6]) (by kernel_rfl) (by simp) ?_
          refine AllReadyH.cons (o := ⟨none, .store 24 (.tmp 7) (.tmp 42), _, _, _, none⟩) rfl (fun K hK => ?_) AllReadyH.nil
          with_reducible refine step_storeJ ?_ ?_ (.tmp 7) (.tmp 42) ?_ g7 ?_ (s := s) (v := .slice pi mi.length ci) ?_ ?_ HA4.out ?_
          · exact rfl
          · exact rfl
          · exact rfl
          · kernel_rfl
          · kernel_rfl
          · exact rfl
          intro wx h7 o7
          have H7 := hid h7
          have O7 := hid o7
          have HD7 := hid (below_tr HD.out (o7.below HD.out.size (fun i e => by have := HL7.out; omega)))
          have HA5x := hid (HA5.out.keep (o7.block g8 HA5.out.lt (fun e => HNE.out e.symm)))
          clear h7 o7
          refine hK.out _ _ (HSF.out _ HD7.out) (fun hHeld => ?_)
          clear hK K
          refine wpAnyH_ready (rs := [7]) (by kernel_rfl) (by simp) ?_
          refine AllReadyH.cons (o := ⟨none, .store 29 (.tmp 8) (.tmp 44), _, _, _, none⟩) rfl (fun K hK => ?_) AllReadyH.nil
          with_reducible refine step_storeR ?_ ?_ (.tmp 8) (.tmp 44) ?_ g8 ?_ (r := yi.r) ?_ zR_ok hyk hyo (RBox.mk' zR_ok HA5x.out) ?_
          · exact rfl
          · exact rfl
          · exact rfl
          · kernel_rfl
          · kernel_rfl
          intro wy h8 o8
          have HD8 := hid (below_tr HD7.out (o8.below HD7.out.size (fun i e => by have := HL8.out; omega)))
          have HML : Hid (mi.length ≤ 100000) := hid (by have h9 := congrArg List.length HEE.out; rw [rcs_len, rcs_len, HN.out] at h9; have := HLL.out; omega)
          have HFIN := hid (E1.make HF.out HD.out HR.out HEE.out HML.out HY.out HYX.out HN7.out HN8.out HL7.out HL8.out HNE.out HA4.out H7.out O7.out HA5x.out h8.at_ o8)
          clear h8 o8
          refine hK.out _ _ (HSF.out _ HD8.out) (fun hHeld => ?_)
          clear hK K
          refine wpAnyH_done (by kernel_rfl) ?_ _
          (try simp only [Act.put, List.setIfInBounds_toArray, List.set_cons_zero, List.set_cons_succ])
          go_wp2_with fail
          go_meet
          case rel => exact ⟨g7, g8, _, mi, yi, rfl, rfl, HFIN.out⟩
        · with_reducible refine step_run_val ?_ (ptr wa.heap.size) (wa.alloc (.cells zR.cs 29)) ?_ ?_
          · exact rfl
          · exact exec_newR rfl
          have hA := CAt.made wa zR.cs 29
          have hB := below_al wa (.cells zR.cs 29)
          have HL8 := hid (show w5.heap.size ≤ wa.heap.size from HD.out.size)
          have HN8 : Hid (∀ b, (Value.slice pi mi.length ci).ownBlock = some b → b ≠ wa.heap.size) := hid (fun b e => by have := (own_ge HR.out.buf b e).2; omega)
          replace HR := hid (HR.out.below hB)
          have HNE : Hid (g7 ≠ wa.heap.size) := hid (by have := HA4.out.lt; omega)
          replace HA4 := hid (HA4.out.below hB)
          replace HD := hid (below_on HD.out hB)
          have HA5 := hid hA
          clear hA hB
          generalize hnw : wa.alloc (.cells zR.cs 29) = wwa8 at HA5 HD HR HA4 ⊢
          generalize hng : wa.heap.size = g8 at HA5 HL8 HN8 HNE ⊢
          clear hnw hng
          refine hK.out _ _ (HSF.out _ HD.out) (fun hHeld => ?_)
          clear hK K
          refine wpAnyH_ready (rs := [3]) (by kernel_rfl) (by simp) ?_
          refine AllReadyH.cons rfl (fun K hK => ?_) AllReadyH.nil
          go_simp
          refine (HCR.out _ HD.out).mono ?_
          rintro e wb ⟨yi, rfl, hyx, hy, hyo, hb2⟩
          have hyk := hy.ok
          have HY := hid (hy.base HD.out.size)
          have HYX := hid hyx
          replace HR := hid (HR.out.below hb2)
          replace HA4 := hid (HA4.out.below hb2)
          replace HA5 := hid (HA5.out.below hb2)
          replace HD := hid (below_on HD.out hb2)
          clear hy hyx hb2
          go_wp2_with fail
          refine hK.out _ _ (HSF.out _ HD.out) (fun hHeld => ?_)
          clear hK K
          refine wpAnyH_ready (rs := [6]) (by kernel_rfl) (by simp) ?_
          refine AllReadyH.cons (o := ⟨none, .store 24 (.tmp 7) (.tmp 42), _, _, _, none⟩) rfl (fun K hK => ?_) AllReadyH.nil
          with_reducible refine step_storeJ ?_ ?_ (.tmp 7) (.tmp 42) ?_ g7 ?_ (s := s) (v := .slice pi mi.length ci) ?_ ?_ HA4.out ?_
          · exact rfl
          · exact rfl
          · exact rfl
          · kernel_rfl
          · kernel_rfl
          · exact rfl
          intro wx h7 o7
          have H7 := hid h7
          have O7 := hid o7
          have HD7 := hid (below_tr HD.out (o7.below HD.out.size (fun i e => by have := HL7.out; omega)))
          have HA5x := hid (HA5.out.keep (o7.block g8 HA5.out.lt (fun e => HNE.out e.symm)))
          clear h7 o7
          refine hK.out _ _ (HSF.out _ HD7.out) (fun hHeld => ?_)
          clear hK K
          refine wpAnyH_ready (rs := [7]) (by kernel_rfl) (by simp) ?_
          refine AllReadyH.cons (o := ⟨none, .store 29 (.tmp 8) (.tmp 44), _, _, _, none⟩) rfl (fun K hK => ?_) AllReadyH.nil
          with_reducible refine step_storeR ?_ ?_ (.tmp 8) (.tmp 44) ?_ g8 ?_ (r := yi.r) ?_ zR_ok hyk hyo (RBox.mk' zR_ok HA5x.out) ?_
          · exact rfl
          · exact rfl
          · exact rfl
          · kernel_rfl
          · kernel_rfl
          intro wy h8 o8
          have HD8 := hid (below_tr HD7.out (o8.below HD7.out.size (fun i e => by have := HL8.out; omega)))
          have HML : Hid (mi.length ≤ 100000) := hid (by have h9 := congrArg List.length HEE.out; rw [rcs_len, rcs_len, HN.out] at h9; have := HLL.out; omega)
          have HFIN := hid (E1.make HF.out HD.out HR.out HEE.out HML.out HY.out HYX.out HN7.out HN8.out HL7.out HL8.out HNE.out HA4.out H7.out O7.out HA5x.out h8.at_ o8)
          clear h8 o8
          refine hK.out _ _ (HSF.out _ HD8.out) (fun hHeld => ?_)
          clear hK K
          refine wpAnyH_done (by kernel_rfl) ?_ _
          (try simp only [Act.put, List.setIfInBounds_toArray, List.set_cons_zero, List.set_cons_succ])
          go_wp2_with fail
          go_meet
          case rel => exact ⟨g7, g8, _, mi, yi, rfl, rfl, HFIN.out⟩
      · with_reducible refine step_run_val ?_ (ptr ww5drew7.heap.size) (ww5drew7.alloc (.cells zR.cs 29)) ?_ ?_
        · exact rfl
        · exact exec_newR rfl
        have hA := CAt.made ww5drew7 zR.cs 29
        have hB := below_al ww5drew7 (.cells zR.cs 29)
        have HL8 := hid (show w5.heap.size ≤ ww5drew7.heap.size from HD.out.size)
        have HNE : Hid (g7 ≠ ww5drew7.heap.size) := hid (by have := HA4.out.lt; omega)
        replace HA4 := hid (HA4.out.below hB)
        replace HD := hid (below_on HD.out hB)
        have HA5 := hid hA
        clear hA hB
        generalize hnw : ww5drew7.alloc (.cells zR.cs 29) = www5drew78 at HA5 HD HA4 ⊢
        generalize hng : ww5drew7.heap.size = g8 at HA5 HL8 HNE ⊢
        clear hnw hng
        refine hK.out _ _ (HSF.out _ HD.out) (fun hHeld => ?_)
        clear hK K
        refine wpAnyH_ready (rs := [1]) (by kernel_rfl) (by simp) ?_
        refine AllReadyH.cons rfl (fun K hK => ?_) AllReadyH.nil
        go_simp
        refine (HCJ.out _ HD.out).mono ?_
        rintro e wa ⟨vi, mi, rfl, hr1, he1, hb1⟩
        obtain ⟨pi, ci, hvi, _⟩ := hr1.buf.form
        subst hvi
        have HRl := hid (own_ge hr1.buf)
        have HR := hid (hr1.base HD.out.size)
        have HEE := hid he1
        have HN7 : Hid (∀ b, (Value.slice pi mi.length ci).ownBlock = some b → b ≠ g7) := hid (fun b e => by have := (HRl.out b e).1; have := HA4.out.lt; omega)
        replace HA4 := hid (HA4.out.below hb1)
        have HN8 : Hid (∀ b, (Value.slice pi mi.length ci).ownBlock = some b → b ≠ g8) := hid (fun b e => by have := (HRl.out b e).1; have := HA5.out.lt; omega)
        replace HA5 := hid (HA5.out.below hb1)
        replace HD := hid (below_on HD.out hb1)
        clear hr1 he1 hb1
        go_wp2_with fail
        refine hK.out _ _ (HSF.out _ HD.out) (fun hHeld => ?_)
        clear hK K
        refine wpAnyH_ready (rs := [3]) (by kernel_rfl) (by simp) ?_
        refine AllReadyH.cons rfl (fun K hK => ?_) AllReadyH.nil
        go_simp
        refine (HCR.out _ HD.out).mono ?_
        rintro e wb ⟨yi, rfl, hyx, hy, hyo, hb2⟩
        have hyk := hy.ok
        have HY := hid (hy.base HD.out.size)
        have HYX := hid hyx
        replace HR := hid (HR.out.below hb2)
        replace HA4 := hid (HA4.out.below hb2)
        replace HA5 := hid (HA5.out.below hb2)
        replace HD := hid (below_on HD.out hb2)
        clear hy hyx hb2
        go_wp2_with fail
        refine hK.out _ _ (HSF.out _ HD.out) (fun hHeld => ?_)
        clear hK K
        refine wpAnyH_ready (rs := [6]) (by kernel_rfl) (by simp) ?_
        refine AllReadyH.cons (o := ⟨none, .store 24 (.tmp 7) (.tmp 42), _, _, _, none⟩) rfl (fun K hK => ?_) AllReadyH.nil
        with_reducible refine step_storeJ ?_ ?_ (.tmp 7) (.tmp 42) ?_ g7 ?_ (s := s) (v := .slice pi mi.length ci) ?_ ?_ HA4.out ?_
        · exact rfl
        · exact rfl
        · exact rfl
        · kernel_rfl
        · kernel_rfl
        · exact rfl
        intro wx h7 o7
        have H7 := hid h7
        have O7 := hid o7
        have HD7 := hid (below_tr HD.out (o7.below HD.out.size (fun i e => by have := HL7.out; omega)))
        have HA5x := hid (HA5.out.keep (o7.block g8 HA5.out.lt (fun e => HNE.out e.symm)))
        clear h7 o7
        refine hK.out _ _ (HSF.out _ HD7.out) (fun hHeld => ?_)
        clear hK K
        refine wpAnyH_ready (rs := [7]) (by kernel_rfl) (by simp) ?_
        refine AllReadyH.cons (o := ⟨none, .store 29 (.tmp 8) (.tmp 44), _, _, _, none⟩) rfl (fun K hK => ?_) AllReadyH.nil
        with_reducible refine step_storeR ?_ ?_ (.tmp 8) (.tmp 44) ?_ g8 ?_ (r := yi.r) ?_ zR_ok hyk hyo (RBox.mk' zR_ok HA5x.out) ?_
        · exact rfl
        · exact rfl
        · exact rfl
        · kernel_rfl
        · kernel_rfl
        intro wy h8 o8
        have HD8 := hid (below_tr HD7.out (o8.below HD7.out.size (fun i e => by have := HL8.out; omega)))
        have HML : Hid (mi.length ≤ 100000) := hid (by have h9 := congrArg List.length HEE.out; rw [rcs_len, rcs_len, HN.out] at h9; have := HLL.out; omega)
        have HFIN := hid (E1.make HF.out HD.out HR.out HEE.out HML.out HY.out HYX.out HN7.out HN8.out HL7.out HL8.out HNE.out HA4.out H7.out O7.out HA5x.out h8.at_ o8)
        clear h8 o8
        refine hK.out _ _ (HSF.out _ HD8.out) (fun hHeld => ?_)
        clear hK K
        refine wpAnyH_done (by kernel_rfl) ?_ _
        (try simp only [Act.put, List.setIfInBounds_toArray, List.set_cons_zero, List.set_cons_succ])
        go_wp2_with fail
        go_meet
        case rel => exact ⟨g7, g8, _, mi, yi, rfl, rfl, HFIN.out⟩
    · with_reducible refine step_run_val ?_ (ptr w5.drew.heap.size) (w5.drew.alloc (.cells zR.cs 29)) ?_ ?_
      · exact rfl
      · exact exec_newR rfl
      have hA := CAt.made w5.drew zR.cs 29
      have hB := below_al w5.drew (.cells zR.cs 29)
      have HL8 := hid (show w5.heap.size ≤ w5.drew.heap.size from HD.out.size)
      replace HD := hid (below_on HD.out hB)
      have HA5 := hid hA
      clear hA hB
      generalize hnw : w5.drew.alloc (.cells zR.cs 29) = ww5drew8 at HA5 HD ⊢
      generalize hng : w5.drew.heap.size = g8 at HA5 HL8 ⊢
      clear hnw hng
      refine hK.out _ _ (HSF.out _ HD.out) (fun hHeld => ?_)
      clear hK K
      refine wpAnyH_ready (rs := [1, 4]) (by kernel_rfl) (by simp) ?_
      refine AllReadyH.cons rfl (fun K hK => ?_) (AllReadyH.cons (o := ⟨some 7, .alloc 24, _, _, _, none⟩) rfl (fun K hK => ?_) AllReadyH.nil)
      · go_simp
        refine (HCJ.out _ HD.out).mono ?_
        rintro e wa ⟨vi, mi, rfl, hr1, he1, hb1⟩
        obtain ⟨pi, ci, hvi, _⟩ := hr1.buf.form
        subst hvi
        have HRl := hid (own_ge hr1.buf)
        have HR := hid (hr1.base HD.out.size)
        have HEE := hid he1
        have HN8 : Hid (∀ b, (Value.slice pi mi.length ci).ownBlock = some b → b ≠ g8) := hid (fun b e => by have := (HRl.out b e).1; have := HA5.out.lt; omega)
        replace HA5 := hid (HA5.out.below hb1)
        replace HD := hid (below_on HD.out hb1)
        clear hr1 he1 hb1
        go_wp2_with fail
        refine hK.out _ _ (HSF.out _ HD.out) (fun hHeld => ?_)
        clear hK K
        refine wpAnyH_ready (rs := [3, 4]) (by kernel_rfl) (by simp) ?_
        refine AllReadyH.cons rfl (fun K hK => ?_) (AllReadyH.cons (o := ⟨some 7, .alloc 24, _, _, _, none⟩) rfl (fun K hK => ?_) AllReadyH.nil)
        · go_simp
          refine (HCR.out _ HD.out).mono ?_
          rintro e wb ⟨yi, rfl, hyx, hy, hyo, hb2⟩
          have hyk := hy.ok
          have HY := hid (hy.base HD.out.size)
          have HYX := hid hyx
          replace HR := hid (HR.out.below hb2)
          replace HA5 := hid (HA5.out.below hb2)
          replace HD := hid (below_on HD.out hb2)
          clear hy hyx hb2
          go_wp2_with fail
          refine hK.out _ _ (HSF.out _ HD.out) (fun hHeld => ?_)
          clear hK K
          refine wpAnyH_ready (rs := [4]) (by kernel_rfl) (by simp) ?_
          refine AllReadyH.cons (o := ⟨some 7, .alloc 24, _, _, _, none⟩) rfl (fun K hK => ?_) AllReadyH.nil
          with_reducible refine step_run_val ?_ (ptr wb.heap.size) (wb.alloc (.cells (jC 0 (.slice none 0 0)) 24)) ?_ ?_
          · exact rfl
          · exact exec_newJ rfl
          have hA := CAt.made wb ((jC 0 (.slice none 0 0))) 24
          have hB := below_al wb (.cells (jC 0 (.slice none 0 0)) 24)
          have HL7 := hid (show w5.heap.size ≤ wb.heap.size from HD.out.size)
          have HN7 : Hid (∀ b, (Value.slice pi mi.length ci).ownBlock = some b → b ≠ wb.heap.size) := hid (fun b e => by have := (own_ge HR.out.buf b e).2; omega)
          replace HR := hid (HR.out.below hB)
          replace HY := hid (HY.out.below hB)
          have HNE : Hid (wb.heap.size ≠ g8) := hid (by have := HA5.out.lt; omega)
          replace HA5 := hid (HA5.out.below hB)
          replace HD := hid (below_on HD.out hB)
          have HA4 := hid hA
          clear hA hB
          generalize hnw : wb.alloc (.cells (jC 0 (.slice none 0 0)) 24) = wwb7 at HA4 HD HR HY HA5 ⊢
          generalize hng : wb.heap.size = g7 at HA4 HL7 HN7 HNE ⊢
          clear hnw hng
          refine hK.out _ _ (HSF.out _ HD.out) (fun hHeld => ?_)
          clear hK K
          refine wpAnyH_ready (rs := [6]) (by kernel_rfl) (by simp) ?_
          refine AllReadyH.cons (o := ⟨none, .store 24 (.tmp 7) (.tmp 42), _, _, _, none⟩) rfl (fun K hK => ?_) AllReadyH.nil
          with_reducible refine step_storeJ ?_ ?_ (.tmp 7) (.tmp 42) ?_ g7 ?_ (s := s) (v := .slice pi mi.length ci) ?_ ?_ HA4.out ?_
          · exact rfl
          · exact rfl
          · exact rfl
          · kernel_rfl
          · kernel_rfl
          · exact rfl
          intro wx h7 o7
          have H7 := hid h7
          have O7 := hid o7
          have HD7 := hid (below_tr HD.out (o7.below HD.out.size (fun i e => by have := HL7.out; omega)))
          have HA5x := hid (HA5.out.keep (o7.block g8 HA5.out.lt (fun e => HNE.out e.symm)))
          clear h7 o7
          refine hK.out _ _ (HSF.out _ HD7.out) (fun hHeld => ?_)
          clear hK K
          refine wpAnyH_ready (rs := [7]) (by kernel_rfl) (by simp) ?_
          refine AllReadyH.cons (o := ⟨none, .store 29 (.tmp 8) (.tmp 44), _, _, _, none⟩) rfl (fun K hK => ?_) AllReadyH.nil
          with_reducible refine step_storeR ?_ ?_ (.tmp 8) (.tmp 44) ?_ g8 ?_ (r := yi.r) ?_ zR_ok hyk hyo (RBox.mk' zR_ok HA5x.out) ?_
          · exact rfl
          · exact rfl
          · exact rfl
          · kernel_rfl
          · kernel_rfl
          intro wy h8 o8
          have HD8 := hid (below_tr HD7.out (o8.below HD7.out.size (fun i e => by have := HL8.out; omega)))
          have HML : Hid (mi.length ≤ 100000) := hid (by have h9 := congrArg List.length HEE.out; rw [rcs_len, rcs_len, HN.out] at h9; have := HLL.out; omega)
          have HFIN := hid (E1.make HF.out HD.out HR.out HEE.out HML.out HY.out HYX.out HN7.out HN8.out HL7.out HL8.out HNE.out HA4.out H7.out O7.out HA5x.out h8.at_ o8)
          clear h8 o8
          refine hK.out _ _ (HSF.out _ HD8.out) (fun hHeld => ?_)
          clear hK K
          refine wpAnyH_done (by kernel_rfl) ?_ _
          (try simp only [Act.put, List.setIfInBounds_toArray, List.set_cons_zero, List.set_cons_succ])
          go_wp2_with fail
          go_meet
          case rel => exact ⟨g7, g8, _, mi, yi, rfl, rfl, HFIN.out⟩
        · with_reducible refine step_run_val ?_ (ptr wa.heap.size) (wa.alloc (.cells (jC 0 (.slice none 0 0)) 24)) ?_ ?_
          · exact rfl
          · exact exec_newJ rfl
          have hA := CAt.made wa ((jC 0 (.slice none 0 0))) 24
          have hB := below_al wa (.cells (jC 0 (.slice none 0 0)) 24)
          have HL7 := hid (show w5.heap.size ≤ wa.heap.size from HD.out.size)
          have HN7 : Hid (∀ b, (Value.slice pi mi.length ci).ownBlock = some b → b ≠ wa.heap.size) := hid (fun b e => by have := (own_ge HR.out.buf b e).2; omega)
          replace HR := hid (HR.out.below hB)
          have HNE : Hid (wa.heap.size ≠ g8) := hid (by have := HA5.out.lt; omega)
          replace HA5 := hid (HA5.out.below hB)
          replace HD := hid (below_on HD.out hB)
          have HA4 := hid hA
          clear hA hB
          generalize hnw : wa.alloc (.cells (jC 0 (.slice none 0 0)) 24) = wwa7 at HA4 HD HR HA5 ⊢
          generalize hng : wa.heap.size = g7 at HA4 HL7 HN7 HNE ⊢
          clear hnw hng
          refine hK.out _ _ (HSF.out _ HD.out) (fun hHeld => ?_)
          clear hK K
          refine wpAnyH_ready (rs := [3]) (by kernel_rfl) (by simp) ?_
          refine AllReadyH.cons rfl (fun K hK => ?_) AllReadyH.nil
          go_simp
          refine (HCR.out _ HD.out).mono ?_
          rintro e wb ⟨yi, rfl, hyx, hy, hyo, hb2⟩
          have hyk := hy.ok
          have HY := hid (hy.base HD.out.size)
          have HYX := hid hyx
          replace HR := hid (HR.out.below hb2)
          replace HA4 := hid (HA4.out.below hb2)
          replace HA5 := hid (HA5.out.below hb2)
          replace HD := hid (below_on HD.out hb2)
          clear hy hyx hb2
          go_wp2_with fail
          refine hK.out _ _ (HSF.out _ HD.out) (fun hHeld => ?_)
          clear hK K
          refine wpAnyH_ready (rs := [6]) (by kernel_rfl) (by simp) ?_
          refine AllReadyH.cons (o := ⟨none, .store 24 (.tmp 7) (.tmp 42), _, _, _, none⟩) rfl (fun K hK => ?_) AllReadyH.nil
          with_reducible refine step_storeJ ?_ ?_ (.tmp 7) (.tmp 42) ?_ g7 ?_ (s := s) (v := .slice pi mi.length ci) ?_ ?_ HA4.out ?_
          · exact rfl
          · exact rfl
          · exact rfl
          · kernel_rfl
          · kernel_rfl
          · exact rfl
          intro wx h7 o7
          have H7 := hid h7
          have O7 := hid o7
          have HD7 := hid (below_tr HD.out (o7.below HD.out.size (fun i e => by have := HL7.out; omega)))
          have HA5x := hid (HA5.out.keep (o7.block g8 HA5.out.lt (fun e => HNE.out e.symm)))
          clear h7 o7
          refine hK.out _ _ (HSF.out _ HD7.out) (fun hHeld => ?_)
          clear hK K
          refine wpAnyH_ready (rs := [7]) (by kernel_rfl) (by simp) ?_
          refine AllReadyH.cons (o := ⟨none, .store 29 (.tmp 8) (.tmp 44), _, _, _, none⟩) rfl (fun K hK => ?_) AllReadyH.nil
          with_reducible refine step_storeR ?_ ?_ (.tmp 8) (.tmp 44) ?_ g8 ?_ (r := yi.r) ?_ zR_ok hyk hyo (RBox.mk' zR_ok HA5x.out) ?_
          · exact rfl
          · exact rfl
          · exact rfl
          · kernel_rfl
          · kernel_rfl
          intro wy h8 o8
          have HD8 := hid (below_tr HD7.out (o8.below HD7.out.size (fun i e => by have := HL8.out; omega)))
          have HML : Hid (mi.length ≤ 100000) := hid (by have h9 := congrArg List.length HEE.out; rw [rcs_len, rcs_len, HN.out] at h9; have := HLL.out; omega)
          have HFIN := hid (E1.make HF.out HD.out HR.out HEE.out HML.out HY.out HYX.out HN7.out HN8.out HL7.out HL8.out HNE.out HA4.out H7.out O7.out HA5x.out h8.at_ o8)
          clear h8 o8
          refine hK.out _ _ (HSF.out _ HD8.out) (fun hHeld => ?_)
          clear hK K
          refine wpAnyH_done (by kernel_rfl) ?_ _
          (try simp only [Act.put, List.setIfInBounds_toArray, List.set_cons_zero, List.set_cons_succ])
          go_wp2_with fail
          go_meet
          case rel => exact ⟨g7, g8, _, mi, yi, rfl, rfl, HFIN.out⟩
      · with_reducible refine step_run_val ?_ (ptr ww5drew8.heap.size) (ww5drew8.alloc (.cells (jC 0 (.slice none 0 0)) 24)) ?_ ?_
        · exact rfl
        · exact exec_newJ rfl
        have hA := CAt.made ww5drew8 ((jC 0 (.slice none 0 0))) 24
        have hB := below_al ww5drew8 (.cells (jC 0 (.slice none 0 0)) 24)
        have HL7 := hid (show w5.heap.size ≤ ww5drew8.heap.size from HD.out.size)
        have HNE : Hid (ww5drew8.heap.size ≠ g8) := hid (by have := HA5.out.lt; omega)
        replace HA5 := hid (HA5.out.below hB)
        replace HD := hid (below_on HD.out hB)
        have HA4 := hid hA
        clear hA hB
        generalize hnw : ww5drew8.alloc (.cells (jC 0 (.slice none 0 0)) 24) = www5drew87 at HA4 HD HA5 ⊢
        generalize hng : ww5drew8.heap.size = g7 at HA4 HL7 HNE ⊢
        clear hnw hng
        refine hK.out _ _ (HSF.out _ HD.out) (fun hHeld => ?_)
        clear hK K
        refine wpAnyH_ready (rs := [1]) (by kernel_rfl) (by simp) ?_
        refine AllReadyH.cons rfl (fun K hK => ?_) AllReadyH.nil
        go_simp
        refine (HCJ.out _ HD.out).mono ?_
        rintro e wa ⟨vi, mi, rfl, hr1, he1, hb1⟩
        obtain ⟨pi, ci, hvi, _⟩ := hr1.buf.form
        subst hvi
        have HRl := hid (own_ge hr1.buf)
        have HR := hid (hr1.base HD.out.size)
        have HEE := hid he1
        have HN7 : Hid (∀ b, (Value.slice pi mi.length ci).ownBlock = some b → b ≠ g7) := hid (fun b e => by have := (HRl.out b e).1; have := HA4.out.lt; omega)
        replace HA4 := hid (HA4.out.below hb1)
        have HN8 : Hid (∀ b, (Value.slice pi mi.length ci).ownBlock = some b → b ≠ g8) := hid (fun b e => by have := (HRl.out b e).1; have := HA5.out.lt; omega)
        replace HA5 := hid (HA5.out.below hb1)
        replace HD := hid (below_on HD.out hb1)
        clear hr1 he1 hb1
        go_wp2_with fail
        refine hK.out _ _ (HSF.out _ HD.out) (fun hHeld => ?_)
        clear hK K
        refine wpAnyH_ready (rs := [3]) (by kernel_rfl) (by simp) ?_
        refine AllReadyH.cons rfl (fun K hK => ?_) AllReadyH.nil
        go_simp
        refine (HCR.out _ HD.out).mono ?_
        rintro e wb ⟨yi, rfl, hyx, hy, hyo, hb2⟩
        have hyk := hy.ok
        have HY := hid (hy.base HD.out.size)
        have HYX := hid hyx
        replace HR := hid (HR.out.below hb2)
        replace HA4 := hid (HA4.out.below hb2)
        replace HA5 := hid (HA5.out.below hb2)
        replace HD := hid (below_on HD.out hb2)
        clear hy hyx hb2
        go_wp2_with fail
        refine hK.out _ _ (HSF.out _ HD.out) (fun hHeld => ?_)
        clear hK K
        refine wpAnyH_ready (rs := [6]) (by kernel_rfl) (by simp) ?_
        refine AllReadyH.cons (o := ⟨none, .store 24 (.tmp 7) (.tmp 42), _, _, _, none⟩) rfl (fun K hK => ?_) AllReadyH.nil
        with_reducible refine step_storeJ ?_ ?_ (.tmp 7) (.tmp 42) ?_ g7 ?_ (s := s) (v := .slice pi mi.length ci) ?_ ?_ HA4.out ?_
        · exact rfl
        · exact rfl
        · exact rfl
        · kernel_rfl
        · kernel_rfl
        · exact rfl
        intro wx h7 o7
        have H7 := hid h7
        have O7 := hid o7
        have HD7 := hid (below_tr HD.out (o7.below HD.out.size (fun i e => by have := HL7.out; omega)))
        have HA5x := hid (HA5.out.keep (o7.block g8 HA5.out.lt (fun e => HNE.out e.symm)))
        clear h7 o7
        refine hK.out _ _ (HSF.out _ HD7.out) (fun hHeld => ?_)
        clear hK K
        refine wpAnyH_ready (rs := [7]) (by kernel_rfl) (by simp) ?_
        refine AllReadyH.cons (o := ⟨none, .store 29 (.tmp 8) (.tmp 44), _, _, _, none⟩) rfl (fun K hK => ?_) AllReadyH.nil
        with_reducible refine step_storeR ?_ ?_ (.tmp 8) (.tmp 44) ?_ g8 ?_ (r := yi.r) ?_ zR_ok hyk hyo (RBox.mk' zR_ok HA5x.out) ?_
        · exact rfl
        · exact rfl
        · exact rfl
        · kernel_rfl
        · kernel_rfl
        intro wy h8 o8
        have HD8 := hid (below_tr HD7.out (o8.below HD7.out.size (fun i e => by have := HL8.out; omega)))
        have HML : Hid (mi.length ≤ 100000) := hid (by have h9 := congrArg List.length HEE.out; rw [rcs_len, rcs_len, HN.out] at h9; have := HLL.out; omega)
        have HFIN := hid (E1.make HF.out HD.out HR.out HEE.out HML.out HY.out HYX.out HN7.out HN8.out HL7.out HL8.out HNE.out HA4.out H7.out O7.out HA5x.out h8.at_ o8)
        clear h8 o8
        refine hK.out _ _ (HSF.out _ HD8.out) (fun hHeld => ?_)
        clear hK K
        refine wpAnyH_done (by kernel_rfl) ?_ _
        (try simp only [Act.put, List.setIfInBounds_toArray, List.set_cons_zero, List.set_cons_succ])
        go_wp2_with fail
        go_meet
        case rel => exact ⟨g7, g8, _, mi, yi, rfl, rfl, HFIN.out⟩
  case rest =>
    obtain ⟨g7, g8, vi, mi, yi, rfl, rfl, HE⟩ := hcut
    obtain ⟨pi, ci, hvi, _⟩ := HE.out.ri
    subst hvi
    have HY := hid HE.out.ro.ok
    have hyk := HY.out
    clear HCJ HCR HSF HLG HLR
    obtain ⟨QA, hQA⟩ : ∃ Q, addJ ⟨s, rcs l⟩ x.rc = Q := ⟨_, rfl⟩
    obtain ⟨QR, hQR⟩ : ∃ Q, remJ ⟨s, rcs l⟩ (lst id) = Q := ⟨_, rfl⟩
    obtain ⟨QF, hQF⟩ : ∃ Q, fndT ⟨s, rcs l⟩ (lst id) = Q := ⟨_, rfl⟩
    obtain ⟨QN, hQN⟩ : ∃ Q, newT ⟨s, rcs l⟩ = Q := ⟨_, rfl⟩
    have HL5 := hid (fun W (hW : Below wc.heap.size wc W) => HL.out.below (below_on HE.out.e0.below hW))
    have HX5 := hid (fun W (hW : Below wc.heap.size wc W) => HX.out.below (below_on HE.out.e0.below hW))
    have HA1 : Hid (∀ W, Below wc.heap.size wc W → Calls Try.prog 7 #[.agg (jC s (.slice pi mi.length ci)), .agg yi.r.cs] W (JrS W QA)) := hid (fun W hW => by have h9 := jadd_any s _ mi yi W (HE.out.ri.below hW) (HE.out.ro.below hW); rw [HE.out.rce, HE.out.yrc, hQA] at h9; exact h9)
    have HA2 : Hid (∀ W, Below wc.heap.size wc W → Calls Try.prog 8 #[.agg (jC s (.slice po n c)), .agg x.r.cs] W (JrS W QA)) := hid (fun W hW => by have h9 := radd_any s _ l x W (HL5.out W hW) (HX5.out W hW); rw [HN.out, hQA] at h9; exact h9)
    have HR1 : Hid (∀ W, Below wc.heap.size wc W → Calls Try.prog 9 #[.agg (jC s (.slice pi mi.length ci)), .string id] W (JrS W QR)) := hid (fun W hW => by have h9 := jrem_any s _ mi id W (HE.out.ri.below hW); rw [HE.out.rce, hQR] at h9; exact h9)
    have HR2 : Hid (∀ W, Below wc.heap.size wc W → Calls Try.prog 10 #[.agg (jC s (.slice po n c)), .string id] W (JrS W QR)) := hid (fun W hW => by have h9 := rrem_any s _ l id W (HL5.out W hW); rw [HN.out, hQR] at h9; exact h9)
    have HF1 : Hid (∀ W, Below wc.heap.size wc W → Calls Try.prog 13 #[.agg (jC s (.slice pi mi.length ci)), .string id] W (FnS W QF)) := hid (fun W hW => by have h9 := jfind_any s _ mi id W (HE.out.ri.below hW); rw [HE.out.rce, hQF] at h9; exact h9)
    have HF2 : Hid (∀ W, Below wc.heap.size wc W → Calls Try.prog 14 #[.agg (jC s (.slice po n c)), .string id] W (FnS W QF)) := hid (fun W hW => by have h9 := rfind_any s _ l id W (HL5.out W hW); rw [HN.out, hQF] at h9; exact h9)
    have HW1 : Hid (∀ W, Below wc.heap.size wc W → Calls Try.prog 15 #[.agg (jC s (.slice pi mi.length ci))] W (NwS W QN)) := hid (fun W hW => by have h9 := jnew_any s _ mi W (HE.out.ri.below hW); rw [HE.out.rce, hQN] at h9; exact h9)
    have HW2 : Hid (∀ W, Below wc.heap.size wc W → Calls Try.prog 16 #[.agg (jC s (.slice po n c))] W (NwS W QN)) := hid (fun W hW => by have h9 := rnew_any s _ l W (HL5.out W hW); rw [HN.out, hQN] at h9; exact h9)
    have HSJ : Hid (∀ W, Below wc.heap.size wc W → Calls Try.prog 11 #[.agg (jC s (.slice pi mi.length ci)), .agg (jC s (.slice po n c))] W fun e w' => e = .returned (.bool true) ∧ Below W.heap.size W w') := hid (fun W hW => by have h9 := rjsame_any s s _ _ mi l W (HE.out.ri.below hW) (HL5.out W hW); rw [HE.out.rce, HN.out, decide_eq_true rfl] at h9; exact h9)
    have HSR : Hid (∀ W, Below wc.heap.size wc W → Calls Try.prog 17 #[.agg yi.r.cs, .agg x.r.cs] W fun e w' => e = .returned (.bool true) ∧ Below W.heap.size W w') := hid (fun W hW => by have h9 := rsame_any yi.r x.r HE.out.ro.ok hok yi.ps x.ps W (HE.out.ro.below hW).pl (HX5.out W hW).pl; rw [decide_eq_true (show yi.r.rc yi.ps = x.r.rc x.ps from HE.out.yrc)] at h9; exact h9)
    have HBC := hid (Below.refl wc.heap.size wc)
    clear hQA hQR hQF hQN
    go_upto_region 5 with (first
      | ((with_reducible refine wpList_load_at 24 _ rfl ?_ g7 0 ?_ (jC s (.slice pi mi.length ci)) (.struct (Try.prog.fieldsOf 24)) ?_ underJrn rfl ?_ ?_); exact rfl; exact rfl; exact (HE.out.ci.below HBC.out).wholeJ; exact sizeJ)
      | ((with_reducible refine wpList_load_at 29 _ rfl ?_ g8 0 ?_ yi.r.cs (.struct (Try.prog.fieldsOf 29)) ?_ underRec rfl ?_ ?_); exact rfl; exact rfl; exact (HE.out.co.below HBC.out).whole; (rw [hyk.size]; exact sizeR))
      | (go_at_call 7; refine (HA1.out _ HBC.out).mono ?_; rintro e wqa ⟨sa, va, ma, rfl, hr9, he9, hn9, hb9⟩; obtain ⟨pa, ca, hv9, _⟩ := hr9.buf.form; subst hv9; have HTa := hid hb9.size; replace HBC := hid (below_on HBC.out hb9); have HQa := hid he9; have HVa := hid (hr9.vj hn9); clear hr9 he9 hn9 hb9)
      | ((with_reducible refine wpList_allocJ rfl rfl ?_); intro wza ga hz9 hb9 hg9; have HZ := hid hz9; have HZB := hid hb9; have HGa := hid hg9; clear hz9 hb9 hg9)
      | ((with_reducible refine wpList_storeJ rfl rfl _ _ rfl ga ?_ (s := sa) (v := .slice pa ma.length ca) ?_ rfl HZ.out ?_); exact rfl; exact rfl; intro wya h9 o9; have hbo := below_tr HZB.out (o9.below HZB.out.size (fun i e => by have := HGa.out; omega)); replace HBC := hid (below_on HBC.out hbo); replace HVa := hid (HVa.out.on hbo); have HUa := hid hbo.size; have HCa := hid h9; clear h9 o9 hbo HZ HZB))
    go_upto_region 6 with (first
      | ((with_reducible refine wpList_load_at 24 _ rfl ?_ gj 0 ?_ (jC s (.slice po n c)) (.struct (Try.prog.fieldsOf 24)) ?_ underJrn rfl ?_ ?_); exact rfl; exact rfl; exact (HE.out.e0.cj.below HBC.out).wholeJ; exact sizeJ)
      | ((with_reducible refine wpList_load_at 29 _ rfl ?_ gr 0 ?_ x.r.cs (.struct (Try.prog.fieldsOf 29)) ?_ underRec rfl ?_ ?_); exact rfl; exact rfl; exact (HE.out.e0.cx.below HBC.out).whole; (rw [hok.size]; exact sizeR))
      | (go_at_call 8; refine (HA2.out _ HBC.out).mono ?_; rintro e wqb ⟨sb, vb, mb, rfl, hr9, he9, hn9, hb9⟩; obtain ⟨pb, cb, hv9, _⟩ := hr9.buf.form; subst hv9; have HTb := hid hb9.size; replace HBC := hid (below_on HBC.out hb9); replace HVa := hid (HVa.out.on hb9); replace HCa := hid (HCa.out.below hb9); have HQb := hid he9; have HVb := hid (hr9.vj hn9); clear hr9 he9 hn9 hb9)
      | ((with_reducible refine wpList_allocJ rfl rfl ?_); intro wzb gb hz9 hb9 hg9; have HZ := hid hz9; have HZB := hid hb9; have HGb := hid hg9; clear hz9 hb9 hg9)
      | ((with_reducible refine wpList_storeJ rfl rfl _ _ rfl gb ?_ (s := sb) (v := .slice pb mb.length cb) ?_ rfl HZ.out ?_); exact rfl; exact rfl; intro wyb h9 o9; have hbo := below_tr HZB.out (o9.below HZB.out.size (fun i e => by have := HGb.out; omega)); replace HBC := hid (below_on HBC.out hbo); replace HVa := hid (HVa.out.on hbo); replace HCa := hid (HCa.out.below hbo); replace HVb := hid (HVb.out.on hbo); have HUb := hid hbo.size; have HCb := hid h9; clear h9 o9 hbo HZ HZB))
    go_upto_region 7 with (first
      | ((with_reducible refine wpList_load_at 24 _ rfl ?_ g7 0 ?_ (jC s (.slice pi mi.length ci)) (.struct (Try.prog.fieldsOf 24)) ?_ underJrn rfl ?_ ?_); exact rfl; exact rfl; exact (HE.out.ci.below HBC.out).wholeJ; exact sizeJ)
      | (go_at_call 9; refine (HR1.out _ HBC.out).mono ?_; rintro e wqc ⟨sc, vc, mc, rfl, hr9, he9, hn9, hb9⟩; obtain ⟨pc, cc, hv9, _⟩ := hr9.buf.form; subst hv9; have HTc := hid hb9.size; replace HBC := hid (below_on HBC.out hb9); replace HVa := hid (HVa.out.on hb9); replace HCa := hid (HCa.out.below hb9); replace HVb := hid (HVb.out.on hb9); replace HCb := hid (HCb.out.below hb9); have HQc := hid he9; have HVc := hid (hr9.vj hn9); clear hr9 he9 hn9 hb9)
      | ((with_reducible refine wpList_allocJ rfl rfl ?_); intro wzc gc hz9 hb9 hg9; have HZ := hid hz9; have HZB := hid hb9; have HGc := hid hg9; clear hz9 hb9 hg9)
      | ((with_reducible refine wpList_storeJ rfl rfl _ _ rfl gc ?_ (s := sc) (v := .slice pc mc.length cc) ?_ rfl HZ.out ?_); exact rfl; exact rfl; intro wyc h9 o9; have hbo := below_tr HZB.out (o9.below HZB.out.size (fun i e => by have := HGc.out; omega)); replace HBC := hid (below_on HBC.out hbo); replace HVa := hid (HVa.out.on hbo); replace HCa := hid (HCa.out.below hbo); replace HVb := hid (HVb.out.on hbo); replace HCb := hid (HCb.out.below hbo); replace HVc := hid (HVc.out.on hbo); have HUc := hid hbo.size; have HCc := hid h9; clear h9 o9 hbo HZ HZB))
    go_upto_region 8 with (first
      | ((with_reducible refine wpList_load_at 24 _ rfl ?_ gj 0 ?_ (jC s (.slice po n c)) (.struct (Try.prog.fieldsOf 24)) ?_ underJrn rfl ?_ ?_); exact rfl; exact rfl; exact (HE.out.e0.cj.below HBC.out).wholeJ; exact sizeJ)
      | (go_at_call 10; refine (HR2.out _ HBC.out).mono ?_; rintro e wqd ⟨sd, vd, md, rfl, hr9, he9, hn9, hb9⟩; obtain ⟨pd, cd, hv9, _⟩ := hr9.buf.form; subst hv9; have HTd := hid hb9.size; replace HBC := hid (below_on HBC.out hb9); replace HVa := hid (HVa.out.on hb9); replace HCa := hid (HCa.out.below hb9); replace HVb := hid (HVb.out.on hb9); replace HCb := hid (HCb.out.below hb9); replace HVc := hid (HVc.out.on hb9); replace HCc := hid (HCc.out.below hb9); have HQd := hid he9; have HVd := hid (hr9.vj hn9); clear hr9 he9 hn9 hb9)
      | ((with_reducible refine wpList_allocJ rfl rfl ?_); intro wzd gd hz9 hb9 hg9; have HZ := hid hz9; have HZB := hid hb9; have HGd := hid hg9; clear hz9 hb9 hg9)
      | ((with_reducible refine wpList_storeJ rfl rfl _ _ rfl gd ?_ (s := sd) (v := .slice pd md.length cd) ?_ rfl HZ.out ?_); exact rfl; exact rfl; intro wyd h9 o9; have hbo := below_tr HZB.out (o9.below HZB.out.size (fun i e => by have := HGd.out; omega)); replace HBC := hid (below_on HBC.out hbo); replace HVa := hid (HVa.out.on hbo); replace HCa := hid (HCa.out.below hbo); replace HVb := hid (HVb.out.on hbo); replace HCb := hid (HCb.out.below hbo); replace HVc := hid (HVc.out.on hbo); replace HCc := hid (HCc.out.below hbo); replace HVd := hid (HVd.out.on hbo); have HUd := hid hbo.size; have HCd := hid h9; clear h9 o9 hbo HZ HZB))
    have HMa : Hid (∀ W, Below wyd.heap.size wyd W → Calls Try.prog 11 #[.agg (jC sa (.slice pa ma.length ca)), .agg (jC sb (.slice pb mb.length cb))] W fun e w' => e = .returned (.bool true) ∧ Below W.heap.size W w') := hid (fun W hW => by have h9 := rjsame_any sa sb _ _ ma mb W (HVa.out.rl.below hW) (HVb.out.rl.below hW); rw [decide_eq_true (HQa.out.trans HQb.out.symm)] at h9; exact h9)
    have HMc : Hid (∀ W, Below wyd.heap.size wyd W → Calls Try.prog 11 #[.agg (jC sc (.slice pc mc.length cc)), .agg (jC sd (.slice pd md.length cd))] W fun e w' => e = .returned (.bool true) ∧ Below W.heap.size W w') := hid (fun W hW => by have h9 := rjsame_any sc sd _ _ mc md W (HVc.out.rl.below hW) (HVd.out.rl.below hW); rw [decide_eq_true (HQc.out.trans HQd.out.symm)] at h9; exact h9)
    have HBD := hid (Below.refl wyd.heap.size wyd)
    have HSZ : Hid (wqa.heap.size ≤ wyb.heap.size ∧ wyb.heap.size ≤ wqc.heap.size ∧ wqc.heap.size ≤ wyd.heap.size ∧ wc.heap.size ≤ wyb.heap.size ∧ wqa.heap.size ≤ gc) := hid (by have := HTa.out; have := HUa.out; have := HTb.out; have := HUb.out; have := HTc.out; have := HUc.out; have := HTd.out; have := HUd.out; have := HGc.out; omega)
    have T1 : Hid True := hid trivial
    go_upto_region 10 with (first
      | ((with_reducible refine wpList_load_at 24 _ rfl ?_ ga 0 ?_ (jC sa (.slice pa ma.length ca)) (.struct (Try.prog.fieldsOf 24)) ?_ underJrn rfl ?_ ?_); exact rfl; exact rfl; exact HCa.out.wholeJ; exact sizeJ)
      | ((with_reducible refine wpList_load_at 24 _ rfl ?_ gb 0 ?_ (jC sb (.slice pb mb.length cb)) (.struct (Try.prog.fieldsOf 24)) ?_ underJrn rfl ?_ ?_); exact rfl; exact rfl; exact HCb.out.wholeJ; exact sizeJ)
      | ((with_reducible refine wpList_load_at 24 _ rfl ?_ gc 0 ?_ (jC sc (.slice pc mc.length cc)) (.struct (Try.prog.fieldsOf 24)) ?_ underJrn rfl ?_ ?_); exact rfl; exact rfl; exact HCc.out.wholeJ; exact sizeJ)
      | ((with_reducible refine wpList_load_at 24 _ rfl ?_ gd 0 ?_ (jC sd (.slice pd md.length cd)) (.struct (Try.prog.fieldsOf 24)) ?_ underJrn rfl ?_ ?_); exact rfl; exact rfl; exact HCd.out.wholeJ; exact sizeJ)
      | (clear T1; go_at_call 11; refine (HMa.out _ HBD.out).mono ?_; rintro e wma ⟨rfl, hb9⟩; replace HBC := hid (below_on HBC.out hb9); replace HVa := hid (HVa.out.on hb9); replace HCa := hid (HCa.out.below hb9); replace HVb := hid (HVb.out.on hb9); replace HCb := hid (HCb.out.below hb9); replace HVc := hid (HVc.out.on hb9); replace HCc := hid (HCc.out.below hb9); replace HVd := hid (HVd.out.on hb9); replace HCd := hid (HCd.out.below hb9); replace HBD := hid (below_on HBD.out hb9); clear hb9)
      | (go_at_call 11; refine (HMc.out _ HBD.out).mono ?_; rintro e wmc ⟨rfl, hb9⟩; replace HBC := hid (below_on HBC.out hb9); replace HVa := hid (HVa.out.on hb9); replace HCa := hid (HCa.out.below hb9); replace HVb := hid (HVb.out.on hb9); replace HCb := hid (HCb.out.below hb9); replace HVc := hid (HVc.out.on hb9); replace HCc := hid (HCc.out.below hb9); replace HVd := hid (HVd.out.on hb9); replace HCd := hid (HCd.out.below hb9); replace HBD := hid (below_on HBD.out hb9); clear hb9))
    go_upto_region 11 with (first
      | ((with_reducible refine wpList_load_at 24 _ rfl ?_ ga 0 ?_ (jC sa (.slice pa ma.length ca)) (.struct (Try.prog.fieldsOf 24)) ?_ underJrn rfl ?_ ?_); exact rfl; exact rfl; exact HCa.out.wholeJ; exact sizeJ)
      | (go_at_call 12; refine (over_any sa _ ma _ _ _ HVa.out.ov (by have := HSZ.out; have := HBD.out.size; omega)).mono ?_; rintro e wo1 ⟨rfl, o9⟩; have HVo := hid (HVc.out.ov.only o9 (fun i e => by have := HSZ.out; omega)); have HCo := hid (HCc.out.keep (o9.block gc HCc.out.lt (fun e => by have := HSZ.out; omega))); have HSo : Hid (wqc.heap.size ≤ wo1.heap.size) := hid (by have := HSZ.out; have := HBD.out.size; have := o9.size; omega); replace HBC := hid (below_tr HBC.out (o9.below HBC.out.size (fun i e => e.1))); clear o9 HVa HVb HVc HVd HCa HCb HCc HCd HBD))
    go_upto_region 12 with (first
      | ((with_reducible refine wpList_load_at 24 _ rfl ?_ gc 0 ?_ (jC sc (.slice pc mc.length cc)) (.struct (Try.prog.fieldsOf 24)) ?_ underJrn rfl ?_ ?_); exact rfl; exact rfl; exact HCo.out.wholeJ; exact sizeJ)
      | (go_at_call 12; refine (over_any sc _ mc _ _ _ HVo.out HSo.out).mono ?_; rintro e wo2 ⟨rfl, o9⟩; replace HBC := hid (below_tr HBC.out (o9.below HBC.out.size (fun i e => by have := HSZ.out; omega))); have HBO := hid HBC.out.size; clear o9 HVo HCo))
    go_upto_region 13 with (first
      | ((with_reducible refine wpList_load_at 24 _ rfl ?_ g7 0 ?_ (jC s (.slice pi mi.length ci)) (.struct (Try.prog.fieldsOf 24)) ?_ underJrn rfl ?_ ?_); exact rfl; exact rfl; exact (HE.out.ci.below HBC.out).wholeJ; exact sizeJ)
      | (go_at_call 13; refine (HF1.out _ HBC.out).mono ?_; rintro e wqx ⟨yx, rfl, he9, hr9, hb9⟩; have hox := hr9.one8; have hkx := hr9.ok; replace HBC := hid (below_on HBC.out hb9); have HQx := hid he9; have HPx := hid hr9; have HTx := hid hb9.size; clear he9 hr9 hb9)
      | ((with_reducible refine wpList_allocR rfl rfl ?_); intro wzx gx hz9 hb9 hg9; have HZ := hid hz9; have HZB := hid hb9; have HZG := hid hg9; clear hz9 hb9 hg9)
      | ((with_reducible refine wpList_storeR rfl rfl _ _ rfl gx ?_ (r := yx.r) ?_ zR_ok hkx hox HZ.out ?_); exact rfl; exact rfl; intro wyx h9 o9; have hbo := (Own1.mk1 HZB.out HZG.out h9 o9).below; replace HBC := hid (below_on HBC.out hbo); replace HPx := hid (HPx.out.below hbo); have HUx := hid hbo.size; have HCx := hid h9; clear h9 o9 hbo HZ HZB HZG))
    go_upto_region 14 with (first
      | ((with_reducible refine wpList_load_at 24 _ rfl ?_ gj 0 ?_ (jC s (.slice po n c)) (.struct (Try.prog.fieldsOf 24)) ?_ underJrn rfl ?_ ?_); exact rfl; exact rfl; exact (HE.out.e0.cj.below HBC.out).wholeJ; exact sizeJ)
      | (go_at_call 14; refine (HF2.out _ HBC.out).mono ?_; rintro e wqy ⟨yy, rfl, he9, hr9, hb9⟩; have hoy := hr9.one8; have hky := hr9.ok; replace HBC := hid (below_on HBC.out hb9); replace HPx := hid (HPx.out.below hb9); replace HCx := hid (HCx.out.below hkx hb9); have HQy := hid he9; have HPy := hid hr9; have HTy := hid hb9.size; clear he9 hr9 hb9)
      | ((with_reducible refine wpList_allocR rfl rfl ?_); intro wzy gy hz9 hb9 hg9; have HZ := hid hz9; have HZB := hid hb9; have HZG := hid hg9; clear hz9 hb9 hg9)
      | ((with_reducible refine wpList_storeR rfl rfl _ _ rfl gy ?_ (r := yy.r) ?_ zR_ok hky hoy HZ.out ?_); exact rfl; exact rfl; intro wyy h9 o9; have hbo := (Own1.mk1 HZB.out HZG.out h9 o9).below; replace HBC := hid (below_on HBC.out hbo); replace HPx := hid (HPx.out.below hbo); replace HCx := hid (HCx.out.below hkx hbo); replace HPy := hid (HPy.out.below hbo); have HUy := hid hbo.size; have HCy := hid h9; clear h9 o9 hbo HZ HZB HZG))
    go_upto_region 15 with (first
      | ((with_reducible refine wpList_load_at 24 _ rfl ?_ g7 0 ?_ (jC s (.slice pi mi.length ci)) (.struct (Try.prog.fieldsOf 24)) ?_ underJrn rfl ?_ ?_); exact rfl; exact rfl; exact (HE.out.ci.below HBC.out).wholeJ; exact sizeJ)
      | (go_at_call 15; refine (HW1.out _ HBC.out).mono ?_; rintro e wqu ⟨yu, rfl, he9, hr9, hb9⟩; have hou := hr9.one8; have hku := hr9.ok; replace HBC := hid (below_on HBC.out hb9); replace HPx := hid (HPx.out.below hb9); replace HCx := hid (HCx.out.below hkx hb9); replace HPy := hid (HPy.out.below hb9); replace HCy := hid (HCy.out.below hky hb9); have HQu := hid he9; have HPu := hid hr9; have HTu := hid hb9.size; clear he9 hr9 hb9)
      | ((with_reducible refine wpList_allocR rfl rfl ?_); intro wzu gu hz9 hb9 hg9; have HZ := hid hz9; have HZB := hid hb9; have HZG := hid hg9; clear hz9 hb9 hg9)
      | ((with_reducible refine wpList_storeR rfl rfl _ _ rfl gu ?_ (r := yu.r) ?_ zR_ok hku hou HZ.out ?_); exact rfl; exact rfl; intro wyu h9 o9; have hbo := (Own1.mk1 HZB.out HZG.out h9 o9).below; replace HBC := hid (below_on HBC.out hbo); replace HPx := hid (HPx.out.below hbo); replace HCx := hid (HCx.out.below hkx hbo); replace HPy := hid (HPy.out.below hbo); replace HCy := hid (HCy.out.below hky hbo); replace HPu := hid (HPu.out.below hbo); have HUu := hid hbo.size; have HCu := hid h9; clear h9 o9 hbo HZ HZB HZG))
    go_upto_region 16 with (first
      | ((with_reducible refine wpList_load_at 24 _ rfl ?_ gj 0 ?_ (jC s (.slice po n c)) (.struct (Try.prog.fieldsOf 24)) ?_ underJrn rfl ?_ ?_); exact rfl; exact rfl; exact (HE.out.e0.cj.below HBC.out).wholeJ; exact sizeJ)
      | (go_at_call 16; refine (HW2.out _ HBC.out).mono ?_; rintro e wqv ⟨yv, rfl, he9, hr9, hb9⟩; have hov := hr9.one8; have hkv := hr9.ok; replace HBC := hid (below_on HBC.out hb9); replace HPx := hid (HPx.out.below hb9); replace HCx := hid (HCx.out.below hkx hb9); replace HPy := hid (HPy.out.below hb9); replace HCy := hid (HCy.out.below hky hb9); replace HPu := hid (HPu.out.below hb9); replace HCu := hid (HCu.out.below hku hb9); have HQv := hid he9; have HPv := hid hr9; have HTv := hid hb9.size; clear he9 hr9 hb9)
      | ((with_reducible refine wpList_allocR rfl rfl ?_); intro wzv gv hz9 hb9 hg9; have HZ := hid hz9; have HZB := hid hb9; have HZG := hid hg9; clear hz9 hb9 hg9)
      | ((with_reducible refine wpList_storeR rfl rfl _ _ rfl gv ?_ (r := yv.r) ?_ zR_ok hkv hov HZ.out ?_); exact rfl; exact rfl; intro wyv h9 o9; have hbo := (Own1.mk1 HZB.out HZG.out h9 o9).below; replace HBC := hid (below_on HBC.out hbo); replace HPx := hid (HPx.out.below hbo); replace HCx := hid (HCx.out.below hkx hbo); replace HPy := hid (HPy.out.below hbo); replace HCy := hid (HCy.out.below hky hbo); replace HPu := hid (HPu.out.below hbo); replace HCu := hid (HCu.out.below hku hbo); replace HPv := hid (HPv.out.below hbo); have HUv := hid hbo.size; have HCv := hid h9; clear h9 o9 hbo HZ HZB HZG))
    have HMx : Hid (∀ W, Below wyv.heap.size wyv W → Calls Try.prog 17 #[.agg yx.r.cs, .agg yy.r.cs] W fun e w' => e = .returned (.bool true) ∧ Below W.heap.size W w') := hid (fun W hW => by have h9 := rsame_any yx.r yy.r hkx hky yx.ps yy.ps W ((HPx.out.below hW).pl.1) ((HPy.out.below hW).pl.1); rw [decide_eq_true (show yx.r.rc yx.ps = yy.r.rc yy.ps from HQx.out.trans HQy.out.symm)] at h9; exact h9)
    have HMu : Hid (∀ W, Below wyv.heap.size wyv W → Calls Try.prog 17 #[.agg yu.r.cs, .agg yv.r.cs] W fun e w' => e = .returned (.bool true) ∧ Below W.heap.size W w') := hid (fun W hW => by have h9 := rsame_any yu.r yv.r hku hkv yu.ps yv.ps W ((HPu.out.below hW).pl.1) ((HPv.out.below hW).pl.1); rw [decide_eq_true (show yu.r.rc yu.ps = yv.r.rc yv.ps from HQu.out.trans HQv.out.symm)] at h9; exact h9)
    have HBD := hid (Below.refl wyv.heap.size wyv)
    have HSB : Hid (wo2.heap.size ≤ wyy.heap.size) := hid (by have := HTx.out; have := HUx.out; have := HTy.out; have := HUy.out; omega)
    have T1 : Hid True := hid trivial
    go_upto_region 17 with (first
      | ((with_reducible refine wpList_load_at 29 _ rfl ?_ gx 0 ?_ yx.r.cs (.struct (Try.prog.fieldsOf 29)) ?_ underRec rfl ?_ ?_); exact rfl; exact rfl; exact HCx.out.whole; (rw [hkx.size]; exact sizeR))
      | ((with_reducible refine wpList_load_at 29 _ rfl ?_ gy 0 ?_ yy.r.cs (.struct (Try.prog.fieldsOf 29)) ?_ underRec rfl ?_ ?_); exact rfl; exact rfl; exact HCy.out.whole; (rw [hky.size]; exact sizeR))
      | ((with_reducible refine wpList_load_at 29 _ rfl ?_ gu 0 ?_ yu.r.cs (.struct (Try.prog.fieldsOf 29)) ?_ underRec rfl ?_ ?_); exact rfl; exact rfl; exact HCu.out.whole; (rw [hku.size]; exact sizeR))
      | ((with_reducible refine wpList_load_at 29 _ rfl ?_ gv 0 ?_ yv.r.cs (.struct (Try.prog.fieldsOf 29)) ?_ underRec rfl ?_ ?_); exact rfl; exact rfl; exact HCv.out.whole; (rw [hkv.size]; exact sizeR))
      | (clear T1; go_at_call 17; refine (HMx.out _ HBD.out).mono ?_; rintro e wmx ⟨rfl, hb9⟩; replace HBC := hid (below_on HBC.out hb9); replace HPx := hid (HPx.out.below hb9); replace HCx := hid (HCx.out.below hkx hb9); replace HPy := hid (HPy.out.below hb9); replace HCy := hid (HCy.out.below hky hb9); replace HPu := hid (HPu.out.below hb9); replace HCu := hid (HCu.out.below hku hb9); replace HPv := hid (HPv.out.below hb9); replace HCv := hid (HCv.out.below hkv hb9); replace HBD := hid (below_on HBD.out hb9); clear hb9)
      | (go_at_call 17; refine (HMu.out _ HBD.out).mono ?_; rintro e wmu ⟨rfl, hb9⟩; replace HBC := hid (below_on HBC.out hb9); replace HPx := hid (HPx.out.below hb9); replace HCx := hid (HCx.out.below hkx hb9); replace HPy := hid (HPy.out.below hb9); replace HCy := hid (HCy.out.below hky hb9); replace HPu := hid (HPu.out.below hb9); replace HCu := hid (HCu.out.below hku hb9); replace HPv := hid (HPv.out.below hb9); replace HCv := hid (HCv.out.below hkv hb9); replace HBD := hid (below_on HBD.out hb9); clear hb9))
    go_upto_region 18 with (first
      | ((with_reducible refine wpList_load_at 29 _ rfl ?_ gx 0 ?_ yx.r.cs (.struct (Try.prog.fieldsOf 29)) ?_ underRec rfl ?_ ?_); exact rfl; exact rfl; exact HCx.out.whole; (rw [hkx.size]; exact sizeR))
      | ((with_reducible refine wpList_load_at 29 _ rfl ?_ gu 0 ?_ yu.r.cs (.struct (Try.prog.fieldsOf 29)) ?_ underRec rfl ?_ ?_); exact rfl; exact rfl; exact HCu.out.whole; (rw [hku.size]; exact sizeR))
      | ((with_reducible refine wpList_buildTwo rfl _ _ rfl yx.r.cs yu.r.cs hkx.size hku.size ?_ ?_ ?_); exact rfl; exact rfl; intro wt gt hc9 hb9 hg9; have HOV := hid (ov_two HPx.out (HPu.out.base HSB.out) hb9 hc9 (by have := HBD.out.size; have := HSB.out; have := HTu.out; have := HUu.out; have := HTv.out; have := HUv.out; omega)); replace HBC := hid (below_on HBC.out hb9); clear hc9 hb9 hg9)
      | ((with_reducible refine wpList_build_want 24 _ rfl ?_ (jC 0 (.slice (some ⟨gt, 0, none⟩) 2 2)) ?_ ?_); exact rfl; exact builtJr _ _ _)
      | (go_at_call 12; refine (over_any 0 _ [yx, yu] _ _ _ HOV.out (Nat.le_refl _)).mono ?_; rintro e wo3 ⟨rfl, o9⟩; replace HBC := hid (below_tr HBC.out (o9.below HBC.out.size (fun i e => Nat.le_trans HBO.out e.1))); clear o9 HOV))
    go_wp2_with (first
      | ((with_reducible refine wpList_load_at 24 _ rfl ?_ g7 0 ?_ (jC s (.slice pi mi.length ci)) (.struct (Try.prog.fieldsOf 24)) ?_ underJrn rfl ?_ ?_); exact rfl; exact rfl; exact (HE.out.ci.below HBC.out).wholeJ; exact sizeJ)
      | ((with_reducible refine wpList_load_at 24 _ rfl ?_ gj 0 ?_ (jC s (.slice po n c)) (.struct (Try.prog.fieldsOf 24)) ?_ underJrn rfl ?_ ?_); exact rfl; exact rfl; exact (HE.out.e0.cj.below HBC.out).wholeJ; exact sizeJ)
      | ((with_reducible refine wpList_load_at 29 _ rfl ?_ g8 0 ?_ yi.r.cs (.struct (Try.prog.fieldsOf 29)) ?_ underRec rfl ?_ ?_); exact rfl; exact rfl; exact (HE.out.co.below HBC.out).whole; (rw [hyk.size]; exact sizeR))
      | ((with_reducible refine wpList_load_at 29 _ rfl ?_ gr 0 ?_ x.r.cs (.struct (Try.prog.fieldsOf 29)) ?_ underRec rfl ?_ ?_); exact rfl; exact rfl; exact (HE.out.e0.cx.below HBC.out).whole; (rw [hok.size]; exact sizeR))
      | (go_at_call 11; refine (HSJ.out _ HBC.out).mono ?_; rintro e wf1 ⟨rfl, hb9⟩; replace HBC := hid (below_on HBC.out hb9); clear hb9)
      | (go_at_call 17; refine (HSR.out _ HBC.out).mono ?_; rintro e wf2 ⟨rfl, hb9⟩; replace HBC := hid (below_on HBC.out hb9); clear hb9))
    go_ret
    exact ⟨rfl, below_on HE.out.e0.below HBC.out⟩
theorem edits_any (s : Int) (v : Value) (l : List Rp) (x : Rp) (id : ByteArray) (w : World) (hl : IsJ w v l) (hx : IsP w x) : Calls Try.prog 3 #[.agg (jC s v), .agg x.r.cs, .string id] w fun e w' => e = .returned (.bool true) ∧ Below w.heap.size w w' := by
  cases h1 : bigJ l with
  | true => exact edits_l s v l x id w hl hx h1
  | false =>
    cases h2 : bigP x with
    | true => exact edits_r s v l x id w hl hx h1 h2
    | false =>
      by_cases h3 : 1000 < id.size
      · exact edits_i s v l x id w hl hx h1 h2 h3
      · exact edits_m s v l x id w hl hx h1 h2 h3
#print axioms edits_any
end Go.Proofs.Ytcbmimjjpkkoeaa
