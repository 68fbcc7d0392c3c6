/- Contract of awake, the examples: the walk. -/
import Derived.Test.YtepkpkbgmchioaaWj
namespace Go.Proofs.Ytepkpkbgmchioaa
open Go Go.RowKit

theorem step_run_ex {P : Program} {w : World} {ops : Array Oper} {o : Oper} {a : Act} {K : Act → World → Prop} {Q : Exit → Act → World → Prop} {E : Prop} (hgd : o.guard = none) (v : Value) (w' : World)
    (hr : (execOp a.eval o).run P w = .ok (.value v) w') (h : K (a.put o.dst v) w') : if Region.wanted o (yielded ops a.tmps) = true then Oper.wp P o a w K Q else E := by
  have hw : Region.wanted o (yielded ops a.tmps) = true := by simp [Region.wanted, hgd]
  rw [if_pos hw]
  unfold Oper.wp
  rw [hr]
  exact h
theorem exec_conv {a : Act} {o : Oper} {x : Operand} {v : Value} {W W' : World} (ho : o.op = .convert 22 22 x) (hx : a.eval x = v) (h : (convert 22 22 v).run Try.prog W = .ok v W') : (execOp a.eval o).run Try.prog W = .ok (.value v) W' := by
  unfold execOp
  simp only [ho, hx, Sem.run_bind, h, Result.andThen_ok, Sem.run_pure]
set_option maxRecDepth 100000 in
set_option maxHeartbeats 1000000 in
theorem awake_any (w : World) : Calls Try.prog 32 #[] w fun e w' => e = .returned (.bool true) ∧ Below w.heap.size w w' := by
  obtain ⟨Z, hZ⟩ : ∃ Z, mk5 = Z := ⟨_, rfl⟩
  have zok : Z.ok := hZ ▸ mk5_ok
  have HM := hid (fun w => mark_any w)
  have HPV : Hid (Z.pv = .slice none 0 0) := hid (hZ ▸ rfl)
  have HMAY : Hid (okRc (Z.rc []) = true) := hid (hZ ▸ mk5_may)
  have HBY : Hid (rcB (Z.rc []) = mB) := hid (hZ ▸ mk5_bytes)
  have HRD : Hid (rdR (mB ++ [9]) = some (Z.rc [], [9])) := hid (hZ ▸ mk5_read)
  rw [hZ] at HM
  clear hZ
  have hcv := fun (w : World) (C : Array Value) (n c : Nat) => Go.Lib.run_convert_bytes_const (P := Try.prog) w 22 5 C n c Try.underlying22 under5
  go_enter Try.func32, Try.ntmps32
  go_wp2_with (first
    | (go_at_call 34; refine (HM.out _).mono ?_; rintro e w1 ⟨rfl, hb1⟩; have HB1 := hid hb1; clear hb1)
    | (go_at_call 24; refine (bytes_ok Z zok [] _ (HPV.out ▸ PL.nil _) HMAY.out).mono ?_; rintro e w2 ⟨v2, rfl, ho2, hb2⟩; rw [HBY.out] at ho2; have HO2 := hid ho2; have HB2 := hid (below_on HB1.out hb2); clear ho2 hb2 HB1; obtain ⟨po, cc, w3, hrun, hbl, hcc, hb3⟩ := grow9 w2 (7, 8); have HRUN := hid hrun; have HBL := hid hbl; have HB3 := hid hb3; clear hrun hb3 hbl)
    | (at_builtin; refine wpList_append_run _ _ 22 22 rfl rfl _ _ _ rfl rfl HRUN.out ?_)
    | (go_at_call 30; refine (read_ok po cc (mB ++ [9]) _ HBL.out hcc (by decide) mB9_lt HRD.out).mono ?_; rintro e w4 ⟨r, ps, out, rfl, hok, hrc, hpl, hout, hb4⟩; have hone : r.pv.oneCell' = true := (by obtain ⟨_, _, _, e⟩ := hpl.form; rw [e]; rfl); have HOUT := hid hout; have HPL := hid hpl.1; have HRC := hid hrc; have HB4 := hid (below_on (below_on HB2.out HB3.out) hb4); have HV2 := hid ((HO2.out.below HB3.out).below hb4); clear hpl hout hrc hb4 HBL HRUN HO2)
    | ((with_reducible refine wpList_allocR rfl rfl ?_); intro w5 g5 hz5 hb5 hg5; have HZ5 := hid hz5; have HB5 := hid hb5; clear hz5 hb5)
    | ((with_reducible refine wpList_storeR rfl rfl _ _ rfl g5 ?_ (r := r) ?_ zR_ok hok hone HZ5.out ?_); exact rfl; exact rfl; intro w6 h6 o6; have hb46 := below_tr HB5.out (o6.below HB5.out.size (fun i e => by omega)); have HRB := hid h6; have HB6 := hid (below_on HB4.out hb46); replace HV2 := hid (HV2.out.below hb46); replace HOUT := hid (HOUT.out.below hb46); replace HPL := hid (HPL.out.below hb46); clear h6 o6 hb46 HZ5 HB5 HB4 HB2 HB3))
  have HSF : Hid (∀ W, Below w6.heap.size w6 W → (Instr.loadAt 45 (.pointer (some ⟨g5, 0, none⟩))).run Try.prog W = .ok (.agg r.cs) W) := fun W hW => run_loadR hok (HRB.out.below hok hW)
  refine wp_region_held_drew (S := fun W => (Instr.loadAt 45 (.pointer (some ⟨g5, 0, none⟩))).run Try.prog W = .ok (.agg r.cs) W) (by kernel_rfl) (HSF.out _ (below_drew _)) (fun hHeld => ?_)
  refine wpAnyH_take (i := 0) (oi := ⟨some 20, .move (.tmp 1), 22, _, _, none⟩) (v := v2) rfl (by kernel_rfl) (by kernel_rfl) (by kernel_rfl) (fun _ _ _ h => h) (Or.inl ⟨by rfl, by intro W hW; go_simp⟩) hHeld ?_
  refine wpAnyH_ready (rs := [1]) (by kernel_rfl) (by simp) ?_
  refine AllReadyH.cons rfl (fun K hK => ?_) AllReadyH.nil
  go_simp
  refine hK.out _ _ (HSF.out _ (below_on (below_al _ _) (below_drew _))) (fun hHeld => ?_)
  clear hK K
  refine wpAnyH_ready (rs := [2]) (by kernel_rfl) (by simp) ?_
  refine AllReadyH.cons (o := ⟨some 22, .convert 22 22 (.tmp 21), 22, _, _, none⟩) rfl (fun K hK => ?_) AllReadyH.nil
  with_reducible refine step_run_ex ?_ (.slice (some ⟨w6.heap.size, 0, none⟩) 7 7) (w6.drew.alloc (.cells c7 5 (7, 8))) ?_ ?_
  · exact rfl
  · exact exec_conv rfl (by kernel_rfl) (hcv w6.drew c7 7 7)
  have HB7 : Hid (Below w6.heap.size w6 (w6.drew.alloc (.cells c7 5 (7, 8)))) := hid (below_on (below_drew _) (below_al _ _))
  have HL7 : Hid (BL (w6.drew.alloc (.cells c7 5 (7, 8))) (some ⟨w6.heap.size, 0, none⟩) mB) := hid (bl7 w6.drew (7, 8))
  generalize w6.drew.alloc (.cells c7 5 (7, 8)) = w7 at HB7 HL7 ⊢
  refine hK.out _ _ (HSF.out _ HB7.out) (fun hHeld => ?_)
  clear hK K hcv
  refine wpAnyH_ready (rs := [3]) (by kernel_rfl) (by simp) ?_
  refine AllReadyH.cons rfl (fun K hK => ?_) AllReadyH.nil
  go_simp
  refine (sameB_true (x := mB) (HV2.out.below HB7.out).sl ⟨_, 7, rfl, HL7.out, by decide⟩ mB_lt).mono ?_
  rintro e w8 ⟨rfl, hw8⟩
  have hw9 := hw8.symm
  subst hw9
  go_wp2_with fail
  refine hK.out _ _ (HSF.out _ HB7.out) (fun hHeld => ?_)
  clear hK K
  refine wpAnyH_take (i := 4) (oi := ⟨some 24, .move (.tmp 23), 4, _, _, none⟩) (v := .bool true) rfl (by kernel_rfl) (by kernel_rfl) (by kernel_rfl) (fun _ _ _ h => h) (Or.inl ⟨by kernel_rfl, by intro W hW; go_simp⟩) hHeld ?_
  refine wpAnyH_take (i := 5) (oi := ⟨some 25, .move (.tmp 2), 23, _, _, some (4, true)⟩) (v := i64 0) rfl (by kernel_rfl) (by kernel_rfl) (by kernel_rfl) (fun _ _ _ h => h) (Or.inl ⟨by kernel_rfl, by intro W hW; go_simp⟩) hHeld ?_
  refine wpAnyH_take (i := 6) (oi := ⟨some 26, .binOp .eql 23 (.tmp 25) (.const (.int .i64 0)) 23, 4, _, _, some (4, true)⟩) (v := .bool true) rfl (by kernel_rfl) (by kernel_rfl) (by kernel_rfl) (fun _ _ _ h => h) (Or.inl ⟨by kernel_rfl, by intro W hW; go_simp⟩) hHeld ?_
  refine wpAnyH_take (i := 7) (oi := ⟨some 27, .pick (.tmp 24) (.tmp 26) (.const (.bool false)), 4, _, _, none⟩) (v := .bool true) rfl (by kernel_rfl) (by kernel_rfl) (by kernel_rfl) (fun _ _ _ h => h) (Or.inl ⟨by kernel_rfl, by intro W hW; go_simp⟩) hHeld ?_
  refine wpAnyH_take (i := 8) (oi := ⟨some 28, .move (.tmp 27), 4, _, _, none⟩) (v := .bool true) rfl (by kernel_rfl) (by kernel_rfl) (by kernel_rfl) (fun _ _ _ h => h) (Or.inl ⟨by kernel_rfl, by intro W hW; go_simp⟩) hHeld ?_
  refine wpAnyH_take (i := 9) (oi := ⟨some 29, .load 45 (.tmp 3), 45, _, _, some (8, true)⟩) (v := .agg r.cs) rfl (by kernel_rfl) (by kernel_rfl) (by kernel_rfl) (fun _ _ _ h => h) (Or.inl ⟨by kernel_rfl, fun W hW => exec_load rfl (by kernel_rfl) hW⟩) hHeld ?_
  refine wpAnyH_ready (rs := [10]) (by kernel_rfl) (by simp) ?_
  refine AllReadyH.cons rfl (fun K hK => ?_) AllReadyH.nil
  go_simp
  refine (HM.out _).mono ?_
  rintro e w8 ⟨rfl, hb8⟩
  have HB8 := hid (below_on HB7.out hb8)
  clear hb8
  go_wp2_with fail
  refine hK.out _ _ (HSF.out _ HB8.out) (fun hHeld => ?_)
  clear hK K
  refine wpAnyH_ready (rs := [11]) (by kernel_rfl) (by simp) ?_
  refine AllReadyH.cons rfl (fun K hK => ?_) AllReadyH.nil
  go_simp
  refine (same_any r Z hok zok ps [] _ (HPL.out.below HB8.out) (HPV.out ▸ PL.nil _)).mono ?_
  rintro e w9 ⟨rfl, hb9⟩
  have HB9 := hid (below_on HB8.out hb9)
  clear hb9
  rw [show decide (r.rc ps = Z.rc []) = true from decide_eq_true HRC.out]
  go_wp2_with fail
  refine hK.out _ _ (HSF.out _ HB9.out) (fun hHeld => ?_)
  clear hK K
  refine wpAnyH_take (i := 12) (oi := ⟨some 32, .pick (.tmp 28) (.tmp 31) (.const (.bool false)), 4, _, _, none⟩) (v := .bool true) rfl (by kernel_rfl) (by kernel_rfl) (by kernel_rfl) (fun _ _ _ h => h) (Or.inl ⟨by kernel_rfl, by intro W hW; go_simp⟩) hHeld ?_
  refine wpAnyH_take (i := 13) (oi := ⟨some 33, .move (.tmp 32), 4, _, _, none⟩) (v := .bool true) rfl (by kernel_rfl) (by kernel_rfl) (by kernel_rfl) (fun _ _ _ h => h) (Or.inl ⟨by kernel_rfl, by intro W hW; go_simp⟩) hHeld ?_
  refine wpAnyH_take (i := 14) (oi := ⟨some 34, .move (.tmp 4), 22, _, _, some (13, true)⟩) (v := out) rfl (by kernel_rfl) (by kernel_rfl) (by kernel_rfl) (fun _ _ _ h => h) (Or.inl ⟨by kernel_rfl, by intro W hW; go_simp⟩) hHeld ?_
  refine wpAnyH_ready (rs := [15]) (by kernel_rfl) (by simp) ?_
  refine AllReadyH.cons rfl (fun K hK => ?_) AllReadyH.nil
  go_simp
  have HB10 := hid (below_on HB9.out (below_al w9 (.cells #[.int .u8 9] 5)))
  have HL10 := hid (bl9 w9)
  refine hK.out _ _ (HSF.out _ HB10.out) (fun hHeld => ?_)
  clear hK K
  refine wpAnyH_ready (rs := [16]) (by kernel_rfl) (by simp) ?_
  refine AllReadyH.cons rfl (fun K hK => ?_) AllReadyH.nil
  go_simp
  refine (sameB_true (x := [9]) (HOUT.out.below HB10.out).sl ⟨_, 1, rfl, HL10.out, by decide⟩ (by decide)).mono ?_
  rintro e w11 ⟨rfl, hw11⟩
  have hw12 := hw11.symm
  subst hw12
  go_wp2_with fail
  refine hK.out _ _ (HSF.out _ HB10.out) (fun hHeld => ?_)
  clear hK K
  refine wpAnyH_take (i := 17) (oi := ⟨some 37, .pick (.tmp 33) (.tmp 36) (.const (.bool false)), 4, _, _, none⟩) (v := .bool true) rfl (by kernel_rfl) (by kernel_rfl) (by kernel_rfl) (fun _ _ _ h => h) (Or.inl ⟨by kernel_rfl, by intro W hW; go_simp⟩) hHeld ?_
  refine wpAnyH_take (i := 18) (oi := ⟨some 38, .move (.tmp 37), 4, _, _, none⟩) (v := .bool true) rfl (by kernel_rfl) (by kernel_rfl) (by kernel_rfl) (fun _ _ _ h => h) (Or.inl ⟨by kernel_rfl, by intro W hW; go_simp⟩) hHeld ?_
  refine wpAnyH_take (i := 19) (oi := ⟨some 39, .move (.tmp 5), 23, _, _, some (18, true)⟩) (v := i64 0) rfl (by kernel_rfl) (by kernel_rfl) (by kernel_rfl) (fun _ _ _ h => h) (Or.inl ⟨by kernel_rfl, by intro W hW; go_simp⟩) hHeld ?_
  refine wpAnyH_take (i := 20) (oi := ⟨some 40, .binOp .eql 23 (.tmp 39) (.const (.int .i64 0)) 23, 4, _, _, some (18, true)⟩) (v := .bool true) rfl (by kernel_rfl) (by kernel_rfl) (by kernel_rfl) (fun _ _ _ h => h) (Or.inl ⟨by kernel_rfl, by intro W hW; go_simp⟩) hHeld ?_
  refine wpAnyH_take (i := 21) (oi := ⟨some 41, .pick (.tmp 38) (.tmp 40) (.const (.bool false)), 4, _, _, none⟩) (v := .bool true) rfl (by kernel_rfl) (by kernel_rfl) (by kernel_rfl) (fun _ _ _ h => h) (Or.inl ⟨by kernel_rfl, by intro W hW; go_simp⟩) hHeld ?_
  refine wpAnyH_take (i := 22) (oi := ⟨some 0, .assign (.tmp 41), 4, _, _, none⟩) (v := .bool true) rfl (by kernel_rfl) (by kernel_rfl) (by kernel_rfl) (fun _ _ _ h => h) (Or.inl ⟨by kernel_rfl, by intro W hW; go_simp⟩) hHeld ?_
  refine wpAnyH_done (by kernel_rfl) ?_ _
  simp only [Act.put, List.setIfInBounds_toArray, List.set_cons_zero, List.set_cons_succ]
  go_wp2
  go_ret
  exact ⟨rfl, below_on HB6.out HB10.out⟩
#print axioms awake_any
end Go.Proofs.Ytepkpkbgmchioaa
