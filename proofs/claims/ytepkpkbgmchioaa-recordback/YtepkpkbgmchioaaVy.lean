/- Contract of Bytes of package record. -/
import Derived.Test.YtepkpkbgmchioaaVx
import Derived.Deep.MidRow
namespace Go.Proofs.Ytepkpkbgmchioaa
open Go Go.RowKit

theorem AppZ.pushA {B : Nat} {v0 v : Value} {w0 w : World} {L : List Nat} (h : AppZ B v0 w0 L v w) (k : Nat) (hL : L.length ≤ 900000) (hB : B ≤ w0.heap.size) (W : World) (hW : Below w.heap.size w W) (g : Nat) (hg : g = W.heap.size) :
    ∃ v' w', (Builtin.append_ #[22, 22] 22 #[v, .slice (some ⟨g, 0, none⟩) 1 1]).run Try.prog (W.alloc (.cells #[u8 k] 5)) = .ok v' w' ∧ AppZ B v0 w0 (L ++ [k]) v' w' := by
  subst hg
  have h2 := h.below hW
  obtain ⟨v', w', h3, h4⟩ := h2.buf.pushZ k (by omega) (by have := h2.only.size; omega)
  exact ⟨v', w', h3, h2.trans h4⟩
theorem rcB_mark {r : Rv} {ps : Ps} (h : r.mark = true) : rcB (r.rc ps) = tb (lst r.id) ++ (ib r.time ++ [1]) := by
  unfold rcB Rv.rc; simp [h]
theorem rcB_vers {r : Rv} {ps : Ps} (h : r.mark = false) : rcB (r.rc ps) = tb (lst r.id) ++ (ib r.time ++ ([0] ++ vB r ps)) := by
  unfold rcB Rv.rc vB; simp [h]
theorem run_loadR {w : World} {g : Nat} {r : Rv} (hr : r.ok) (h : RBox w g r) : (Instr.loadAt 45 (.pointer (some ⟨g, 0, none⟩))).run Try.prog w = .ok (.agg r.cs) w := by
  simp only [Instr.loadAt, Instr.sureAddr, Sem.run_bind, Sem.run_pure, Result.andThen_ok, run_loadVar_at w g 0 45 r.cs _ h.whole underRec rfl (by rw [hr.size]; exact sizeR)]
theorem exec_load {a : Act} {o : Oper} {ty : TypeId} {x : Operand} {p v : Value} {W : World} (ho : o.op = .load ty x) (hx : a.eval x = p) (h : (Instr.loadAt ty p).run Try.prog W = .ok v W) : (execOp a.eval o).run Try.prog W = .ok (.value v) W := by
  unfold execOp
  simp only [ho, hx, Sem.run_bind, h, Result.andThen_ok, Sem.run_pure]
theorem rangeR {w : World} {g : Nat} {r : Rv} (h : RBox w g r) : w.rangeAt g 0 r.cs.toList := fun j v hv => h.whole j v (by simpa using hv)
set_option maxRecDepth 100000 in
set_option maxHeartbeats 2000000 in
theorem bytes_bad (r : Rv) (hr : r.ok) (ps : Ps) (w : World) (hp : PL w r.pv ps) (h : okRc (r.rc ps) = false) : Calls Try.prog 24 #[.agg r.cs] w fun e w' => e = .returned (.tuple #[.slice none 0 0, i64 2]) ∧ Below w.heap.size w w' := by
  have HR := hid hr
  have HP := hid hp
  have H := hid h
  clear hr hp h
  go_enter Try.func24, Try.ntmps24
  go_wp2_with (first
    | ((with_reducible refine wpList_boxR rfl _ rfl r.cs ?_ ?_); exact rfl; intro w1 g1 hc1 hb1 hg1; have HA := hid (RBox.mk' HR.out hc1); have HB := hid hb1; have HP1 := hid (HP.out.below hb1); clear hc1 hb1)
    | ((with_reducible refine wpList_load_at 45 _ rfl ?_ g1 0 ?_ r.cs (.struct (Try.prog.fieldsOf 45)) ?_ underRec rfl ?_ ?_); exact rfl; exact rfl; exact HA.out.whole; (rw [HR.out.size]; exact sizeR))
    | (go_at_call 23; refine (check_any r HR.out ps _ HP1.out).mono ?_; rintro e w2 ⟨rfl, hb2⟩; rw [H.out]; replace HB := hid (below_on HB.out hb2); clear hb2))
  go_ret2
  exact ⟨rfl, HB.out⟩
theorem okRc_id {r : Rv} {ps : Ps} (h : okRc (r.rc ps) = true) : r.id.size ≤ 32 ∧ 0 ≤ r.time ∧ r.time ≤ 1048576 := by
  unfold okRc Rv.rc at h
  simp only [Bool.and_eq_true] at h
  have h1 := okOf_len h.1.1
  have h2 := inR_iff.1 h.1.2
  rw [lst_len] at h1
  exact ⟨h1.2, h2.1, h2.2⟩
set_option maxRecDepth 100000 in
set_option maxHeartbeats 2000000 in
theorem bytes_mark (r : Rv) (hr : r.ok) (ps : Ps) (w : World) (hp : PL w r.pv ps) (h : okRc (r.rc ps) = true) (hm : r.mark = true) : Calls Try.prog 24 #[.agg r.cs] w (OutE w (rcB (r.rc ps)) 0) := by
  have HR := hid hr
  have HP := hid hp
  have H := hid h
  obtain ⟨q1, q2, q3⟩ := okRc_id h
  clear hr hp h
  go_enter Try.func24, Try.ntmps24
  go_wp2_with (first
    | ((with_reducible refine wpList_boxR rfl _ rfl r.cs ?_ ?_); exact rfl; intro w1 g1 hc1 hb1 hg1; have HA := hid (RBox.mk' HR.out hc1); have HB := hid hb1; have HP1 := hid (HP.out.below hb1); clear hc1 hb1)
    | ((with_reducible refine wpList_load_at 45 _ rfl ?_ g1 0 ?_ r.cs (.struct (Try.prog.fieldsOf 45)) ?_ underRec rfl ?_ ?_); exact rfl; exact rfl; exact HA.out.whole; (rw [HR.out.size]; exact sizeR))
    | (go_at_call 23; refine (check_any r HR.out ps _ HP1.out).mono ?_; rintro e w2 ⟨rfl, hb2⟩; rw [H.out]; replace HA := hid (HA.out.below HR.out hb2); replace HB := hid (below_on HB.out hb2); clear hb2))
  have HZ := hid (AppZ.refl (Buf.nil w.heap.size w2))
  have hB1 : w.heap.size ≤ w2.heap.size := HB.out.size
  have HG : Hid (∀ W, Only (fun b => (Value.slice none 0 0).ownBlock = some b) w2 W → RBox W g1 r) := fun W ho => HA.out.only HR.out ho (by simp [Value.ownBlock])
  have HC := hid (show _ ∧ _ from ⟨HA.out.c0, HA.out.c1⟩)
  have l1 := tb_le (s := r.id) (by omega)
  have l2 := ib_le (n := r.time) (by omega)
  go_region_held3 (fun w' => w'.cell? ⟨g1, 0, none⟩ = some (.string r.id) ∧ w'.cell? ⟨g1, 1, none⟩ = some (i64 r.time)) (exact HC.out) (first
    | (go_at_call 38; (first | refine (HZ.out.text (by omega) (by simp) hB1 _ (below_drewN _ _)).mono ?_ | refine (HZ.out.text (by omega) (by simp) hB1 _ (Below.refl _ _)).mono ?_); rintro e w3 ⟨v3, rfl, hz⟩; replace HZ := hid hz; replace HC := hid (show _ ∧ _ from ⟨(HG.out _ hz.only).c0, (HG.out _ hz.only).c1⟩); clear hz)
    | (go_at_call 37; (first | refine (HZ.out.num q2 (by omega) (by simp only [List.nil_append]; omega) hB1 _ (below_drewN _ _)).mono ?_ | refine (HZ.out.num q2 (by omega) (by simp only [List.nil_append]; omega) hB1 _ (Below.refl _ _)).mono ?_); rintro e w4 ⟨v4, rfl, hz⟩; replace HZ := hid hz; replace HC := hid (show _ ∧ _ from ⟨(HG.out _ hz.only).c0, (HG.out _ hz.only).c1⟩); clear hz))
  have c2 := (HG.out _ HZ.out.only).c2
  rw [hm] at c2
  obtain ⟨v5, w5, hrun, hz5⟩ := HZ.out.pushA 1 (by simp only [List.length_append, List.length_nil]; omega) hB1 w4 (Below.refl _ _) w4.heap.size rfl
  have HRUN := hid hrun
  clear hrun HC
  go_wp2_with (first
    | (at_builtin; refine wpList_append_run _ _ 22 22 rfl rfl _ _ _ rfl rfl HRUN.out ?_)
    | (go_at_call 36; refine (clip_any w.heap.size _ _ _ hz5.buf).mono ?_; rintro e w6 ⟨⟨v6, rfl, ho⟩, hw6⟩; have hw7 := hw6.symm; subst hw7))
  go_ret2
  refine ⟨v6, rfl, ?_, below_tr HB.out (hz5.only.below hB1 (by simp [Value.ownBlock]))⟩
  rw [rcB_mark hm]; simpa using ho
#print axioms bytes_mark
set_option maxRecDepth 100000 in
set_option maxHeartbeats 2000000 in
theorem bytes_vers (r : Rv) (hr : r.ok) (ps : Ps) (w : World) (hp : PL w r.pv ps) (h : okRc (r.rc ps) = true) (hm : r.mark = false) : Calls Try.prog 24 #[.agg r.cs] w (OutE w (rcB (r.rc ps)) 0) := by
  have HR := hid hr
  have HP := hid hp
  have H := hid h
  obtain ⟨q1, q2, q3⟩ := okRc_id h
  have hvo : versOk r ps = true := by rw [okRc_vers r ps hm hr.sl] at h; simp only [Bool.and_eq_true] at h; exact h.2
  have HV := hid hvo
  have HSZ := hid hr.size
  clear hr hp h hvo
  go_enter Try.func24, Try.ntmps24
  go_wp2_with (first
    | ((with_reducible refine wpList_boxR rfl _ rfl r.cs ?_ ?_); exact rfl; intro w1 g1 hc1 hb1 hg1; have HA := hid (RBox.mk' HR.out hc1); have HB := hid hb1; have HP1 := hid (HP.out.below hb1); clear hc1 hb1)
    | ((with_reducible refine wpList_load_at 45 _ rfl ?_ g1 0 ?_ r.cs (.struct (Try.prog.fieldsOf 45)) ?_ underRec rfl ?_ ?_); exact rfl; exact rfl; exact HA.out.whole; (rw [HR.out.size]; exact sizeR))
    | (go_at_call 23; refine (check_any r HR.out ps _ HP1.out).mono ?_; rintro e w2 ⟨rfl, hb2⟩; rw [H.out]; replace HA := hid (HA.out.below HR.out hb2); replace HB := hid (below_on HB.out hb2); clear hb2))
  have HZ := hid (AppZ.refl (Buf.nil w.heap.size w2))
  have hB1 : w.heap.size ≤ w2.heap.size := HB.out.size
  have HG : Hid (∀ W, Only (fun b => (Value.slice none 0 0).ownBlock = some b) w2 W → RBox W g1 r) := fun W ho => HA.out.only HR.out ho (by simp [Value.ownBlock])
  have HC := hid (show _ ∧ _ from ⟨HA.out.c0, HA.out.c1⟩)
  have l1 := tb_le (s := r.id) (by omega)
  have l2 := ib_le (n := r.time) (by omega)
  go_region_held3 (fun w' => w'.cell? ⟨g1, 0, none⟩ = some (.string r.id) ∧ w'.cell? ⟨g1, 1, none⟩ = some (i64 r.time)) (exact HC.out) (first
    | (go_at_call 38; (first | refine (HZ.out.text (by omega) (by simp) hB1 _ (below_drewN _ _)).mono ?_ | refine (HZ.out.text (by omega) (by simp) hB1 _ (Below.refl _ _)).mono ?_); rintro e w3 ⟨v3, rfl, hz⟩; replace HZ := hid hz; replace HC := hid (show _ ∧ _ from ⟨(HG.out _ hz.only).c0, (HG.out _ hz.only).c1⟩); clear hz)
    | (go_at_call 37; (first | refine (HZ.out.num q2 (by omega) (by simp only [List.nil_append]; omega) hB1 _ (below_drewN _ _)).mono ?_ | refine (HZ.out.num q2 (by omega) (by simp only [List.nil_append]; omega) hB1 _ (Below.refl _ _)).mono ?_); rintro e w4 ⟨v4, rfl, hz⟩; replace HZ := hid hz; replace HC := hid (show _ ∧ _ from ⟨(HG.out _ hz.only).c0, (HG.out _ hz.only).c1⟩); clear hz))
  have c2 := (HG.out _ HZ.out.only).c2
  rw [hm] at c2
  clear HC
  go_wp2
  clear c2
  have HAF : Hid (∀ W, Below w4.heap.size w4 W → (Instr.loadAt 45 (.pointer (some ⟨g1, 0, none⟩))).run Try.prog W = .ok (.agg r.cs) W) := fun W hW => run_loadR HR.out ((HG.out _ HZ.out.only).below HR.out hW)
  have HC := hid (HAF.out _ (Below.refl _ _))
  have HBB := hid (fun W (ho : Only (fun b => (Value.slice none 0 0).ownBlock = some b) w2 W) => below_tr HB.out (ho.below hB1 (by simp [Value.ownBlock])))
  refine wp_region_held_drew (S := fun w' => (Instr.loadAt 45 (.pointer (some ⟨g1, 0, none⟩))).run Try.prog w' = .ok (.agg r.cs) w') (by kernel_rfl) (HAF.out _ (below_drew _)) (fun hHeld => ?_)
  refine wpAnyH_take (i := 0) (v := v4) rfl (by kernel_rfl) (by kernel_rfl) (by kernel_rfl) (fun _ _ _ h => h) (Or.inl ⟨by rfl, by intro W hW; go_simp⟩) hHeld ?_
  refine wpAnyH_take (i := 3) (v := .agg r.cs) rfl (by kernel_rfl) (by kernel_rfl) (by kernel_rfl) (fun _ _ _ h => h) (Or.inl ⟨by rfl, fun W hW => exec_load rfl rfl hW⟩) hHeld ?_
  refine wpAnyH_ready (rs := [1]) (by kernel_rfl) (by simp) ?_
  refine AllReadyH.cons rfl (fun K hK => ?_) AllReadyH.nil
  go_simp
  refine hK.out _ _ (HAF.out _ (below_on (below_drew _) (below_al _ _))) (fun hHeld => ?_)
  clear hK K
  refine wpAnyH_ready (rs := [2]) (by kernel_rfl) (by simp) ?_
  refine AllReadyH.cons rfl (fun K hK => ?_) AllReadyH.nil
  refine step_append_ex (by rfl) (.tmp 23) (.tmp 24) 22 (by rfl) v4 (.slice (some ⟨w4.heap.size, 0, none⟩) 1 1) (by rfl) (by rfl) (HZ.out.pushA 0 (by simp only [List.length_append, List.length_nil]; omega) hB1 w4.drew (below_drew _) w4.heap.size rfl) ?_
  rintro v5 w5 hz
  replace HZ := hid hz
  clear hz
  refine hK.out _ _ (run_loadR HR.out (HG.out _ HZ.out.only)) (fun hHeld => ?_)
  clear hK K
  refine wpAnyH_ready (rs := [4]) (by kernel_rfl) (by simp) ?_
  refine AllReadyH.cons rfl (fun K hK => ?_) AllReadyH.nil
  go_simp
  refine (appVers w r HR.out ps HP.out HV.out v5 _ w5 (HBB.out _ HZ.out.only) HZ.out.buf (by simp only [List.length_append, List.length_nil, List.length_singleton]; omega)).mono ?_
  rintro e w6 ⟨v6, rfl, hz⟩
  replace HZ := hid (HZ.out.trans hz)
  clear hz
  go_wp2_with fail
  refine hK.out _ _ (run_loadR HR.out (HG.out _ HZ.out.only)) (fun hHeld => ?_)
  clear hK K
  refine wpAnyH_ready (rs := [5]) (by kernel_rfl) (by simp) ?_
  refine AllReadyH.cons rfl (fun K hK => ?_) AllReadyH.nil
  go_simp
  refine (clip_any w.heap.size _ _ _ HZ.out.buf).mono ?_
  rintro e w7 ⟨⟨v7, rfl, ho⟩, hw7⟩
  have hw8 := hw7.symm
  subst hw8
  go_wp2_with fail
  refine hK.out _ _ (run_loadR HR.out (HG.out _ HZ.out.only)) (fun hHeld => ?_)
  clear hK K
  refine wpAnyH_take (i := 6) (oi := ⟨some 2, .assign (.tmp 28), 22, _, _, none⟩) (v := v7) rfl (by kernel_rfl) (by kernel_rfl) (by kernel_rfl) (fun _ _ _ h => h) (Or.inl ⟨by rfl, by intro W hW; go_simp⟩) hHeld ?_
  refine wpAnyH_take (i := 7) (oi := ⟨some 3, .assign (.const (.int .i64 0)), 23, _, _, none⟩) (v := i64 0) rfl (by kernel_rfl) (by kernel_rfl) (by kernel_rfl) (fun _ _ _ h => h) (Or.inl ⟨by rfl, by intro W hW; go_simp⟩) hHeld ?_
  refine wpAnyH_done (by kernel_rfl) ?_ _
  simp only [Act.put, List.setIfInBounds_toArray, List.set_cons_zero, List.set_cons_succ]
  go_wp2
  go_ret2
  refine ⟨v7, rfl, ?_, HBB.out _ HZ.out.only⟩
  rw [rcB_vers hm]; simpa using ho
theorem bytes_ok (r : Rv) (hr : r.ok) (ps : Ps) (w : World) (hp : PL w r.pv ps) (h : okRc (r.rc ps) = true) : Calls Try.prog 24 #[.agg r.cs] w (OutE w (rcB (r.rc ps)) 0) := by
  cases hm : r.mark
  · exact bytes_vers r hr ps w hp h hm
  · exact bytes_mark r hr ps w hp h hm
#print axioms bytes_ok
end Go.Proofs.Ytepkpkbgmchioaa
