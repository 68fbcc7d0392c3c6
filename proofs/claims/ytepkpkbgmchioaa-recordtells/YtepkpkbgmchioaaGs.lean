/- Texts laid into one: the remark ahead of each part says what is proved there. -/
import Derived.Test.YtepkpkbgmchioaaGq
/- RecordTells: its walk, of a record that may not be. -/
namespace Go.Proofs.Ytepkpkbgmchioaa
open Go Go.RowKit

set_option maxRecDepth 100000 in
set_option maxHeartbeats 4000000 in
theorem tells_bad (ra rb : Rv) (ka : ra.ok) (kb : rb.ok) (ps qs : Ps) (b : Option Addr) (cap : Nat) (bs : List Nat) (w : World) (pla : PL w ra.pv ps) (na : ∀ n c, ra.pv = .slice none n c → c = 0) (plb : PL w rb.pv qs) (bA : bigR ra ps.length = false) (bB : bigR rb qs.length = false) (hl : bs.length ≤ 10000) (h : BL w b bs) (hcp : bs.length ≤ cap) (h8 : ∀ x ∈ bs, x < 256) (oA : okRc (ra.rc ps) = false) : Calls Try.prog 4 #[.agg ra.cs, .agg rb.cs, .slice b bs.length cap] w fun e w' => e = .returned (.bool true) ∧ Below w.heap.size w w' := by
  have hl' : ¬ 10000 < (bs.length : Int) := by omega
  have HKA := hid ka
  have HKB := hid kb
  have HLa : Hid (∀ W, Calls Try.prog 21 #[.agg ra.cs] W fun e w' => e = .returned (.bool false) ∧ Below W.heap.size W w') := hid (fun W => by obtain ⟨p, c, e, _⟩ := pla; have := large_any ra ka.sl p ps.length c e W; rw [bA] at this; exact this)
  have HLb : Hid (∀ W, Calls Try.prog 21 #[.agg rb.cs] W fun e w' => e = .returned (.bool false) ∧ Below W.heap.size W w') := hid (fun W => by obtain ⟨p, c, e, _⟩ := plb; have := large_any rb kb.sl p qs.length c e W; rw [bB] at this; exact this)
  have T1 : Hid True := hid trivial
  have T2 : Hid True := hid trivial
  have hpsl : ps.length ≤ 100000 := by obtain ⟨_, _, _, _, h, _⟩ := pla; exact h
  have HCP : Hid (∀ W, Below w.heap.size w W → Calls Try.prog 22 #[.agg ra.cs] W (CopN W ra ps)) := hid (fun W hb => by
    obtain ⟨p, c, e, q⟩ := pla
    exact rcopyN_any ra ka p c ps W e (PL.below ⟨p, c, e, q⟩ hb) (fun hn => na _ _ (by rw [e, hn])) hpsl)
  have HPA := hid pla
  have HPB := hid plb
  have HBL := hid h
  have H8 := hid h8
  have HCAP := hid hcp
  have HOK : Hid ((if okRc (ra.rc ps) = true then (0 : Int) else 2) = 2) := hid (by rw [oA]; rfl)
  have HOKA := hid oA
  have hb70 : bs.length ≤ 70000 := by omega
  obtain ⟨Z, hZ⟩ : ∃ Z, zR = Z := ⟨_, rfl⟩
  have zok : Z.ok := hZ ▸ zR_ok
  have zone : Z.pv.oneCell' = true := hZ ▸ rfl
  have HZZ := hid hZ
  clear ka kb pla plb na bA bB h h8 hcp oA hZ
  go_enter Try.func4, Try.ntmps4
  go_upto_region 4 with (first
    | (clear T1; (with_reducible refine wpList_boxR rfl _ rfl ra.cs ?_ ?_); exact rfl; intro w1 ga hc1 hb1 hg1; have HC1 := hid hc1; have HB1 := hid hb1; clear hc1 hb1)
    | (clear T2; (with_reducible refine wpList_boxR rfl _ rfl rb.cs ?_ ?_); exact rfl; intro w2 gb hc2 hb2 hg2; have HC2 : Hid (Below w.heap.size w w2 ∧ CAt w2 ga ra.cs 45 ∧ CAt w2 gb rb.cs 45) := hid ⟨below_on HB1.out hb2, HC1.out.below hb2, hc2⟩; clear hc2 hb2 HC1 HB1)
    | ((with_reducible refine wpList_load_at 45 _ rfl ?_ ga 0 ?_ ra.cs (.struct (Try.prog.fieldsOf 45)) ?_ underRec rfl ?_ ?_); exact rfl; exact rfl; exact HC2.out.2.1.whole; (rw [Rv.size_of HKA.out.sl]; exact sizeR))
    | ((with_reducible refine wpList_load_at 45 _ rfl ?_ gb 0 ?_ rb.cs (.struct (Try.prog.fieldsOf 45)) ?_ underRec rfl ?_ ?_); exact rfl; exact rfl; exact HC2.out.2.2.whole; (rw [Rv.size_of HKB.out.sl]; exact sizeR))
    | (go_at_call 21; (with_reducible refine (HLa.out _).mono ?_); rintro e w4 ⟨rfl, hb4⟩; replace HC2 := hid (show _ ∧ _ ∧ _ from ⟨below_on HC2.out.1 hb4, HC2.out.2.1.below hb4, HC2.out.2.2.below hb4⟩); clear hb4 HLa)
    | (go_at_call 21; (with_reducible refine (HLb.out _).mono ?_); rintro e w5 ⟨rfl, hb5⟩; replace HC2 := hid (show _ ∧ _ ∧ _ from ⟨below_on HC2.out.1 hb5, HC2.out.2.1.below hb5, HC2.out.2.2.below hb5⟩); clear hb5 HLb)
    | (go_at_call 22; (with_reducible refine (HCP.out _ HC2.out.1).mono ?_); rintro e w7 ⟨pi, ci, rfl, hpl7, hn7, hb7⟩; have HPL7 := hid hpl7; have HN7 := hid hn7; replace HC2 := hid (show _ ∧ _ ∧ _ from ⟨below_on HC2.out.1 hb7, HC2.out.2.1.below hb7, HC2.out.2.2.below hb7⟩); obtain ⟨RI, hRI⟩ : ∃ RI : Rv, RI = { ra with pv := .slice pi ps.length ci } := ⟨_, rfl⟩; rw [← hRI]; have HRIV := hid hRI; have HKI : Hid RI.ok := hid (by rw [hRI]; exact ⟨HKA.out.sl, HKA.out.s8, HKA.out.i, HKA.out.e, HKA.out.d, HKA.out.u⟩); have hone : RI.pv.oneCell' = true := (by rw [hRI]; rfl); clear hpl7 hn7 hb7 hRI HCP)
    | (go_at_call 14; (with_reducible refine (lentB_any b cap bs _ hb70 (HBL.out.below HC2.out.1)).mono ?_); rintro e w8 ⟨rfl, hle, hb8⟩; have HLE := hid hle; have HPL8 := hid (hpl_on HPL7.out hb8); replace HC2 := hid (show _ ∧ _ ∧ _ from ⟨below_on HC2.out.1 hb8, HC2.out.2.1.below hb8, HC2.out.2.2.below hb8⟩); obtain ⟨gl, hgl⟩ : ∃ gl, gl = w7.heap.size := ⟨_, rfl⟩; rw [← hgl] at HLE ⊢; clear hle hb8 hgl HPL7)
    | ((with_reducible refine wpList_allocR rfl rfl ?_); intro w9 gi hz9 hb9 hg9; have HZ9 := hid hz9; have HB9 := hid hb9; clear hz9 hb9)
    | ((with_reducible refine wpList_storeR rfl rfl _ _ rfl gi ?_ (r := RI) ?_ zR_ok HKI.out hone HZ9.out ?_); exact rfl; exact rfl; intro w10 h10 o10; have hbx := below_tr HB9.out (o10.below HB9.out.size (fun i e => by omega)); have HT : Hid (Tl w ra rb RI ps qs ga gb gi gl b bs w10) := hid ⟨below_on HC2.out.1 hbx, HC2.out.2.1.below hbx, HC2.out.2.2.below hbx, h10.at_, HPA.out.below (below_on HC2.out.1 hbx), HPB.out.below (below_on HC2.out.1 hbx), (by rw [HRIV.out]; exact (hpl_on HPL8.out hbx).1), HLE.out.below hbx, HBL.out.below (below_on HC2.out.1 hbx)⟩; have HRI : Hid (RI.rc ps = ra.rc ps) := hid (by rw [HRIV.out]; rfl); clear h10 o10 hbx HZ9 HB9 HLE HPL8 HC2))
  go_upto_region 6 with (first
    | ((with_reducible refine wpList_load_at 45 _ rfl ?_ gi 0 ?_ RI.cs (.struct (Try.prog.fieldsOf 45)) ?_ underRec rfl ?_ ?_); exact rfl; exact rfl; exact HT.out.ci.whole; (rw [Rv.size_of HKI.out.sl]; exact sizeR))
    | (go_at_call 23; (with_reducible refine (check_any RI HKI.out ps _ HT.out.pi).mono ?_); rintro e w11 ⟨rfl, hb11⟩; rw [HRI.out, HOK.out]; replace HT := hid (HT.out.on hb11); clear hb11)
    | (go_at_call 24; (with_reducible refine (bytes_bad RI HKI.out ps _ HT.out.pi (by rw [HRI.out]; exact HOKA.out)).mono ?_); rintro e W6 ⟨rfl, hb6⟩; replace HT := hid (HT.out.on hb6); clear hb6))
  have HSF : Hid (∀ W, Below W6.heap.size W6 W → (fun W => (Instr.loadAt 45 (.pointer (some ⟨ga, 0, none⟩))).run Try.prog W = .ok (.agg ra.cs) W ∧ (Instr.loadAt 45 (.pointer (some ⟨gb, 0, none⟩))).run Try.prog W = .ok (.agg rb.cs) W ∧ (Instr.loadAt 45 (.pointer (some ⟨gi, 0, none⟩))).run Try.prog W = .ok (.agg RI.cs) W) W) := hid (fun W hW => ⟨run_loadR HKA.out (RBox.mk' HKA.out (HT.out.ca.below hW)), run_loadR HKB.out (RBox.mk' HKB.out (HT.out.cb.below hW)), run_loadR HKI.out (RBox.mk' HKI.out (HT.out.ci.below hW))⟩)
  refine wp_region_held_drew (S := fun W => (Instr.loadAt 45 (.pointer (some ⟨ga, 0, none⟩))).run Try.prog W = .ok (.agg ra.cs) W ∧ (Instr.loadAt 45 (.pointer (some ⟨gb, 0, none⟩))).run Try.prog W = .ok (.agg rb.cs) W ∧ (Instr.loadAt 45 (.pointer (some ⟨gi, 0, none⟩))).run Try.prog W = .ok (.agg RI.cs) W) (by kernel_rfl) (HSF.out _ (below_drew _)) (fun hHeld => ?_)
  have HD := hid (below_drew W6)
  refine wpAnyH_take (i := 0) (oi := ⟨some 42, .move (.tmp 9), _, _, _, none⟩) (v := i64 2) rfl (by kernel_rfl) (by kernel_rfl) (by kernel_rfl) (fun _ _ _ h => h) (Or.inl ⟨by kernel_rfl, by intro W hW; go_simp⟩) hHeld ?_
  refine wpAnyH_take (i := 1) (oi := ⟨some 43, .load 45 (.tmp 3), _, _, _, none⟩) (v := .agg ra.cs) rfl (by kernel_rfl) (by kernel_rfl) (by kernel_rfl) (fun _ _ _ h => h) (Or.inl ⟨by kernel_rfl, fun W hW => exec_load rfl (by kernel_rfl) hW.1⟩) hHeld ?_
  refine wpAnyH_ready (rs := [2]) (by kernel_rfl) (by simp) ?_
  refine AllReadyH.cons rfl (fun K hK => ?_) AllReadyH.nil
  go_simp
  refine (rcheck_any ra HKA.out ps _ (HT.out.pa.below HD.out)).mono ?_
  rintro e x2 ⟨rfl, hb⟩
  rw [HOK.out]
  replace HD := hid (below_on HD.out hb)
  clear hb
  go_wp2_with fail
  refine hK.out _ _ (HSF.out _ HD.out) (fun hHeld => ?_)
  clear hK K
  refine wpAnyH_take (i := 3) (oi := ⟨some 45, .binOp .neq 23 (.tmp 42) (.tmp 44) 23, _, _, _, none⟩) (v := .bool false) rfl (by kernel_rfl) (by kernel_rfl) (by kernel_rfl) (fun _ _ _ h => h) (Or.inl ⟨by kernel_rfl, by intro W hW; go_simp⟩) hHeld ?_
  refine wpAnyH_take (i := 4) (oi := ⟨some 46, .move (.tmp 45), _, _, _, none⟩) (v := .bool false) rfl (by kernel_rfl) (by kernel_rfl) (by kernel_rfl) (fun _ _ _ h => h) (Or.inl ⟨by kernel_rfl, by intro W hW; go_simp⟩) hHeld ?_
  refine wpAnyH_take (i := 5) (oi := ⟨some 47, .move (.tmp 11), _, _, _, some (4, false)⟩) (v := i64 2) rfl (by kernel_rfl) (by kernel_rfl) (by kernel_rfl) (fun _ _ _ h => h) (Or.inl ⟨by kernel_rfl, by intro W hW; go_simp⟩) hHeld ?_
  refine wpAnyH_take (i := 6) (oi := ⟨some 48, .move (.tmp 9), _, _, _, some (4, false)⟩) (v := i64 2) rfl (by kernel_rfl) (by kernel_rfl) (by kernel_rfl) (fun _ _ _ h => h) (Or.inl ⟨by kernel_rfl, by intro W hW; go_simp⟩) hHeld ?_
  refine wpAnyH_take (i := 7) (oi := ⟨some 49, .binOp .neq 23 (.tmp 47) (.tmp 48) 23, _, _, _, some (4, false)⟩) (v := .bool false) rfl (by kernel_rfl) (by kernel_rfl) (by kernel_rfl) (fun _ _ _ h => h) (Or.inl ⟨by kernel_rfl, by intro W hW; go_simp⟩) hHeld ?_
  refine wpAnyH_take (i := 8) (oi := ⟨some 50, .pick (.tmp 46) (.const (.bool true)) (.tmp 49), _, _, _, none⟩) (v := .bool false) rfl (by kernel_rfl) (by kernel_rfl) (by kernel_rfl) (fun _ _ _ h => h) (Or.inl ⟨by kernel_rfl, by intro W hW; go_simp⟩) hHeld ?_
  refine wpAnyH_take (i := 9) (oi := ⟨some 51, .move (.tmp 50), _, _, _, none⟩) (v := .bool false) rfl (by kernel_rfl) (by kernel_rfl) (by kernel_rfl) (fun _ _ _ h => h) (Or.inl ⟨by kernel_rfl, by intro W hW; go_simp⟩) hHeld ?_
  refine wpAnyH_take (i := 10) (oi := ⟨some 52, .load 45 (.tmp 7), _, _, _, some (9, false)⟩) (v := .agg RI.cs) rfl (by kernel_rfl) (by kernel_rfl) (by kernel_rfl) (fun _ _ _ h => h) (Or.inl ⟨by kernel_rfl, fun W hW => exec_load rfl (by kernel_rfl) hW.2.2⟩) hHeld ?_
  refine wpAnyH_take (i := 11) (oi := ⟨some 53, .load 45 (.tmp 4), _, _, _, some (9, false)⟩) (v := .agg rb.cs) rfl (by kernel_rfl) (by kernel_rfl) (by kernel_rfl) (fun _ _ _ h => h) (Or.inl ⟨by kernel_rfl, fun W hW => exec_load rfl (by kernel_rfl) hW.2.1⟩) hHeld ?_
  refine wpAnyH_take (i := 13) (oi := ⟨some 55, .load 45 (.tmp 3), _, _, _, some (9, false)⟩) (v := .agg ra.cs) rfl (by kernel_rfl) (by kernel_rfl) (by kernel_rfl) (fun _ _ _ h => h) (Or.inl ⟨by kernel_rfl, fun W hW => exec_load rfl (by kernel_rfl) hW.1⟩) hHeld ?_
  refine wpAnyH_take (i := 14) (oi := ⟨some 56, .load 45 (.tmp 4), _, _, _, some (9, false)⟩) (v := .agg rb.cs) rfl (by kernel_rfl) (by kernel_rfl) (by kernel_rfl) (fun _ _ _ h => h) (Or.inl ⟨by kernel_rfl, fun W hW => exec_load rfl (by kernel_rfl) hW.2.1⟩) hHeld ?_
  refine wpAnyH_ready (rs := [12]) (by kernel_rfl) (by simp) ?_
  refine AllReadyH.cons rfl (fun K hK => ?_) AllReadyH.nil
  go_simp
  refine (same_any RI rb HKI.out HKB.out ps qs _ (HT.out.pi.below HD.out) (HT.out.pb.below HD.out)).mono ?_
  rintro e x12 ⟨rfl, hb⟩
  rw [HRI.out]
  generalize hDD : decide (ra.rc ps = rb.rc qs) = DD
  have HDD := hid hDD
  replace HD := hid (below_on HD.out hb)
  clear hb hDD
  go_wp2_with fail
  refine hK.out _ _ (HSF.out _ HD.out) (fun hHeld => ?_)
  clear hK K
  refine wpAnyH_ready (rs := [15]) (by kernel_rfl) (by simp) ?_
  refine AllReadyH.cons rfl (fun K hK => ?_) AllReadyH.nil
  go_simp
  refine (rsame_any ra rb HKA.out HKB.out ps qs _ (HT.out.pa.below HD.out) (HT.out.pb.below HD.out)).mono ?_
  rintro e x15 ⟨rfl, hb⟩
  rw [HDD.out]
  replace HD := hid (below_on HD.out hb)
  clear hb
  go_wp2_with fail
  refine hK.out _ _ (HSF.out _ HD.out) (fun hHeld => ?_)
  clear hK K
  refine wpAnyH_take (i := 16) (oi := ⟨some 58, .binOp .neq 4 (.tmp 54) (.tmp 57) 4, _, _, _, some (9, false)⟩) (v := .bool false) rfl (by kernel_rfl) (by kernel_rfl) (by kernel_rfl) (fun _ _ _ h => h) (Or.inl ⟨by kernel_rfl, by intro W hW; cases DD <;> go_simp⟩) hHeld ?_
  refine wpAnyH_take (i := 17) (oi := ⟨some 59, .pick (.tmp 51) (.const (.bool true)) (.tmp 58), _, _, _, none⟩) (v := .bool false) rfl (by kernel_rfl) (by kernel_rfl) (by kernel_rfl) (fun _ _ _ h => h) (Or.inl ⟨by kernel_rfl, by intro W hW; go_simp⟩) hHeld ?_
  refine wpAnyH_take (i := 18) (oi := ⟨some 60, .move (.tmp 59), _, _, _, none⟩) (v := .bool false) rfl (by kernel_rfl) (by kernel_rfl) (by kernel_rfl) (fun _ _ _ h => h) (Or.inl ⟨by kernel_rfl, by intro W hW; go_simp⟩) hHeld ?_
  refine wpAnyH_take (i := 19) (oi := ⟨some 61, .move (.tmp 9), _, _, _, some (18, false)⟩) (v := i64 2) rfl (by kernel_rfl) (by kernel_rfl) (by kernel_rfl) (fun _ _ _ h => h) (Or.inl ⟨by kernel_rfl, by intro W hW; go_simp⟩) hHeld ?_
  refine wpAnyH_take (i := 20) (oi := ⟨some 62, .binOp .eql 23 (.tmp 61) (.const (.int .i64 0)) 23, _, _, _, some (18, false)⟩) (v := .bool false) rfl (by kernel_rfl) (by kernel_rfl) (by kernel_rfl) (fun _ _ _ h => h) (Or.inl ⟨by kernel_rfl, by intro W hW; go_simp⟩) hHeld ?_
  refine wpAnyH_take (i := 21) (oi := ⟨some 63, .move (.tmp 62), _, _, _, some (18, false)⟩) (v := .bool false) rfl (by kernel_rfl) (by kernel_rfl) (by kernel_rfl) (fun _ _ _ h => h) (Or.inl ⟨by kernel_rfl, by intro W hW; go_simp⟩) hHeld ?_
  refine wpAnyH_take (i := 22) (oi := ⟨some 64, .move (.tmp 10), _, _, _, some (21, true)⟩) (v := undef) rfl (by kernel_rfl) (by kernel_rfl) (by kernel_rfl) (fun _ _ _ h => h) (Or.inr ⟨by kernel_rfl, rfl⟩) hHeld ?_
  refine wpAnyH_take (i := 23) (oi := ⟨some 65, .load 45 (.tmp 3), _, _, _, some (21, true)⟩) (v := undef) rfl (by kernel_rfl) (by kernel_rfl) (by kernel_rfl) (fun _ _ _ h => h) (Or.inr ⟨by kernel_rfl, rfl⟩) hHeld ?_
  refine wpAnyH_take (i := 24) (oi := ⟨some 66, .call { callee := .value (.func 28), args := #[.tmp 65], argTypes := #[45] }, _, _, _, some (21, true)⟩) (v := undef) rfl (by kernel_rfl) (by kernel_rfl) (by kernel_rfl) (fun _ _ _ h => h) (Or.inr ⟨by kernel_rfl, rfl⟩) hHeld ?_
  refine wpAnyH_take (i := 25) (oi := ⟨some 67, .call { callee := .value (.func 11), args := #[.tmp 64, .tmp 66], argTypes := #[22, 22] }, _, _, _, some (21, true)⟩) (v := undef) rfl (by kernel_rfl) (by kernel_rfl) (by kernel_rfl) (fun _ _ _ h => h) (Or.inr ⟨by kernel_rfl, rfl⟩) hHeld ?_
  refine wpAnyH_take (i := 26) (oi := ⟨some 68, .unOp .not 4 (.tmp 67), _, _, _, some (21, true)⟩) (v := undef) rfl (by kernel_rfl) (by kernel_rfl) (by kernel_rfl) (fun _ _ _ h => h) (Or.inr ⟨by kernel_rfl, rfl⟩) hHeld ?_
  refine wpAnyH_take (i := 27) (oi := ⟨some 69, .pick (.tmp 63) (.tmp 68) (.const (.bool false)), _, _, _, some (18, false)⟩) (v := .bool false) rfl (by kernel_rfl) (by kernel_rfl) (by kernel_rfl) (fun _ _ _ h => h) (Or.inl ⟨by kernel_rfl, by intro W hW; go_simp⟩) hHeld ?_
  refine wpAnyH_take (i := 28) (oi := ⟨some 70, .pick (.tmp 60) (.const (.bool true)) (.tmp 69), _, _, _, none⟩) (v := .bool false) rfl (by kernel_rfl) (by kernel_rfl) (by kernel_rfl) (fun _ _ _ h => h) (Or.inl ⟨by kernel_rfl, by intro W hW; go_simp⟩) hHeld ?_
  refine wpAnyH_take (i := 29) (oi := ⟨some 71, .move (.tmp 70), _, _, _, none⟩) (v := .bool false) rfl (by kernel_rfl) (by kernel_rfl) (by kernel_rfl) (fun _ _ _ h => h) (Or.inl ⟨by kernel_rfl, by intro W hW; go_simp⟩) hHeld ?_
  refine wpAnyH_take (i := 30) (oi := ⟨some 72, .move (.tmp 9), _, _, _, some (29, false)⟩) (v := i64 2) rfl (by kernel_rfl) (by kernel_rfl) (by kernel_rfl) (fun _ _ _ h => h) (Or.inl ⟨by kernel_rfl, by intro W hW; go_simp⟩) hHeld ?_
  refine wpAnyH_take (i := 31) (oi := ⟨some 73, .binOp .neq 23 (.tmp 72) (.const (.int .i64 0)) 23, _, _, _, some (29, false)⟩) (v := .bool true) rfl (by kernel_rfl) (by kernel_rfl) (by kernel_rfl) (fun _ _ _ h => h) (Or.inl ⟨by kernel_rfl, by intro W hW; go_simp⟩) hHeld ?_
  refine wpAnyH_take (i := 32) (oi := ⟨some 74, .move (.tmp 73), _, _, _, some (29, false)⟩) (v := .bool true) rfl (by kernel_rfl) (by kernel_rfl) (by kernel_rfl) (fun _ _ _ h => h) (Or.inl ⟨by kernel_rfl, by intro W hW; go_simp⟩) hHeld ?_
  refine wpAnyH_take (i := 33) (oi := ⟨some 75, .move (.tmp 10), _, _, _, some (32, true)⟩) (v := .slice none 0 0) rfl (by kernel_rfl) (by kernel_rfl) (by kernel_rfl) (fun _ _ _ h => h) (Or.inl ⟨by kernel_rfl, by intro W hW; go_simp⟩) hHeld ?_
  refine wpAnyH_take (i := 34) (oi := ⟨some 76, .call { callee := .builtin .len, args := #[.tmp 75], argTypes := #[22] }, _, _, _, some (32, true)⟩) (v := i64 0) rfl (by kernel_rfl) (by kernel_rfl) (by kernel_rfl) (fun _ _ _ h => h) (Or.inl ⟨by kernel_rfl, by intro W hW; go_simp⟩) hHeld ?_
  refine wpAnyH_take (i := 35) (oi := ⟨some 77, .binOp .neq 3 (.tmp 76) (.const (.int .i64 0)) 3, _, _, _, some (32, true)⟩) (v := .bool false) rfl (by kernel_rfl) (by kernel_rfl) (by kernel_rfl) (fun _ _ _ h => h) (Or.inl ⟨by kernel_rfl, by intro W hW; go_simp⟩) hHeld ?_
  refine wpAnyH_take (i := 36) (oi := ⟨some 78, .pick (.tmp 74) (.tmp 77) (.const (.bool false)), _, _, _, some (29, false)⟩) (v := .bool false) rfl (by kernel_rfl) (by kernel_rfl) (by kernel_rfl) (fun _ _ _ h => h) (Or.inl ⟨by kernel_rfl, by intro W hW; go_simp⟩) hHeld ?_
  refine wpAnyH_take (i := 37) (oi := ⟨some 79, .pick (.tmp 71) (.const (.bool true)) (.tmp 78), _, _, _, none⟩) (v := .bool false) rfl (by kernel_rfl) (by kernel_rfl) (by kernel_rfl) (fun _ _ _ h => h) (Or.inl ⟨by kernel_rfl, by intro W hW; go_simp⟩) hHeld ?_
  refine wpAnyH_done (by kernel_rfl) ?_ _
  simp only [Act.put, List.setIfInBounds_toArray, List.set_cons_zero, List.set_cons_succ]
  replace HT := hid (HT.out.on HD.out)
  clear HSF HD hHeld
  have HCX : Hid (∀ W, PL W RI.pv ps → Calls Try.prog 29 #[.agg RI.cs] W (CopX W RI ps)) := hid (fun W hp => copyX_any RI HKI.out pi ci ps W (by rw [HRIV.out]) hp HN7.out hpsl)
  go_wp2_with (first
    | ((with_reducible refine wpList_load_at 45 _ rfl ?_ gi 0 ?_ RI.cs (.struct (Try.prog.fieldsOf 45)) ?_ underRec rfl ?_ ?_); exact rfl; exact rfl; exact HT.out.ci.whole; (rw [Rv.size_of HKI.out.sl]; exact sizeR))
    | (go_at_call 29; (with_reducible refine (HCX.out _ HT.out.pi).mono ?_); rintro e w20 ⟨v20, rfl, hpx, hb20⟩; have HPX := hid hpx; obtain ⟨⟨py, cy, hvy, hcy, _⟩, _⟩ := hpx.1; subst hvy; have HYE : Hid (YE w ra rb RI ps qs ga gb gi gl b bs (.slice py ps.length cy) w20) := hid ⟨_, HT.out, hb20, HPX.out⟩; replace HT := hid (HT.out.on hb20); obtain ⟨RY, hRY⟩ : ∃ RY : Rv, RY = { RI with pv := .slice py ps.length cy } := ⟨_, rfl⟩; rw [← hRY]; have HRYV := hid hRY; have HKY : Hid RY.ok := hid (by rw [hRY]; exact ⟨HKI.out.sl, HKI.out.s8, HKI.out.i, HKI.out.e, HKI.out.d, HKI.out.u⟩); have honeY : RY.pv.oneCell' = true := (by rw [hRY]; rfl); have HRY : Hid (RY.rc ps = ra.rc ps) := hid (by rw [hRY, ← HRI.out]; rfl); clear hpx hb20 hRY HPX HCX)
    | ((with_reducible refine wpList_allocR rfl rfl ?_); intro w21 g12 hz21 hb21 hg21; have HZ21 := hid hz21; have HB21 := hid hb21; clear hz21 hb21)
    | ((with_reducible refine wpList_storeR rfl rfl _ _ rfl g12 ?_ (r := RY) ?_ zR_ok HKY.out honeY HZ21.out ?_); exact rfl; exact rfl; intro w22 h22 o22; have hbx := below_tr HB21.out (o22.below HB21.out.size (fun i e => by omega)); have HYR := hid h22; replace HT := hid (HT.out.on hbx); have HYF : Hid (YF w ra rb RI ps qs ga gb gi gl b bs py g12 w22) := hid (HYE.out.made hbx (by omega)); replace HYE := hid (HYE.out.on hbx); clear h22 o22 hbx HZ21 HB21)
    | ((with_reducible refine wpList_load_at 45 _ rfl ?_ g12 0 ?_ RY.cs (.struct (Try.prog.fieldsOf 45)) ?_ underRec rfl ?_ ?_); exact rfl; exact rfl; exact HYR.out.at_.whole; (rw [Rv.size_of HKY.out.sl]; exact sizeR))
    | ((with_reducible refine wpList_load_at 45 _ rfl ?_ ga 0 ?_ ra.cs (.struct (Try.prog.fieldsOf 45)) ?_ underRec rfl ?_ ?_); exact rfl; exact rfl; exact HT.out.ca.whole; (rw [Rv.size_of HKA.out.sl]; exact sizeR))
    | (go_at_call 27; (with_reducible refine (rsame_any RY ra HKY.out HKA.out ps ps _ (by rw [HRYV.out]; exact HYE.out.pl) HT.out.pa).mono ?_); rintro e w23 ⟨rfl, hb23⟩; rw [show decide (RY.rc ps = ra.rc ps) = true from decide_eq_true HRY.out]; replace HYR := hid (HYR.out.below HKY.out hb23); replace HYF := hid (HYF.out.on hb23); replace HT := hid (HT.out.on hb23); clear hb23))
  have HYPV : Hid (RY.pv = .slice py ps.length cy) := hid (by rw [HRYV.out])
  have HYC := hid HYR.out.at_
  clear HYE HYR HT
  go_loopw [13] (fun iv wr => ∃ k : Nat, k ≤ ps.length ∧ iv = i64 k ∧ CAt wr g12 RY.cs 45 ∧ YF w ra rb RI ps qs ga gb gi gl b bs py g12 wr) (fun iv _ => (ps.length - intOf iv).toNat)
  case atStart => exact ⟨0, by omega, rfl, HYC.out, HYF.out⟩
  case round =>
    clear HYF HYC
    obtain ⟨k, hk, rfl, hyc, hyf⟩ := hrel
    have HYC := hid hyc
    have HYF := hid hyf
    have c40 := (RBox.mk' HKY.out hyc).c40
    rw [HYPV.out] at c40
    clear hyc hyf
    by_cases hlt : k < ps.length
    · have hlt' : (k : Int) < (ps.length : Int) := by omega
      have hwr : IntKind.i64.wrap ((k : Int) + 1) = ((k + 1 : Nat) : Int) := by rw [IntKind.wrap_i64]; omega
      obtain ⟨yb, yo, hpy, hth, hnx⟩ := HYF.out.at hlt
      subst hpy
      obtain ⟨y1, hy1⟩ := Option.isSome_iff_exists.1 (hth 0 (by omega)).1
      obtain ⟨y2, hy2⟩ := Option.isSome_iff_exists.1 (hth 1 (by omega)).1
      have hf1 := (hth 0 (by omega)).2
      have hf2 := (hth 1 (by omega)).2
      rw [Nat.add_zero] at hy1 hf1
      have HNX := hid hnx
      clear hth hnx
      go_wp2_with ((with_reducible refine wpList_build_want 53 _ rfl ?_ #[i64 0, i64 0] ?_ ?_); exact rfl; exact built_part)
      refine ⟨⟨k + 1, by omega, rfl, ?_, HNX.out.1⟩, by simp [intOf]; omega⟩
      exact HYC.out.keep HNX.out.2
    · have hlt' : ¬ (k : Int) < (ps.length : Int) := by omega
      have HT := hid HYF.out.tl
      clear HYF HYC HYPV
      have T3 : Hid True := hid trivial
      have T4 : Hid True := hid trivial
      have hb10 : bs.length ≤ 100000 := by omega
      have hb13 : bs.length ≤ bs.length + 3 := by omega
      cases hq : rdR bs with
      | none =>
        have HRB : Hid (∀ W, BL W (some ⟨gl, 0, none⟩) bs → Calls Try.prog 30 #[.slice (some ⟨gl, 0, none⟩) bs.length (bs.length + 3)] W fun e w' => e = .returned (.tuple #[.agg Z.cs, .slice none 0 0, i64 4]) ∧ Below W.heap.size W w') := hid (fun W h => by have := read_bad (some ⟨gl, 0, none⟩) (bs.length + 3) bs W h hb13 hb10 H8.out hq; rw [HZZ.out] at this; exact this)
        have HRR : Hid (∀ W, BL W b bs → Calls Try.prog 31 #[.slice b bs.length cap] W fun e w' => e = .returned (.tuple #[.agg Z.cs, .slice none 0 0, .bool false]) ∧ Below W.heap.size W w') := hid (fun W h => (rRead_any b cap bs W h HCAP.out hb10 H8.out).mono fun e w' hh => by rw [hq] at hh; obtain ⟨h1, h2⟩ := hh; rw [HZZ.out] at h2; exact ⟨h2, h1⟩)
        have HZPV : Hid (Z.pv = .slice none 0 0) := hid (HZZ.out ▸ rfl)
        have HL8 : Hid (∀ z ∈ ([] : List Nat), z < 256) := hid (by simp)
        have hLl : ([] : List Nat).length ≤ 1000000 := by simp
        obtain ⟨R9, hR9⟩ : ∃ R, R = Z := ⟨_, rfl⟩
        obtain ⟨R33, hR33⟩ : ∃ R, R = Z := ⟨_, rfl⟩
        obtain ⟨ps9, hps9⟩ : ∃ x : Ps, x = [] := ⟨_, rfl⟩
        obtain ⟨ps33, hps33⟩ : ∃ x : Ps, x = [] := ⟨_, rfl⟩
        have HK9 : Hid R9.ok := hid (hR9 ▸ zok)
        have HK33 : Hid R33.ok := hid (hR33 ▸ zok)
        have hone9 : R9.pv.oneCell' = true := hR9 ▸ zone
        have hone33 : R33.pv.oneCell' = true := hR33 ▸ zone
        have HP9n : Hid (∀ W, PL W R9.pv ps9) := hid (fun W => by rw [hR9, hps9, HZPV.out]; exact PL.nil W)
        have HP33n : Hid (∀ W, PL W R33.pv ps33) := hid (fun W => by rw [hR33, hps33, HZPV.out]; exact PL.nil W)
        have HRC9 : Hid (R9.rc ps9 = Z.rc []) := hid (by rw [hR9, hps9])
        have HRC33 : Hid (R33.rc ps33 = Z.rc []) := hid (by rw [hR33, hps33])
        rw [← hR9] at HRB
        rw [← hR33] at HRR
        clear hR9 hR33 hps9 hps33 hq
        go_wp2_with (first
          | (go_at_call 30; (with_reducible refine (HRB.out _ HT.out.le.bl).mono ?_); rintro e w30 ⟨rfl, hb30⟩; have HRE : Hid (RE w ra rb RI ps qs ga gb gi gl b bs (.slice none 0 0) [] w30) := hid ⟨_, HT.out, hb30, Or.inl ⟨rfl, rfl⟩⟩; replace HT := hid (HT.out.on hb30); have HP9 := hid (HP9n.out w30); clear hb30 HRB HP9n)
          | (clear T3; (with_reducible refine wpList_allocR rfl rfl ?_); intro w31 g14 hz31 hb31 hg31; have HZ31 := hid hz31; have HB31 := hid hb31; clear hz31 hb31)
          | ((with_reducible refine wpList_storeR rfl rfl _ _ rfl g14 ?_ (r := R9) ?_ zR_ok HK9.out hone9 HZ31.out ?_); exact rfl; exact rfl; intro w32 h32 o32; have hbx := below_tr HB31.out (o32.below HB31.out.size (fun i e => by omega)); have HR14 := hid h32; replace HT := hid (HT.out.on hbx); replace HRE := hid (HRE.out.on hbx); replace HP9 := hid (HP9.out.below hbx); clear h32 o32 hbx HZ31 HB31)
          | (go_at_call 31; (with_reducible refine (HRR.out _ HT.out.bl).mono ?_); rintro e w33 ⟨rfl, hb33⟩; replace HT := hid (HT.out.on hb33); replace HRE := hid (HRE.out.on hb33); replace HP9 := hid (HP9.out.below hb33); replace HR14 := hid (HR14.out.below HK9.out hb33); have HP33 := hid (HP33n.out w33); have HS33 := hid (SL.nil w33); clear hb33 HRR HP33n)
          | (clear T4; (with_reducible refine wpList_allocR rfl rfl ?_); intro w34 g17 hz34 hb34 hg34; have HZ34 := hid hz34; have HB34 := hid hb34; clear hz34 hb34)
          | ((with_reducible refine wpList_storeR rfl rfl _ _ rfl g17 ?_ (r := R33) ?_ zR_ok HK33.out hone33 HZ34.out ?_); exact rfl; exact rfl; intro w35 h35 o35; have hbx := below_tr HB34.out (o35.below HB34.out.size (fun i e => by omega)); have HR17 := hid h35; replace HT := hid (HT.out.on hbx); replace HRE := hid (HRE.out.on hbx); replace HP9 := hid (HP9.out.below hbx); replace HP33 := hid (HP33.out.below hbx); replace HS33 := hid (HS33.out.below hbx); replace HR14 := hid (HR14.out.below HK9.out hbx); clear h35 o35 hbx HZ34 HB34)
          | ((with_reducible refine wpList_load_at 45 _ rfl ?_ g14 0 ?_ R9.cs (.struct (Try.prog.fieldsOf 45)) ?_ underRec rfl ?_ ?_); exact rfl; exact rfl; exact HR14.out.at_.whole; (rw [Rv.size_of HK9.out.sl]; exact sizeR))
          | ((with_reducible refine wpList_load_at 45 _ rfl ?_ g17 0 ?_ R33.cs (.struct (Try.prog.fieldsOf 45)) ?_ underRec rfl ?_ ?_); exact rfl; exact rfl; exact HR17.out.at_.whole; (rw [Rv.size_of HK33.out.sl]; exact sizeR))
          | (go_at_call 27; (with_reducible refine (rsame_any R9 R33 HK9.out HK33.out ps9 ps33 _ HP9.out HP33.out).mono ?_); rintro e w36 ⟨rfl, hb36⟩; rw [show decide (R9.rc ps9 = R33.rc ps33) = true from decide_eq_true (HRC9.out.trans HRC33.out.symm)]; replace HT := hid (HT.out.on hb36); replace HRE := hid (HRE.out.on hb36); replace HS33 := hid (HS33.out.below hb36); clear hb36 HP9 HP33 HR14 HR17 HRC9)
          | (go_at_call 11; (with_reducible refine (sameB_true (x := []) HRE.out.sl HS33.out HL8.out).mono ?_); rintro e w37 ⟨rfl, hw37⟩; have hw38 := hw37.symm; subst hw38; clear hw37)
          | (go_at_call 19; (with_reducible refine (HRE.out.over HL8.out hLl).mono ?_); rintro e w39 ⟨rfl, ht39⟩; replace HT := hid ht39; clear ht39 HRE)
          | ((with_reducible refine wpList_load_at 45 _ rfl ?_ gi 0 ?_ RI.cs (.struct (Try.prog.fieldsOf 45)) ?_ underRec rfl ?_ ?_); exact rfl; exact rfl; exact HT.out.ci.whole; (rw [Rv.size_of HKI.out.sl]; exact sizeR))
          | ((with_reducible refine wpList_load_at 45 _ rfl ?_ ga 0 ?_ ra.cs (.struct (Try.prog.fieldsOf 45)) ?_ underRec rfl ?_ ?_); exact rfl; exact rfl; exact HT.out.ca.whole; (rw [Rv.size_of HKA.out.sl]; exact sizeR))
          | (go_at_call 27; (with_reducible refine (rsame_any RI ra HKI.out HKA.out ps ps _ HT.out.pi HT.out.pa).mono ?_); rintro e w40 ⟨rfl, hb40⟩; rw [show decide (RI.rc ps = ra.rc ps) = true from decide_eq_true HRI.out]; replace HT := hid (HT.out.on hb40); clear hb40)
          | (go_at_call 20; (with_reducible refine (keptB_any gl b cap bs _ hb70 HT.out.le HT.out.bl).mono ?_); rintro e w41 ⟨rfl, hb41⟩; replace HT := hid (HT.out.on hb41); clear hb41)
          | (go_at_call 32; (with_reducible refine (awake_any _).mono ?_); rintro e w42 ⟨rfl, hb42⟩; replace HT := hid (HT.out.on hb42); clear hb42))
        go_ret
        exact ⟨rfl, HT.out.below⟩
      | some q =>
        obtain ⟨rc, L⟩ := q
        have HL8 : Hid (∀ z ∈ L, z < 256) := hid (fun z hz => H8.out z (by rw [(rdR_some H8.out hq).2]; exact List.mem_append_right _ hz))
        have hLl : L.length ≤ 1000000 := by have := congrArg List.length (rdR_some H8.out hq).2; rw [List.length_append] at this; omega
        have HRB := hid (fun W h => read_ok (some ⟨gl, 0, none⟩) (bs.length + 3) bs W h hb13 hb10 H8.out hq)
        have HRR : Hid (∀ W, BL W b bs → Calls Try.prog 31 #[.slice b bs.length cap] W (ReM W (some (rc, L)))) := hid (fun W h => by have := rRead_any b cap bs W h HCAP.out hb10 H8.out; rw [hq] at this; exact this)
        clear hq
        go_wp2_with (first
          | (go_at_call 30; (with_reducible refine (HRB.out _ HT.out.le.bl).mono ?_); rintro e w30 ⟨R9, ps9, out9, rfl, hok9, hrc9, hpl9, hout9, hb30⟩; have HRE : Hid (RE w ra rb RI ps qs ga gb gi gl b bs out9 L w30) := hid ⟨_, HT.out, hb30, hout9⟩; replace HT := hid (HT.out.on hb30); have HP9 := hid hpl9.1; have HRC9 := hid hrc9; have HK9 := hid hok9; have hone9 : R9.pv.oneCell' = true := (by obtain ⟨_, _, _, e⟩ := hpl9.form; rw [e]; rfl); clear hb30 HRB hok9 hrc9 hpl9 hout9)
          | (clear T3; (with_reducible refine wpList_allocR rfl rfl ?_); intro w31 g14 hz31 hb31 hg31; have HZ31 := hid hz31; have HB31 := hid hb31; clear hz31 hb31)
          | ((with_reducible refine wpList_storeR rfl rfl _ _ rfl g14 ?_ (r := R9) ?_ zR_ok HK9.out hone9 HZ31.out ?_); exact rfl; exact rfl; intro w32 h32 o32; have hbx := below_tr HB31.out (o32.below HB31.out.size (fun i e => by omega)); have HR14 := hid h32; replace HT := hid (HT.out.on hbx); replace HRE := hid (HRE.out.on hbx); replace HP9 := hid (HP9.out.below hbx); clear h32 o32 hbx HZ31 HB31)
          | (go_at_call 31; (with_reducible refine (HRR.out _ HT.out.bl).mono ?_); rintro e w33 ⟨hb33, R33, ps33, v33, rfl, hok33, hrc33, hpl33, hsl33⟩; replace HT := hid (HT.out.on hb33); replace HRE := hid (HRE.out.on hb33); replace HP9 := hid (HP9.out.below hb33); replace HR14 := hid (HR14.out.below HK9.out hb33); have HP33 := hid hpl33; have HS33 := hid hsl33; have HRC33 := hid hrc33; have HK33 := hid hok33; have hone33 : R33.pv.oneCell' = true := (by obtain ⟨_, _, e, _⟩ := hpl33; rw [e]; rfl); clear hb33 HRR hok33 hrc33 hpl33 hsl33)
          | (clear T4; (with_reducible refine wpList_allocR rfl rfl ?_); intro w34 g17 hz34 hb34 hg34; have HZ34 := hid hz34; have HB34 := hid hb34; clear hz34 hb34)
          | ((with_reducible refine wpList_storeR rfl rfl _ _ rfl g17 ?_ (r := R33) ?_ zR_ok HK33.out hone33 HZ34.out ?_); exact rfl; exact rfl; intro w35 h35 o35; have hbx := below_tr HB34.out (o35.below HB34.out.size (fun i e => by omega)); have HR17 := hid h35; replace HT := hid (HT.out.on hbx); replace HRE := hid (HRE.out.on hbx); replace HP9 := hid (HP9.out.below hbx); replace HP33 := hid (HP33.out.below hbx); replace HS33 := hid (HS33.out.below hbx); replace HR14 := hid (HR14.out.below HK9.out hbx); clear h35 o35 hbx HZ34 HB34)
          | ((with_reducible refine wpList_load_at 45 _ rfl ?_ g14 0 ?_ R9.cs (.struct (Try.prog.fieldsOf 45)) ?_ underRec rfl ?_ ?_); exact rfl; exact rfl; exact HR14.out.at_.whole; (rw [Rv.size_of HK9.out.sl]; exact sizeR))
          | ((with_reducible refine wpList_load_at 45 _ rfl ?_ g17 0 ?_ R33.cs (.struct (Try.prog.fieldsOf 45)) ?_ underRec rfl ?_ ?_); exact rfl; exact rfl; exact HR17.out.at_.whole; (rw [Rv.size_of HK33.out.sl]; exact sizeR))
          | (go_at_call 27; (with_reducible refine (rsame_any R9 R33 HK9.out HK33.out ps9 ps33 _ HP9.out HP33.out).mono ?_); rintro e w36 ⟨rfl, hb36⟩; rw [show decide (R9.rc ps9 = R33.rc ps33) = true from decide_eq_true (HRC9.out.trans HRC33.out.symm)]; replace HT := hid (HT.out.on hb36); replace HRE := hid (HRE.out.on hb36); replace HS33 := hid (HS33.out.below hb36); clear hb36 HP9 HP33 HR14 HR17 HRC9)
          | (go_at_call 11; (with_reducible refine (sameB_true (x := L) HRE.out.sl HS33.out HL8.out).mono ?_); rintro e w37 ⟨rfl, hw37⟩; have hw38 := hw37.symm; subst hw38; clear hw37)
          | (go_at_call 19; (with_reducible refine (HRE.out.over HL8.out hLl).mono ?_); rintro e w39 ⟨rfl, ht39⟩; replace HT := hid ht39; clear ht39 HRE)
          | ((with_reducible refine wpList_load_at 45 _ rfl ?_ gi 0 ?_ RI.cs (.struct (Try.prog.fieldsOf 45)) ?_ underRec rfl ?_ ?_); exact rfl; exact rfl; exact HT.out.ci.whole; (rw [Rv.size_of HKI.out.sl]; exact sizeR))
          | ((with_reducible refine wpList_load_at 45 _ rfl ?_ ga 0 ?_ ra.cs (.struct (Try.prog.fieldsOf 45)) ?_ underRec rfl ?_ ?_); exact rfl; exact rfl; exact HT.out.ca.whole; (rw [Rv.size_of HKA.out.sl]; exact sizeR))
          | (go_at_call 27; (with_reducible refine (rsame_any RI ra HKI.out HKA.out ps ps _ HT.out.pi HT.out.pa).mono ?_); rintro e w40 ⟨rfl, hb40⟩; rw [show decide (RI.rc ps = ra.rc ps) = true from decide_eq_true HRI.out]; replace HT := hid (HT.out.on hb40); clear hb40)
          | (go_at_call 20; (with_reducible refine (keptB_any gl b cap bs _ hb70 HT.out.le HT.out.bl).mono ?_); rintro e w41 ⟨rfl, hb41⟩; replace HT := hid (HT.out.on hb41); clear hb41)
          | (go_at_call 32; (with_reducible refine (awake_any _).mono ?_); rintro e w42 ⟨rfl, hb42⟩; replace HT := hid (HT.out.on hb42); clear hb42))
        go_ret
        exact ⟨rfl, HT.out.below⟩
#print axioms tells_bad
end Go.Proofs.Ytepkpkbgmchioaa
