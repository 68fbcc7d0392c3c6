/- Texts laid into one, cut to what is needed: the remark ahead of each part says what is proved there. -/
import Derived.Test.YtdohmokhfajjpaaGreatDoorPbf
import Derived.Test.YtdohmokhfajjpaaGreatDoorPbh
import Derived.Test.YtdohmokhfajjpaaGreatDoorPba
import Derived.Test.YtdohmokhfajjpaaGreatDoorPbj
/- Forged of the statements' kit, of bytes of one length. -/
namespace Go.Proofs.YtdohmokhfajjpaaGreatDoor
open Go Go.RowKit

theorem cutb {po : Option Addr} {m d : Nat} {x : List Nat} (hm : x.length = m) (hd : m ≤ d) {l h : Nat} (hlh : l ≤ h) (hh : h ≤ m) : ∃ p2 : Option Addr, (∀ w : World, (Instr.slice 22 (.slice po m d) (some (.int .i64 (l : Int))) (some (.int .i64 (h : Int))) none).run Tryz.prog w = .ok (.slice p2 (h - l) (d - l)) w) ∧ ∀ W, BL W po x → SL W (.slice p2 (h - l) (d - l)) (ct x l h) := by
 obtain ⟨p2, h1, h2, h3⟩ := H.run_cut po m d l h hlh (by omega)
 refine ⟨p2, h1, fun W hb => ⟨p2, d - l, by rw [ct_len (by omega)], ?_, by rw [ct_len (by omega)]; omega⟩⟩
 exact bl_cut hlh (by omega) (fun g o e hl => h2 g o e (by omega)) hb
theorem ct_lt {x : List Nat} (h : ∀ z ∈ x, z < 256) (l k : Nat) : ∀ z ∈ ct x l k, z < 256 := fun z hz => h z (List.mem_of_mem_drop (List.mem_of_mem_take hz))
theorem jC_one11 (s : Int) (p : Option Addr) (n c : Nat) : (jC s (.slice p n c)).all (·.oneCell') = true := by simp [jC, show ∀ q : Int, (i64 q).oneCell' = true from fun _ => rfl, show ∀ (a : Option Addr) (n c : Nat), (Value.slice a n c).oneCell' = true from fun _ _ _ => rfl]
theorem fgB_same (x : List Nat) : fgB x x = false := by unfold fgB; simp
theorem fgB_read {x y : List Nat} (h : x ≠ y) (h2 : (rdJ dig y).1 = 0 ∨ rdFe y = 0) : fgB x y = true := by
 unfold fgB
 rw [decide_eq_false h]
 rcases h2 with h2 | h2 <;> simp [h2]
theorem fgB_loop {x y : List Nat} (h : x ≠ y) (h1 : (rdJ dig y).1 ≠ 0) (h2 : rdFe y ≠ 0) : fgB x y = (List.range (fgQ y.length)).any (fgK x y) := by
 unfold fgB
 rw [decide_eq_false h, decide_eq_false h1, decide_eq_false h2]
 simp
/-- What journal.Read answers, in one form. -/
theorem AddS.one {w : World} {j : Nat × Option Jr} {e : Ending} {w' : World} (h : AddS w j e w') (hj : ∀ x, j.2 = some x → j.1 = 0) : ∃ s p n c, e = .returned (.tuple #[.agg (jC s (.slice p n c)), .int .i64 (j.1 : Int)]) ∧ Below w.heap.size w w' := by
 unfold AddS at h
 split at h
 ·exact ⟨0, none, 0, 0, h.1, h.2⟩
 ·rename_i x hx
  obtain ⟨v, m, h1, h2, _, h4⟩ := h
  obtain ⟨p, c, rfl, _, _⟩ := h2.buf.form
  exact ⟨_, p, _, c, by rw [h1, hj x hx]; rfl, h4⟩
set_option linter.unusedVariables false in
set_option maxRecDepth 100000 in
set_option maxHeartbeats 8000000 in
theorem forged_any (po qo : Option Addr) (c d : Nat) (was now : List Nat) (w : World) (a0 a1 : Addr) (hE : Ers w a0 a1) (h1 : BL w po was) (h2 : BL w qo now) (hl : was.length = now.length) (hn : now.length ≤ 10000) (hc : now.length ≤ c) (hd : now.length ≤ d) (hp : qo = none → d = 0) (h8 : ∀ z ∈ was, z < 256) (k8 : ∀ z ∈ now, z < 256) :
  Calls Tryz.prog 19 #[.slice po was.length c, .slice qo now.length d] w fun e w' => e = .returned (.bool (fgB was now)) ∧ Below w.heap.size w w' := by
 have HSB : Hid (∀ W, Below w.heap.size w W → Calls Tryz.prog 11 #[.slice po was.length c, .slice qo now.length d] W fun e w' => e = .returned (.bool (decide (was = now))) ∧ w' = W) := hid (fun W hW => sameB_any ⟨_, _, rfl, h1.below hW, by omega⟩ ⟨_, _, rfl, h2.below hW, hd⟩ h8 k8)
 have HJ : Hid (∀ W, Below w.heap.size w W → Calls Tryz.prog 31 #[.slice qo now.length d] W fun e w' => ∃ s p n c, e = .returned (.tuple #[.agg (jC s (.slice p n c)), .int .i64 ((rdJ dig now).1 : Int)]) ∧ Below W.heap.size W w') := hid (fun W hW => (jread_any qo d now W a0 a1 (h2.below hW) hd (by omega) k8 (hE.below hW)).mono fun e w' h => h.one fun x hx => (rdJ_some k8 (show rdJ dig now = ((rdJ dig now).1, some x) from Prod.ext rfl hx)).1)
 have HF : Hid (∀ W, Below w.heap.size w W → Calls Tryz.prog 32 #[.slice qo now.length d] W fun e w' => e = .returned (.tuple #[.agg (rdFv now).cs, .int .i64 (rdFe now : Int)]) ∧ Below W.heap.size W w') := hid (fun W hW => fread14_any qo d now W (h2.below hW) hd (by omega) hp k8)
 obtain ⟨M, hM⟩ : ∃ M, now.length = M := ⟨_, rfl⟩
 have HM := hid hM
 have HL : Hid (was.length = M) := hid (hl.trans hM)
 have HFK : Hid (∀ t, fgK was now t = ((!decide (ct now (288 * t) (bE M t) = ct was (288 * t) (bE M t))) && decide (dig (ct now (288 * t + 32) (bE M t)) = ct now (288 * t) (288 * t + 32)))) := hid (fun t => by unfold fgK; rw [hM])
 have HFG0 : Hid (was ≠ now → (rdJ dig now).1 ≠ 0 → rdFe now ≠ 0 → fgB was now = (List.range (fgQ M)).any (fgK was now)) := hid (fun k1 k2 k3 => by rw [fgB_loop k1 k2 k3, hM])
 rw [hM] at hl hn hc hd HSB HJ HF ⊢
 rw [hl] at HSB ⊢
 clear hl hM
 by_cases hs : was = now
 ·subst hs
  rw [decide_eq_true rfl] at HSB
  rw [fgB_same]
  have HB0 := hid (HSB.out w (Below.refl _ _))
  clear HSB HJ HF hE h1 h2 h8 k8 HM HL HFK HFG0
  go_enter Tryz.func19, Tryz.ntmps19
  go_wp2_with (go_at_call 11; refine HB0.out.mono ?_; rintro e w1 ⟨rfl, hq⟩; have hq2 := hq.symm; subst hq2)
  go_ret
  exact ⟨rfl, Below.refl _ _⟩
 rw [decide_eq_false hs] at HSB
 have HB0 := hid (HSB.out w (Below.refl _ _))
 by_cases hr : (rdJ dig now).1 = 0 ∨ rdFe now = 0
 ·rw [fgB_read hs hr]
  have hrr : ((((rdJ dig now).1 : Int) == 0) = true) ∨ ((((rdJ dig now).1 : Int) == 0) = false ∧ ((rdFe now : Int) == 0) = true) := by
   by_cases e : (rdJ dig now).1 = 0
   ·left; rw [e]; rfl
   ·right; exact ⟨by rw [beq_eq_false_iff_ne]; omega, by rcases hr with h | h; exact absurd h e; rw [h]; rfl⟩
  clear HSB hE h1 h2 h8 k8 hr HM HL HFK HFG0
  generalize (rdJ dig now).1 = E1 at *
  generalize rdFe now = E2 at *
  generalize rdFv now = fv at *
  rcases hrr with g1 | ⟨g1, g2⟩
  all_goals
   go_enter Tryz.func19, Tryz.ntmps19
   go_wp2_with (first
    | (go_at_call 11; refine HB0.out.mono ?_; rintro e w1 ⟨rfl, hq⟩; have hq2 := hq.symm; subst hq2)
    | (go_at_call 31; refine (HJ.out _ (Below.refl _ _)).mono ?_; rintro e w2 ⟨js, jp, jn, jc, rfl, hb2⟩; have HB := hid hb2; clear hb2)
    | ((with_reducible refine wpList_allocX 70 _ zeroJ rfl rfl ?_); intro w3 g3 hz2 hb2 hg2; have HZ2 := hid hz2; have HB2 := hid hb2; have HG2 := hid hg2; clear hz2 hb2 hg2)
    | ((with_reducible refine wpList_storeX 70 2 sizeJ rfl rfl _ _ rfl g3 ?_ (D := jC js (.slice jp jn jc)) ?_ ?_ ?_ ?_ HZ2.out ?_); exact rfl; exact rfl; exact rfl; exact rfl; exact jC_one11 _ _ _ _; intro w4 h3 o3; replace HB := hid (below_on HB.out (ownX HB2.out HG2.out o3)); clear h3 o3 HZ2 HB2 HG2)
    | (go_at_call 32; refine (HF.out _ HB.out).mono ?_; rintro e w5 ⟨rfl, hb5⟩; replace HB := hid (below_on HB.out hb5); clear hb5)
    | ((with_reducible refine wpList_allocF rfl rfl ?_); intro w6 g6 hz6 hb6 hg6; have HZ6 := hid hz6; have HB6 := hid (below_on HB.out hb6); have HG6 := hid hg6; clear hz6 hb6 hg6)
    | ((with_reducible refine wpList_storeF rfl rfl _ _ rfl g6 ?_ (f := fv) ?_ HZ6.out ?_); exact rfl; exact rfl; intro w7 h7 o7; have HB7 := hid (below_tr HB6.out (o7.below HB6.out.size (fun i e => by have := HB.out.size; have := HG6.out; omega))); clear h7 o7))
   go_ret
   exact ⟨rfl, HB7.out⟩
 -- the blocks, one by one
 have hr1 : (rdJ dig now).1 ≠ 0 := fun e => hr (.inl e)
 have hr2 : rdFe now ≠ 0 := fun e => hr (.inr e)
 have HFG := hid (HFG0.out hs hr1 hr2)
 clear HFG0
 rw [HFG.out]
 have g1 : (((rdJ dig now).1 : Int) == 0) = false := by rw [beq_eq_false_iff_ne]; omega
 have g2 : ((rdFe now : Int) == 0) = false := by rw [beq_eq_false_iff_ne]; omega
 generalize (rdJ dig now).1 = E1 at *
 generalize rdFe now = E2 at *
 generalize rdFv now = fv at *
 have HTRUE : Hid (∀ t, t < fgQ M → fgK was now t = true → (List.range (fgQ M)).any (fgK was now) = true) := hid (fun t ht hk => List.any_eq_true.2 ⟨t, List.mem_range.2 ht, hk⟩)
 have HFALSE : Hid (∀ q, fgQ M ≤ q → (∀ t, t < q → fgK was now t = false) → (List.range (fgQ M)).any (fgK was now) = false) := hid (fun q hq hk => List.any_eq_false.2 fun t ht => by rw [hk t (Nat.lt_of_lt_of_le (List.mem_range.1 ht) hq)]; decide)
 obtain ⟨R, hR⟩ : ∃ R, (List.range (fgQ M)).any (fgK was now) = R := ⟨_, rfl⟩
 rw [hR] at HTRUE HFALSE ⊢
 have HQ := hid (fgQ_iff M)
 have HSA : Hid (∀ W, Below w.heap.size w W → BL W po was ∧ BL W qo now) := hid (fun W hW => ⟨h1.below hW, h2.below hW⟩)
 have H8 := hid h8
 have K8 := hid k8
 have hMz : (M : Int) ≤ 10000 := by omega
 clear HSB hE h1 h2 h8 k8 hr hr1 hr2 hs HFG hR hp
 go_enter Tryz.func19, Tryz.ntmps19
 go_wp2_with (first
  | (go_at_call 11; refine HB0.out.mono ?_; rintro e w1 ⟨rfl, hq⟩; have hq2 := hq.symm; subst hq2)
  | (go_at_call 31; refine (HJ.out _ (Below.refl _ _)).mono ?_; rintro e w2 ⟨js, jp, jn, jc, rfl, hb2⟩; have HB := hid hb2; clear hb2)
  | ((with_reducible refine wpList_allocX 70 _ zeroJ rfl rfl ?_); intro w3 g3 hz2 hb2 hg2; have HZ2 := hid hz2; have HB2 := hid hb2; have HG2 := hid hg2; clear hz2 hb2 hg2)
  | ((with_reducible refine wpList_storeX 70 2 sizeJ rfl rfl _ _ rfl g3 ?_ (D := jC js (.slice jp jn jc)) ?_ ?_ ?_ ?_ HZ2.out ?_); exact rfl; exact rfl; exact rfl; exact rfl; exact jC_one11 _ _ _ _; intro w4 h3 o3; replace HB := hid (below_on HB.out (ownX HB2.out HG2.out o3)); clear h3 o3 HZ2 HB2 HG2)
  | (go_at_call 32; refine (HF.out _ HB.out).mono ?_; rintro e w5 ⟨rfl, hb5⟩; replace HB := hid (below_on HB.out hb5); clear hb5)
  | ((with_reducible refine wpList_allocF rfl rfl ?_); intro w6 g6 hz6 hb6 hg6; have HZ6 := hid hz6; have HB6 := hid (below_on HB.out hb6); have HG6 := hid hg6; clear hz6 hb6 hg6)
  | ((with_reducible refine wpList_storeF rfl rfl _ _ rfl g6 ?_ (f := fv) ?_ HZ6.out ?_); exact rfl; exact rfl; intro w7 h7 o7; have HB7 := hid (below_tr HB6.out (o7.below HB6.out.size (fun i e => by have := HB.out.size; have := HG6.out; omega))); clear h7 o7))
 clear HJ HF HB0 g1 g2
 go_loopg [9, 10] (fgQ M) (fun gg v _ wr => ∃ t : Nat, t ≤ fgQ M ∧ fgQ M - t ≤ gg ∧ v = .int .i64 ((288 * t : Nat) : Int) ∧ Hid (∀ t', t' < t → fgK was now t' = false) ∧ Hid (Below w.heap.size w wr))
 case atStart => exact ⟨0, by omega, by omega, rfl, hid (fun t' h => by omega), HB7⟩
 case round =>
  clear HB7
  obtain ⟨t, ht, hgt, rfl, HPR, HBW⟩ := hrel
  obtain ⟨A, hA⟩ : ∃ A, 288 * t = A := ⟨_, rfl⟩
  obtain ⟨A2, hA2⟩ : ∃ A2, A + 32 = A2 := ⟨_, rfl⟩
  obtain ⟨A3, hA3⟩ : ∃ A3, A2 + 256 = A3 := ⟨_, rfl⟩
  have htq : t < fgQ M ↔ A2 ≤ M := by rw [HQ.out t]; omega
  have hAM : (A : Int) ≤ 20000 := by unfold fgQ at ht; omega
  have hw1 : IntKind.i64.wrap ((A : Int) + 32) = (A2 : Int) := by rw [show (A : Int) + 32 = (A2 : Int) by omega]; exact IntWalk.i64_in _ ⟨by omega, by omega⟩
  have hw2 : IntKind.i64.wrap ((A2 : Int) + 256) = (A3 : Int) := by rw [show (A2 : Int) + 256 = (A3 : Int) by omega]; exact IntWalk.i64_in _ ⟨by omega, by omega⟩
  rw [hA]
  by_cases hlt : A2 ≤ M
  ·have hltz : (A2 : Int) ≤ (M : Int) := by omega
   have HTQ := hid (htq.2 hlt)
   obtain ⟨E, hEE⟩ : ∃ E, bE M t = E := ⟨_, rfl⟩
   have hE3 : min A3 M = E := by rw [← hEE]; unfold bE; rw [show 288 * t + 288 = A3 by omega]
   have hmin : (if M < A3 then (M : Int) else (A3 : Int)) = (E : Int) := by split <;> omega
   have hA2E : A2 ≤ E := by omega
   have hEM : E ≤ M := by omega
   obtain ⟨p1, hc1, hb1⟩ := cutb (po := qo) HM.out hd hA2E hEM
   obtain ⟨p2, hc2, hb2⟩ := cutb (po := qo) HM.out hd (show A ≤ E by omega) hEM
   obtain ⟨p3, hc3, hb3⟩ := cutb (po := po) (m := M) HL.out hc (show A ≤ E by omega) hEM
   obtain ⟨p4, hc4, hb4⟩ := cutb (po := qo) HM.out hd (show A ≤ A2 by omega) hlt
   have hFt := HFK.out t
   rw [hEE, hA, hA2] at hFt
   obtain ⟨D, hD⟩ : ∃ D, dig (ct now A2 E) = D := ⟨_, rfl⟩
   have hDl : D.length = 32 := by rw [← hD]; exact dig_len _
   have hD8 : ∀ z ∈ D, z < 256 := by rw [← hD]; exact dig_lt _
   have HSM : Hid (∀ W, Below w.heap.size w W → Calls Tryz.prog 22 #[.slice p1 (E - A2) (d - A2)] W fun e w' => e = .returned (.agg (sumC D)) ∧ Below W.heap.size W w') := hid (fun W hW => by
    obtain ⟨q, cq, e1, e2, e3⟩ := hb1 W (HSA.out W hW).2
    simp only [Value.slice.injEq] at e1
    obtain ⟨rfl, -, rfl⟩ := e1
    have := dsum_any _ _ (ct now A2 E) W (by rw [ct_len (by rw [HM.out]; omega)]; omega) e3 e2 (ct_lt K8.out _ _)
    rw [ct_len (by rw [HM.out]; omega), hD] at this
    exact this)
   have HS1 : Hid (∀ W, Below w.heap.size w W → Calls Tryz.prog 11 #[.slice p2 (E - A) (d - A), .slice p3 (E - A) (c - A)] W fun e w' => e = .returned (.bool (decide (ct now A E = ct was A E))) ∧ w' = W) := hid (fun W hW => sameB_any (hb2 W (HSA.out W hW).2) (hb3 W (HSA.out W hW).1) (ct_lt K8.out _ _) (ct_lt H8.out _ _))
   have HS2 : Hid (∀ W g, Below w.heap.size w W → CAt W g (sumC D) 41 → Calls Tryz.prog 11 #[.slice (some ⟨g, 0, none⟩) 32 32, .slice p4 (A2 - A) (d - A)] W fun e w' => e = .returned (.bool (decide (D = ct now A A2))) ∧ w' = W) := hid (fun W g hW hg => sameB_any ⟨_, _, by rw [hDl], hg.bl, by rw [hDl]; exact Nat.le_refl _⟩ (hb4 W (HSA.out W hW).2) hD8 (ct_lt K8.out _ _))
   have hsd := run_dig
   obtain ⟨u1, hu1⟩ : ∃ u, decide (ct now A E = ct was A E) = u := ⟨_, rfl⟩
   obtain ⟨u2, hu2⟩ : ∃ u, decide (D = ct now A A2) = u := ⟨_, rfl⟩
   rw [hu1, hD, hu2] at hFt
   rw [hu1] at HS1
   rw [hu2] at HS2
   have HFT := hid hFt
   clear hb1 hb2 hb3 hb4 hFt hD hu1 hu2 hE3 htq hD8
   have hAz : (A : Int) ≤ (E : Int) := by omega
   have hA2z : (A2 : Int) ≤ (E : Int) := by omega
   have hEz : (E : Int) ≤ (M : Int) := by omega
   have hnE : ¬ M < E := by omega
   have hmin2 : (if M < E then (M : Int) else (E : Int)) = (E : Int) := by rw [if_neg hnE]
   go_upto_region 12 with (first
    | (go_at_call 22; refine (HSM.out _ HBW.out).mono ?_; rintro e w4 ⟨rfl, hb4⟩; have HB4 := hid (below_on HBW.out hb4); clear hb4)
    | ((with_reducible refine wpList_allocD rfl rfl ?_); intro w5 g5 hz5 hb5 hg5; have HZ5 := hid hz5; have HB5 := hid (below_on HB4.out hb5); have HG5 := hid (show w.heap.size ≤ g5 by have := HB4.out.size; omega); clear hz5 hb5 hg5)
    | ((with_reducible refine wpList_storeD rfl rfl _ _ rfl g5 ?_ (m := zeroD) (n := D) ?_ ?_ hDl HZ5.out ?_); exact rfl; exact rfl; exact rfl; intro w6 h6 o6; have HB6 := hid (below_tr HB5.out (o6.below HB5.out.size (fun i e => by have := HG5.out; omega))); have HC6 := hid h6; clear h6 o6 HZ5))
   have HS1K := hid (fun q => HS1.out (w6.drewN q) (below_on HB6.out (below_drewN w6 q)))
   have HS2K := hid (fun q => HS2.out (w6.drewN q) g5 (below_on HB6.out (below_drewN w6 q)) HC6.out)
   have HB7K := hid (fun q => below_on HB6.out (below_drewN w6 q))
   clear HSM HS1 HS2 HB5 HG5 HB4 HC6
   simp only [Act.put, List.setIfInBounds_toArray, List.set_cons_zero, List.set_cons_succ]
   cases u1 with
   | true =>
    have hfa : fgK was now t = false := by rw [HFT.out]; rfl
    have HPR2 : Hid (∀ t', t' < t + 1 → fgK was now t' = false) := hid (fun t' h => by
     rcases Nat.lt_succ_iff_lt_or_eq.1 h with h | rfl
     ·exact HPR.out t' h
     ·exact hfa)
    have hA4 : A3 = 288 * (t + 1) := by omega
    clear hfa HS2K
    go_quiet ((go_at_call 11; refine Calls.quiet_of_same (HS1K.out _)))
    go_wp2
    go_roundg (fgQ M - (t + 1))
    case measure => have := HTQ.out; omega
    case rel => exact ⟨t + 1, by have := HTQ.out; omega, Nat.le_refl _, by congr 1, HPR2, hid (HB7K.out _)⟩
   | false =>
    have T1 : Hid True := hid trivial
    cases u2 with
    | true =>
     obtain rfl : R = true := HTRUE.out t HTQ.out (by rw [HFT.out]; rfl)
     clear HPR HTRUE HFALSE
     go_quiet (first | (go_at_call 11; with_reducible refine Calls.quiet_of_same (HS1K.out _)) | (go_at_call 11; with_reducible refine Calls.quiet_of_same (HS2K.out _)))
     go_wp2
     go_ret
     exact ⟨rfl, HB7K.out _⟩
    | false =>
     have hfa : fgK was now t = false := by rw [HFT.out]; rfl
     have HPR2 : Hid (∀ t', t' < t + 1 → fgK was now t' = false) := hid (fun t' h => by
      rcases Nat.lt_succ_iff_lt_or_eq.1 h with h | rfl
      ·exact HPR.out t' h
      ·exact hfa)
     have hA4 : A3 = 288 * (t + 1) := by omega
     clear hfa
     go_quiet (first | (go_at_call 11; with_reducible refine Calls.quiet_of_same (HS1K.out _)) | (go_at_call 11; with_reducible refine Calls.quiet_of_same (HS2K.out _)))
     go_wp2
     go_roundg (fgQ M - (t + 1))
     case measure => have := HTQ.out; omega
     case rel => exact ⟨t + 1, by have := HTQ.out; omega, Nat.le_refl _, by congr 1, HPR2, hid (HB7K.out _)⟩
  ·have hltz : ¬ (A2 : Int) ≤ (M : Int) := by omega
   obtain rfl : R = false := HFALSE.out t (Nat.le_of_not_lt fun h => hlt (htq.1 h)) HPR.out
   clear HPR HTRUE HFALSE htq
   go_wp2
   go_ret
   exact ⟨rfl, HBW.out⟩
end Go.Proofs.YtdohmokhfajjpaaGreatDoor
