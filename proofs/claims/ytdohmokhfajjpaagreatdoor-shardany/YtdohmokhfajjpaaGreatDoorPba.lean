/- Texts laid into one, cut to what is needed: the remark ahead of each part says what is proved there. -/
import Derived.Test.YtdohmokhfajjpaaGreatDoorPaz
/- journal.Read. -/
namespace Go.Proofs.YtdohmokhfajjpaaGreatDoor
open Go Go.RowKit

theorem rdJ_sign {L : List Nat} (h : L.length < 35 ∨ L.take 3 ≠ [83, 74, 49]) : rdJ dig L = (4, none) := by unfold rdJ; rw [if_pos h]
theorem rdJ_dig {L : List Nat} (h : ¬ (L.length < 35 ∨ L.take 3 ≠ [83, 74, 49])) (h2 : dig (L.take (L.length - 32)) ≠ L.drop (L.length - 32)) : rdJ dig L = (14, none) := by unfold rdJ; rw [if_neg h, if_pos h2]
theorem rdJ_mid {L : List Nat} (h : ¬ (L.length < 35 ∨ L.take 3 ≠ [83, 74, 49])) (h2 : ¬ dig (L.take (L.length - 32)) ≠ L.drop (L.length - 32)) : rdJ dig L = match rdMid ((L.take (L.length - 32)).drop 3) with | some j => if okJ j then (0, some j) else (4, none) | none => (4, none) := by unfold rdJ; rw [if_neg h, if_neg h2]; rfl
theorem rdMid_u1 {b : List Nat} (h : rdU b = none) : rdMid b = none := by unfold rdMid; rw [h]; rfl
theorem rdMid_u2 {b b1 : List Nat} {x : Nat} (h : rdU b = some (x, b1)) (h2 : rdU b1 = none) : rdMid b = none := by unfold rdMid; rw [h]; simp only [Option.bind_eq_bind, Option.bind_some]; rw [h2]; rfl
theorem rdMid_n {b b1 b2 : List Nat} {x n : Nat} (h : rdU b = some (x, b1)) (h2 : rdU b1 = some (n, b2)) (hn : 64 < n) : rdMid b = none := by unfold rdMid; rw [h]; simp only [Option.bind_eq_bind, Option.bind_some]; rw [h2]; simp only [Option.bind_some]; rw [if_pos hn]
theorem rdMid_r {b b1 b2 : List Nat} {x n : Nat} (h : rdU b = some (x, b1)) (h2 : rdU b1 = some (n, b2)) (hn : ¬ 64 < n) (h3 : rdRs n b2 = none) : rdMid b = none := by unfold rdMid; rw [h]; simp only [Option.bind_eq_bind, Option.bind_some]; rw [h2]; simp only [Option.bind_some]; rw [if_neg hn, h3]; rfl
theorem rdMid_e {b b1 b2 N : List Nat} {x n : Nat} {rs : List Rc} (h : rdU b = some (x, b1)) (h2 : rdU b1 = some (n, b2)) (hn : ¬ 64 < n) (h3 : rdRs n b2 = some (rs, N)) : rdMid b = if N = [] then some ⟨x, rs⟩ else none := by unfold rdMid; rw [h]; simp only [Option.bind_eq_bind, Option.bind_some]; rw [h2]; simp only [Option.bind_some]; rw [if_neg hn, h3]; rfl
theorem end_bad {b N : List Nat} {x : Nat} {rs : List Rc} (h : rdMid b = if N = [] then some ⟨x, rs⟩ else none) (hq : N ≠ [] ∨ okJ ⟨x, rs⟩ = false) : (match rdMid b with | some j => if okJ j then ((0 : Nat), some j) else (4, none) | none => (4, none)) = (4, none) := by
 rw [h]
 by_cases hN : N = []
 ·rw [if_pos hN]
  have := hq.resolve_left (fun k => k hN)
  simp [this]
 ·rw [if_neg hN]
theorem end_good {b N : List Nat} {x : Nat} {rs : List Rc} (h : rdMid b = if N = [] then some ⟨x, rs⟩ else none) (hq : ¬ (N ≠ [] ∨ okJ ⟨x, rs⟩ = false)) : (match rdMid b with | some j => if okJ j then ((0 : Nat), some j) else (4, none) | none => (4, none)) = (0, some ⟨x, rs⟩) := by
 have hN : N = [] := Classical.byContradiction fun k => hq (Or.inl k)
 have hj : okJ ⟨x, rs⟩ = true := by cases e : okJ ⟨x, rs⟩; exact absurd (Or.inr e) hq; rfl
 rw [h, if_pos hN]
 simp [hj]
theorem Rs.other7 {B : Nat} {w w' : World} {v : Value} {l : List Rp} {g : Nat} {C D : Array Value} (h : Rs B w v l) (_ : CAt w' g D 70) (ho : Only (fun b => b = g) w w') (hc : CAt w g C 70) : Rs B w' v l := by
 refine ⟨h.buf.keep fun b hv => ?_, fun x hx => ⟨(h.each x hx).ok, (h.each x hx).pl.other (by decide) hc ho⟩⟩
 rcases h.buf.2 with ⟨e, _⟩ | ⟨g', cap, cur, e, _, hg', _⟩
 ·rw [e] at hv; cases hv
 ·rw [e] at hv
  cases hv
  have h2 : CAt w g' cur 44 := hg'
  exact ho.block g' h2.lt (fun k => hc.apart h2 (by decide) k.symm)
theorem rC_one (po : Option Addr) (n c : Nat) (k s : Int) : (rC (.slice po n c) k s (.slice none 0 0)).all (·.oneCell') = true := by simp [rC, show ∀ q : Int, (i64 q).oneCell' = true from fun _ => rfl, show ∀ (a : Option Addr) (n c : Nat), (Value.slice a n c).oneCell' = true from fun _ _ _ => rfl]
theorem Rq.start {w w1 w2 w3 w4 : World} {g2 p : Nat} {po : Option Addr} {c : Nat} {L : List Nat} (hz1 : CAt w1 g2 (jC 0 (.slice none 0 0)) 70) (hb1 : Below w.heap.size w w1) (hg1 : w.heap.size = g2) (hb2 : Below w1.heap.size w1 w2) (hg2 : w1.heap.size = p) (hc3 : CAt w3 p (rC (.slice po L.length c) 0 0 (.slice none 0 0)) 95) (ho3 : Only (fun b => b = p) w2 w3)
  (hc4 : CAt w4 w3.heap.size lkC 98) (hb4 : Below w3.heap.size w3 w4) (h : BL w po L) (hc : L.length ≤ c) (hn : L.length ≤ 100000) (h8 : ∀ z ∈ L, z < 256) : Rq w g2 p w3.heap.size w4 ∧ RdC w4 p po L c 0 0 (.slice none 0 0) := by
 have hlt := hz1.lt
 have hs1 := hb1.size
 have hbw2 := below_on hb1 hb2
 have hbw3 := below_tr hbw2 (ho3.below hbw2.size (fun i e => by omega))
 have hbw4 := below_on hbw3 hb4
 refine ⟨⟨hbw4, ((hz1.below hb2).keep (ho3.block g2 (hz1.below hb2).lt (by omega))).below hb4, hc4, by omega, by omega, hc3.lt⟩, hc3.below hb4, h.below hbw4, fun hne a e => ?_, hc, hn, h8⟩
 rcases h with k | ⟨b, o, k, hk⟩
 ·exact absurd k hne
 ·rw [k] at e
  cases e
  have := cell_lt' (w := w) (a := ⟨b, o + 0, none⟩) (by rw [hk 0 (List.length_pos_iff.2 hne)]; simp)
  show b ≠ p
  have h9 : b < w.heap.size := this
  omega
theorem CAt.look {w : World} {g : Nat} {t : TypeId} (h : CAt w g lkC t) (k : Nat) (v : Value) (hv : lkC[k]? = some v) : w.cell? ⟨g, k, none⟩ = some v := by rw [h.cell, hv]
set_option maxRecDepth 100000 in
set_option maxHeartbeats 8000000 in
theorem jread_any (po : Option Addr) (c : Nat) (L : List Nat) (w : World) (a0 a1 : Addr) (h : BL w po L) (hc : L.length ≤ c) (hn : L.length ≤ 100000) (h8 : ∀ z ∈ L, z < 256) (he : Ers w a0 a1) : Calls Tryz.prog 31 #[.slice po L.length c] w (AddS w (rdJ dig L)) := by
 obtain ⟨R, hR⟩ : ∃ R, rdJ dig L = R := ⟨_, rfl⟩
 rw [hR]
 have HRR := hid hR
 have HER := hid (fun W (hW : Below w.heap.size w W) => he.below hW)
 have HBL := hid h
 have H8 := hid h8
 clear hR h he h8
 go_enter Tryz.func31, Tryz.ntmps31
 go_wp2_with (first
  | ((with_reducible refine wpList_allocJ rfl rfl ?_); intro w1 g2 hz1 hb1 hg1; have HZ1 := hid hz1; have HB1 := hid hb1; have HG1 := hid hg1; clear hz1 hb1 hg1)
  | ((with_reducible refine wpList_build_want 95 _ rfl ?_ (rC (.slice po L.length c) 0 0 (.slice none 0 0)) ?_ ?_); exact rfl; exact builtRd po L.length c)
  | ((with_reducible refine wpList_allocX 95 _ zeroRd rfl rfl ?_); intro w2 p hz2 hb2 hg2; have HZ2 := hid hz2; have HB2 := hid hb2; have HG2 := hid hg2; clear hz2 hb2 hg2)
  | ((with_reducible refine wpList_storeX 95 4 sizeRd rfl rfl _ _ rfl p ?_ (D := rC (.slice po L.length c) 0 0 (.slice none 0 0)) ?_ ?_ ?_ ?_ HZ2.out ?_); exact rfl; exact rfl; exact rfl; exact rfl; exact rC_one _ _ _ _ _; intro w3 h3 o3; have HC3 := hid h3; have HO3 := hid o3; clear h3 o3)
  | (go_at_call 44; refine (looks_any _).mono ?_; rintro e w4 ⟨rfl, hc4, hb4⟩; obtain ⟨hrq, hrd⟩ := Rq.start HZ1.out HB1.out HG1.out HB2.out HG2.out HC3.out HO3.out hc4 hb4 HBL.out hc hn H8.out; generalize w3.heap.size = gl at hrq ⊢; have HF := hid hrq; have HRD := hid hrd; have q0 := hrq.lk.look 0 _ rfl; clear hc4 hb4 hrq hrd HZ1 HB1 HG1 HZ2 HB2 HG2 HC3 HO3))
 have hne : ∀ (w : World) (a : Addr), (binOp .neq 100 (eV a) .nilIface).run Tryz.prog w = .ok (.bool true) w := fun w a => by kernel_rfl
 have hnn : ∀ (w : World), (binOp .neq 100 .nilIface .nilIface).run Tryz.prog w = .ok (.bool false) w := fun w => by kernel_rfl
 refine wp_loop_rounds 7 ?_
 rw [rounds_succ]
 have hC := sign_any p po L c 0 0 (.slice none 0 0) w4 a0 a1 HRD.out (HER.out _ HF.out.below)
 by_cases hsg : L.length < 35 ∨ L.take 3 ≠ [83, 74, 49]
 ·rw [if_pos hsg] at hC
  have HC := hid hC
  clear hC
  go_wp2_with (first
   | (go_at_call 63; refine HC.out.mono ?_; rintro e w5 ⟨rfl, hb5⟩; replace HF := hid (HF.out.onP (Only.of_below hb5)); clear hb5)
   | (go_at_call 45; refine (told_form a0 a1 _ (HER.out _ HF.out.below)).mono ?_; rintro e wt ⟨rfl, hwt⟩; have hwt2 := hwt.symm; subst hwt2)
   | ((with_reducible refine wpList_build_want 70 _ rfl ?_ (jC 0 (.slice none 0 0)) ?_ ?_); exact rfl; exact builtZJ)
   | ((with_reducible refine wpList_storeJ rfl rfl _ _ rfl g2 ?_ (s := 0) (v := .slice none 0 0) ?_ rfl HF.out.cr ?_); exact rfl; exact rfl; intro w7 h7 o7; have H7 := hid h7; have O7 := hid o7; clear h7 o7))
  refine ret_rowJ2 rfl g2 rfl rfl rfl H7.out ?_
  rw [show R = (4, none) from HRR.out.symm.trans (rdJ_sign hsg)]
  exact ⟨rfl, below_tr HF.out.below (O7.out.below HF.out.below.size (fun i e => by have := HF.out.h1; omega))⟩
 rw [if_neg hsg] at hC
 have HC := hid hC
 clear hC
 go_wp2_with (go_at_call 63; refine HC.out.mono ?_; rintro e w5 ⟨rfl, hb5⟩; replace HF := hid (HF.out.onP (Only.of_below hb5)); replace HRD := hid (HRD.out.below hb5); clear hb5)
 clear HC
 rw [rounds_succ]
 have q1 := HF.out.lk.look 1 _ rfl
 have hl35 : 35 ≤ L.length := by rcases Nat.lt_or_ge L.length 35 with k | k; exact absurd (Or.inl k) hsg; exact k
 by_cases hdg : dig (L.take (L.length - 32)) ≠ L.drop (L.length - 32)
 ·have HC := hid (digest_bad p po L c 0 0 (.slice none 0 0) w5 a0 a1 HRD.out (HER.out _ HF.out.below) hl35 hdg)
  have HX := hid (rdJ_dig hsg hdg)
  clear hsg hdg
  go_wp2_with (first
   | (go_at_call 64; refine HC.out.mono ?_; rintro e w6 ⟨rfl, hb5⟩; replace HF := hid (HF.out.onP (Only.of_below hb5)); clear hb5)
   | (go_at_call 45; refine (told_turned a0 a1 _ (HER.out _ HF.out.below)).mono ?_; rintro e wt ⟨rfl, hwt⟩; have hwt2 := hwt.symm; subst hwt2)
   | ((with_reducible refine wpList_build_want 70 _ rfl ?_ (jC 0 (.slice none 0 0)) ?_ ?_); exact rfl; exact builtZJ)
   | ((with_reducible refine wpList_storeJ rfl rfl _ _ rfl g2 ?_ (s := 0) (v := .slice none 0 0) ?_ rfl HF.out.cr ?_); exact rfl; exact rfl; intro w7 h7 o7; have H7 := hid h7; have O7 := hid o7; clear h7 o7))
  refine ret_rowJ2 rfl g2 rfl rfl rfl H7.out ?_
  rw [show R = (14, none) from HRR.out.symm.trans (HX.out)]
  exact ⟨rfl, below_tr HF.out.below (O7.out.below HF.out.below.size (fun i e => by have := HF.out.h1; omega))⟩
 have hC := digest_ok p po L c 0 0 (.slice none 0 0) w5 HRD.out hl35 (Classical.byContradiction hdg)
 have hX := rdJ_mid hsg hdg
 generalize (L.take (L.length - 32)).drop 3 = M at hC hX
 have HC := hid hC
 have HX := hid hX
 clear hC hX hsg hdg HRD
 go_wp2_with (go_at_call 64; refine HC.out.mono ?_; rintro e w6 ⟨rfl, ho5, p6, c6, hr5⟩; replace HF := hid (HF.out.onP ho5); have HRD := hid hr5; clear ho5 hr5)
 clear HC
 rw [rounds_succ]
 have q2 := HF.out.lk.look 2 _ rfl
 cases hu1 : rdU M with
 | none =>
  have HC := hid (readSeq_bad p p6 M c6 0 0 (.slice none 0 0) w6 a0 a1 HRD.out (HER.out _ HF.out.below) hu1)
  have HU1 := hid hu1
  clear hu1
  go_wp2_with (first
   | (go_at_call 65; refine HC.out.mono ?_; rintro e w7 ⟨rfl, hb5⟩; replace HF := hid (HF.out.onP (Only.of_below hb5)); clear hb5)
   | (go_at_call 45; refine (told_form a0 a1 _ (HER.out _ HF.out.below)).mono ?_; rintro e wt ⟨rfl, hwt⟩; have hwt2 := hwt.symm; subst hwt2)
   | ((with_reducible refine wpList_build_want 70 _ rfl ?_ (jC 0 (.slice none 0 0)) ?_ ?_); exact rfl; exact builtZJ)
   | ((with_reducible refine wpList_storeJ rfl rfl _ _ rfl g2 ?_ (s := 0) (v := .slice none 0 0) ?_ rfl HF.out.cr ?_); exact rfl; exact rfl; intro w7 h7 o7; have H7 := hid h7; have O7 := hid o7; clear h7 o7))
  refine ret_rowJ2 rfl g2 rfl rfl rfl H7.out ?_
  rw [show R = (4, none) from HRR.out.symm.trans (HX.out.trans (by rw [rdMid_u1 HU1.out]))]
  exact ⟨rfl, below_tr HF.out.below (O7.out.below HF.out.below.size (fun i e => by have := HF.out.h1; omega))⟩
 | some u1 =>
 obtain ⟨x, M1⟩ := u1
 have HC := hid (readSeq_ok p p6 M c6 0 0 (.slice none 0 0) w6 HRD.out x M1 hu1)
 have HU1 := hid hu1
 clear hu1 HRD
 go_wp2_with (go_at_call 65; refine HC.out.mono ?_; rintro e w7 ⟨rfl, ho5, p7, c7, hr5⟩; replace HF := hid (HF.out.onP ho5); have HRD := hid hr5; clear ho5 hr5)
 clear HC
 rw [rounds_succ]
 have q3 := HF.out.lk.look 3 _ rfl
 cases hu2 : rdU M1 with
 | none =>
  have HC := hid (readCount_bad p p7 M1 c7 0 x (.slice none 0 0) w7 a0 a1 HRD.out (HER.out _ HF.out.below) hu2)
  have HU2 := hid hu2
  clear hu2
  go_wp2_with (first
   | (go_at_call 66; refine HC.out.mono ?_; rintro e w8 ⟨rfl, hb5⟩; replace HF := hid (HF.out.onP (Only.of_below hb5)); clear hb5)
   | (go_at_call 45; refine (told_form a0 a1 _ (HER.out _ HF.out.below)).mono ?_; rintro e wt ⟨rfl, hwt⟩; have hwt2 := hwt.symm; subst hwt2)
   | ((with_reducible refine wpList_build_want 70 _ rfl ?_ (jC 0 (.slice none 0 0)) ?_ ?_); exact rfl; exact builtZJ)
   | ((with_reducible refine wpList_storeJ rfl rfl _ _ rfl g2 ?_ (s := 0) (v := .slice none 0 0) ?_ rfl HF.out.cr ?_); exact rfl; exact rfl; intro wz h7 o7; have H7 := hid h7; have O7 := hid o7; clear h7 o7))
  refine ret_rowJ2 rfl g2 rfl rfl rfl H7.out ?_
  rw [show R = (4, none) from HRR.out.symm.trans (HX.out.trans (by rw [rdMid_u2 HU1.out HU2.out]))]
  exact ⟨rfl, below_tr HF.out.below (O7.out.below HF.out.below.size (fun i e => by have := HF.out.h1; omega))⟩
 | some u2 =>
 obtain ⟨n, M2⟩ := u2
 have HC := hid (readCount_ok p p7 M1 c7 0 x (.slice none 0 0) w7 HRD.out n M2 hu2)
 have HU2 := hid hu2
 clear hu2 HRD
 go_wp2_with (go_at_call 66; refine HC.out.mono ?_; rintro e w8 ⟨rfl, ho5, p8, c8, hr5⟩; replace HF := hid (HF.out.onP ho5); have HRD := hid hr5; clear ho5 hr5)
 clear HC
 rw [rounds_succ]
 have q4 := HF.out.lk.look 4 _ rfl
 by_cases hn64 : 64 < n
 ·have HC := hid (recs_many p p8 M2 c8 n x (.slice none 0 0) w8 a0 a1 HRD.out (HER.out _ HF.out.below) hn64)
  go_wp2_with (first
   | (go_at_call 67; refine HC.out.mono ?_; rintro e w9 ⟨rfl, hb5⟩; replace HF := hid (HF.out.onP (Only.of_below hb5)); clear hb5)
   | (go_at_call 45; refine (told_form a0 a1 _ (HER.out _ HF.out.below)).mono ?_; rintro e wt ⟨rfl, hwt⟩; have hwt2 := hwt.symm; subst hwt2)
   | ((with_reducible refine wpList_build_want 70 _ rfl ?_ (jC 0 (.slice none 0 0)) ?_ ?_); exact rfl; exact builtZJ)
   | ((with_reducible refine wpList_storeJ rfl rfl _ _ rfl g2 ?_ (s := 0) (v := .slice none 0 0) ?_ rfl HF.out.cr ?_); exact rfl; exact rfl; intro wz h7 o7; have H7 := hid h7; have O7 := hid o7; clear h7 o7))
  refine ret_rowJ2 rfl g2 rfl rfl rfl H7.out ?_
  rw [show R = (4, none) from HRR.out.symm.trans (HX.out.trans (by rw [rdMid_n HU1.out HU2.out hn64]))]
  exact ⟨rfl, below_tr HF.out.below (O7.out.below HF.out.below.size (fun i e => by have := HF.out.h1; omega))⟩
 have hC := recs_few p p8 M2 c8 n x w8 a0 a1 HRD.out (fun W hW => HER.out _ (HF.out.onP hW).below) (by omega)
 unfold RecsS at hC
 cases hr : rdRs n M2 with
 | none =>
  rw [hr] at hC
  have HC := hid hC
  have HR2 := hid hr
  clear hC hr
  go_wp2_with (first
   | (go_at_call 67; refine HC.out.mono ?_; rintro e w9 ⟨ho5, rfl⟩; replace HF := hid (HF.out.onP ho5); clear ho5)
   | (go_at_call 45; refine (told_form a0 a1 _ (HER.out _ HF.out.below)).mono ?_; rintro e wt ⟨rfl, hwt⟩; have hwt2 := hwt.symm; subst hwt2)
   | ((with_reducible refine wpList_build_want 70 _ rfl ?_ (jC 0 (.slice none 0 0)) ?_ ?_); exact rfl; exact builtZJ)
   | ((with_reducible refine wpList_storeJ rfl rfl _ _ rfl g2 ?_ (s := 0) (v := .slice none 0 0) ?_ rfl HF.out.cr ?_); exact rfl; exact rfl; intro wz h7 o7; have H7 := hid h7; have O7 := hid o7; clear h7 o7))
  refine ret_rowJ2 rfl g2 rfl rfl rfl H7.out ?_
  rw [show R = (4, none) from HRR.out.symm.trans (HX.out.trans (by rw [rdMid_r HU1.out HU2.out hn64 HR2.out]))]
  exact ⟨rfl, below_tr HF.out.below (O7.out.below HF.out.below.size (fun i e => by have := HF.out.h1; omega))⟩
 | some rn =>
 obtain ⟨rs, N⟩ := rn
 rw [hr] at hC
 have HC := hid hC
 have HR2 := hid hr
 have HR8 := hid HRD.out.b8
 clear hC hr HRD
 have HS8 := hid HF.out.below.size
 go_wp2_with (go_at_call 67; refine HC.out.mono ?_; rintro e w9 ⟨ho5, rfl, p9, c9, v9, m9, hr5, hs5, hm5⟩; replace HF := hid (HF.out.onP ho5); have HRD := hid hr5; have HRS := hid (hs5.base HS8.out); have HM9 := hid hm5; clear ho5 hr5 hs5 hm5)
 clear HC
 rw [rounds_succ]
 have q5 := HF.out.lk.look 5 _ rfl
 have hmid := rdMid_e HU1.out HU2.out hn64 HR2.out
 have hlen9 : m9.length ≤ 100000 := by
  have h1 := congrArg List.length HM9.out
  rw [rcs_len] at h1
  have h2 := (rdRs_some HR8.out HR2.out).2.1
  omega
 have hC := end_any p p9 N c9 n x v9 m9 w9 a0 a1 HRD.out (HRS.out.rl hlen9) (fun W hW => HER.out _ (below_on HF.out.below hW))
 rw [HM9.out] at hC
 by_cases hq : N ≠ [] ∨ okJ ⟨x, rs⟩ = false
 ·rw [if_pos hq] at hC
  have HC := hid hC
  clear hC
  go_wp2_with (first
   | (go_at_call 68; refine HC.out.mono ?_; rintro e w10 ⟨rfl, hb5⟩; replace HF := hid (HF.out.onP (Only.of_below hb5)); clear hb5)
   | (go_at_call 45; refine (told_form a0 a1 _ (HER.out _ HF.out.below)).mono ?_; rintro e wt ⟨rfl, hwt⟩; have hwt2 := hwt.symm; subst hwt2)
   | ((with_reducible refine wpList_build_want 70 _ rfl ?_ (jC 0 (.slice none 0 0)) ?_ ?_); exact rfl; exact builtZJ)
   | ((with_reducible refine wpList_storeJ rfl rfl _ _ rfl g2 ?_ (s := 0) (v := .slice none 0 0) ?_ rfl HF.out.cr ?_); exact rfl; exact rfl; intro wz h7 o7; have H7 := hid h7; have O7 := hid o7; clear h7 o7))
  refine ret_rowJ2 rfl g2 rfl rfl rfl H7.out ?_
  rw [show R = (4, none) from HRR.out.symm.trans (HX.out.trans (end_bad hmid hq))]
  exact ⟨rfl, below_tr HF.out.below (O7.out.below HF.out.below.size (fun i e => by have := HF.out.h1; omega))⟩
 rw [if_neg hq] at hC
 have HC := hid hC
 have hone : v9.oneCell' = true := by obtain ⟨a, c, e, _⟩ := HRS.out.buf.form; rw [e]; rfl
 have HQ := hid (end_good hmid hq)
 have HMID := hid hmid
 clear hC hmid hq
 go_wp2_with (go_at_call 68; refine HC.out.mono ?_; rintro e w10 ⟨rfl, hb5⟩; replace HF := hid (HF.out.onP (Only.of_below hb5)); replace HRD := hid (HRD.out.below hb5); replace HRS := hid (HRS.out.below hb5); clear hb5)
 clear HC
 rw [rounds_succ]
 have HRG := hid (show ∀ j u, (jC x v9)[j]? = some u → w10.cell? ⟨p, 2 + j, none⟩ = some u from fun j u hu => by
  match j, hu with
  | 0, hu => simp [jC] at hu; subst hu; exact HRD.out.c2
  | 1, hu => simp [jC] at hu; subst hu; exact HRD.out.c3)
 go_wp2_with (first
  | ((with_reducible refine wpList_load_at 70 _ rfl ?_ p 2 ?_ (jC x v9) (.struct (Tryz.prog.fieldsOf 70)) ?_ underJrn rfl ?_ ?_); exact rfl; exact rfl; exact HRG.out; exact sizeJ)
  | ((with_reducible refine wpList_storeJ rfl rfl _ _ rfl g2 ?_ (s := x) (v := v9) ?_ hone HF.out.cr ?_); exact rfl; exact rfl; intro w11 h7 o7; have H7 := hid h7; have O7 := hid o7; clear h7 o7))
 refine ret_rowJ2 rfl g2 rfl rfl rfl H7.out ?_
 rw [show R = (0, some ⟨x, rs⟩) from HRR.out.symm.trans (HX.out.trans HQ.out)]
 exact ⟨v9, m9, rfl, (HRS.out.other7 H7.out O7.out HF.out.cr), HM9.out, below_tr HF.out.below (O7.out.below HF.out.below.size (fun i e => by have := HF.out.h1; omega))⟩
end Go.Proofs.YtdohmokhfajjpaaGreatDoor
