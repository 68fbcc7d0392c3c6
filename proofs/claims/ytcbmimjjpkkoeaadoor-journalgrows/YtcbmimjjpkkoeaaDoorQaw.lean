/- Texts laid into one: the remark ahead of each part says what is proved there. -/
import Derived.Test.YtcbmimjjpkkoeaaDoorQau
import Derived.Test.YtcbmimjjpkkoeaaDoorQav
import Derived.Deep.Cut
/- journal.Read. -/
namespace Go.Proofs.YtcbmimjjpkkoeaaDoor
open Go Go.RowKit

theorem rdJ_sign {L : List Nat} (h : L.length < 35 ∨ L.take 3 ≠ [83, 74, 49]) : rdJ dig L = (4, none) := by unfold rdJ; rw [if_pos h]
theorem rdJ_dig {L : List Nat} (h : ¬ (L.length < 35 ∨ L.take 3 ≠ [83, 74, 49])) (h2 : dig (L.take (L.length - 32)) ≠ L.drop (L.length - 32)) : rdJ dig L = (14, none) := by unfold rdJ; rw [if_neg h, if_pos h2]
theorem rdJ_mid {L : List Nat} (h : ¬ (L.length < 35 ∨ L.take 3 ≠ [83, 74, 49])) (h2 : ¬ dig (L.take (L.length - 32)) ≠ L.drop (L.length - 32)) : rdJ dig L = match rdMid ((L.take (L.length - 32)).drop 3) with | some j => if okJ j then (0, some j) else (4, none) | none => (4, none) := by unfold rdJ; rw [if_neg h, if_neg h2]; rfl
theorem rdMid_u1 {b : List Nat} (h : rdU b = none) : rdMid b = none := by unfold rdMid; rw [h]; rfl
theorem rdMid_u2 {b b1 : List Nat} {x : Nat} (h : rdU b = some (x, b1)) (h2 : rdU b1 = none) : rdMid b = none := by unfold rdMid; rw [h]; simp only [Option.bind_eq_bind, Option.bind_some]; rw [h2]; rfl
theorem rdMid_n {b b1 b2 : List Nat} {x n : Nat} (h : rdU b = some (x, b1)) (h2 : rdU b1 = some (n, b2)) (hn : 64 < n) : rdMid b = none := by unfold rdMid; rw [h]; simp only [Option.bind_eq_bind, Option.bind_some]; rw [h2]; simp only [Option.bind_some]; rw [if_pos hn]
theorem rdMid_r {b b1 b2 : List Nat} {x n : Nat} (h : rdU b = some (x, b1)) (h2 : rdU b1 = some (n, b2)) (hn : ¬ 64 < n) (h3 : rdRs n b2 = none) : rdMid b = none := by unfold rdMid; rw [h]; simp only [Option.bind_eq_bind, Option.bind_some]; rw [h2]; simp only [Option.bind_some]; rw [if_neg hn, h3]; rfl
theorem rdMid_e {b b1 b2 N : List Nat} {x n : Nat} {rs : List Rc} (h : rdU b = some (x, b1)) (h2 : rdU b1 = some (n, b2)) (hn : ¬ 64 < n) (h3 : rdRs n b2 = some (rs, N)) : rdMid b = if N = [] then some ⟨x, rs⟩ else none := by unfold rdMid; rw [h]; simp only [Option.bind_eq_bind, Option.bind_some]; rw [h2]; simp only [Option.bind_some]; rw [if_neg hn, h3]; rfl
theorem end_bad {b N : List Nat} {x : Nat} {rs : List Rc} (h : rdMid b = if N = [] then some ⟨x, rs⟩ else none) (hq : N ≠ [] ∨ okJ ⟨x, rs⟩ = false) : (match rdMid b with | some j => if okJ j then ((0 : Nat), some j) else (4, none) | none => (4, none)) = (4, none) := by
  rw [h]
  by_cases hN : N = []
  · rw [if_pos hN]
    have := hq.resolve_left (fun k => k hN)
    simp [this]
  · rw [if_neg hN]
theorem end_good {b N : List Nat} {x : Nat} {rs : List Rc} (h : rdMid b = if N = [] then some ⟨x, rs⟩ else none) (hq : ¬ (N ≠ [] ∨ okJ ⟨x, rs⟩ = false)) : (match rdMid b with | some j => if okJ j then ((0 : Nat), some j) else (4, none) | none => (4, none)) = (0, some ⟨x, rs⟩) := by
  have hN : N = [] := Classical.byContradiction fun k => hq (Or.inl k)
  have hj : okJ ⟨x, rs⟩ = true := by cases e : okJ ⟨x, rs⟩; exact absurd (Or.inr e) hq; rfl
  rw [h, if_pos hN]
  simp [hj]
theorem Rs.other7 {B : Nat} {w w' : World} {v : Value} {l : List Rp} {g : Nat} {C D : Array Value} (h : Rs B w v l) (_ : CAt w' g D 24) (ho : Only (fun b => b = g) w w') (hc : CAt w g C 24) : Rs B w' v l := by
  refine ⟨h.buf.keep fun b hv => ?_, fun x hx => ⟨(h.each x hx).ok, (h.each x hx).pl.other (by decide) hc ho⟩⟩
  rcases h.buf.2 with ⟨e, _⟩ | ⟨g', cap, cur, e, _, hg', _⟩
  · rw [e] at hv; cases hv
  · rw [e] at hv
    cases hv
    have h2 : CAt w g' cur 44 := hg'
    exact ho.block g' h2.lt (fun k => hc.apart h2 (by decide) k.symm)
theorem rC_one (po : Option Addr) (n c : Nat) (k s : Int) : (rC (.slice po n c) k s (.slice none 0 0)).all (·.oneCell') = true := by simp [rC, show ∀ q : Int, (i64 q).oneCell' = true from fun _ => rfl, show ∀ (a : Option Addr) (n c : Nat), (Value.slice a n c).oneCell' = true from fun _ _ _ => rfl]
theorem Rq.start {w w1 w2 w3 w4 : World} {g2 p : Nat} {po : Option Addr} {c : Nat} {L : List Nat} (hz1 : CAt w1 g2 (jC 0 (.slice none 0 0)) 24) (hb1 : Below w.heap.size w w1) (hg1 : w.heap.size = g2) (hb2 : Below w1.heap.size w1 w2) (hg2 : w1.heap.size = p) (hc3 : CAt w3 p (rC (.slice po L.length c) 0 0 (.slice none 0 0)) 61) (ho3 : Only (fun b => b = p) w2 w3)
    (hc4 : CAt w4 w3.heap.size lkC 64) (hb4 : Below w3.heap.size w3 w4) (h : BL w po L) (hc : L.length ≤ c) (hn : L.length ≤ 100000) (h8 : ∀ z ∈ L, z < 256) : Rq w g2 p w3.heap.size w4 ∧ RdC w4 p po L c 0 0 (.slice none 0 0) := by
  have hlt := hz1.lt
  have hs1 := hb1.size
  have hbw2 := below_on hb1 hb2
  have hbw3 := below_tr hbw2 (ho3.below hbw2.size (fun i e => by omega))
  have hbw4 := below_on hbw3 hb4
  refine ⟨⟨hbw4, ((hz1.below hb2).keep (ho3.block g2 (hz1.below hb2).lt (by omega))).below hb4, hc4, by omega, by omega, hc3.lt⟩, hc3.below hb4, h.below hbw4, fun hne a e => ?_, hc, hn, h8⟩
  rcases h with k | ⟨b, o, k, hk⟩
  · exact absurd k hne
  · rw [k] at e
    cases e
    have := cell_lt' (w := w) (a := ⟨b, o + 0, none⟩) (by rw [hk 0 (List.length_pos_iff.2 hne)]; simp)
    show b ≠ p
    have h9 : b < w.heap.size := this
    omega
theorem CAt.look {w : World} {g : Nat} {t : TypeId} (h : CAt w g lkC t) (k : Nat) (v : Value) (hv : lkC[k]? = some v) : w.cell? ⟨g, k, none⟩ = some v := by rw [h.cell, hv]
set_option maxRecDepth 100000 in
set_option maxHeartbeats 8000000 in
theorem jread_any (po : Option Addr) (c : Nat) (L : List Nat) (w : World) (a0 a1 : Addr) (h : BL w po L) (hc : L.length ≤ c) (hn : L.length ≤ 100000) (h8 : ∀ z ∈ L, z < 256) (he : Ers w a0 a1) : Calls Tryd.prog 9 #[.slice po L.length c] w (AddS w (rdJ dig L)) := by
  obtain ⟨R, hR⟩ : ∃ R, rdJ dig L = R := ⟨_, rfl⟩
  rw [hR]
  have HRR := hid hR
  have HER := hid (fun W (hW : Below w.heap.size w W) => he.below hW)
  have HBL := hid h
  have H8 := hid h8
  clear hR h he h8
  go_enter Tryd.func9, Tryd.ntmps9
  go_wp2_with (first
    | ((with_reducible refine wpList_allocJ rfl rfl ?_); intro w1 g2 hz1 hb1 hg1; have HZ1 := hid hz1; have HB1 := hid hb1; have HG1 := hid hg1; clear hz1 hb1 hg1)
    | ((with_reducible refine wpList_build_want 61 _ rfl ?_ (rC (.slice po L.length c) 0 0 (.slice none 0 0)) ?_ ?_); exact rfl; exact builtRd po L.length c)
    | ((with_reducible refine wpList_allocX 61 _ zeroRd rfl rfl ?_); intro w2 p hz2 hb2 hg2; have HZ2 := hid hz2; have HB2 := hid hb2; have HG2 := hid hg2; clear hz2 hb2 hg2)
    | ((with_reducible refine wpList_storeX 61 4 sizeRd rfl rfl _ _ rfl p ?_ (D := rC (.slice po L.length c) 0 0 (.slice none 0 0)) ?_ ?_ ?_ ?_ HZ2.out ?_); exact rfl; exact rfl; exact rfl; exact rfl; exact rC_one _ _ _ _ _; intro w3 h3 o3; have HC3 := hid h3; have HO3 := hid o3; clear h3 o3)
    | (go_at_call 28; refine (looks_any _).mono ?_; rintro e w4 ⟨rfl, hc4, hb4⟩; obtain ⟨hrq, hrd⟩ := Rq.start HZ1.out HB1.out HG1.out HB2.out HG2.out HC3.out HO3.out hc4 hb4 HBL.out hc hn H8.out; generalize w3.heap.size = gl at hrq ⊢; have HF := hid hrq; have HRD := hid hrd; have q0 := hrq.lk.look 0 _ rfl; clear hc4 hb4 hrq hrd HZ1 HB1 HG1 HZ2 HB2 HG2 HC3 HO3))
  have hne : ∀ (w : World) (a : Addr), (binOp .neq 66 (eV a) .nilIface).run Tryd.prog w = .ok (.bool true) w := fun w a => by kernel_rfl
  have hnn : ∀ (w : World), (binOp .neq 66 .nilIface .nilIface).run Tryd.prog w = .ok (.bool false) w := fun w => by kernel_rfl
  refine wp_loop_rounds 7 ?_
  rw [rounds_succ]
  have hC := sign_any p po L c 0 0 (.slice none 0 0) w4 a0 a1 HRD.out (HER.out _ HF.out.below)
  by_cases hsg : L.length < 35 ∨ L.take 3 ≠ [83, 74, 49]
  · rw [if_pos hsg] at hC
    have HC := hid hC
    clear hC
    go_wp2_with (first
      | (go_at_call 48; refine HC.out.mono ?_; rintro e w5 ⟨rfl, hb5⟩; replace HF := hid (HF.out.onP (Only.of_below hb5)); clear hb5)
      | (go_at_call 29; refine (told_form a0 a1 _ (HER.out _ HF.out.below)).mono ?_; rintro e wt ⟨rfl, hwt⟩; have hwt2 := hwt.symm; subst hwt2)
      | ((with_reducible refine wpList_build_want 24 _ rfl ?_ (jC 0 (.slice none 0 0)) ?_ ?_); exact rfl; exact builtZJ)
      | ((with_reducible refine wpList_storeJ rfl rfl _ _ rfl g2 ?_ (s := 0) (v := .slice none 0 0) ?_ rfl HF.out.cr ?_); exact rfl; exact rfl; intro w7 h7 o7; have H7 := hid h7; have O7 := hid o7; clear h7 o7))
    refine ret_rowJ2 rfl g2 rfl rfl rfl H7.out ?_
    rw [show R = (4, none) from HRR.out.symm.trans (rdJ_sign hsg)]
    exact ⟨rfl, below_tr HF.out.below (O7.out.below HF.out.below.size (fun i e => by have := HF.out.h1; omega))⟩
  rw [if_neg hsg] at hC
  have HC := hid hC
  clear hC
  go_wp2_with (go_at_call 48; refine HC.out.mono ?_; rintro e w5 ⟨rfl, hb5⟩; replace HF := hid (HF.out.onP (Only.of_below hb5)); replace HRD := hid (HRD.out.below hb5); clear hb5)
  clear HC
  rw [rounds_succ]
  have q1 := HF.out.lk.look 1 _ rfl
  have hl35 : 35 ≤ L.length := by rcases Nat.lt_or_ge L.length 35 with k | k; exact absurd (Or.inl k) hsg; exact k
  by_cases hdg : dig (L.take (L.length - 32)) ≠ L.drop (L.length - 32)
  · have HC := hid (digest_bad p po L c 0 0 (.slice none 0 0) w5 a0 a1 HRD.out (HER.out _ HF.out.below) hl35 hdg)
    have HX := hid (rdJ_dig hsg hdg)
    clear hsg hdg
    go_wp2_with (first
      | (go_at_call 49; refine HC.out.mono ?_; rintro e w6 ⟨rfl, hb5⟩; replace HF := hid (HF.out.onP (Only.of_below hb5)); clear hb5)
      | (go_at_call 29; refine (told_turned a0 a1 _ (HER.out _ HF.out.below)).mono ?_; rintro e wt ⟨rfl, hwt⟩; have hwt2 := hwt.symm; subst hwt2)
      | ((with_reducible refine wpList_build_want 24 _ rfl ?_ (jC 0 (.slice none 0 0)) ?_ ?_); exact rfl; exact builtZJ)
      | ((with_reducible refine wpList_storeJ rfl rfl _ _ rfl g2 ?_ (s := 0) (v := .slice none 0 0) ?_ rfl HF.out.cr ?_); exact rfl; exact rfl; intro w7 h7 o7; have H7 := hid h7; have O7 := hid o7; clear h7 o7))
    refine ret_rowJ2 rfl g2 rfl rfl rfl H7.out ?_
    rw [show R = (14, none) from HRR.out.symm.trans (HX.out)]
    exact ⟨rfl, below_tr HF.out.below (O7.out.below HF.out.below.size (fun i e => by have := HF.out.h1; omega))⟩
  have hC := digest_ok p po L c 0 0 (.slice none 0 0) w5 HRD.out hl35 (Classical.byContradiction hdg)
  have hX := rdJ_mid hsg hdg
  generalize (L.take (L.length - 32)).drop 3 = M at hC hX
  have HC := hid hC
  have HX := hid hX
  clear hC hX hsg hdg HRD
  go_wp2_with (go_at_call 49; refine HC.out.mono ?_; rintro e w6 ⟨rfl, ho5, p6, c6, hr5⟩; replace HF := hid (HF.out.onP ho5); have HRD := hid hr5; clear ho5 hr5)
  clear HC
  rw [rounds_succ]
  have q2 := HF.out.lk.look 2 _ rfl
  cases hu1 : rdU M with
  | none =>
    have HC := hid (readSeq_bad p p6 M c6 0 0 (.slice none 0 0) w6 a0 a1 HRD.out (HER.out _ HF.out.below) hu1)
    have HU1 := hid hu1
    clear hu1
    go_wp2_with (first
      | (go_at_call 50; refine HC.out.mono ?_; rintro e w7 ⟨rfl, hb5⟩; replace HF := hid (HF.out.onP (Only.of_below hb5)); clear hb5)
      | (go_at_call 29; refine (told_form a0 a1 _ (HER.out _ HF.out.below)).mono ?_; rintro e wt ⟨rfl, hwt⟩; have hwt2 := hwt.symm; subst hwt2)
      | ((with_reducible refine wpList_build_want 24 _ rfl ?_ (jC 0 (.slice none 0 0)) ?_ ?_); exact rfl; exact builtZJ)
      | ((with_reducible refine wpList_storeJ rfl rfl _ _ rfl g2 ?_ (s := 0) (v := .slice none 0 0) ?_ rfl HF.out.cr ?_); exact rfl; exact rfl; intro w7 h7 o7; have H7 := hid h7; have O7 := hid o7; clear h7 o7))
    refine ret_rowJ2 rfl g2 rfl rfl rfl H7.out ?_
    rw [show R = (4, none) from HRR.out.symm.trans (HX.out.trans (by rw [rdMid_u1 HU1.out]))]
    exact ⟨rfl, below_tr HF.out.below (O7.out.below HF.out.below.size (fun i e => by have := HF.out.h1; omega))⟩
  | some u1 =>
  obtain ⟨x, M1⟩ := u1
  have HC := hid (readSeq_ok p p6 M c6 0 0 (.slice none 0 0) w6 HRD.out x M1 hu1)
  have HU1 := hid hu1
  clear hu1 HRD
  go_wp2_with (go_at_call 50; refine HC.out.mono ?_; rintro e w7 ⟨rfl, ho5, p7, c7, hr5⟩; replace HF := hid (HF.out.onP ho5); have HRD := hid hr5; clear ho5 hr5)
  clear HC
  rw [rounds_succ]
  have q3 := HF.out.lk.look 3 _ rfl
  cases hu2 : rdU M1 with
  | none =>
    have HC := hid (readCount_bad p p7 M1 c7 0 x (.slice none 0 0) w7 a0 a1 HRD.out (HER.out _ HF.out.below) hu2)
    have HU2 := hid hu2
    clear hu2
    go_wp2_with (first
      | (go_at_call 51; refine HC.out.mono ?_; rintro e w8 ⟨rfl, hb5⟩; replace HF := hid (HF.out.onP (Only.of_below hb5)); clear hb5)
      | (go_at_call 29; refine (told_form a0 a1 _ (HER.out _ HF.out.below)).mono ?_; rintro e wt ⟨rfl, hwt⟩; have hwt2 := hwt.symm; subst hwt2)
      | ((with_reducible refine wpList_build_want 24 _ rfl ?_ (jC 0 (.slice none 0 0)) ?_ ?_); exact rfl; exact builtZJ)
      | ((with_reducible refine wpList_storeJ rfl rfl _ _ rfl g2 ?_ (s := 0) (v := .slice none 0 0) ?_ rfl HF.out.cr ?_); exact rfl; exact rfl; intro wz h7 o7; have H7 := hid h7; have O7 := hid o7; clear h7 o7))
    refine ret_rowJ2 rfl g2 rfl rfl rfl H7.out ?_
    rw [show R = (4, none) from HRR.out.symm.trans (HX.out.trans (by rw [rdMid_u2 HU1.out HU2.out]))]
    exact ⟨rfl, below_tr HF.out.below (O7.out.below HF.out.below.size (fun i e => by have := HF.out.h1; omega))⟩
  | some u2 =>
  obtain ⟨n, M2⟩ := u2
  have HC := hid (readCount_ok p p7 M1 c7 0 x (.slice none 0 0) w7 HRD.out n M2 hu2)
  have HU2 := hid hu2
  clear hu2 HRD
  go_wp2_with (go_at_call 51; refine HC.out.mono ?_; rintro e w8 ⟨rfl, ho5, p8, c8, hr5⟩; replace HF := hid (HF.out.onP ho5); have HRD := hid hr5; clear ho5 hr5)
  clear HC
  rw [rounds_succ]
  have q4 := HF.out.lk.look 4 _ rfl
  by_cases hn64 : 64 < n
  · have HC := hid (recs_many p p8 M2 c8 n x (.slice none 0 0) w8 a0 a1 HRD.out (HER.out _ HF.out.below) hn64)
    go_wp2_with (first
      | (go_at_call 52; refine HC.out.mono ?_; rintro e w9 ⟨rfl, hb5⟩; replace HF := hid (HF.out.onP (Only.of_below hb5)); clear hb5)
      | (go_at_call 29; refine (told_form a0 a1 _ (HER.out _ HF.out.below)).mono ?_; rintro e wt ⟨rfl, hwt⟩; have hwt2 := hwt.symm; subst hwt2)
      | ((with_reducible refine wpList_build_want 24 _ rfl ?_ (jC 0 (.slice none 0 0)) ?_ ?_); exact rfl; exact builtZJ)
      | ((with_reducible refine wpList_storeJ rfl rfl _ _ rfl g2 ?_ (s := 0) (v := .slice none 0 0) ?_ rfl HF.out.cr ?_); exact rfl; exact rfl; intro wz h7 o7; have H7 := hid h7; have O7 := hid o7; clear h7 o7))
    refine ret_rowJ2 rfl g2 rfl rfl rfl H7.out ?_
    rw [show R = (4, none) from HRR.out.symm.trans (HX.out.trans (by rw [rdMid_n HU1.out HU2.out hn64]))]
    exact ⟨rfl, below_tr HF.out.below (O7.out.below HF.out.below.size (fun i e => by have := HF.out.h1; omega))⟩
  have hC := recs_few p p8 M2 c8 n x w8 a0 a1 HRD.out (fun W hW => HER.out _ (HF.out.onP hW).below) (by omega)
  unfold RecsS at hC
  cases hr : rdRs n M2 with
  | none =>
    rw [hr] at hC
    have HC := hid hC
    have HR2 := hid hr
    clear hC hr
    go_wp2_with (first
      | (go_at_call 52; refine HC.out.mono ?_; rintro e w9 ⟨ho5, rfl⟩; replace HF := hid (HF.out.onP ho5); clear ho5)
      | (go_at_call 29; refine (told_form a0 a1 _ (HER.out _ HF.out.below)).mono ?_; rintro e wt ⟨rfl, hwt⟩; have hwt2 := hwt.symm; subst hwt2)
      | ((with_reducible refine wpList_build_want 24 _ rfl ?_ (jC 0 (.slice none 0 0)) ?_ ?_); exact rfl; exact builtZJ)
      | ((with_reducible refine wpList_storeJ rfl rfl _ _ rfl g2 ?_ (s := 0) (v := .slice none 0 0) ?_ rfl HF.out.cr ?_); exact rfl; exact rfl; intro wz h7 o7; have H7 := hid h7; have O7 := hid o7; clear h7 o7))
    refine ret_rowJ2 rfl g2 rfl rfl rfl H7.out ?_
    rw [show R = (4, none) from HRR.out.symm.trans (HX.out.trans (by rw [rdMid_r HU1.out HU2.out hn64 HR2.out]))]
    exact ⟨rfl, below_tr HF.out.below (O7.out.below HF.out.below.size (fun i e => by have := HF.out.h1; omega))⟩
  | some rn =>
  obtain ⟨rs, N⟩ := rn
  rw [hr] at hC
  have HC := hid hC
  have HR2 := hid hr
  have HR8 := hid HRD.out.b8
  clear hC hr HRD
  have HS8 := hid HF.out.below.size
  go_wp2_with (go_at_call 52; refine HC.out.mono ?_; rintro e w9 ⟨ho5, rfl, p9, c9, v9, m9, hr5, hs5, hm5⟩; replace HF := hid (HF.out.onP ho5); have HRD := hid hr5; have HRS := hid (hs5.base HS8.out); have HM9 := hid hm5; clear ho5 hr5 hs5 hm5)
  clear HC
  rw [rounds_succ]
  have q5 := HF.out.lk.look 5 _ rfl
  have hmid := rdMid_e HU1.out HU2.out hn64 HR2.out
  have hlen9 : m9.length ≤ 100000 := by
    have h1 := congrArg List.length HM9.out
    rw [rcs_len] at h1
    have h2 := (rdRs_some HR8.out HR2.out).2.1
    omega
  have hC := end_any p p9 N c9 n x v9 m9 w9 a0 a1 HRD.out (HRS.out.rl hlen9) (fun W hW => HER.out _ (below_on HF.out.below hW))
  rw [HM9.out] at hC
  by_cases hq : N ≠ [] ∨ okJ ⟨x, rs⟩ = false
  · rw [if_pos hq] at hC
    have HC := hid hC
    clear hC
    go_wp2_with (first
      | (go_at_call 53; refine HC.out.mono ?_; rintro e w10 ⟨rfl, hb5⟩; replace HF := hid (HF.out.onP (Only.of_below hb5)); clear hb5)
      | (go_at_call 29; refine (told_form a0 a1 _ (HER.out _ HF.out.below)).mono ?_; rintro e wt ⟨rfl, hwt⟩; have hwt2 := hwt.symm; subst hwt2)
      | ((with_reducible refine wpList_build_want 24 _ rfl ?_ (jC 0 (.slice none 0 0)) ?_ ?_); exact rfl; exact builtZJ)
      | ((with_reducible refine wpList_storeJ rfl rfl _ _ rfl g2 ?_ (s := 0) (v := .slice none 0 0) ?_ rfl HF.out.cr ?_); exact rfl; exact rfl; intro wz h7 o7; have H7 := hid h7; have O7 := hid o7; clear h7 o7))
    refine ret_rowJ2 rfl g2 rfl rfl rfl H7.out ?_
    rw [show R = (4, none) from HRR.out.symm.trans (HX.out.trans (end_bad hmid hq))]
    exact ⟨rfl, below_tr HF.out.below (O7.out.below HF.out.below.size (fun i e => by have := HF.out.h1; omega))⟩
  rw [if_neg hq] at hC
  have HC := hid hC
  have hone : v9.oneCell' = true := by obtain ⟨a, c, e, _⟩ := HRS.out.buf.form; rw [e]; rfl
  have HQ := hid (end_good hmid hq)
  have HMID := hid hmid
  clear hC hmid hq
  go_wp2_with (go_at_call 53; refine HC.out.mono ?_; rintro e w10 ⟨rfl, hb5⟩; replace HF := hid (HF.out.onP (Only.of_below hb5)); replace HRD := hid (HRD.out.below hb5); replace HRS := hid (HRS.out.below hb5); clear hb5)
  clear HC
  rw [rounds_succ]
  have HRG := hid (show ∀ j u, (jC x v9)[j]? = some u → w10.cell? ⟨p, 2 + j, none⟩ = some u from fun j u hu => by
    match j, hu with
    | 0, hu => simp [jC] at hu; subst hu; exact HRD.out.c2
    | 1, hu => simp [jC] at hu; subst hu; exact HRD.out.c3)
  go_wp2_with (first
    | ((with_reducible refine wpList_load_at 24 _ rfl ?_ p 2 ?_ (jC x v9) (.struct (Tryd.prog.fieldsOf 24)) ?_ underJrn rfl ?_ ?_); exact rfl; exact rfl; exact HRG.out; exact sizeJ)
    | ((with_reducible refine wpList_storeJ rfl rfl _ _ rfl g2 ?_ (s := x) (v := v9) ?_ hone HF.out.cr ?_); exact rfl; exact rfl; intro w11 h7 o7; have H7 := hid h7; have O7 := hid o7; clear h7 o7))
  refine ret_rowJ2 rfl g2 rfl rfl rfl H7.out ?_
  rw [show R = (0, some ⟨x, rs⟩) from HRR.out.symm.trans (HX.out.trans HQ.out)]
  exact ⟨v9, m9, rfl, (HRS.out.other7 H7.out O7.out HF.out.cr), HM9.out, below_tr HF.out.below (O7.out.below HF.out.below.size (fun i e => by have := HF.out.h1; omega))⟩
#print axioms jread_any
end Go.Proofs.YtcbmimjjpkkoeaaDoor

/- awake: the chapter's examples. -/
namespace Go.Proofs.YtcbmimjjpkkoeaaDoor
open Go Go.RowKit

/-- One record, at a moment. -/
theorem one_of {w : World} {v : Value} {m : List Rp} {t : Int} (h : RL w v m) (e : rcs m = [mkN t]) : ∃ b o c, v = .slice (some ⟨b, o, none⟩) 1 c ∧ w.cell? ⟨b, o + 1, none⟩ = some (i64 t) := by
  match m, e with
  | [], e => cases e
  | _ :: _ :: _, e => simp [rcs] at e
  | [y], e =>
    have hy : y.rc = mkN t := by simpa [rcs] using e
    obtain ⟨po, c, hv, _, _, _, hc, heach⟩ := h
    rcases hc with hc | ⟨b, o, rfl, hc⟩
    · cases hc
    · refine ⟨b, o, c, hv, ?_⟩
      have h1 := hc 0 y rfl 1 (i64 y.r.time) (by rw [y.r.get8 1 (by omega)]; rfl)
      have h2 : y.r.time = t := by have := congrArg Rc.time hy; exact this
      rw [h2] at h1
      simpa using h1
/-- What is carried through awake. -/
structure Aw (w : World) (a0 a1 : Addr) (W : World) : Prop where
  below : Below w.heap.size w W
  er : Ers W a0 a1
theorem Aw.on {w W W' : World} {a0 a1 : Addr} (h : Aw w a0 a1 W) (hb : Below W.heap.size W W') : Aw w a0 a1 W' := ⟨below_on h.below hb, h.er.below hb⟩
theorem ownJ {w w1 w2 : World} {g : Nat} (hb : Below w.heap.size w w1) (hg : w.heap.size = g) (ho : Only (fun b => b = g) w1 w2) : Below w.heap.size w w2 := below_tr hb (ho.below hb.size (fun i e => by omega))
set_option maxRecDepth 10000 in
theorem one_byte : ∀ z ∈ jB dig oneJ, z < 256 := fun z hz => by
  unfold jB at hz
  rw [one_body] at hz
  rcases List.mem_append.1 hz with hz | hz
  · revert z; decide
  · exact dig_lt _ z hz
set_option maxRecDepth 100000 in
set_option maxHeartbeats 4000000 in
theorem awake8_any (a0 a1 : Addr) (w : World) (he : Ers w a0 a1) : Calls Tryd.prog 6 #[] w fun e w' => e = .returned (.bool true) ∧ Below w.heap.size w w' := by
  have HONE := hid (fun w => one8_any w)
  have HBY : Hid (∀ W g, RL W (.slice (some ⟨g, 0, none⟩) 1 1) [xM 5] → Calls Tryd.prog 8 #[.agg (jC 1 (.slice (some ⟨g, 0, none⟩) 1 1))] W (BytE W (jB dig oneJ))) := hid fun W g h => by
    have := jbytes_ok 1 _ [xM 5] W h (by rw [rcs_one]; exact one_ok)
    rw [rcs_one] at this
    exact this
  have HSM : Hid (∀ W g v m, RL W v m → RL W (.slice (some ⟨g, 0, none⟩) 1 1) [xM 5] → rcs m = [mkN 5] → Calls Tryd.prog 10 #[.agg (jC 1 v), .agg (jC 1 (.slice (some ⟨g, 0, none⟩) 1 1))] W fun e w' => e = .returned (.bool true) ∧ Below W.heap.size W w') := hid fun W g v m h1 h2 e => by
    have := jsame_any 1 1 v _ m [xM 5] W h1 h2
    rw [e, rcs_one, decide_eq_true rfl] at this
    exact this
  have HAD : Hid (∀ W g, RL W (.slice (some ⟨g, 0, none⟩) 1 1) [xM 5] → Calls Tryd.prog 15 #[.agg (jC 1 (.slice (some ⟨g, 0, none⟩) 1 1)), .agg (xM 9).r.cs] W (JouE W 2 [mkN 9])) := hid fun W g h => by
    have := add_any 1 _ [xM 5] (xM 9) W h (xM_at 9 W)
    rw [rcs_one, xM_rc, show (⟨1, [mkN 5]⟩ : Jr) = oneJ from rfl, one_add] at this
    exact this
  have HMK := hid (fun w => mark8_any 9 w)
  unfold One1 at HONE
  generalize xM 5 = X5 at HONE HBY HSM HAD
  generalize (xM 9).r.cs = C9 at HAD HMK
  obtain ⟨L, hL⟩ : ∃ L, jB dig oneJ = L := ⟨_, rfl⟩
  have hl44 : L.length = 44 := by rw [← hL]; exact one_len
  have HRD : Hid (∀ W po c, BL W po L → 44 ≤ c → Ers W a0 a1 → Calls Tryd.prog 9 #[.slice po 44 c] W (JouE W 1 [mkN 5])) := hid fun W po c h1 h2 h3 => by
    have := jread_any po c L W a0 a1 h1 (by omega) (by omega) (by rw [← hL]; exact one_byte) h3
    rw [← hL, one_back, hL, hl44] at this
    exact this
  rw [hL] at HBY
  have HL44 := hid hl44
  have HF : Hid (Aw w a0 a1 w) := hid ⟨Below.refl _ _, he⟩
  clear hL hl44 he
  have T1 : Hid True := hid trivial
  have T2 : Hid True := hid trivial
  have T3 : Hid True := hid trivial
  have T4 : Hid True := hid trivial
  go_enter Tryd.func6, Tryd.ntmps6
  go_wp2_with (first
    | (clear T1; go_at_call 22; refine (HONE.out _).mono ?_; rintro e w1 ⟨g1, rfl, hr1, hb1⟩; replace HF := hid (HF.out.on hb1); have HR1 := hid hr1; clear hr1 hb1)
    | (go_at_call 8; refine (HBY.out _ g1 HR1.out).mono ?_; rintro e w2 ⟨v2, rfl, hbf2, hb2⟩; replace HF := hid (HF.out.on hb2); obtain ⟨p2, c2, hv2⟩ := hbf2.form; subst hv2; have hcap := hbf2.cap.2; have HBL2 := hid hbf2.bl; rw [HL44.out] at hcap; rw [HL44.out]; clear hbf2 hb2)
    | (go_at_call 9; refine (HRD.out _ p2 c2 HBL2.out hcap HF.out.er).mono ?_; rintro e w3 ⟨v3, m3, rfl, hr3, he3, hb3⟩; replace HF := hid (HF.out.on hb3); have HR3 := hid hr3; have HE3 := hid he3; have hv3 : v3.oneCell' = true := (by obtain ⟨a, c, e, _⟩ := hr3.buf.form; rw [e]; rfl); clear hr3 he3 hb3)
    | (clear T2; (with_reducible refine wpList_allocJ rfl rfl ?_); intro w4 g4 hz4 hb4 hg4; have HZ4 := hid hz4; have HB4 := hid hb4; have HG4 := hid hg4; clear hz4 hb4 hg4)
    | (clear T3; (with_reducible refine wpList_storeJ rfl rfl _ _ rfl g4 ?_ (s := 1) (v := v3) ?_ hv3 HZ4.out ?_); exact rfl; exact rfl; intro w5 h5 o5; have hb5 := ownJ HB4.out HG4.out o5; replace HF := hid (HF.out.on hb5); replace HR3 := hid (HR3.out.below hb5); have HC5 := hid h5; clear h5 o5 hb5 HZ4 HB4 HG4)
    | (clear T4; go_at_call 22; refine (HONE.out _).mono ?_; rintro e w6 ⟨g6, rfl, hr6, hb6⟩; replace HF := hid (HF.out.on hb6); replace HR3 := hid (HR3.out.below hb6); replace HC5 := hid (HC5.out.below hb6); have HR6 := hid hr6; clear hr6 hb6)
    | (go_at_call 23; refine (HMK.out _).mono ?_; rintro e w7 ⟨rfl, hb7⟩; replace HF := hid (HF.out.on hb7); replace HR3 := hid (HR3.out.below hb7); replace HC5 := hid (HC5.out.below hb7); replace HR6 := hid (HR6.out.below hb7); clear hb7)
    | (go_at_call 15; refine (HAD.out _ g6 HR6.out).mono ?_; rintro e w8 ⟨v8, m8, rfl, hr8, he8, hb8⟩; replace HF := hid (HF.out.on hb8); replace HR3 := hid (HR3.out.below hb8); replace HC5 := hid (HC5.out.below hb8); have HR8 := hid hr8; have HE8 := hid he8; have hv8 : v8.oneCell' = true := (by obtain ⟨a, c, e, _⟩ := hr8.buf.form; rw [e]; rfl); clear hr8 he8 hb8)
    | ((with_reducible refine wpList_allocJ rfl rfl ?_); intro w9 g9 hz9 hb9 hg9; have HZ9 := hid hz9; have HB9 := hid hb9; have HG9 := hid hg9; clear hz9 hb9 hg9)
    | ((with_reducible refine wpList_storeJ rfl rfl _ _ rfl g9 ?_ (s := 2) (v := v8) ?_ hv8 HZ9.out ?_); exact rfl; exact rfl; intro w10 h10 o10; have hb10 := ownJ HB9.out HG9.out o10; replace HF := hid (HF.out.on hb10); replace HR3 := hid (HR3.out.below hb10); replace HC5 := hid (HC5.out.below hb10); replace HR8 := hid (HR8.out.below hb10); have HC10 := hid h10; clear h10 o10 hb10 HZ9 HB9 HG9))
  have hm3 : m3.length ≤ 100000 := by have := congrArg List.length HE3.out; rw [rcs_len] at this; rw [this]; decide
  have hm8 : m8.length ≤ 100000 := by have := congrArg List.length HE8.out; rw [rcs_len] at this; rw [this]; decide
  have HL3 := hid (HR3.out.rl hm3)
  obtain ⟨b8, o8, c8, hv8e, ht8⟩ := one_of (HR8.out.rl hm8) HE8.out
  subst hv8e
  obtain ⟨p3, n3, c3, hv3e⟩ : ∃ p n c, v3 = .slice p n c := by obtain ⟨a, c, e, _⟩ := HR3.out.buf.form; exact ⟨a, _, c, e⟩
  subst hv3e
  have HT8 := hid ht8
  have HK := hid (show ∀ W, Below w10.heap.size w10 W → W.cell? ⟨g4, 0, none⟩ = some (i64 1) ∧ W.cell? ⟨g4, 1, none⟩ = some (.slice p3 n3 c3) ∧ W.cell? ⟨g9, 0, none⟩ = some (i64 2) ∧ W.cell? ⟨g9, 1, none⟩ = some (.slice (some ⟨b8, o8, none⟩) 1 c8) ∧ W.cell? ⟨b8, o8 + 1, none⟩ = some (i64 9) from fun W hW => ⟨(HC5.out.below hW).j0, (HC5.out.below hW).j1, (HC10.out.below hW).j0, (HC10.out.below hW).j1, (World.cell?_of_block (a := ⟨b8, o8 + 1, none⟩) (hW.block b8 (cell_lt' (w := w10) (a := ⟨b8, o8 + 1, none⟩) (by rw [HT8.out]; simp)))).trans HT8.out⟩)
  have HD := hid (below_drew w10)
  clear ht8
  go_region_held3 (fun W => W.cell? ⟨g4, 0, none⟩ = some (i64 1) ∧ W.cell? ⟨g4, 1, none⟩ = some (.slice p3 n3 c3) ∧ W.cell? ⟨g9, 0, none⟩ = some (i64 2) ∧ W.cell? ⟨g9, 1, none⟩ = some (.slice (some ⟨b8, o8, none⟩) 1 c8) ∧ W.cell? ⟨b8, o8 + 1, none⟩ = some (i64 9)) (first | with_reducible exact HK.out _ HD.out | with_reducible exact HK.out _ HB12.out | with_reducible exact HK.out _ HB11.out) (first
    | (go_at_call 22; refine (HONE.out _).mono ?_; rintro e w11 ⟨g11, rfl, hr11, hb11⟩; have HB11 := hid (below_on HD.out hb11); have HR11 := hid hr11)
    | (go_at_call 10; refine (HSM.out _ g11 _ m3 (HL3.out.below HB11.out) HR11.out HE3.out).mono ?_; rintro e w12 ⟨rfl, hb12⟩; have HB12 := hid (below_on HB11.out hb12)))
  go_wp2
  go_ret
  exact ⟨rfl, below_on HF.out.below HB12.out⟩
#print axioms awake8_any
end Go.Proofs.YtcbmimjjpkkoeaaDoor

/- JournalKnown. -/
namespace Go.Proofs.YtcbmimjjpkkoeaaDoor
open Go Go.RowKit

/-- What is carried: journals in variables, bytes of the call's own. -/
structure Kn (w : World) (js : List (Nat × Int × Value)) (bs : List (Value × List Nat)) (W : World) : Prop where
  below : Below w.heap.size w W
  cj : ∀ q ∈ js, CAt W q.1 (jC q.2.1 q.2.2) 24
  cb : ∀ q ∈ bs, Buf w.heap.size W q.1 q.2
theorem Kn.on {w W W' : World} {js : List (Nat × Int × Value)} {bs : List (Value × List Nat)} (h : Kn w js bs W) (hb : Below W.heap.size W W') : Kn w js bs W' := ⟨below_on h.below hb, fun q hq => (h.cj q hq).below hb, fun q hq => (h.cb q hq).below hb⟩
theorem Kn.addJ {w W : World} {js : List (Nat × Int × Value)} {bs : List (Value × List Nat)} (h : Kn w js bs W) {g : Nat} {s : Int} {v : Value} (hc : CAt W g (jC s v) 24) : Kn w ((g, s, v) :: js) bs W := ⟨h.below, fun q hq => by rcases List.mem_cons.1 hq with rfl | hq; exact hc; exact h.cj q hq, h.cb⟩
theorem Buf.set {B : Nat} {w : World} {po : Option Addr} {n c : Nat} {L : List Nat} (h : Buf B w (.slice po n c) L) {i : Nat} (hi : i < L.length) (k : Nat) : ∃ g, po = some ⟨g, 0, none⟩ ∧ B ≤ g ∧ w.cell? ⟨g, i, none⟩ = some (u8 (L.getD i 0)) ∧ w.frozen? ⟨g, i, none⟩ = false ∧ Buf B (w.setCell ⟨g, i, none⟩ (u8 k)) (.slice po n c) (L.set i k) := by
  rcases h.2 with ⟨e, h0⟩ | ⟨g, cap, cur, e, hB, hg, h1, hm, h3, h4⟩
  · omega
  cases e
  have hc : CAt w g cur 5 := hg
  refine ⟨g, rfl, hB, ?_, hc.free _, by simp, Or.inr ⟨g, c, _, by rw [List.length_set], hB, hc.set i (u8 k), by rw [List.length_set]; exact h1, hm, by simp; omega, ?_⟩⟩
  · have := congrArg (·[i]?) h4
    simp [hi] at this
    rw [hc.cell, this]
    simp [u8, List.getD, List.getElem?_eq_getElem hi]
  · rw [Array.toList_setIfInBounds, List.length_set, List.take_set, h4, List.map_set]
theorem rep_bl (w : World) (n : Nat) : BL (w.alloc (.cells (madeCells #[.int .u8 0] n) 5)) (some ⟨w.heap.size, 0, none⟩) (List.replicate n 0) := Or.inr ⟨_, _, rfl, fun i hi => by
  rw [List.length_replicate] at hi
  have h := heap_alloc_new w (.cells (madeCells #[.int .u8 0] n) 5)
  simp only [World.cell?, h, Nat.zero_add]
  rw [madeCells_get _ n i hi]
  simp [u8, List.getD, hi]⟩
theorem zero_ok : okJ ⟨2, []⟩ = true := by decide +kernel
theorem zero_no : okJ ⟨0, []⟩ = false := by decide +kernel
theorem null_lst : lst ⟨#[110, 117, 108, 108]⟩ = [110, 117, 108, 108] := rfl
theorem x_lst : lst ⟨#[120]⟩ = [120] := rfl
theorem rem_null {W : World} {v : Value} {X : Rp} (h : RL W v [X]) (hX : rcs [X] = [mkN 5]) : Calls Tryd.prog 20 #[.agg (jC 1 v), .string ⟨#[110, 117, 108, 108]⟩] W (JouE W 2 []) := by
  have h1 : atI (rcs [X]) (lst ⟨#[110, 117, 108, 108]⟩) = some 0 := by rw [hX, null_lst]; decide +kernel
  have := rem_ok 1 v [X] ⟨#[110, 117, 108, 108]⟩ W h (by rw [hX]; exact one_ok) 0 h1 X rfl (by omega) (by omega)
  rw [hX, null_lst, show wout [mkN 5] [110, 117, 108, 108] = [] by decide +kernel] at this
  exact this
theorem rem_x {W : World} {v : Value} {X : Rp} (h : RL W v [X]) (hX : rcs [X] = [mkN 5]) : Calls Tryd.prog 20 #[.agg (jC 1 v), .string ⟨#[120]⟩] W fun e w' => e = .returned (.tuple #[.agg (jC 0 (.slice none 0 0)), i64 6]) ∧ Below W.heap.size W w' :=
  rem_miss 1 v [X] ⟨#[120]⟩ W h (by rw [hX]; exact one_ok) (by rw [hX, x_lst]; decide +kernel)
theorem read_none {po : Option Addr} {c : Nat} {L : List Nat} {W : World} {a0 a1 : Addr} {er n : Nat} (hn : L.length = n) (h : BL W po L) (hc : n ≤ c) (hl : n ≤ 100000) (h8 : ∀ z ∈ L, z < 256) (he : Ers W a0 a1) (hr : rdJ dig L = (er, none)) : Calls Tryd.prog 9 #[.slice po n c] W fun e w' => e = .returned (.tuple #[.agg (jC 0 (.slice none 0 0)), i64 er]) ∧ Below W.heap.size W w' := by
  have := jread_any po c L W a0 a1 h (by omega) (by omega) h8 he
  rw [hr, hn] at this
  exact this
theorem add_first {W : World} (hX : (xM 1).rc = mkN 1) : Calls Tryd.prog 15 #[.agg (jC 0 (.slice none 0 0)), .agg (xM 1).r.cs] W (JouE W 1 [mkN 1]) := by
  have := add_any 0 _ [] (xM 1) W (RL.nil W) (xM_at 1 W)
  rw [hX, show (⟨0, rcs []⟩ : Jr) = ⟨0, []⟩ from rfl, zero_add] at this
  exact this
#print axioms Buf.set
end Go.Proofs.YtcbmimjjpkkoeaaDoor

/- JournalBack: what is carried; early ends. -/
namespace Go.Proofs.YtcbmimjjpkkoeaaDoor
open Go Go.RowKit

/-- Two journals in boxes. -/
structure Bk (w : World) (ga gc : Nat) (sa sc : Int) (va vc : Value) (W : World) : Prop where
  below : Below w.heap.size w W
  ca : CAt W ga (jC sa va) 24
  cc : CAt W gc (jC sc vc) 24
theorem Bk.on {w W W' : World} {ga gc : Nat} {sa sc : Int} {va vc : Value} (h : Bk w ga gc sa sc va vc W) (hb : Below W.heap.size W W') : Bk w ga gc sa sc va vc W' := ⟨below_on h.below hb, h.ca.below hb, h.cc.below hb⟩
theorem Buf.room {B : Nat} {w : World} {n c : Nat} {L : List Nat} (h : Buf B w (.slice none n c) L) : c = 0 := by
  rcases h.2 with ⟨e, h0⟩ | ⟨g, cap, cur, e, _⟩
  · cases e; rfl
  · cases e
theorem IsJ.form {w : World} {v : Value} {l : List Rp} (h : IsJ w v l) : ∃ p n c, v = .slice p n c := by obtain ⟨p, c, e, _⟩ := h; exact ⟨p, _, c, e⟩
/-- Read, by its error's number. -/
theorem read_code (po : Option Addr) (c : Nat) (L : List Nat) (w : World) (a0 a1 : Addr) (h : BL w po L) (hc : L.length ≤ c) (hn : L.length ≤ 100000) (h8 : ∀ z ∈ L, z < 256) (he : Ers w a0 a1) : Calls Tryd.prog 9 #[.slice po L.length c] w fun e w' => ∃ s v, e = .returned (.tuple #[.agg (jC s v), i64 (rdJ dig L).1]) ∧ v.oneCell' = true ∧ Below w.heap.size w w' := by
  refine (jread_any po c L w a0 a1 h hc hn h8 he).mono fun e w' hA => ?_
  unfold AddS at hA
  cases hj : (rdJ dig L).2 with
  | none => rw [hj] at hA; obtain ⟨rfl, hb⟩ := hA; exact ⟨_, _, rfl, rfl, hb⟩
  | some j =>
    rw [hj] at hA
    obtain ⟨v, m, rfl, hr, _, hb⟩ := hA
    have e0 : (rdJ dig L).1 = 0 := (rdJ_some h8 (show rdJ dig L = ((rdJ dig L).1, some j) by rw [← hj])).1
    refine ⟨_, v, by rw [e0]; rfl, ?_, hb⟩
    obtain ⟨a, c, e, _⟩ := hr.buf.form; rw [e]; rfl
set_option maxRecDepth 100000 in
set_option maxHeartbeats 1000000 in
theorem jback_big0 (a0 a1 : Addr) (sa sc : Int) (va vc : Value) (la lc : List Rp) (at_ : Int) (mask : Nat) (cut : Int) (w : World) (he : Ers w a0 a1) (ja : IsJ w va la) (jc : IsJ w vc lc) (ba : bigJ la = true) : Calls Tryd.prog 3 #[.agg (jC sa va), .agg (jC sc vc), i64 at_, u8 mask, i64 cut] w fun e w' => e = .returned (.bool true) ∧ Below w.heap.size w w' := by
  have HAW := hid (fun W (hW : Below w.heap.size w W) => awake8_any a0 a1 W (he.below hW))
  have HLa : Hid (∀ W, Below w.heap.size w W → Calls Tryd.prog 7 #[.agg (jC sa va)] W fun e w' => e = .returned (.bool true) ∧ Below W.heap.size W w') := hid (fun W hW => by have := Large_any sa va la W (ja.below hW); rw [ba] at this; exact this)
  have T1 : Hid True := hid trivial
  have T2 : Hid True := hid trivial
  obtain ⟨pa, na, ca, rfl⟩ := ja.form
  obtain ⟨pc, nc, cc, rfl⟩ := jc.form
  clear he ja jc
  go_enter Tryd.func3, Tryd.ntmps3
  go_wp2_with (first
    | (clear T1; (with_reducible refine wpList_boxT 24 rfl _ rfl (jC sa (.slice pa na ca)) ?_ ?_); exact rfl; intro w1 ga hc1 hb1 hg1; have HC1 := hid hc1; have HB1 := hid hb1; clear hc1 hb1)
    | (clear T2; (with_reducible refine wpList_boxT 24 rfl _ rfl (jC sc (.slice pc nc cc)) ?_ ?_); exact rfl; intro w2 gc hc2 hb2 hg2; have HT : Hid (Bk w ga gc sa sc (.slice pa na ca) (.slice pc nc cc) w2) := hid ⟨below_on HB1.out hb2, HC1.out.below hb2, hc2⟩; clear hc2 hb2 HC1 HB1)
    | (go_at_call 6; (with_reducible refine (HAW.out _ HT.out.below).mono ?_); rintro e w3 ⟨rfl, hb3⟩; replace HT := hid (HT.out.on hb3); clear hb3)
    | ((with_reducible refine wpList_load_at 24 _ rfl ?_ ga 0 ?_ (jC sa (.slice pa na ca)) (.struct (Tryd.prog.fieldsOf 24)) ?_ underJrn rfl ?_ ?_); exact rfl; exact rfl; exact (HT.out).ca.wholeJ; exact sizeJ)
    | (go_at_call 7; (with_reducible refine (HLa.out _ HT.out.below).mono ?_); rintro e w4 ⟨rfl, hb4⟩; replace HT := hid (HT.out.on hb4); clear hb4 HLa))
  go_ret
  exact ⟨rfl, HT.out.below⟩
set_option maxRecDepth 100000 in
set_option maxHeartbeats 1000000 in
theorem jback_big1 (a0 a1 : Addr) (sa sc : Int) (va vc : Value) (la lc : List Rp) (at_ : Int) (mask : Nat) (cut : Int) (w : World) (he : Ers w a0 a1) (ja : IsJ w va la) (jc : IsJ w vc lc) (ba : bigJ la = false) (bc : bigJ lc = true) : Calls Tryd.prog 3 #[.agg (jC sa va), .agg (jC sc vc), i64 at_, u8 mask, i64 cut] w fun e w' => e = .returned (.bool true) ∧ Below w.heap.size w w' := by
  have HAW := hid (fun W (hW : Below w.heap.size w W) => awake8_any a0 a1 W (he.below hW))
  have HLa : Hid (∀ W, Below w.heap.size w W → Calls Tryd.prog 7 #[.agg (jC sa va)] W fun e w' => e = .returned (.bool false) ∧ Below W.heap.size W w') := hid (fun W hW => by have := Large_any sa va la W (ja.below hW); rw [ba] at this; exact this)
  have HLc : Hid (∀ W, Below w.heap.size w W → Calls Tryd.prog 7 #[.agg (jC sc vc)] W fun e w' => e = .returned (.bool true) ∧ Below W.heap.size W w') := hid (fun W hW => by have := Large_any sc vc lc W (jc.below hW); rw [bc] at this; exact this)
  have T1 : Hid True := hid trivial
  have T2 : Hid True := hid trivial
  obtain ⟨pa, na, ca, rfl⟩ := ja.form
  obtain ⟨pc, nc, cc, rfl⟩ := jc.form
  clear he ja jc
  go_enter Tryd.func3, Tryd.ntmps3
  go_wp2_with (first
    | (clear T1; (with_reducible refine wpList_boxT 24 rfl _ rfl (jC sa (.slice pa na ca)) ?_ ?_); exact rfl; intro w1 ga hc1 hb1 hg1; have HC1 := hid hc1; have HB1 := hid hb1; clear hc1 hb1)
    | (clear T2; (with_reducible refine wpList_boxT 24 rfl _ rfl (jC sc (.slice pc nc cc)) ?_ ?_); exact rfl; intro w2 gc hc2 hb2 hg2; have HT : Hid (Bk w ga gc sa sc (.slice pa na ca) (.slice pc nc cc) w2) := hid ⟨below_on HB1.out hb2, HC1.out.below hb2, hc2⟩; clear hc2 hb2 HC1 HB1)
    | (go_at_call 6; (with_reducible refine (HAW.out _ HT.out.below).mono ?_); rintro e w3 ⟨rfl, hb3⟩; replace HT := hid (HT.out.on hb3); clear hb3)
    | ((with_reducible refine wpList_load_at 24 _ rfl ?_ ga 0 ?_ (jC sa (.slice pa na ca)) (.struct (Tryd.prog.fieldsOf 24)) ?_ underJrn rfl ?_ ?_); exact rfl; exact rfl; exact (HT.out).ca.wholeJ; exact sizeJ)
    | ((with_reducible refine wpList_load_at 24 _ rfl ?_ gc 0 ?_ (jC sc (.slice pc nc cc)) (.struct (Tryd.prog.fieldsOf 24)) ?_ underJrn rfl ?_ ?_); exact rfl; exact rfl; exact (HT.out).cc.wholeJ; exact sizeJ)
    | (go_at_call 7; (with_reducible refine (HLa.out _ HT.out.below).mono ?_); rintro e w4 ⟨rfl, hb4⟩; replace HT := hid (HT.out.on hb4); clear hb4 HLa)
    | (go_at_call 7; (with_reducible refine (HLc.out _ HT.out.below).mono ?_); rintro e w5 ⟨rfl, hb5⟩; replace HT := hid (HT.out.on hb5); clear hb5 HLc))
  go_ret
  exact ⟨rfl, HT.out.below⟩
set_option maxRecDepth 100000 in
set_option maxHeartbeats 1000000 in
theorem jback_bad (a0 a1 : Addr) (sa sc : Int) (va vc : Value) (la lc : List Rp) (at_ : Int) (mask : Nat) (cut : Int) (w : World) (he : Ers w a0 a1) (ja : IsJ w va la) (jc : IsJ w vc lc) (ba : bigJ la = false) (bc : bigJ lc = false) (oa : okJ ⟨sa, rcs la⟩ = false) : Calls Tryd.prog 3 #[.agg (jC sa va), .agg (jC sc vc), i64 at_, u8 mask, i64 cut] w fun e w' => e = .returned (.bool true) ∧ Below w.heap.size w w' := by
  have HAW := hid (fun W (hW : Below w.heap.size w W) => awake8_any a0 a1 W (he.below hW))
  have HLa : Hid (∀ W, Below w.heap.size w W → Calls Tryd.prog 7 #[.agg (jC sa va)] W fun e w' => e = .returned (.bool false) ∧ Below W.heap.size W w') := hid (fun W hW => by have := Large_any sa va la W (ja.below hW); rw [ba] at this; exact this)
  have HLc : Hid (∀ W, Below w.heap.size w W → Calls Tryd.prog 7 #[.agg (jC sc vc)] W fun e w' => e = .returned (.bool false) ∧ Below W.heap.size W w') := hid (fun W hW => by have := Large_any sc vc lc W (jc.below hW); rw [bc] at this; exact this)
  have HBA := hid (fun W (hW : Below w.heap.size w W) => jbytes_bad sa va la W ((ja.rl ba).below hW) oa)
  have T1 : Hid True := hid trivial
  have T2 : Hid True := hid trivial
  obtain ⟨pa, na, ca, rfl⟩ := ja.form
  obtain ⟨pc, nc, cc, rfl⟩ := jc.form
  clear he ja jc
  go_enter Tryd.func3, Tryd.ntmps3
  go_wp2_with (first
    | (clear T1; (with_reducible refine wpList_boxT 24 rfl _ rfl (jC sa (.slice pa na ca)) ?_ ?_); exact rfl; intro w1 ga hc1 hb1 hg1; have HC1 := hid hc1; have HB1 := hid hb1; clear hc1 hb1)
    | (clear T2; (with_reducible refine wpList_boxT 24 rfl _ rfl (jC sc (.slice pc nc cc)) ?_ ?_); exact rfl; intro w2 gc hc2 hb2 hg2; have HT : Hid (Bk w ga gc sa sc (.slice pa na ca) (.slice pc nc cc) w2) := hid ⟨below_on HB1.out hb2, HC1.out.below hb2, hc2⟩; clear hc2 hb2 HC1 HB1)
    | (go_at_call 6; (with_reducible refine (HAW.out _ HT.out.below).mono ?_); rintro e w3 ⟨rfl, hb3⟩; replace HT := hid (HT.out.on hb3); clear hb3)
    | ((with_reducible refine wpList_load_at 24 _ rfl ?_ ga 0 ?_ (jC sa (.slice pa na ca)) (.struct (Tryd.prog.fieldsOf 24)) ?_ underJrn rfl ?_ ?_); exact rfl; exact rfl; exact (HT.out).ca.wholeJ; exact sizeJ)
    | ((with_reducible refine wpList_load_at 24 _ rfl ?_ gc 0 ?_ (jC sc (.slice pc nc cc)) (.struct (Tryd.prog.fieldsOf 24)) ?_ underJrn rfl ?_ ?_); exact rfl; exact rfl; exact (HT.out).cc.wholeJ; exact sizeJ)
    | (go_at_call 7; (with_reducible refine (HLa.out _ HT.out.below).mono ?_); rintro e w4 ⟨rfl, hb4⟩; replace HT := hid (HT.out.on hb4); clear hb4 HLa)
    | (go_at_call 7; (with_reducible refine (HLc.out _ HT.out.below).mono ?_); rintro e w5 ⟨rfl, hb5⟩; replace HT := hid (HT.out.on hb5); clear hb5 HLc)
    | (go_at_call 8; (with_reducible refine (HBA.out _ HT.out.below).mono ?_); rintro e w6 ⟨rfl, hb6⟩; replace HT := hid (HT.out.on hb6); clear hb6))
  go_ret
  exact ⟨rfl, HT.out.below⟩
#print axioms jback_bad
end Go.Proofs.YtcbmimjjpkkoeaaDoor

/- JournalBack: loading a journal. -/
namespace Go.Proofs.YtcbmimjjpkkoeaaDoor
open Go Go.RowKit

theorem run_loadJ {w : World} {g : Nat} {s : Int} {v : Value} (h : CAt w g (jC s v) 24) : (Instr.loadAt 24 (.pointer (some ⟨g, 0, none⟩))).run Tryd.prog w = .ok (.agg (jC s v)) w := by
  have hl := run_loadVar_row (P := Tryd.prog) w g 24 24 (jC s v) (0, 0) _ h underJrn rfl (by rw [jC_size]; exact sizeJ)
  simp only [Instr.loadAt, Instr.sureAddr, Sem.run_bind, Sem.run_pure, Result.andThen_ok, hl]

end Go.Proofs.YtcbmimjjpkkoeaaDoor
