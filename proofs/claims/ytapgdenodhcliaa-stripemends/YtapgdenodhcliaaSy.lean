/- The walk of StripeSplits: of any bytes that are not too many, or more than may be, the shards, their length and the errors are the document's own; what is handed in stays, and the shards lie in memory of their own. No conditions. -/
import Derived.Test.YtapgdenodhcliaaSx
namespace Go.Proofs.Ytapgdenodhcliaa
open Go.RowKit

set_option maxRecDepth 100000 in
set_option maxHeartbeats 1000000 in
theorem splits_out (a : Option Addr) (n c : Nat) (k m s : Int) (w : World) (h : 1000 < n ∧ n ≤ 65536 ∨ 70000 < n) :
    Calls Try.prog 3 #[.slice a n c, .int .i64 k, .int .i64 m, .int .i64 s] w fun e w' => e = .returned (.bool true) ∧ Below w.heap.size w w' := by
  by_cases h1 : 70000 < n
  · have h2 : ¬ n ≤ 65536 := by omega
    clear h
    go_enter Try.func3, Try.ntmps3
    go_wp2
    go_ret
    exact ⟨rfl, Below.refl _ _⟩
  · have h2 : n ≤ 65536 := by omega
    have h3 : 1000 < n := by omega
    clear h
    go_enter Try.func3, Try.ntmps3
    go_wp2
    go_ret
    exact ⟨rfl, Below.refl _ _⟩
theorem cnt_le16 (k m : Int) (n : Nat) : cnt (errS k m n) (k + m).toNat ≤ 16 := by
  unfold cnt
  by_cases e : errS k m n = 0
  · rw [if_pos e]
    unfold errS at e
    by_cases h : k < 1 ∨ m < 1 ∨ 16 < k + m
    · rw [if_pos h] at e; exact absurd e (by decide)
    · omega
  · rw [if_neg e]; omega
theorem errS_len {k m : Int} {n i : Nat} (h : i < cnt (errS k m n) (k + m).toNat) : lgt n k.toNat ≤ 65536 := by
  obtain ⟨e, _⟩ := cnt_pos h
  unfold errS at e
  by_cases h1 : k < 1 ∨ m < 1 ∨ 16 < k + m
  · rw [if_pos h1] at e; exact absurd e (by decide)
  · rw [if_neg h1] at e
    by_cases h2 : 65536 < n
    · rw [if_pos h2] at e; exact absurd e (by decide)
    · exact lgt_le n k.toNat (by omega) (by omega)

set_option maxRecDepth 100000 in
set_option maxHeartbeats 8000000 in
theorem splits_in (a : Option Addr) (n c : Nat) (k m s : Int) (x : Nat → K) (w : World) (hn : n ≤ 1000 ∨ 65536 < n) (hn2 : n ≤ 70000) (hx : StrAt w a n fun j => (x j).val) (hk : (Lit.int .i64 k).wf = true) (hm : (Lit.int .i64 m).wf = true) :
    Calls Try.prog 3 #[.slice a n c, .int .i64 k, .int .i64 m, .int .i64 s] w fun e w' => e = .returned (.bool true) ∧ Below w.heap.size w w' := by
  have HX := hid hx
  have HN := hid hn
  have HK := hid hk
  have HM := hid hm
  have EN := hid (cnt_le16 k m n)
  have EL : Hid (∀ i, i < cnt (errS k m n) (k + m).toNat → lgt n k.toNat ≤ 65536) := fun i hi => errS_len hi
  obtain ⟨N, hN⟩ : ∃ N, N = cnt (errS k m n) (k + m).toNat := ⟨_, rfl⟩
  obtain ⟨l, hl⟩ : ∃ l, l = lgt n k.toNat := ⟨_, rfl⟩
  rw [← hN] at EN EL
  rw [← hl] at EL
  have NN := hid hN
  have NL := hid hl
  clear hx hk hm hN hl
  have hN16 := EN.out
  by_cases h1 : n ≤ 1000
  · have hg : ¬ 1000 < n := by omega
    have hg2 : ¬ 70000 < n := by omega
    go_enter Try.func3, Try.ntmps3
    go_wp2_with fail
    refine (lentB_any a n c x w hn2 HX.out).mono ?_
    rintro e w1 ⟨rfl, hmk⟩
    have B1 := hid hmk.bel
    have K1 := hid hmk
    have S1 : Hid (StrAt w1 (some ⟨w.heap.size, 0, none⟩) n fun j => (x j).val) := .inr ⟨_, _, rfl, fun i hi => by
      have h9 := hmk.lent i (by omega)
      unfold lentN at h9
      rw [if_pos hi] at h9
      exact h9⟩
    have hs1 : w.heap.size < w1.heap.size := (own_ge hmk.row).2
    clear hmk
    go_wp2_with fail
    refine (splitU (some ⟨w.heap.size, 0, none⟩) n (n + 3) k m x w1 HK.out HM.out (by omega) S1.out).mono ?_
    rintro e w2 ⟨ux, cx, Gx, rfl, hx2, hb2⟩
    rw [← NN.out] at hx2 ⊢
    rw [← NL.out] at hx2
    have B2 := hid (B1.out.then hb2)
    have X2 := hid hx2
    have I2 := hid (own_keep K1.out.row (hb2.block _ hs1))
    have GX : Hid (∀ i, i < N → w1.heap.size ≤ Gx i ∧ Gx i < w2.heap.size) := fun i hi => own_ge (hx2.row i hi)
    have hs2 := hb2.size
    clear hb2 hx2 B1 S1 K1
    go_wp2_with fail
    refine (rsplitU a n c k m x w2 HK.out HM.out (HX.out.keep (Stays.of_below B2.out))).mono ?_
    rintro e w3 ⟨uy, cy, Gy, rfl, hy3, hb3⟩
    rw [← NN.out] at hy3 ⊢
    rw [← NL.out] at hy3
    have B3 := hid (B2.out.then hb3)
    have X3 := hid (OwnV.stay X2.out hb3)
    have Y3 := hid hy3
    have I3 := hid (own_keep I2.out (hb3.block _ (by omega)))
    have hs3 := hb3.size
    clear hb3 hy3 B2 X2 I2
    go_wp2_with fail
    refine (lengthU s k w3).mono ?_
    rintro e w' ⟨rfl, hw⟩
    have hw2 := hw.symm
    subst hw2
    clear hw
    go_wp2_with fail
    refine (rlengthU s k w3).mono ?_
    rintro e w' ⟨rfl, hw⟩
    have hw2 := hw.symm
    subst hw2
    clear hw
    have s1 : (errS k m n != errS k m n) = false := by simp
    have s2 : (lenV s k != lenV s k) = false := by simp
    have s3 : (lenE s k != lenE s k) = false := by simp
    go_wp2_with fail
    refine (sameLists_true ux uy N cx cy _ _ (fun _ => l) _ _ _ _ w3 (by omega) (X3.out.toMatAt (fun _ _ => ⟨Nat.le_refl _, Nat.le_refl _⟩) (fun _ _ _ _ => rfl)) (Y3.out.toMatAt (fun _ _ => ⟨Nat.le_refl _, Nat.le_refl _⟩) (fun _ _ _ _ => rfl)) (fun _ _ _ _ => rfl)).mono ?_
    rintro e w4 ⟨rfl, hb4⟩
    have B4 := hid (B3.out.then hb4)
    have X4 := hid (OwnV.stay X3.out hb4)
    have I4 := hid (own_keep I3.out (hb4.block _ (by omega)))
    have hs4 := hb4.size
    clear hb4 B3 X3 Y3 I3
    go_wp2_with fail
    refine (kept_any w.heap.size n c a (fun j => (x j).val) w4 hn2 (by omega) (Mk.lent ⟨I4.out, B4.out⟩) (HX.out.keep (Stays.of_below B4.out))).mono ?_
    rintro e w5 ⟨rfl, hb5⟩
    have B5 := hid (B4.out.then hb5)
    have X5 := hid (OwnV.stay X4.out hb5)
    have I5 := hid (own_keep I4.out (hb5.block _ (by omega)))
    have hs5 := hb5.size
    clear hb5 B4 X4 I4
    have hsB := B5.out.size
    have A0 := ap_start w5 w.heap.size hsB
    have hal : Below w5.heap.size w5 (w5.alloc (.cells #[] 22)) := (Below.refl _ _).alloc (Nat.le_refl _) _
    obtain ⟨v6, w6, r6, o6, g6, t6⟩ := join_run A0.top (X5.out.stay hal).top slice_oneA (by omega) (by simp; omega)
    have AP6 := ap_join (A2 := fun i => some ⟨Gx i, 0, none⟩) (L2 := fun _ => l) (C2 := fun _ => l) (G2 := Gx) A0 (fun i hi _ => ⟨rfl, own_base ((X5.out.stay hal).row i hi) (by omega)⟩) (fun i j hi hj _ _ q => X5.out.inj i j hi hj q) (fun i j hi => absurd hi (by omega)) g6 o6
    have hz5 : (w5.alloc (.cells #[] 22)).heap.size = w5.heap.size + 1 := by simp
    have hb6 : Below w5.heap.size w5 w6 := Below.grown hal g6 (by omega) (fun b q => Nat.le_of_eq (by simpa [Value.ownBlock] using q))
    have hs6 := g6.size
    have hv6 : ∀ b, v6.ownBlock = some b → w5.heap.size ≤ b := fun b q => by
      rcases t6 with e | e
      · rw [e] at q; have q2 : w5.heap.size = b := by simpa [Value.ownBlock] using q
        omega
      · rw [e, hz5] at q; have q2 : w5.heap.size + 1 = b := by simpa using q
        omega
    obtain ⟨v7, w7, r7, o7, g7, t7⟩ := one_run (.slice (some ⟨w.heap.size, 0, none⟩) n (n + 3)) rfl AP6.top (by omega) (by omega)
    have hal6 : Below w6.heap.size w6 (w6.alloc (.cells #[.slice (some ⟨w.heap.size, 0, none⟩) n (n + 3)] 22)) := (Below.refl _ _).alloc (Nat.le_refl _) _
    have I6 := own_keep (own_keep I5.out (hb6.block _ (by omega))) (hal6.block _ (by omega))
    have AP7 := ap_join (A2 := fun _ => some ⟨w.heap.size, 0, none⟩) (L2 := fun _ => n) (C2 := fun _ => n + 3) (G2 := fun _ => w.heap.size) (X2 := fun _ => lentK n x) (m := 1) (AP6.stay hal6) (fun i hi _ => ⟨rfl, I6⟩) (fun i j hi hj _ _ _ => by omega) (fun i j hi hj _ _ q => by
      unfold two at q
      rw [if_neg (by omega)] at q
      have := GX.out (i - 0) (by omega)
      omega) g7 (by exact o7)
    have hb7 : Below w5.heap.size w5 w7 := Below.grown (hb6.alloc (by omega) _) g7 (by simp; omega) (fun b q => hv6 b q)
    have HAP := hid AP7
    have HR6 := hid r6
    have HR7 := hid r7
    have B7 := hid (B5.out.then hb7)
    have HCC : Hid (∀ i, i < 0 + N + 1 → two (0 + N) (two 0 (fun _ => 0) fun _ => l) (fun _ => n + 3) i ≤ 70003) := fun i hi => by
      unfold two
      by_cases q : i < 0 + N
      · rw [if_pos q, if_neg (by omega)]; show l ≤ 70003; have := EL.out (i - 0) (by omega); omega
      · rw [if_neg q]; show n + 3 ≤ 70003; omega
    have HGE : Hid (∀ i, i < 0 + N + 1 → two (0 + N) (two 0 (fun _ => 0) fun _ => l) (fun _ => n + 3) i ≠ 0 → w.heap.size ≤ two (0 + N) (two 0 (fun _ => 0) Gx) (fun _ => w.heap.size) i) := fun i hi hne => (own_ge (AP7.row i hi hne).2).1
    clear AP6 AP7 A0 r6 o6 g6 t6 r7 o7 g7 t7 hv6 I6 hal hal6 hb6 hb7 I5 X5
    go_wp2_with (first | (at_builtin; refine wpList_append_run (.tmp 84) (.tmp 85) 24 rfl (by first | rfl | simp [Region.wanted, yielded]) _ _ v6 rfl rfl HR6.out ?_) | (at_builtin; refine wpList_append_run (.tmp 86) (.tmp 88) 24 rfl (by first | rfl | simp [Region.wanted, yielded]) _ _ v7 rfl rfl HR7.out ?_))
    refine (apartG_any w.heap.size v7 (0 + N + 1) _ _ _ _ _ w7 (by omega) HCC.out HAP.out).mono ?_
    rintro e w8 ⟨rfl, hs8⟩
    have B8 := hid (hs8.below B7.out B7.out.size (fun z ⟨r, hr, hc, q⟩ => by rw [q]; exact HGE.out r hr hc))
    clear hs8
    go_wp2_with fail
    refine (awake_any w8).mono ?_
    rintro e w9 ⟨rfl, hb9⟩
    have B9 := hid (B8.out.then hb9)
    clear hb9
    go_wp2
    go_ret
    exact ⟨rfl, B9.out⟩
  · have hg3 : ¬ n ≤ 65536 := by omega
    have hg : 1000 < n := by omega
    have hg2 : ¬ 70000 < n := by omega
    go_enter Try.func3, Try.ntmps3
    go_wp2_with fail
    refine (lentB_any a n c x w hn2 HX.out).mono ?_
    rintro e w1 ⟨rfl, hmk⟩
    have B1 := hid hmk.bel
    have K1 := hid hmk
    have S1 : Hid (StrAt w1 (some ⟨w.heap.size, 0, none⟩) n fun j => (x j).val) := .inr ⟨_, _, rfl, fun i hi => by
      have h9 := hmk.lent i (by omega)
      unfold lentN at h9
      rw [if_pos hi] at h9
      exact h9⟩
    have hs1 : w.heap.size < w1.heap.size := (own_ge hmk.row).2
    clear hmk
    go_wp2_with fail
    refine (splitU (some ⟨w.heap.size, 0, none⟩) n (n + 3) k m x w1 HK.out HM.out (by omega) S1.out).mono ?_
    rintro e w2 ⟨ux, cx, Gx, rfl, hx2, hb2⟩
    rw [← NN.out] at hx2 ⊢
    rw [← NL.out] at hx2
    have B2 := hid (B1.out.then hb2)
    have X2 := hid hx2
    have I2 := hid (own_keep K1.out.row (hb2.block _ hs1))
    have GX : Hid (∀ i, i < N → w1.heap.size ≤ Gx i ∧ Gx i < w2.heap.size) := fun i hi => own_ge (hx2.row i hi)
    have hs2 := hb2.size
    clear hb2 hx2 B1 S1 K1
    go_wp2_with fail
    refine (rsplitU a n c k m x w2 HK.out HM.out (HX.out.keep (Stays.of_below B2.out))).mono ?_
    rintro e w3 ⟨uy, cy, Gy, rfl, hy3, hb3⟩
    rw [← NN.out] at hy3 ⊢
    rw [← NL.out] at hy3
    have B3 := hid (B2.out.then hb3)
    have X3 := hid (OwnV.stay X2.out hb3)
    have Y3 := hid hy3
    have I3 := hid (own_keep I2.out (hb3.block _ (by omega)))
    have hs3 := hb3.size
    clear hb3 hy3 B2 X2 I2
    go_wp2_with fail
    refine (lengthU s k w3).mono ?_
    rintro e w' ⟨rfl, hw⟩
    have hw2 := hw.symm
    subst hw2
    clear hw
    go_wp2_with fail
    refine (rlengthU s k w3).mono ?_
    rintro e w' ⟨rfl, hw⟩
    have hw2 := hw.symm
    subst hw2
    clear hw
    have s1 : (errS k m n != errS k m n) = false := by simp
    have s2 : (lenV s k != lenV s k) = false := by simp
    have s3 : (lenE s k != lenE s k) = false := by simp
    go_wp2_with fail
    refine (sameLists_true ux uy N cx cy _ _ (fun _ => l) _ _ _ _ w3 (by omega) (X3.out.toMatAt (fun _ _ => ⟨Nat.le_refl _, Nat.le_refl _⟩) (fun _ _ _ _ => rfl)) (Y3.out.toMatAt (fun _ _ => ⟨Nat.le_refl _, Nat.le_refl _⟩) (fun _ _ _ _ => rfl)) (fun _ _ _ _ => rfl)).mono ?_
    rintro e w4 ⟨rfl, hb4⟩
    have B4 := hid (B3.out.then hb4)
    have X4 := hid (OwnV.stay X3.out hb4)
    have I4 := hid (own_keep I3.out (hb4.block _ (by omega)))
    have hs4 := hb4.size
    clear hb4 B3 X3 Y3 I3
    go_wp2_with fail
    refine (kept_any w.heap.size n c a (fun j => (x j).val) w4 hn2 (by omega) (Mk.lent ⟨I4.out, B4.out⟩) (HX.out.keep (Stays.of_below B4.out))).mono ?_
    rintro e w5 ⟨rfl, hb5⟩
    have B5 := hid (B4.out.then hb5)
    have X5 := hid (OwnV.stay X4.out hb5)
    have I5 := hid (own_keep I4.out (hb5.block _ (by omega)))
    have hs5 := hb5.size
    clear hb5 B4 X4 I4
    have hsB := B5.out.size
    have A0 := ap_start w5 w.heap.size hsB
    have hal : Below w5.heap.size w5 (w5.alloc (.cells #[] 22)) := (Below.refl _ _).alloc (Nat.le_refl _) _
    obtain ⟨v6, w6, r6, o6, g6, t6⟩ := join_run A0.top (X5.out.stay hal).top slice_oneA (by omega) (by simp; omega)
    have AP6 := ap_join (A2 := fun i => some ⟨Gx i, 0, none⟩) (L2 := fun _ => l) (C2 := fun _ => l) (G2 := Gx) A0 (fun i hi _ => ⟨rfl, own_base ((X5.out.stay hal).row i hi) (by omega)⟩) (fun i j hi hj _ _ q => X5.out.inj i j hi hj q) (fun i j hi => absurd hi (by omega)) g6 o6
    have hz5 : (w5.alloc (.cells #[] 22)).heap.size = w5.heap.size + 1 := by simp
    have hb6 : Below w5.heap.size w5 w6 := Below.grown hal g6 (by omega) (fun b q => Nat.le_of_eq (by simpa [Value.ownBlock] using q))
    have hs6 := g6.size
    have hv6 : ∀ b, v6.ownBlock = some b → w5.heap.size ≤ b := fun b q => by
      rcases t6 with e | e
      · rw [e] at q; have q2 : w5.heap.size = b := by simpa [Value.ownBlock] using q
        omega
      · rw [e, hz5] at q; have q2 : w5.heap.size + 1 = b := by simpa using q
        omega
    obtain ⟨v7, w7, r7, o7, g7, t7⟩ := one_run (.slice (some ⟨w.heap.size, 0, none⟩) n (n + 3)) rfl AP6.top (by omega) (by omega)
    have hal6 : Below w6.heap.size w6 (w6.alloc (.cells #[.slice (some ⟨w.heap.size, 0, none⟩) n (n + 3)] 22)) := (Below.refl _ _).alloc (Nat.le_refl _) _
    have I6 := own_keep (own_keep I5.out (hb6.block _ (by omega))) (hal6.block _ (by omega))
    have AP7 := ap_join (A2 := fun _ => some ⟨w.heap.size, 0, none⟩) (L2 := fun _ => n) (C2 := fun _ => n + 3) (G2 := fun _ => w.heap.size) (X2 := fun _ => lentK n x) (m := 1) (AP6.stay hal6) (fun i hi _ => ⟨rfl, I6⟩) (fun i j hi hj _ _ _ => by omega) (fun i j hi hj _ _ q => by
      unfold two at q
      rw [if_neg (by omega)] at q
      have := GX.out (i - 0) (by omega)
      omega) g7 (by exact o7)
    have hb7 : Below w5.heap.size w5 w7 := Below.grown (hb6.alloc (by omega) _) g7 (by simp; omega) (fun b q => hv6 b q)
    have HAP := hid AP7
    have HR6 := hid r6
    have HR7 := hid r7
    have B7 := hid (B5.out.then hb7)
    have HCC : Hid (∀ i, i < 0 + N + 1 → two (0 + N) (two 0 (fun _ => 0) fun _ => l) (fun _ => n + 3) i ≤ 70003) := fun i hi => by
      unfold two
      by_cases q : i < 0 + N
      · rw [if_pos q, if_neg (by omega)]; show l ≤ 70003; have := EL.out (i - 0) (by omega); omega
      · rw [if_neg q]; show n + 3 ≤ 70003; omega
    have HGE : Hid (∀ i, i < 0 + N + 1 → two (0 + N) (two 0 (fun _ => 0) fun _ => l) (fun _ => n + 3) i ≠ 0 → w.heap.size ≤ two (0 + N) (two 0 (fun _ => 0) Gx) (fun _ => w.heap.size) i) := fun i hi hne => (own_ge (AP7.row i hi hne).2).1
    clear AP6 AP7 A0 r6 o6 g6 t6 r7 o7 g7 t7 hv6 I6 hal hal6 hb6 hb7 I5 X5
    go_wp2_with (first | (at_builtin; refine wpList_append_run (.tmp 84) (.tmp 85) 24 rfl (by first | rfl | simp [Region.wanted, yielded]) _ _ v6 rfl rfl HR6.out ?_) | (at_builtin; refine wpList_append_run (.tmp 86) (.tmp 88) 24 rfl (by first | rfl | simp [Region.wanted, yielded]) _ _ v7 rfl rfl HR7.out ?_))
    refine (apartG_any w.heap.size v7 (0 + N + 1) _ _ _ _ _ w7 (by omega) HCC.out HAP.out).mono ?_
    rintro e w8 ⟨rfl, hs8⟩
    have B8 := hid (hs8.below B7.out B7.out.size (fun z ⟨r, hr, hc, q⟩ => by rw [q]; exact HGE.out r hr hc))
    clear hs8
    go_wp2_with fail
    refine (awake_any w8).mono ?_
    rintro e w9 ⟨rfl, hb9⟩
    have B9 := hid (B8.out.then hb9)
    clear hb9
    go_wp2
    go_ret
    exact ⟨rfl, B9.out⟩
theorem splits_all (a : Option Addr) (n c : Nat) (k m s : Int) (w : World) (h0 : IsBytes w a n c) (hk : (Lit.int .i64 k).wf = true) (hm : (Lit.int .i64 m).wf = true) :
    Calls Try.prog 3 #[.slice a n c, .int .i64 k, .int .i64 m, .int .i64 s] w fun e w' => e = .returned (.bool true) ∧ Below w.heap.size w w' := by
  by_cases h : 1000 < n ∧ n ≤ 65536 ∨ 70000 < n
  · exact splits_out a n c k m s w h
  · obtain ⟨_, x, hx⟩ := h0
    exact splits_in a n c k m s x w (by omega) (by omega) hx hk hm
end Go.Proofs.Ytapgdenodhcliaa
