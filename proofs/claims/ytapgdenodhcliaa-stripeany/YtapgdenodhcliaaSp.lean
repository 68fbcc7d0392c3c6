/- The walk of StripeAny: of the shards of any bytes that are not too many any k, or more, tell the bytes and all others, whatever the others are. No conditions. -/
import Derived.Test.YtapgdenodhcliaaSo
namespace Go.Proofs.Ytapgdenodhcliaa
open Go.RowKit

/-- The length of those that are there. -/
theorem lenSt_is {k N l : Nat} {H : Nat → Bool} {L : Nat → Nat} {z : Int} (h : errMt N N N H L z = 0) (hk : 1 ≤ k) (hc : k ≤ cn H N) (hL : ∀ i, i < N → H i = true → L i = l) : (lenSt H L z N).toNat = l := by
  obtain ⟨h1, h2⟩ := tk_lt hc 0 (by omega)
  have h3 := (errMt_zero h).2.2.2 _ h1 h2
  rw [hL _ h1 h2] at h3
  omega

set_option maxRecDepth 100000 in
set_option maxHeartbeats 1000000 in
theorem anyS_long (a : Option Addr) (n c : Nat) (k m f : Int) (q : Option Addr) (nc cc : Nat) (w : World) (h : 1000 < n ∨ 100 < nc) :
    Calls Try.prog 6 #[.slice a n c, .int .i64 k, .int .i64 m, .slice q nc cc, .int .i64 f] w fun e w' => e = .returned (.bool true) ∧ Below w.heap.size w w' := by
  by_cases h1 : 1000 < n
  · clear h
    go_enter Try.func6, Try.ntmps6
    go_wp2_with fail
    refine (known_any w).mono ?_
    rintro e w1 ⟨rfl, hb1⟩
    have B1 := hid hb1
    clear hb1
    go_wp2
    go_ret
    exact ⟨rfl, B1.out⟩
  · have h2 : 100 < nc := by omega
    clear h
    go_enter Try.func6, Try.ntmps6
    go_wp2_with fail
    refine (known_any w).mono ?_
    rintro e w1 ⟨rfl, hb1⟩
    have B1 := hid hb1
    clear hb1
    go_wp2
    go_ret
    exact ⟨rfl, B1.out⟩
set_option maxRecDepth 100000 in
set_option maxHeartbeats 1000000 in
theorem anyS_err (a : Option Addr) (n c : Nat) (k m f : Int) (q : Option Addr) (nc cc : Nat) (w : World) (hn : n ≤ 1000) (hnc : nc ≤ 100) (hk : -9223372036854775808 ≤ k) (hk' : k ≤ 9223372036854775807) (hm : -9223372036854775808 ≤ m) (hm' : m ≤ 9223372036854775807) (h : k < 1 ∨ m < 1 ∨ 16 < k + m) :
    Calls Try.prog 6 #[.slice a n c, .int .i64 k, .int .i64 m, .slice q nc cc, .int .i64 f] w fun e w' => e = .returned (.bool true) ∧ Below w.heap.size w w' := by
  go_enter Try.func6, Try.ntmps6
  go_wp2_with fail
  refine (known_any w).mono ?_
  rintro e w1 ⟨rfl, hb1⟩
  have B1 := hid hb1
  clear hb1
  go_wp2_with fail
  refine (split_err a n c k m w1 hk hk' hm hm' h).mono ?_
  rintro e w' ⟨rfl, hw⟩
  have hw2 := hw.symm
  subst hw2
  clear hw h
  go_wp2
  go_ret
  exact ⟨rfl, B1.out⟩
set_option maxRecDepth 100000 in
set_option maxHeartbeats 8000000 in
theorem anyS_ok (a : Option Addr) (n c k m : Nat) (f : Int) (q : Option Addr) (nc cc : Nat) (x : Nat → K) (R : Nat → Int) (w : World) (hn : n ≤ 1000) (hc : n ≤ c) (hnc : nc ≤ 100) (h0 : 1 ≤ k) (h1 : 1 ≤ m) (h : k + m ≤ 16) (hx : StrAt w a n fun j => (x j).val) (hR : IntsAt w q nc R) :
    Calls Try.prog 6 #[.slice a n c, .int .i64 k, .int .i64 m, .slice q nc cc, .int .i64 f] w fun e w' => e = .returned (.bool true) ∧ Below w.heap.size w w' := by
  have HX := hid hx
  have HR := hid hR
  have hll := lgt_le n k (by omega) h0
  have hl1 : lgt n k ≤ 1000 := by
    unfold lgt
    have h9 : (n + k - 1) / k < 1001 := by
      rw [Nat.div_lt_iff_lt_mul (by omega)]
      have e : 1001 * k = 1000 * k + k := by omega
      have : 1000 ≤ 1000 * k := Nat.le_mul_of_pos_right _ (by omega)
      omega
    omega
  clear hx hR
  go_enter Try.func6, Try.ntmps6
  go_wp2_with fail
  refine (known_any w).mono ?_
  rintro e w1 ⟨rfl, hb1⟩
  have B1 := hid hb1
  have X1 := hid (HX.out.keep (Stays.of_below hb1))
  clear hb1
  go_wp2_with fail
  refine (split_ok a n c k m x w1 h0 h1 h (by omega) hc X1.out).mono ?_
  rintro e w2 ⟨g2, c2, G2, rfl, hm2, hb2⟩
  have B2 := hid (B1.out.then hb2)
  have M2 := hid hm2
  have R2 := hid (HR.out.keep (Stays.of_below B2.out))
  clear hb2 hm2 X1 B1 HR
  have HC1 : Hid (((m : Int) + 1) = ((m + 1 : Nat) : Int)) := by show ((m : Int) + 1) = ((m + 1 : Nat) : Int); omega
  have h5' : (((k : Int) + (m : Int)) != ((k : Int) + (m : Int))) = false := by simp
  go_wp2_with fail
  rw [HC1.out]
  refine (kitPick2_any f (m + 1) w2 (by omega) (by omega)).mono ?_
  rintro e w' ⟨⟨r, hr, rfl⟩, hw⟩
  have hw2 := hw.symm
  subst hw2
  clear hw
  have HC : Hid (((k : Int) + (m : Int)) = ((k + m : Nat) : Int)) := by show ((k : Int) + (m : Int)) = ((k + m : Nat) : Int); omega
  have HC2 : Hid (((k : Int) + (r : Int)) = ((k + r : Nat) : Int)) := by show ((k : Int) + (r : Int)) = ((k + r : Nat) : Int); omega
  go_wp2_with fail
  rw [HC.out, HC2.out]
  refine (some_any (k + r) (k + m) q nc cc R w2 (by omega) (by omega) R2.out).mono ?_
  rintro e w3 ⟨g3, H, rfl, ho3, hcn, hb3⟩
  have B3 := hid (B2.out.then hb3)
  have M3 := hid (M2.out.stay hb3)
  have T3 := hid ho3.at
  have HCN : Hid (k ≤ cn H (k + m)) := by show k ≤ cn H (k + m); omega
  clear ho3 hb3 B2 M2 R2 hcn
  go_wp2_with fail
  refine (hidden_any _ g2 c2 (k + m) (lgt n k) G2 _ (ash k (lgt n k) n x) _ _ H w3 (by omega) hl1 M3.out T3.out).mono ?_
  rintro e w4 ⟨p4, c4, A4, C4, Y, rfl, hm4, hY, hb4⟩
  have B4 := hid (B3.out.then hb4)
  have ML4 := hid (M3.out.toMat.keep (Stays.of_below hb4))
  have T4 := hid (T3.out.keep (Stays.of_below hb4))
  have M4 := hid hm4
  have HL : Hid (∀ i, i < k + m → H i = true → (if H i = true then lgt n k else lgt n k + 1) = lgt n k) := fun i _ hq => by rw [if_pos hq]
  have E1 : Hid (errMt (k + m) (k + m) (k + m) H (fun i => if H i = true then lgt n k else lgt n k + 1) (-1) = 0) := errMt_ok hll (.inl rfl) HL.out
  have E2 : Hid (errMt (k + m) (k + m) (k + m) H (fun i => if H i = true then lgt n k else lgt n k + 1) ((lgt n k : Nat) : Int) = 0) := errMt_ok hll (.inr rfl) HL.out
  have EL := hid (lenSt_is E1.out h0 HCN.out HL.out)
  have HM : Hid (∀ i j, j < lgt n k → mdd k (k + m) H Y i j = ash k (lgt n k) n x i j) := fun i j hj => mdd_all (by omega) (by omega) HCN.out i j (fun r hr hq => hY r hr hq j hj)
  clear hm4 hY hb4 B3 M3 T3
  go_wp2_with fail
  refine (mend_any _ _ (k + m) (k + m) _ _ k m _ (fun i => if H i = true then lgt n k else lgt n k + 1) _ Y H w4 M4.out T4.out h0 h1 h).mono ?_
  rintro e w5 ⟨hb5, ⟨hne, _⟩ | ⟨_, g5, G5, rfl, hm5⟩⟩
  · exact absurd (errMd_ok E1.out HCN.out) hne
  rw [EL.out] at hm5
  have B5 := hid (B4.out.then hb5)
  have ML5 := hid (ML4.out.keep (Stays.of_below hb5))
  have T5 := hid (T4.out.keep (Stays.of_below hb5))
  have M5 := hid (M4.out.keep (Stays.of_below hb5))
  have A5 := hid hm5.toMat
  clear hb5 hm5 B4 M4 T4 ML4
  go_wp2_with fail
  refine (joinS_any _ _ (k + m) (k + m) _ _ k m n _ (fun i => if H i = true then lgt n k else lgt n k + 1) _ Y H w5 M5.out T5.out h0 h1 h (by omega)).mono ?_
  rintro e w6 ⟨hb6, ⟨hne, _⟩ | ⟨_, g6, rfl, ho6⟩⟩
  · exact absurd (errMd_ok E2.out HCN.out) hne
  have B6 := hid (B5.out.then hb6)
  have ML6 := hid (ML5.out.keep (Stays.of_below hb6))
  have A6 := hid (A5.out.keep (Stays.of_below hb6))
  have hroom := lgt_room n k h0
  have S6 : Hid (StrAt w6 (some ⟨g6, 0, none⟩) n (fun j => (x j).val)) := .inr ⟨_, _, rfl, fun j hj => by
    rw [Nat.zero_add, own_cell ho6 j hj, jnd_congr (k := k) (Y := ash k (lgt n k) n x) hroom (fun i _ j hj => HM.out i j hj) j hj, jnd_ash (k := k) j hj hroom]; rfl⟩
  have E3 : Hid (errMt (k + m) (k + m) (k + m) (fun _ => true) (fun _ => lgt n k) (-1) = 0) := errMt_ok hll (.inl rfl) (fun _ _ _ => rfl)
  have V : Hid (sndV k m (k + m) (fun _ => lgt n k) (mdd k (k + m) H Y) = true) := by
    show sndV k m (k + m) (fun _ => lgt n k) (mdd k (k + m) H Y) = true
    unfold sndV
    rw [if_pos E3.out, lenSt_is (l := lgt n k) E3.out h0 (by rw [cn_all (fun _ _ => rfl)]; omega) (fun _ _ _ => rfl)]
    exact sndB_true (snd_code k m _ (dsh (lgt n k) n x) _ (fun i _ j hj => HM.out i j hj))
  clear hb6 ho6 B5 M5 T5 ML5 A5 hroom
  go_wp2_with fail
  refine (sound_any _ (k + m) _ k m _ (fun _ => lgt n k) _ (mdd k (k + m) H Y) w6 A6.out (by omega) (by omega) h0 h1 h).mono ?_
  rintro e w7 ⟨rfl, hb7⟩
  rw [V.out, E3.out]
  have B7 := hid (B6.out.then hb7)
  have ML7 := hid (ML6.out.keep (Stays.of_below hb7))
  have A7 := hid (A6.out.keep (Stays.of_below hb7))
  have S7 := hid (S6.out.keep (Stays.of_below hb7))
  clear hb7 B6 ML6 A6 S6
  go_wp2_with fail
  refine (sameLists_true _ _ (k + m) _ _ _ _ (fun _ => lgt n k) _ _ _ _ w7 (by omega) A7.out ML7.out (fun i _ j hj => HM.out i j hj)).mono ?_
  rintro e w8 ⟨rfl, hb8⟩
  have B8 := hid (B7.out.then hb8)
  have S8 := hid (S7.out.keep (Stays.of_below hb8))
  have X8 := hid (HX.out.keep (Stays.of_below B8.out))
  clear hb8 B7 S7 ML7 A7
  go_wp2_with fail
  refine (same_true _ _ n _ _ (fun j => (x j).val) _ S8.out X8.out).mono ?_
  rintro e w9 ⟨rfl, hw⟩
  have hw2 := hw.symm
  subst hw2
  clear hw
  go_wp2
  go_ret
  exact ⟨rfl, B8.out⟩
theorem anyS_all (a : Option Addr) (n c : Nat) (k m : Int) (q : Option Addr) (nc cc : Nat) (f : Int) (w : World) (h0 : IsBytes w a n c) (hk : (Lit.int .i64 k).wf = true) (hm : (Lit.int .i64 m).wf = true) (hR : IsInts w q nc) :
    Calls Try.prog 6 #[.slice a n c, .int .i64 k, .int .i64 m, .slice q nc cc, .int .i64 f] w fun e w' => e = .returned (.bool true) ∧ Below w.heap.size w w' := by
  obtain ⟨b1, b2⟩ := bounds_i64 hk
  obtain ⟨b3, b4⟩ := bounds_i64 hm
  by_cases hl : 1000 < n ∨ 100 < nc
  · exact anyS_long a n c k m f q nc cc w hl
  · by_cases h : k < 1 ∨ m < 1 ∨ 16 < k + m
    · exact anyS_err a n c k m f q nc cc w (by omega) (by omega) b1 b2 b3 b4 h
    · obtain ⟨K1, rfl⟩ : ∃ K1 : Nat, k = K1 := ⟨k.toNat, by omega⟩
      obtain ⟨M1, rfl⟩ : ∃ M1 : Nat, m = M1 := ⟨m.toNat, by omega⟩
      obtain ⟨hc, x, hx⟩ := h0
      obtain ⟨R, _, hI⟩ := hR
      exact anyS_ok a n c K1 M1 f q nc cc x R w (by omega) hc (by omega) (by omega) (by omega) (by omega) hx hI
end Go.Proofs.Ytapgdenodhcliaa
