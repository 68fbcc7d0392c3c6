/- The walk of StripeFew: of the shards of any bytes that are not too many, fewer than k tell nothing, whichever they are. No conditions. -/
import Derived.Test.YtapgdenodhcliaaSl
namespace Go.Proofs.Ytapgdenodhcliaa
open Go.RowKit

set_option maxHeartbeats 400000 in
theorem kitPick2_any (x : Int) (n : Nat) (w : World) (h0 : 1 ≤ n) (hn : n ≤ 70000) :
    Calls Try.prog 32 #[.int .i64 x, .int .i64 n] w fun e w' => (∃ r : Nat, r < n ∧ e = .returned (.int .i64 r)) ∧ w' = w := by
  have b1 := Int.tmod_lt_of_pos x (b := (n : Int)) (by omega)
  have b2 : -(n : Int) < x.tmod n := by
    have := Int.tmod_lt_of_pos (-x) (b := (n : Int)) (by omega)
    rw [Int.neg_tmod] at this; omega
  by_cases hneg : x.tmod n < 0
  · go_enter Try.func32, Try.ntmps32
    go_wp2
    go_ret
    exact ⟨⟨(x.tmod n + n).toNat, by omega, ret_int (by omega)⟩, rfl⟩
  · go_enter Try.func32, Try.ntmps32
    go_wp2
    go_ret
    exact ⟨⟨(x.tmod n).toNat, by omega, ret_int (by omega)⟩, rfl⟩

set_option maxRecDepth 100000 in
set_option maxHeartbeats 1000000 in
theorem few_long (a : Option Addr) (n c : Nat) (k m f : Int) (q : Option Addr) (nc cc : Nat) (w : World) (h : 1000 < n ∨ 100 < nc) :
    Calls Try.prog 7 #[.slice a n c, .int .i64 k, .int .i64 m, .slice q nc cc, .int .i64 f] w fun e w' => e = .returned (.bool true) ∧ Below w.heap.size w w' := by
  by_cases h1 : 1000 < n
  · clear h
    go_enter Try.func7, Try.ntmps7
    go_wp2_with fail
    refine (known_any w).mono ?_
    rintro e w1 ⟨rfl, hb1⟩
    have B1 := hid hb1
    clear hb1
    go_wp2
    go_ret
    exact ⟨rfl, B1.out⟩
  · have h2 : 100 < nc := by omega
    clear h
    go_enter Try.func7, Try.ntmps7
    go_wp2_with fail
    refine (known_any w).mono ?_
    rintro e w1 ⟨rfl, hb1⟩
    have B1 := hid hb1
    clear hb1
    go_wp2
    go_ret
    exact ⟨rfl, B1.out⟩
set_option maxRecDepth 100000 in
set_option maxHeartbeats 1000000 in
theorem few_err (a : Option Addr) (n c : Nat) (k m f : Int) (q : Option Addr) (nc cc : Nat) (w : World) (hn : n ≤ 1000) (hnc : nc ≤ 100) (hk : -9223372036854775808 ≤ k) (hk' : k ≤ 9223372036854775807) (hm : -9223372036854775808 ≤ m) (hm' : m ≤ 9223372036854775807) (h : k < 1 ∨ m < 1 ∨ 16 < k + m) :
    Calls Try.prog 7 #[.slice a n c, .int .i64 k, .int .i64 m, .slice q nc cc, .int .i64 f] w fun e w' => e = .returned (.bool true) ∧ Below w.heap.size w w' := by
  go_enter Try.func7, Try.ntmps7
  go_wp2_with fail
  refine (known_any w).mono ?_
  rintro e w1 ⟨rfl, hb1⟩
  have B1 := hid hb1
  clear hb1
  go_wp2_with fail
  refine (split_err a n c k m w1 hk hk' hm hm' h).mono ?_
  rintro e w' ⟨rfl, hw⟩
  have hw2 := hw.symm
  subst hw2
  clear hw h
  go_wp2
  go_ret
  exact ⟨rfl, B1.out⟩
set_option maxRecDepth 100000 in
set_option maxHeartbeats 4000000 in
theorem few_ok (a : Option Addr) (n c k m : Nat) (f : Int) (q : Option Addr) (nc cc : Nat) (x : Nat → K) (R : Nat → Int) (w : World) (hn : n ≤ 1000) (hc : n ≤ c) (hnc : nc ≤ 100) (h0 : 1 ≤ k) (h1 : 1 ≤ m) (h : k + m ≤ 16) (hx : StrAt w a n fun j => (x j).val) (hR : IntsAt w q nc R) :
    Calls Try.prog 7 #[.slice a n c, .int .i64 k, .int .i64 m, .slice q nc cc, .int .i64 f] w fun e w' => e = .returned (.bool true) ∧ Below w.heap.size w w' := by
  have HX := hid hx
  have HR := hid hR
  clear hx hR
  go_enter Try.func7, Try.ntmps7
  go_wp2_with fail
  refine (known_any w).mono ?_
  rintro e w1 ⟨rfl, hb1⟩
  have B1 := hid hb1
  have X1 := hid (HX.out.keep (Stays.of_below hb1))
  clear hb1 HX
  go_wp2_with fail
  refine (split_ok a n c k m x w1 h0 h1 h (by omega) hc X1.out).mono ?_
  rintro e w2 ⟨g2, c2, G2, rfl, hm2, hb2⟩
  have B2 := hid (B1.out.then hb2)
  have M2 := hid hm2.toMat
  have R2 := hid (HR.out.keep (Stays.of_below B2.out))
  clear hb2 hm2 X1 B1 HR
  go_wp2_with fail
  refine (kitPick2_any f k w2 h0 (by omega)).mono ?_
  rintro e w' ⟨⟨r, hr, rfl⟩, hw⟩
  have hw2 := hw.symm
  subst hw2
  clear hw
  have HC : Hid (((k : Int) + (m : Int)) = ((k + m : Nat) : Int)) := by show ((k : Int) + (m : Int)) = ((k + m : Nat) : Int); omega
  go_wp2_with fail
  rw [HC.out]
  refine (some_any r (k + m) q nc cc R w2 (by omega) (by omega) R2.out).mono ?_
  rintro e w3 ⟨g3, H, rfl, ho3, hcn, hb3⟩
  have B3 := hid (B2.out.then hb3)
  have M3 := hid (M2.out.keep (Stays.of_below hb3))
  have T3 := hid ho3.at
  have hll := lgt_le n k (by omega) h0
  have E1 : Hid (errMd k m (k + m) (k + m) H (fun _ => lgt n k) (-1) = 10) := errMd_few (errMt_ok hll (.inl rfl) (fun _ _ _ => rfl)) (by omega)
  have E2 : Hid (errMd k m (k + m) (k + m) H (fun _ => lgt n k) ((lgt n k : Nat) : Int) = 10) := errMd_few (errMt_ok hll (.inr rfl) (fun _ _ _ => rfl)) (by omega)
  clear ho3 hb3 B2 M2 R2 hcn
  go_wp2_with fail
  refine (mend_any _ _ (k + m) (k + m) _ _ k m _ (fun _ => lgt n k) _ (ash k (lgt n k) n x) H w3 M3.out T3.out h0 h1 h).mono ?_
  rintro e w4 ⟨hb4, ⟨_, rfl⟩ | ⟨hne, _⟩⟩
  rotate_left
  · rw [E1.out] at hne; exact absurd hne (by decide)
  rw [E1.out]
  have B4 := hid (B3.out.then hb4)
  have M4 := hid (M3.out.keep (Stays.of_below hb4))
  have T4 := hid (T3.out.keep (Stays.of_below hb4))
  clear hb4 B3 M3 T3
  go_wp2_with fail
  refine (joinS_any _ _ (k + m) (k + m) _ _ k m n _ (fun _ => lgt n k) _ (ash k (lgt n k) n x) H w4 M4.out T4.out h0 h1 h (by omega)).mono ?_
  rintro e w5 ⟨hb5, ⟨_, rfl⟩ | ⟨hne, _⟩⟩
  rotate_left
  · rw [E2.out] at hne; exact absurd hne (by decide)
  rw [E2.out]
  have B5 := hid (B4.out.then hb5)
  clear hb5 B4 M4 T4
  go_wp2
  go_ret
  exact ⟨rfl, B5.out⟩
theorem few_all (a : Option Addr) (n c : Nat) (k m : Int) (q : Option Addr) (nc cc : Nat) (f : Int) (w : World) (h0 : IsBytes w a n c) (hk : (Lit.int .i64 k).wf = true) (hm : (Lit.int .i64 m).wf = true) (hR : IsInts w q nc) :
    Calls Try.prog 7 #[.slice a n c, .int .i64 k, .int .i64 m, .slice q nc cc, .int .i64 f] w fun e w' => e = .returned (.bool true) ∧ Below w.heap.size w w' := by
  obtain ⟨b1, b2⟩ := bounds_i64 hk
  obtain ⟨b3, b4⟩ := bounds_i64 hm
  by_cases hl : 1000 < n ∨ 100 < nc
  · exact few_long a n c k m f q nc cc w hl
  · by_cases h : k < 1 ∨ m < 1 ∨ 16 < k + m
    · exact few_err a n c k m f q nc cc w (by omega) (by omega) b1 b2 b3 b4 h
    · obtain ⟨K1, rfl⟩ : ∃ K1 : Nat, k = K1 := ⟨k.toNat, by omega⟩
      obtain ⟨M1, rfl⟩ : ∃ M1 : Nat, m = M1 := ⟨m.toNat, by omega⟩
      obtain ⟨hc, x, hx⟩ := h0
      obtain ⟨R, _, hI⟩ := hR
      exact few_ok a n c K1 M1 f q nc cc x R w (by omega) hc (by omega) (by omega) (by omega) (by omega) hx hI
end Go.Proofs.Ytapgdenodhcliaa
