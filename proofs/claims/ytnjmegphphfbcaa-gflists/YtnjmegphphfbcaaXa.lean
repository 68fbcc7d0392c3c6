/- The walk of GfPowers: it returns true of every byte and every two ints, in every world, and changes nothing that was there. -/
import Derived.Test.YtnjmegphphfbcaaWz
namespace Go.Proofs.Ytnjmegphphfbcaa
open Go.RowKit

theorem tdiv2 (n : Int) (h0 : -9223372036854775808 ≤ n) (h1 : n ≤ 9223372036854775807) : -4611686018427387904 ≤ n.tdiv 2 ∧ n.tdiv 2 ≤ 4611686018427387903 ∧ wrap64 (n.tdiv 2) = n.tdiv 2 := by
  have e : -4611686018427387904 ≤ n.tdiv 2 ∧ n.tdiv 2 ≤ 4611686018427387903 := by
    by_cases h : 0 ≤ n
    · rw [Int.tdiv_eq_ediv_of_nonneg h]; omega
    · have e : n.tdiv 2 = -((-n).tdiv 2) := by rw [Int.neg_tdiv, Int.neg_neg]
      rw [e, Int.tdiv_eq_ediv_of_nonneg (by omega)]; omega
  exact ⟨e.1, e.2, by unfold wrap64; omega⟩

theorem ret_bool {p q : Bool} (h : p = q) : Ending.returned (.bool p) = .returned (.bool q) := by rw [h]
theorem log_zero : logV 0 = 0 ∧ logE 0 = 5 := by
  unfold logV logE; rw [Gf.lg_zero]; exact ⟨rfl, rfl⟩
theorem log_nz (a : Nat) (ha : a < 256) (h0 : a ≠ 0) : ∃ r : Nat, r < 255 ∧ logV a = r ∧ logE a = 0 ∧ Gf.gp 2 r = a := by
  have h := Gf.lg_some' ⟨a, ha⟩ h0
  obtain ⟨r, hr⟩ := Option.isSome_iff_exists.1 h
  have hr' : Gf.lgGo a 255 0 1 = some r := hr
  obtain ⟨_, h2, h3⟩ := Gf.lgGo_spec a 255 0 1 rfl r hr'
  have hr2 : Gf.lg a = some r := hr
  refine ⟨r, by omega, ?_, ?_, h3⟩
  · unfold logV; rw [hr2]
  · unfold logE; rw [hr2]
theorem ex_small (r : Nat) (h : r < 255) : Gf.ex (r : Int) = r := by unfold Gf.ex; omega

set_option maxRecDepth 100000 in
set_option maxHeartbeats 1000000 in
theorem powers_zero (n m : Int) (w : World) (n0 : -9223372036854775808 ≤ n) (n1 : n ≤ 9223372036854775807) (m0 : -9223372036854775808 ≤ m) (m1 : m ≤ 9223372036854775807) :
    Calls Try.prog 7 #[.int .u8 0, .int .i64 n, .int .i64 m] w fun e w' => e = .returned (.bool true) ∧ Below w.heap.size w w' := by
  obtain ⟨a1, a2, a3⟩ := tdiv2 n n0 n1
  obtain ⟨b1, b2, b3⟩ := tdiv2 m m0 m1
  obtain ⟨l1, l2⟩ := log_zero
  by_cases hn : n.tdiv 2 < 0
  · have p1 : powE 0 (n.tdiv 2) = 5 := if_pos hn
    go_enter Try.func7, Try.ntmps7
    go_wp2_with fail
    refine (known_any w).mono ?_
    rintro e w2 ⟨rfl, hb2⟩
    have HB := hid hb2
    clear hb2
    go_wp2_with (first | (go_at_call 12; refine (pow_any _ _ _ (by omega) (by omega) (by omega) (by omega)).mono ?_; rintro e w' ⟨rfl, hw⟩; have hw2 := hw.symm; subst hw2; clear hw) | (go_at_call 14; refine (log_any _ _ (by omega) (by omega)).mono ?_; rintro e w' ⟨rfl, hw⟩; have hw2 := hw.symm; subst hw2; clear hw))
    go_ret
    exact ⟨ret_bool (by simp; omega), HB.out⟩
  · have p1 : powE 0 (n.tdiv 2) = 0 := if_neg hn
    go_enter Try.func7, Try.ntmps7
    go_wp2_with fail
    refine (known_any w).mono ?_
    rintro e w2 ⟨rfl, hb2⟩
    have HB := hid hb2
    clear hb2
    go_wp2_with (first | (go_at_call 12; refine (pow_any _ _ _ (by omega) (by omega) (by omega) (by omega)).mono ?_; rintro e w' ⟨rfl, hw⟩; have hw2 := hw.symm; subst hw2; clear hw) | (go_at_call 14; refine (log_any _ _ (by omega) (by omega)).mono ?_; rintro e w' ⟨rfl, hw⟩; have hw2 := hw.symm; subst hw2; clear hw))
    go_ret
    exact ⟨rfl, HB.out⟩

set_option maxRecDepth 100000 in
set_option maxHeartbeats 1000000 in
theorem powers_nz (a : Nat) (n m : Int) (w : World) (ha : a < 256) (h0 : a ≠ 0) (n0 : -9223372036854775808 ≤ n) (n1 : n ≤ 9223372036854775807) (m0 : -9223372036854775808 ≤ m) (m1 : m ≤ 9223372036854775807) :
    Calls Try.prog 7 #[.int .u8 a, .int .i64 n, .int .i64 m] w fun e w' => e = .returned (.bool true) ∧ Below w.heap.size w w' := by
  obtain ⟨a1, a2, a3⟩ := tdiv2 n n0 n1
  obtain ⟨b1, b2, b3⟩ := tdiv2 m m0 m1
  obtain ⟨r, hr, l1, l2, l3⟩ := log_nz a ha h0
  have p1 : ∀ x, powE a x = 0 := fun x => if_neg h0
  have p2 : ∀ x, powV a x = (Gf.gp a (Gf.ex x) : Nat) := fun x => if_neg h0
  have p3 : powE 2 (r : Int) = 0 := rfl
  have p4 : powV 2 (r : Int) = (a : Int) := by
    have e : powV 2 (r : Int) = (Gf.gp 2 (Gf.ex (r : Int)) : Nat) := rfl
    rw [e, ex_small r hr, l3]
  have g1 := Gf.gp_lt a (Gf.ex (n.tdiv 2)) ha
  have g2 := Gf.gp_lt a (Gf.ex (m.tdiv 2)) ha
  have g3 := Gf.gp_ex_add a ha h0 (n.tdiv 2) (m.tdiv 2)
  have hz : ((a : Int) == 0) = false := by simp [h0]
  clear l3 h0
  go_enter Try.func7, Try.ntmps7
  go_wp2_with fail
  refine (known_any w).mono ?_
  rintro e w2 ⟨rfl, hb2⟩
  have HB := hid hb2
  clear hb2
  go_wp2_with (first | (go_at_call 12; refine (pow_any _ _ _ (by omega) (by omega) (by omega) (by omega)).mono ?_; rintro e w' ⟨rfl, hw⟩; have hw2 := hw.symm; subst hw2; clear hw) | (go_at_call 14; refine (log_any _ _ (by omega) (by omega)).mono ?_; rintro e w' ⟨rfl, hw⟩; have hw2 := hw.symm; subst hw2; clear hw) | (go_at_call 17; refine (mul_any _ _ _ (by omega) (by omega) (by omega) (by omega)).mono ?_; rintro e w' ⟨rfl, hw⟩; have hw2 := hw.symm; subst hw2; clear hw))
  go_ret
  exact ⟨ret_bool (by simp; omega), HB.out⟩

theorem powers_any (a : Nat) (n m : Int) (w : World) (ha : a < 256) (n0 : -9223372036854775808 ≤ n) (n1 : n ≤ 9223372036854775807) (m0 : -9223372036854775808 ≤ m) (m1 : m ≤ 9223372036854775807) :
    Calls Try.prog 7 #[.int .u8 a, .int .i64 n, .int .i64 m] w fun e w' => e = .returned (.bool true) ∧ Below w.heap.size w w' := by
  by_cases h0 : a = 0
  · subst h0; exact powers_zero n m w n0 n1 m0 m1
  · exact powers_nz a n m w ha h0 n0 n1 m0 m1
end Go.Proofs.Ytnjmegphphfbcaa
