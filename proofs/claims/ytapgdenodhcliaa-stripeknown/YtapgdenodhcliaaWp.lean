/- Contracts of the functions of package gf that make powers, inverses, quotients and logs: whatever bytes and exponents come in, each returns what the plain mathematics says, and the world is as it was. -/
import Derived.Test.YtapgdenodhcliaaWk
namespace Go.Proofs.Ytapgdenodhcliaa
open Go.RowKit

theorem hid {p : Prop} (h : p) : Hid p := h

theorem tmod_ex (n : Int) : -255 < n.tmod 255 ∧ n.tmod 255 < 255 ∧ (n.tmod 255 < 0 → n.tmod 255 + 255 = (Gf.ex n : Nat)) ∧ (0 ≤ n.tmod 255 → n.tmod 255 = (Gf.ex n : Nat)) := by
  have e := Int.tmod_eq_emod (a := n) (b := 255)
  have b1 := Int.emod_nonneg n (b := 255) (by decide)
  have b2 := Int.emod_lt_of_pos n (b := 255) (by decide)
  unfold Gf.ex
  by_cases h : 0 ≤ n ∨ (255 : Int) ∣ n
  · rw [if_pos h] at e; omega
  · rw [if_neg h] at e
    have : n % 255 ≠ 0 := fun hz => h (Or.inr (Int.dvd_of_emod_eq_zero hz))
    have e2 : ((255 : Int).natAbs : Int) = 255 := rfl
    omega

set_option maxHeartbeats 400000 in
theorem turn_any (n : Int) (w : World) (_h0 : -9223372036854775808 ≤ n) (_h1 : n ≤ 9223372036854775807) :
    Calls Try.prog 88 #[.int .i64 n] w fun e w' => e = .returned (.int .i64 (Gf.ex n : Nat)) ∧ w' = w := by
  obtain ⟨b1, b2, b3, b4⟩ := tmod_ex n
  have B3 := hid b3
  have B4 := hid b4
  clear b3 b4
  go_enter Try.func88, Try.ntmps88
  go_wp2
  · go_ret
    exact ⟨ret_int (B3.out (by assumption)), rfl⟩
  · go_ret
    exact ⟨ret_int (B4.out (by assumption)), rfl⟩

theorem odd' : ∀ N : Fin 255, (bits BinOp.and IntKind.i64 (N.val : Int) 1 == 1) = (N.val % 2 == 1) := by decide +kernel
theorem half_i (b : Nat) : Int.ediv (Int.ofNat b) (2 : Int) = Int.ofNat (b / 2) := by
  show ((b : Nat) : Int) / (2 : Int) = ((b / 2 : Nat) : Int); omega

theorem rz_step1 (P A N : Nat) (hP : P < 256) (hA : A < 256) (h : N % 2 = 1) : Gf.gm (Gf.gm P A) (Gf.gp (Gf.gm A A) (N / 2)) = Gf.gm P (Gf.gp A N) := by
  rw [Gf.gp_sq A _ hA, Gf.gm_assoc _ _ _ hP hA (Gf.gp_lt _ _ hA)]
  have e : N = 1 + 2 * (N / 2) := by omega
  conv => rhs; rw [e, Gf.gp_add A 1 _ hA, Gf.gp_one A hA]
theorem rz_step0 (P A N : Nat) (hA : A < 256) (h : ¬ N % 2 = 1) : Gf.gm P (Gf.gp (Gf.gm A A) (N / 2)) = Gf.gm P (Gf.gp A N) := by
  rw [Gf.gp_sq A _ hA]
  have e : N = 2 * (N / 2) := by omega
  conv => rhs; rw [e]

set_option maxHeartbeats 400000 in
theorem raise_any (a n : Int) (w : World) (h0 : 0 ≤ a) (h1 : a ≤ 255) (h2 : 0 ≤ n) (h3 : n ≤ 254) :
    Calls Try.prog 87 #[.int .u8 a, .int .i64 n] w fun e w' => e = .returned (.int .u8 (Gf.gp a.toNat n.toNat : Nat)) ∧ w' = w := by
  go_enter Try.func87, Try.ntmps87
  go_wp2
  go_loop [0, 1, 5] (fun x y p => ∃ A N P : Nat, A < 256 ∧ N ≤ 254 ∧ P < 256 ∧ x = .int .u8 A ∧ y = .int .i64 N ∧ p = .int .u8 P ∧ Gf.gm P (Gf.gp A N) = Gf.gp a.toNat n.toNat) (fun _ y _ => (intOf y).toNat)
  case atStart => exact ⟨a.toNat, n.toNat, 1, by omega, by omega, by omega, by rw [Int.toNat_of_nonneg h0], by rw [Int.toNat_of_nonneg h2], rfl, Gf.one_gm _ (Gf.gp_lt _ _ (by omega))⟩
  case round =>
    obtain ⟨A, N, P, hA, hN, hP, rfl, rfl, rfl, hm⟩ := hrel
    have HM : Hid (Gf.gm P (Gf.gp A N) = Gf.gp a.toNat n.toNat) := hm
    clear hm
    by_cases hlt : 0 < N
    · have ho := odd' ⟨N, by omega⟩
      simp only at ho
      by_cases hodd : N % 2 = 1
      · have hb : (bits BinOp.and IntKind.i64 (N : Int) 1 == 1) = true := by rw [ho, hodd]; rfl
        clear ho
        have HO := hid hodd
        clear hodd
        go_wp2_with (go_at_call 69; refine (mul_any _ _ _ (by omega) (by omega) (by omega) (by omega)).mono ?_; rintro e w' ⟨rfl, rfl⟩)
        go_round
        case rel =>
          exact ⟨Gf.gm A A, N / 2, Gf.gm P A, Gf.gm_lt _ _ hA, by omega, Gf.gm_lt _ _ hP, by simp, congrArg (Value.int IntKind.i64) (half_i N), by simp, by rw [rz_step1 P A N hP hA HO.out]; exact HM.out⟩
        case measure => simp [intOf]; omega
      · have hb : (bits BinOp.and IntKind.i64 (N : Int) 1 == 1) = false := by rw [ho]; simpa using hodd
        clear ho
        have HO := hid hodd
        clear hodd
        go_wp2_with (go_at_call 69; refine (mul_any _ _ _ (by omega) (by omega) (by omega) (by omega)).mono ?_; rintro e w' ⟨rfl, rfl⟩)
        go_round
        case rel =>
          exact ⟨Gf.gm A A, N / 2, P, Gf.gm_lt _ _ hA, by omega, hP, by simp, congrArg (Value.int IntKind.i64) (half_i N), rfl, by rw [rz_step0 P A N hA HO.out]; exact HM.out⟩
        case measure => simp [intOf]; omega
    · have : N = 0 := by omega
      subst this
      go_wp2
      go_ret
      exact ⟨ret_int (by rw [← HM.out]; exact congrArg Int.ofNat (Gf.gm_one P hP).symm), rfl⟩

/-- What a power is, and its error's number. -/
def powV (a : Nat) (n : Int) : Int := if a = 0 then (if n = 0 then 1 else 0) else (Gf.gp a (Gf.ex n) : Nat)
def powE (a : Nat) (n : Int) : Int := if a = 0 then (if n < 0 then 5 else 0) else 0
theorem powV_bd (a : Nat) (n : Int) (h : a < 256) : 0 ≤ powV a n ∧ powV a n ≤ 255 := by
  have := Gf.gp_lt a (Gf.ex n) h
  unfold powV; split
  · split <;> omega
  · omega

set_option maxHeartbeats 400000 in
theorem pow_any (a n : Int) (w : World) (h0 : 0 ≤ a) (h1 : a ≤ 255) (h2 : -9223372036854775808 ≤ n) (h3 : n ≤ 9223372036854775807) :
    Calls Try.prog 79 #[.int .u8 a, .int .i64 n] w fun e w' => e = .returned (.tuple #[.int .u8 (powV a.toNat n), .int .i64 (powE a.toNat n)]) ∧ w' = w := by
  by_cases ha : a = 0
  · subst ha
    by_cases hn : n < 0
    · go_enter Try.func79, Try.ntmps79
      go_wp2
      go_ret2
      have e : n ≠ 0 := by omega
      exact ⟨by simp [powV, powE, hn, e], rfl⟩
    · by_cases hz : n = 0
      · subst hz
        go_enter Try.func79, Try.ntmps79
        go_wp2
        go_ret2
        exact ⟨by simp [powV, powE], rfl⟩
      · have hz' : (n == 0) = false := by simpa using hz
        go_enter Try.func79, Try.ntmps79
        go_wp2
        go_ret2
        exact ⟨by simp [powV, powE, hn, hz], rfl⟩
  · have ha' : (a != 0) = true := by simpa using ha
    have hx := Gf.ex_lt n
    go_enter Try.func79, Try.ntmps79
    go_wp2_with (first | (go_at_call 88; refine (turn_any _ _ h2 h3).mono ?_; rintro e w' ⟨rfl, rfl⟩) | (go_at_call 87; refine (raise_any _ _ _ h0 h1 (by omega) (by omega)).mono ?_; rintro e w' ⟨rfl, rfl⟩))
    go_ret2
    have e : a.toNat ≠ 0 := by omega
    exact ⟨by simp [powV, powE, e], rfl⟩
end Go.Proofs.Ytapgdenodhcliaa
