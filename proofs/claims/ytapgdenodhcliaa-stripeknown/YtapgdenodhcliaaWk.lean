/- Contracts of the functions of package gf over plain numbers (Add, Mul and what they call): whatever bytes come in, each returns what the plain mathematics says, and the world is as it was. -/
import Derived.Test.YtapgdenodhcliaaRows
import Derived.Test.YtapgdenodhcliaaMath
import Derived.WalkKit
import Derived.WalkSpells
import Derived.WalkLawsBesides
import Derived.Laws.BitsAllLaws
import Derived.Laws.Closers25b
namespace Go.Proofs.Ytapgdenodhcliaa
open Go.RowKit

theorem ret_int {k : IntKind} {a b : Int} (h : a = b) : Ending.returned (.int k a) = .returned (.int k b) := by rw [h]

/-! The walk's own spelling against the plain one. -/
theorem w_dbl' : ∀ a : Fin 256, bits BinOp.xor IntKind.u8 ((a.val : Int) * 2 % 256) (bits BinOp.and IntKind.u8 29 (-((a.val : Int) / 128) % 256)) = (Gf.dbl a.val : Nat) := by decide +kernel
theorem w_dbl (a : Int) (h0 : 0 ≤ a) (h1 : a ≤ 255) : bits BinOp.xor IntKind.u8 (a * 2 % 256) (bits BinOp.and IntKind.u8 29 (-(a / 128) % 256)) = (Gf.dbl a.toNat : Nat) := by
  have := w_dbl' ⟨a.toNat, by omega⟩
  simp only at this
  rwa [Int.toNat_of_nonneg h0] at this
theorem w_xor (a b : Int) (h0 : 0 ≤ a) (h1 : a ≤ 255) (h2 : 0 ≤ b) (h3 : b ≤ 255) : bits BinOp.xor IntKind.u8 a b = ((a.toNat ^^^ b.toNat : Nat) : Int) :=
  u8_xor a b h0 (by omega) h2 (by omega)
theorem w_msk' : ∀ b : Fin 256, -(bits BinOp.and IntKind.u8 (b.val : Int) 1) % 256 = if b.val.testBit 0 then 255 else 0 := by decide +kernel
theorem w_255' : ∀ a : Fin 256, bits BinOp.and IntKind.u8 (a.val : Int) 255 = (a.val : Int) := by decide +kernel
theorem w_000' : ∀ a : Fin 256, bits BinOp.and IntKind.u8 (a.val : Int) 0 = 0 := by decide +kernel
theorem w_step (p a b : Nat) (hp : p < 256) (ha : a < 256) (hb : b < 256) :
    bits BinOp.xor IntKind.u8 (p : Int) (bits BinOp.and IntKind.u8 (a : Int) (-(bits BinOp.and IntKind.u8 (b : Int) 1) % 256)) = ((p ^^^ (if b.testBit 0 then a else 0) : Nat) : Int) := by
  have h := w_msk' ⟨b, hb⟩
  simp only at h
  rw [h]
  cases b.testBit 0
  · have e := w_000' ⟨a, ha⟩
    simp only at e
    simp only [Bool.false_eq_true, if_false]
    rw [e]; exact u8_xor_nat p 0 hp (by decide)
  · have e := w_255' ⟨a, ha⟩
    simp only at e
    simp only [if_true]
    rw [e]; exact u8_xor_nat p a hp ha
theorem w_half (b : Nat) : Int.ediv (Int.ofNat b) (2 : Int) = Int.ofNat (b >>> 1) := by
  rw [Nat.shiftRight_eq_div_pow]; show ((b : Nat) : Int) / (2 : Int) = ((b / 2 ^ 1 : Nat) : Int); omega

set_option maxHeartbeats 400000 in
theorem add_any (a b : Int) (w : World) (h0 : 0 ≤ a) (h1 : a ≤ 255) (h2 : 0 ≤ b) (h3 : b ≤ 255) :
    Calls Try.prog 67 #[.int .u8 a, .int .u8 b] w fun e w' => e = .returned (.int .u8 ((a.toNat ^^^ b.toNat : Nat) : Int)) ∧ w' = w := by
  go_enter Try.func67, Try.ntmps67
  go_wp2
  go_ret
  exact ⟨ret_int (w_xor a b h0 h1 h2 h3), rfl⟩
set_option maxHeartbeats 400000 in
theorem spread_any (b : Int) (w : World) (_h0 : 0 ≤ b) (_h1 : b ≤ 255) :
    Calls Try.prog 80 #[.int .u8 b] w fun e w' => e = .returned (.int .u8 (-b % 256)) ∧ w' = w := by
  go_enter Try.func80, Try.ntmps80
  go_wp2
  go_ret
  exact ⟨rfl, rfl⟩
set_option maxHeartbeats 400000 in
theorem double_any (a : Int) (w : World) (h0 : 0 ≤ a) (h1 : a ≤ 255) :
    Calls Try.prog 81 #[.int .u8 a] w fun e w' => e = .returned (.int .u8 (Gf.dbl a.toNat : Nat)) ∧ w' = w := by
  go_enter Try.func81, Try.ntmps81
  go_wp2
  go_ret
  exact ⟨ret_int (w_dbl a h0 h1), rfl⟩
set_option maxHeartbeats 400000 in
theorem mul_any (a b : Int) (w : World) (h0 : 0 ≤ a) (h1 : a ≤ 255) (h2 : 0 ≤ b) (h3 : b ≤ 255) :
    Calls Try.prog 69 #[.int .u8 a, .int .u8 b] w fun e w' => e = .returned (.int .u8 (Gf.gm a.toNat b.toNat : Nat)) ∧ w' = w := by
  go_enter Try.func69, Try.ntmps69
  go_wp2
  go_loop [0, 1, 5, 6] (fun x y p i => ∃ k A B P : Nat, k ≤ 8 ∧ A < 256 ∧ B < 256 ∧ P < 256 ∧ i = .int .i64 k ∧ x = .int .u8 A ∧ y = .int .u8 B ∧ p = .int .u8 P ∧ Gf.mulGo (8 - k) P A B = Gf.gm a.toNat b.toNat) (fun _ _ _ i => 8 - (intOf i).toNat)
  case atStart => exact ⟨0, a.toNat, b.toNat, 0, by omega, by omega, by omega, by omega, rfl, by rw [Int.toNat_of_nonneg h0], by rw [Int.toNat_of_nonneg h2], rfl, rfl⟩
  case round =>
    obtain ⟨k, A, B, P, hk, hA, hB, hP, rfl, rfl, rfl, rfl, hm⟩ := hrel
    have HM : Hid (Gf.mulGo (8 - k) P A B = Gf.gm a.toNat b.toNat) := hm
    clear hm
    by_cases hlt : k < 8
    · go_wp2_with (first | (go_at_call 80; refine (spread_any _ _ (bits_lo_u8 _ _ _) (bits_hi_u8 _ _ _)).mono ?_; rintro e w' ⟨rfl, rfl⟩) | (go_at_call 81; refine (double_any _ _ (by omega) (by omega)).mono ?_; rintro e w' ⟨rfl, rfl⟩))
      go_round
      case rel => 
        refine ⟨k + 1, Gf.dbl A, B >>> 1, P ^^^ (if B.testBit 0 then A else 0), by omega, Gf.dbl_lt A hA, ?_, Gf.xor_lt _ _ hP (Gf.if_lt _ _ hA), by go_num, ?_, ?_, ?_, ?_⟩
        · rw [Nat.shiftRight_eq_div_pow]; omega
        · simp
        · exact congrArg (Value.int IntKind.u8) (w_half B)
        · rw [w_step P A B hP hA hB]
        · rw [← HM.out, show 8 - k = (8 - (k + 1)) + 1 by omega]; rfl
      case measure => simp [intOf]; omega
    · have : k = 8 := by omega
      subst this
      go_wp2
      go_ret
      exact ⟨ret_int (by rw [← HM.out]; rfl), rfl⟩
end Go.Proofs.Ytapgdenodhcliaa
