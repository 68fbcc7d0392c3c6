/- Texts laid into one, cut to what is needed: the remark ahead of each part says what is proved there. -/
import Derived.Test.YtopibkoklagceaaGreatRows
import Derived.Test.YtopibkoklagceaaGreatQap
import Derived.WalkKit
import Derived.WalkSpells
import Derived.WalkLawsBesides
import Derived.Laws.BitsAllLaws
import Derived.Laws.Closers25b
import Derived.Laws.IdiomCopy
import Derived.Deep.RegionHeld3
/- Texts laid into one: the remark ahead of each part says what is proved there. -/
/- Contracts of the functions of package gf over plain numbers (Add, Mul and what they call): whatever bytes come in, each returns what the plain mathematics says, and the world is as it was. -/
namespace Go.Proofs.YtopibkoklagceaaGreat.U
open Go.RowKit

theorem ret_int {k : IntKind} {a b : Int} (h : a = b) : Ending.returned (.int k a) = .returned (.int k b) := by rw [h]

/-! The walk's own spelling against the plain one. -/
theorem w_dbl' : ∀ a : Fin 256, bits BinOp.xor IntKind.u8 ((a.val : Int) * 2 % 256) (bits BinOp.and IntKind.u8 29 (-((a.val : Int) / 128) % 256)) = (Gf.dbl a.val : Nat) := by decide +kernel
theorem w_dbl (a : Int) (h0 : 0 ≤ a) (h1 : a ≤ 255) : bits BinOp.xor IntKind.u8 (a * 2 % 256) (bits BinOp.and IntKind.u8 29 (-(a / 128) % 256)) = (Gf.dbl a.toNat : Nat) := by
 have := w_dbl' ⟨a.toNat, by omega⟩
 simp only at this
 rwa [Int.toNat_of_nonneg h0] at this
theorem w_xor (a b : Int) (h0 : 0 ≤ a) (h1 : a ≤ 255) (h2 : 0 ≤ b) (h3 : b ≤ 255) : bits BinOp.xor IntKind.u8 a b = ((a.toNat ^^^ b.toNat : Nat) : Int) :=
 u8_xor a b h0 (by omega) h2 (by omega)
theorem w_msk' : ∀ b : Fin 256, -(bits BinOp.and IntKind.u8 (b.val : Int) 1) % 256 = if b.val.testBit 0 then 255 else 0 := by decide +kernel
theorem w_255' : ∀ a : Fin 256, bits BinOp.and IntKind.u8 (a.val : Int) 255 = (a.val : Int) := by decide +kernel
theorem w_000' : ∀ a : Fin 256, bits BinOp.and IntKind.u8 (a.val : Int) 0 = 0 := by decide +kernel
theorem w_step (p a b : Nat) (hp : p < 256) (ha : a < 256) (hb : b < 256) :
  bits BinOp.xor IntKind.u8 (p : Int) (bits BinOp.and IntKind.u8 (a : Int) (-(bits BinOp.and IntKind.u8 (b : Int) 1) % 256)) = ((p ^^^ (if b.testBit 0 then a else 0) : Nat) : Int) := by
 have h := w_msk' ⟨b, hb⟩
 simp only at h
 rw [h]
 cases b.testBit 0
 ·have e := w_000' ⟨a, ha⟩
  simp only at e
  simp only [Bool.false_eq_true, if_false]
  rw [e]; exact u8_xor_nat p 0 hp (by decide)
 ·have e := w_255' ⟨a, ha⟩
  simp only at e
  simp only [if_true]
  rw [e]; exact u8_xor_nat p a hp ha
theorem w_half (b : Nat) : Int.ediv (Int.ofNat b) (2 : Int) = Int.ofNat (b >>> 1) := by
 rw [Nat.shiftRight_eq_div_pow]; show ((b : Nat) : Int) / (2 : Int) = ((b / 2 ^ 1 : Nat) : Int); omega

set_option maxHeartbeats 400000 in
theorem add_any (a b : Int) (w : World) (h0 : 0 ≤ a) (h1 : a ≤ 255) (h2 : 0 ≤ b) (h3 : b ≤ 255) :
  Calls Tryz.prog 98 #[.int .u8 a, .int .u8 b] w fun e w' => e = .returned (.int .u8 ((a.toNat ^^^ b.toNat : Nat) : Int)) ∧ w' = w := by
 go_enter Tryz.func98, Tryz.ntmps98
 go_wp2
 go_ret
 exact ⟨ret_int (w_xor a b h0 h1 h2 h3), rfl⟩
set_option maxHeartbeats 400000 in
theorem spread_any (b : Int) (w : World) (_h0 : 0 ≤ b) (_h1 : b ≤ 255) :
  Calls Tryz.prog 118 #[.int .u8 b] w fun e w' => e = .returned (.int .u8 (-b % 256)) ∧ w' = w := by
 go_enter Tryz.func118, Tryz.ntmps118
 go_wp2
 go_ret
 exact ⟨rfl, rfl⟩
set_option maxHeartbeats 400000 in
theorem double_any (a : Int) (w : World) (h0 : 0 ≤ a) (h1 : a ≤ 255) :
  Calls Tryz.prog 119 #[.int .u8 a] w fun e w' => e = .returned (.int .u8 (Gf.dbl a.toNat : Nat)) ∧ w' = w := by
 go_enter Tryz.func119, Tryz.ntmps119
 go_wp2
 go_ret
 exact ⟨ret_int (w_dbl a h0 h1), rfl⟩
set_option maxHeartbeats 400000 in
theorem mul_any (a b : Int) (w : World) (h0 : 0 ≤ a) (h1 : a ≤ 255) (h2 : 0 ≤ b) (h3 : b ≤ 255) :
  Calls Tryz.prog 100 #[.int .u8 a, .int .u8 b] w fun e w' => e = .returned (.int .u8 (Gf.gm a.toNat b.toNat : Nat)) ∧ w' = w := by
 go_enter Tryz.func100, Tryz.ntmps100
 go_wp2
 go_loop [0, 1, 5, 6] (fun x y p i => ∃ k A B P : Nat, k ≤ 8 ∧ A < 256 ∧ B < 256 ∧ P < 256 ∧ i = .int .i64 k ∧ x = .int .u8 A ∧ y = .int .u8 B ∧ p = .int .u8 P ∧ Gf.mulGo (8 - k) P A B = Gf.gm a.toNat b.toNat) (fun _ _ _ i => 8 - (intOf i).toNat)
 case atStart => exact ⟨0, a.toNat, b.toNat, 0, by omega, by omega, by omega, by omega, rfl, by rw [Int.toNat_of_nonneg h0], by rw [Int.toNat_of_nonneg h2], rfl, rfl⟩
 case round =>
  obtain ⟨k, A, B, P, hk, hA, hB, hP, rfl, rfl, rfl, rfl, hm⟩ := hrel
  have HM : Hid (Gf.mulGo (8 - k) P A B = Gf.gm a.toNat b.toNat) := hm
  clear hm
  by_cases hlt : k < 8
  ·go_wp2_with (first | (go_at_call 118; refine (spread_any _ _ (bits_lo_u8 _ _ _) (bits_hi_u8 _ _ _)).mono ?_; rintro e w' ⟨rfl, rfl⟩) | (go_at_call 119; refine (double_any _ _ (by omega) (by omega)).mono ?_; rintro e w' ⟨rfl, rfl⟩))
   go_round
   case rel =>
    refine ⟨k + 1, Gf.dbl A, B >>> 1, P ^^^ (if B.testBit 0 then A else 0), by omega, Gf.dbl_lt A hA, ?_, Gf.xor_lt _ _ hP (Gf.if_lt _ _ hA), by go_num, ?_, ?_, ?_, ?_⟩
    ·rw [Nat.shiftRight_eq_div_pow]; omega
    ·simp
    ·exact congrArg (Value.int IntKind.u8) (w_half B)
    ·rw [w_step P A B hP hA hB]
    ·rw [← HM.out, show 8 - k = (8 - (k + 1)) + 1 by omega]; rfl
   case measure => simp [intOf]; omega
  ·have : k = 8 := by omega
   subst this
   go_wp2
   go_ret
   exact ⟨ret_int (by rw [← HM.out]; rfl), rfl⟩
end Go.Proofs.YtopibkoklagceaaGreat.U

/- Contracts of the functions of package gf that make powers, inverses, quotients and logs: whatever bytes and exponents come in, each returns what the plain mathematics says, and the world is as it was. -/
namespace Go.Proofs.YtopibkoklagceaaGreat.U
open Go.RowKit

theorem hid {p : Prop} (h : p) : Hid p := h

theorem tmod_ex (n : Int) : -255 < n.tmod 255 ∧ n.tmod 255 < 255 ∧ (n.tmod 255 < 0 → n.tmod 255 + 255 = (Gf.ex n : Nat)) ∧ (0 ≤ n.tmod 255 → n.tmod 255 = (Gf.ex n : Nat)) := by
 have e := Int.tmod_eq_emod (a := n) (b := 255)
 have b1 := Int.emod_nonneg n (b := 255) (by decide)
 have b2 := Int.emod_lt_of_pos n (b := 255) (by decide)
 unfold Gf.ex
 by_cases h : 0 ≤ n ∨ (255 : Int) ∣ n
 ·rw [if_pos h] at e; omega
 ·rw [if_neg h] at e
  have : n % 255 ≠ 0 := fun hz => h (Or.inr (Int.dvd_of_emod_eq_zero hz))
  have e2 : ((255 : Int).natAbs : Int) = 255 := rfl
  omega

set_option maxHeartbeats 400000 in
theorem turn_any (n : Int) (w : World) (_h0 : -9223372036854775808 ≤ n) (_h1 : n ≤ 9223372036854775807) :
  Calls Tryz.prog 129 #[.int .i64 n] w fun e w' => e = .returned (.int .i64 (Gf.ex n : Nat)) ∧ w' = w := by
 obtain ⟨b1, b2, b3, b4⟩ := tmod_ex n
 have B3 := hid b3
 have B4 := hid b4
 clear b3 b4
 go_enter Tryz.func129, Tryz.ntmps129
 go_wp2
 ·go_ret
  exact ⟨ret_int (B3.out (by assumption)), rfl⟩
 ·go_ret
  exact ⟨ret_int (B4.out (by assumption)), rfl⟩

theorem odd' : ∀ N : Fin 255, (bits BinOp.and IntKind.i64 (N.val : Int) 1 == 1) = (N.val % 2 == 1) := by decide +kernel
theorem half_i (b : Nat) : Int.ediv (Int.ofNat b) (2 : Int) = Int.ofNat (b / 2) := by
 show ((b : Nat) : Int) / (2 : Int) = ((b / 2 : Nat) : Int); omega

theorem rz_step1 (P A N : Nat) (hP : P < 256) (hA : A < 256) (h : N % 2 = 1) : Gf.gm (Gf.gm P A) (Gf.gp (Gf.gm A A) (N / 2)) = Gf.gm P (Gf.gp A N) := by
 rw [Gf.gp_sq A _ hA, Gf.gm_assoc _ _ _ hP hA (Gf.gp_lt _ _ hA)]
 have e : N = 1 + 2 * (N / 2) := by omega
 conv => rhs; rw [e, Gf.gp_add A 1 _ hA, Gf.gp_one A hA]
theorem rz_step0 (P A N : Nat) (hA : A < 256) (h : ¬ N % 2 = 1) : Gf.gm P (Gf.gp (Gf.gm A A) (N / 2)) = Gf.gm P (Gf.gp A N) := by
 rw [Gf.gp_sq A _ hA]
 have e : N = 2 * (N / 2) := by omega
 conv => rhs; rw [e]

set_option maxHeartbeats 400000 in
theorem raise_any (a n : Int) (w : World) (h0 : 0 ≤ a) (h1 : a ≤ 255) (h2 : 0 ≤ n) (h3 : n ≤ 254) :
  Calls Tryz.prog 128 #[.int .u8 a, .int .i64 n] w fun e w' => e = .returned (.int .u8 (Gf.gp a.toNat n.toNat : Nat)) ∧ w' = w := by
 go_enter Tryz.func128, Tryz.ntmps128
 go_wp2
 go_loop [0, 1, 5] (fun x y p => ∃ A N P : Nat, A < 256 ∧ N ≤ 254 ∧ P < 256 ∧ x = .int .u8 A ∧ y = .int .i64 N ∧ p = .int .u8 P ∧ Gf.gm P (Gf.gp A N) = Gf.gp a.toNat n.toNat) (fun _ y _ => (intOf y).toNat)
 case atStart => exact ⟨a.toNat, n.toNat, 1, by omega, by omega, by omega, by rw [Int.toNat_of_nonneg h0], by rw [Int.toNat_of_nonneg h2], rfl, Gf.one_gm _ (Gf.gp_lt _ _ (by omega))⟩
 case round =>
  obtain ⟨A, N, P, hA, hN, hP, rfl, rfl, rfl, hm⟩ := hrel
  have HM : Hid (Gf.gm P (Gf.gp A N) = Gf.gp a.toNat n.toNat) := hm
  clear hm
  by_cases hlt : 0 < N
  ·have ho := odd' ⟨N, by omega⟩
   simp only at ho
   by_cases hodd : N % 2 = 1
   ·have hb : (bits BinOp.and IntKind.i64 (N : Int) 1 == 1) = true := by rw [ho, hodd]; rfl
    clear ho
    have HO := hid hodd
    clear hodd
    go_wp2_with (go_at_call 100; refine (mul_any _ _ _ (by omega) (by omega) (by omega) (by omega)).mono ?_; rintro e w' ⟨rfl, rfl⟩)
    go_round
    case rel =>
     exact ⟨Gf.gm A A, N / 2, Gf.gm P A, Gf.gm_lt _ _ hA, by omega, Gf.gm_lt _ _ hP, by simp, congrArg (Value.int IntKind.i64) (half_i N), by simp, by rw [rz_step1 P A N hP hA HO.out]; exact HM.out⟩
    case measure => simp [intOf]; omega
   ·have hb : (bits BinOp.and IntKind.i64 (N : Int) 1 == 1) = false := by rw [ho]; simpa using hodd
    clear ho
    have HO := hid hodd
    clear hodd
    go_wp2_with (go_at_call 100; refine (mul_any _ _ _ (by omega) (by omega) (by omega) (by omega)).mono ?_; rintro e w' ⟨rfl, rfl⟩)
    go_round
    case rel =>
     exact ⟨Gf.gm A A, N / 2, P, Gf.gm_lt _ _ hA, by omega, hP, by simp, congrArg (Value.int IntKind.i64) (half_i N), rfl, by rw [rz_step0 P A N hA HO.out]; exact HM.out⟩
    case measure => simp [intOf]; omega
  ·have : N = 0 := by omega
   subst this
   go_wp2
   go_ret
   exact ⟨ret_int (by rw [← HM.out]; exact congrArg Int.ofNat (Gf.gm_one P hP).symm), rfl⟩

/-- What a power is, and its error's number. -/
def powV (a : Nat) (n : Int) : Int := if a = 0 then (if n = 0 then 1 else 0) else (Gf.gp a (Gf.ex n) : Nat)
def powE (a : Nat) (n : Int) : Int := if a = 0 then (if n < 0 then 5 else 0) else 0
set_option maxHeartbeats 400000 in
theorem pow_any (a n : Int) (w : World) (h0 : 0 ≤ a) (h1 : a ≤ 255) (h2 : -9223372036854775808 ≤ n) (h3 : n ≤ 9223372036854775807) :
  Calls Tryz.prog 117 #[.int .u8 a, .int .i64 n] w fun e w' => e = .returned (.tuple #[.int .u8 (powV a.toNat n), .int .i64 (powE a.toNat n)]) ∧ w' = w := by
 by_cases ha : a = 0
 ·subst ha
  by_cases hn : n < 0
  ·go_enter Tryz.func117, Tryz.ntmps117
   go_wp2
   go_ret2
   have e : n ≠ 0 := by omega
   exact ⟨by simp [powV, powE, hn, e], rfl⟩
  ·by_cases hz : n = 0
   ·subst hz
    go_enter Tryz.func117, Tryz.ntmps117
    go_wp2
    go_ret2
    exact ⟨by simp [powV, powE], rfl⟩
   ·have hz' : (n == 0) = false := by simpa using hz
    go_enter Tryz.func117, Tryz.ntmps117
    go_wp2
    go_ret2
    exact ⟨by simp [powV, powE, hn, hz], rfl⟩
 ·have ha' : (a != 0) = true := by simpa using ha
  have hx := Gf.ex_lt n
  go_enter Tryz.func117, Tryz.ntmps117
  go_wp2_with (first | (go_at_call 129; refine (turn_any _ _ h2 h3).mono ?_; rintro e w' ⟨rfl, rfl⟩) | (go_at_call 128; refine (raise_any _ _ _ h0 h1 (by omega) (by omega)).mono ?_; rintro e w' ⟨rfl, rfl⟩))
  go_ret2
  have e : a.toNat ≠ 0 := by omega
  exact ⟨by simp [powV, powE, e], rfl⟩
end Go.Proofs.YtopibkoklagceaaGreat.U

/- Contract of Inv of package gf: whatever bytes come in, each returns what the plain mathematics says, and the world is as it was. -/
namespace Go.Proofs.YtopibkoklagceaaGreat.U
open Go.RowKit

theorem ret_ie {k k2 : IntKind} {a b c d : Int} (h : a = b) (h2 : c = d) : Ending.returned (.tuple #[.int k a, .int k2 c]) = .returned (.tuple #[.int k b, .int k2 d]) := by rw [h, h2]

def invV (a : Nat) : Int := if a = 0 then 0 else (Gf.gi a : Nat)
def invE (a : Nat) : Int := if a = 0 then 5 else 0
theorem powV_neg (a : Nat) : powV a (-1) = invV a := by
 unfold powV invV
 by_cases h : a = 0
 ·rw [if_pos h, if_pos h]; rfl
 ·rw [if_neg h, if_neg h]; rfl
theorem powE_neg (a : Nat) : powE a (-1) = invE a := rfl

set_option maxHeartbeats 400000 in
theorem inv_any (a : Int) (w : World) (h0 : 0 ≤ a) (h1 : a ≤ 255) :
  Calls Tryz.prog 97 #[.int .u8 a] w fun e w' => e = .returned (.tuple #[.int .u8 (invV a.toNat), .int .i64 (invE a.toNat)]) ∧ w' = w := by
 go_enter Tryz.func97, Tryz.ntmps97
 go_wp2_with (go_at_call 117; refine (pow_any _ _ _ h0 h1 (by omega) (by omega)).mono ?_; rintro e w' ⟨rfl, rfl⟩)
 go_ret2
 exact ⟨ret_ie (powV_neg _) (powE_neg _), rfl⟩

end Go.Proofs.YtopibkoklagceaaGreat.U

/- Contracts of the document's own answers for products, inverses, quotients, powers and logs of bytes: the long product with its long division is the same product; each call leaves the world as it was. -/
namespace Go.Proofs.YtopibkoklagceaaGreat.U
open Go.RowKit

theorem ofInt_i64s (a : Nat) (ha : a < 32768) : (BitVec.ofInt 64 (a : Int)).toNat = a := by
 rw [BitVec.ofInt_natCast, BitVec.toNat_ofNat]; exact Nat.mod_eq_of_lt (by omega)
theorem i64_xor_nat (a b : Nat) (ha : a < 32768) (hb : b < 32768) : bits .xor .i64 (a : Int) (b : Int) = ((a ^^^ b : Nat) : Int) := by
 have hx : a ^^^ b < 2 ^ 15 := Nat.xor_lt_two_pow (by omega) (by omega)
 show IntKind.i64.wrap ((BitVec.ofInt 64 (a : Int) ^^^ BitVec.ofInt 64 (b : Int)).toNat : Int) = _
 rw [BitVec.toNat_xor, ofInt_i64s a ha, ofInt_i64s b hb]
 simp only [IntKind.wrap, IntKind.bits, IntKind.signed]
 simp
 omega
theorem w_tst' : ∀ b : Fin 256, ∀ k : Fin 8, (bits BinOp.and IntKind.u8 ((b.val : Int) / 2 ^ k.val) 1 == 1) = b.val.testBit k.val := by decide +kernel
theorem w_tst (b k : Nat) (hb : b < 256) (hk : k < 8) : (bits BinOp.and IntKind.u8 ((b : Int) / 2 ^ k) 1 == 1) = b.testBit k := w_tst' ⟨b, hb⟩ ⟨k, hk⟩
theorem w_shl' : ∀ a : Fin 256, ∀ k : Fin 8, a.val * 2 ^ k.val < 32768 ∧ a.val * 2 ^ k.val = a.val <<< k.val := by decide +kernel
theorem w_shl (a k : Nat) (ha : a < 256) (hk : k < 8) : wrap64 ((a : Int) * 2 ^ k) = ((a <<< k : Nat) : Int) ∧ a <<< k < 32768 := by
 have h := w_shl' ⟨a, ha⟩ ⟨k, hk⟩
 simp only at h
 have e : (a : Int) * 2 ^ k = ((a * 2 ^ k : Nat) : Int) := by simp
 rw [e, ← h.2]
 exact ⟨by unfold wrap64; omega, h.1⟩
theorem i64_and_nat (a b : Nat) (ha : a < 32768) (hb : b < 32768) : bits .and .i64 (a : Int) (b : Int) = ((a &&& b : Nat) : Int) := by
 have hx : a &&& b < 2 ^ 15 := Nat.and_lt_two_pow a (by omega)
 show IntKind.i64.wrap ((BitVec.ofInt 64 (a : Int) &&& BitVec.ofInt 64 (b : Int)).toNat : Int) = _
 rw [BitVec.toNat_and, ofInt_i64s a ha, ofInt_i64s b hb]
 simp only [IntKind.wrap, IntKind.bits, IntKind.signed]
 simp
 omega
theorem w_tst2 (N m : Nat) (hN : N < 32768) : (bits BinOp.and IntKind.i64 ((N : Int) / 2 ^ m) 1 == 1) = N.testBit m := by
 have e : (N : Int) / 2 ^ m = ((N / 2 ^ m : Nat) : Int) := by simp
 have hl : N / 2 ^ m < 32768 := Nat.lt_of_le_of_lt (Nat.div_le_self _ _) hN
 have h := i64_and_nat (N / 2 ^ m) 1 hl (by decide)
 rw [e, show (1 : Int) = ((1 : Nat) : Int) from rfl, h, Nat.and_one_is_mod, Nat.testBit_eq_decide_div_mod_eq]
 rw [Bool.eq_iff_iff]; simp; omega
theorem w_shl2' : ∀ k : Fin 7, 285 * 2 ^ k.val < 32768 ∧ 285 * 2 ^ k.val = 285 <<< k.val := by decide +kernel
theorem w_shl2 (k : Nat) (hk : k < 7) : wrap64 (285 * 2 ^ k) = ((285 <<< k : Nat) : Int) ∧ 285 <<< k < 32768 := by
 have h := w_shl2' ⟨k, hk⟩
 simp only at h
 have e : (285 : Int) * 2 ^ k = ((285 * 2 ^ k : Nat) : Int) := by simp
 rw [e, ← h.2]
 exact ⟨by unfold wrap64; omega, h.1⟩
/-- The accumulated sum with what is still to come. -/
def AccAt (a b k N : Nat) : Prop := N ^^^ Gf.accGo (8 - k) k a b = Gf.accGo 8 0 a b
theorem AccAt.on {a b k N : Nat} (h : AccAt a b k N) (hk : k < 8) (ht : b.testBit k = true) : AccAt a b (k + 1) (N ^^^ a <<< k) := by
 unfold AccAt at *
 rw [← h, show 8 - k = (8 - (k + 1)) + 1 by omega]
 conv => rhs; unfold Gf.accGo
 rw [ht, if_pos rfl, Nat.xor_assoc]
theorem AccAt.off {a b k N : Nat} (h : AccAt a b k N) (hk : k < 8) (ht : b.testBit k = false) : AccAt a b (k + 1) N := by
 unfold AccAt at *
 rw [← h, show 8 - k = (8 - (k + 1)) + 1 by omega]
 conv => rhs; unfold Gf.accGo
 rw [ht]; simp
theorem AccAt.out {a b N : Nat} (h : AccAt a b 8 N) : N = Gf.accGo 8 0 a b := by
 unfold AccAt at h; rw [← h]; simp [Gf.accGo]
/-- The number with what is left of its division. -/
def RedAt (a b m N : Nat) : Prop := Gf.redGo (m - 7) N = Gf.gm a b
theorem acc_red {a b N : Nat} (ha : a < 256) (hb : b < 256) (h : AccAt a b 8 N) : RedAt a b 14 N := by
 unfold RedAt; rw [h.out]; exact Gf.rm_eq a b ha hb
theorem RedAt.on {a b m N : Nat} (h : RedAt a b m N) (hm : 8 ≤ m) (ht : N.testBit m = true) : RedAt a b (m - 1) (N ^^^ 285 <<< (m - 8)) := by
 unfold RedAt at *
 rw [show m - 7 = (m - 8) + 1 by omega] at h
 unfold Gf.redGo at h
 rw [show m - 8 + 8 = m by omega, ht, if_pos rfl] at h
 rw [show m - 1 - 7 = m - 8 by omega]; exact h
theorem RedAt.off {a b m N : Nat} (h : RedAt a b m N) (hm : 8 ≤ m) (ht : N.testBit m = false) : RedAt a b (m - 1) N := by
 unfold RedAt at *
 rw [show m - 7 = (m - 8) + 1 by omega] at h
 unfold Gf.redGo at h
 rw [show m - 8 + 8 = m by omega, ht] at h
 rw [show m - 1 - 7 = m - 8 by omega]; simpa using h
theorem RedAt.out {a b N : Nat} (ha : a < 256) (h : RedAt a b 7 N) : N = Gf.gm a b ∧ N < 256 := by
 unfold RedAt at h
 have := Gf.gm_lt a b ha
 exact ⟨h, by rw [show N = Gf.gm a b from h]; exact this⟩

set_option maxRecDepth 100000 in
set_option maxHeartbeats 400000 in
theorem rmul_nat (a b : Nat) (w : World) (h1 : a < 256) (h3 : b < 256) :
  Calls Tryz.prog 79 #[.int .u8 a, .int .u8 b] w fun e w' => e = .returned (.int .u8 (Gf.gm a b : Nat)) ∧ w' = w := by
 go_enter Tryz.func79, Tryz.ntmps79
 go_wp2
 go_loop [5, 6] (fun n i => ∃ k N : Nat, k ≤ 8 ∧ N < 32768 ∧ i = .int .i64 k ∧ n = .int .i64 N ∧ AccAt a b k N) (fun _ i => 8 - (intOf i).toNat)
 case atStart => exact ⟨0, 0, by omega, by omega, rfl, rfl, by simp [AccAt]⟩
 case round =>
  obtain ⟨k, N, hk, hN, rfl, rfl, hm⟩ := hrel
  by_cases hlt : k < 8
  ·have ht := w_tst b k h3 hlt
   obtain ⟨hs1, hs2⟩ := w_shl a k h1 hlt
   cases hc : b.testBit k with
   | true =>
    rw [hc] at ht
    have HM := hid (hm.on hlt hc)
    have HX := hid (i64_xor_nat N (a <<< k) hN hs2)
    have HB : Hid (N ^^^ a <<< k < 32768) := Nat.xor_lt_two_pow (n := 15) hN hs2
    have HS := hid hs1
    clear hm hc hs1 hs2
    go_wp2
    go_round
    case rel => exact ⟨k + 1, N ^^^ a <<< k, by omega, HB.out, by go_num, by rw [HS.out, HX.out], HM.out⟩
    case measure => simp [intOf]; omega
   | false =>
    rw [hc] at ht
    have HM := hid (hm.off hlt hc)
    clear hm hc hs1 hs2
    go_wp2
    go_round
    case rel => exact ⟨k + 1, N, by omega, hN, by go_num, rfl, HM.out⟩
    case measure => simp [intOf]; omega
  ·have : k = 8 := by omega
   subst this
   have hr := acc_red h1 h3 hm
   clear hm
   go_wp2
   go_loop [5, 7] (fun n i => ∃ m N : Nat, 7 ≤ m ∧ m ≤ 14 ∧ N < 32768 ∧ i = .int .i64 m ∧ n = .int .i64 N ∧ RedAt a b m N) (fun _ i => (intOf i).toNat)
   case atStart => exact ⟨14, N, by omega, by omega, hN, rfl, rfl, hr⟩
   case round =>
    clear hr hN hk hlt
    obtain ⟨m, N, hm1, hm2, hN, rfl, rfl, hm⟩ := hrel
    by_cases hlt : 8 ≤ m
    ·have ht := w_tst2 N m hN
     obtain ⟨hs1, hs2⟩ := w_shl2 (m - 8) (by omega)
     cases hc : N.testBit m with
     | true =>
      rw [hc] at ht
      have HM := hid (hm.on hlt hc)
      have HX := hid (i64_xor_nat N (285 <<< (m - 8)) hN hs2)
      have HB : Hid (N ^^^ 285 <<< (m - 8) < 32768) := Nat.xor_lt_two_pow (n := 15) hN hs2
      have HS := hid hs1
      clear hm hc hs1 hs2
      go_wp2
      go_round
      case rel => exact ⟨m - 1, N ^^^ 285 <<< (m - 8), by omega, by omega, HB.out, by go_num, by rw [HS.out, HX.out], HM.out⟩
      case measure => simp [intOf]; omega
     | false =>
      rw [hc] at ht
      have HM := hid (hm.off hlt hc)
      clear hm hc hs1 hs2
      go_wp2
      go_round
      case rel => exact ⟨m - 1, N, by omega, by omega, hN, by go_num, rfl, HM.out⟩
      case measure => simp [intOf]; omega
    ·have : m = 7 := by omega
     subst this
     have HR := hid (hm.out h1)
     clear hm
     go_wp2
     go_ret
     exact ⟨ret_int (by have := HR.out; omega), rfl⟩

theorem rmul_any (a b : Int) (w : World) (h0 : 0 ≤ a) (h1 : a ≤ 255) (h2 : 0 ≤ b) (h3 : b ≤ 255) :
  Calls Tryz.prog 79 #[.int .u8 a, .int .u8 b] w fun e w' => e = .returned (.int .u8 (Gf.gm a.toNat b.toNat : Nat)) ∧ w' = w := by
 obtain ⟨A, rfl⟩ : ∃ A : Nat, a = A := ⟨a.toNat, by omega⟩
 obtain ⟨B, rfl⟩ : ∃ B : Nat, b = B := ⟨b.toNat, by omega⟩
 exact rmul_nat A B w (by omega) (by omega)
end Go.Proofs.YtopibkoklagceaaGreat.U

/- Contract of the document's own answer for inverses: it is as the program's, and leaves the world as it was. -/
namespace Go.Proofs.YtopibkoklagceaaGreat.U
open Go.RowKit

theorem gi_gm' (a : Nat) (ha : a < 256) (h0 : a ≠ 0) : Gf.gm a (Gf.gi a) = 1 := by
 rw [Gf.gm_comm a _ ha (Gf.gi_lt a ha)]; exact Gf.gi_gm a ha h0
theorem gi_ne (a : Nat) (ha : a < 256) (h0 : a ≠ 0) : Gf.gi a ≠ 0 := by
 intro e; have h := gi_gm' a ha h0; rw [e, Gf.gm_zero] at h; exact absurd h (by decide)

set_option maxRecDepth 100000 in
set_option maxHeartbeats 400000 in
theorem rinv_nat (a : Nat) (w : World) (h1 : a < 256) :
  Calls Tryz.prog 78 #[.int .u8 a] w fun e w' => e = .returned (.tuple #[.int .u8 (invV a), .int .i64 (invE a)]) ∧ w' = w := by
 go_enter Tryz.func78, Tryz.ntmps78
 go_wp2
 go_loop [4] (fun i => ∃ k : Nat, 1 ≤ k ∧ k ≤ 256 ∧ i = .int .i64 k ∧ (a ≠ 0 → k ≤ Gf.gi a)) (fun i => (256 - intOf i).toNat)
 case atStart => exact ⟨1, by omega, by omega, rfl, fun h => by have := gi_ne a h1 h; omega⟩
 case round =>
  obtain ⟨k, hk1, hk2, rfl, hk⟩ := hrel
  have HK := hid hk
  clear hk
  by_cases hlt : k < 256
  ·by_cases hf : Gf.gm a k = 1
   ·have hu := Gf.gi_unique a k h1 hlt hf
    have hv : invV a = k := by unfold invV; rw [if_neg hu.1, ← hu.2]
    have he : invE a = 0 := if_neg hu.1
    have HV := hid hv
    have HE := hid he
    have hf' : (((Gf.gm a k : Nat) : Int) == 1) = true := by rw [hf]; rfl
    clear hv he hf hu
    go_wp2_with (go_at_call 79; refine (rmul_any _ _ _ (by omega) (by omega) (by omega) (by omega)).mono ?_; rintro e w' ⟨rfl, rfl⟩)
    go_ret2
    exact ⟨ret_ie HV.out.symm HE.out.symm, rfl⟩
   ·have hn : a ≠ 0 → k + 1 ≤ Gf.gi a := by
      intro h0
      have h2 := HK.out h0
      have h3 : k ≠ Gf.gi a := by intro e; rw [e] at hf; exact hf (gi_gm' a h1 h0)
      omega
    have HN := hid hn
    have hf' : (((Gf.gm a k : Nat) : Int) == 1) = false := by rw [beq_eq_false_iff_ne]; omega
    clear hf hn HK
    go_wp2_with (go_at_call 79; refine (rmul_any _ _ _ (by omega) (by omega) (by omega) (by omega)).mono ?_; rintro e w' ⟨rfl, rfl⟩)
    go_round
    case rel => exact ⟨k + 1, by omega, by omega, by go_num, HN.out⟩
    case measure => simp [intOf]; omega
  ·have : k = 256 := by omega
   subst this
   have hz : a = 0 := by
    by_cases h0 : a = 0
    ·exact h0
    ·have := HK.out h0; have := Gf.gi_lt a h1; omega
   have HV : Hid (invV a = 0) := if_pos hz
   have HE : Hid (invE a = 5) := if_pos hz
   clear hz HK
   go_wp2
   go_ret2
   exact ⟨ret_ie HV.out.symm HE.out.symm, rfl⟩

theorem rinv_any (a : Int) (w : World) (h0 : 0 ≤ a) (h1 : a ≤ 255) :
  Calls Tryz.prog 78 #[.int .u8 a] w fun e w' => e = .returned (.tuple #[.int .u8 (invV a.toNat), .int .i64 (invE a.toNat)]) ∧ w' = w := by
 obtain ⟨A, rfl⟩ : ∃ A : Nat, a = A := ⟨a.toNat, by omega⟩
 exact rinv_nat A w (by omega)

end Go.Proofs.YtopibkoklagceaaGreat.U

/- Contracts of match and Dot of package gf, over slices of bytes as they lie in memory: the error's number by the lengths, the sum of the products; the world is as it was. -/
namespace Go.Proofs.YtopibkoklagceaaGreat.U
open Go.RowKit

def errM (x y : Nat) : Int := if 65536 < x ∨ 65536 < y then 3 else if x = y then 0 else 2
set_option maxRecDepth 100000 in
set_option maxHeartbeats 400000 in
theorem match_any (a b : Option Addr) (x y cx cy : Nat) (w : World) :
  Calls Tryz.prog 99 #[.slice a x cx, .slice b y cy] w fun e w' => e = .returned (.int .i64 (errM x y)) ∧ w' = w := by
 by_cases h1 : 65536 < x
 ·have H : Hid (errM x y = 3) := if_pos (Or.inl h1)
  go_enter Tryz.func99, Tryz.ntmps99
  go_wp2
  go_ret
  exact ⟨ret_int H.out.symm, rfl⟩
 ·by_cases h2 : 65536 < y
  ·have H : Hid (errM x y = 3) := if_pos (Or.inr h2)
   go_enter Tryz.func99, Tryz.ntmps99
   go_wp2
   go_ret
   exact ⟨ret_int H.out.symm, rfl⟩
  ·by_cases h3 : x = y
   ·have H : Hid (errM x y = 0) := by unfold errM; rw [if_neg (by omega), if_pos h3]; trivial
    have h4 : ((x : Int) != (y : Int)) = false := by rw [h3]; simp
    clear h3
    go_enter Tryz.func99, Tryz.ntmps99
    go_wp2
    go_ret
    exact ⟨ret_int H.out.symm, rfl⟩
   ·have H : Hid (errM x y = 2) := by unfold errM; rw [if_neg (by omega), if_neg h3]; trivial
    have h4 : ((x : Int) != (y : Int)) = true := by simp; omega
    clear h3
    go_enter Tryz.func99, Tryz.ntmps99
    go_wp2
    go_ret
    exact ⟨ret_int H.out.symm, rfl⟩

/-- The sum of the products at each place, up to n. -/
def dotN (x y : Nat → Nat) : Nat → Nat
 | 0 => 0
 | n + 1 => dotN x y n ^^^ Gf.gm (x n) (y n)
theorem dotN_lt (x y : Nat → Nat) (n : Nat) (hx : ∀ i, i < n → x i < 256) : dotN x y n < 256 := by
 induction n with
 | zero => exact (by decide : 0 < 256)
 | succ n ih => exact Gf.xor_lt _ _ (ih fun i h => hx i (by omega)) (Gf.gm_lt _ _ (hx n (by omega)))

set_option maxRecDepth 100000 in
set_option maxHeartbeats 400000 in
theorem dot_some (bx ox nx cx bY oy cy : Nat) (x y : Nat → Nat) (w : World) (hn : nx ≤ 65536) (_hcx : nx ≤ cx) (hcy : nx ≤ cy)
  (hx : ∀ i, i < nx → x i < 256) (hy : ∀ i, i < nx → y i < 256)
  (cellx : ∀ i, i < nx → w.cell? ⟨bx, ox + i, none⟩ = some (.int .u8 (x i : Nat))) (celly : ∀ i, i < nx → w.cell? ⟨bY, oy + i, none⟩ = some (.int .u8 (y i : Nat))) :
  Calls Tryz.prog 71 #[.slice (some ⟨bx, ox, none⟩) nx cx, .slice (some ⟨bY, oy, none⟩) nx cy] w fun e w' => e = .returned (.tuple #[.int .u8 (dotN x y nx : Nat), .int .i64 0]) ∧ w' = w := by
 have HE : Hid (errM nx nx = 0) := by unfold errM; rw [if_neg (by omega), if_pos rfl]; trivial
 go_enter Tryz.func71, Tryz.ntmps71
 go_wp2_with (go_at_call 99; refine (match_any _ _ _ _ _ _ _).mono ?_; rintro e w' ⟨rfl, rfl⟩; rw [HE.out])
 go_loop [7, 22] (fun s i => ∃ k : Nat, k ≤ nx ∧ i = .int .i64 k ∧ s = .int .u8 (dotN x y k : Nat)) (fun _ i => (nx - intOf i).toNat)
 case atStart => exact ⟨0, by omega, rfl, rfl⟩
 case round =>
  obtain ⟨k, hk, rfl, rfl⟩ := hrel
  have hd := dotN_lt x y k (fun i h => hx i (by omega))
  by_cases hlt : k < nx
  ·have hcx' := cellx k hlt
   have hcy' := celly k hlt
   have hx' := hx k hlt
   have hy' := hy k hlt
   have hg := Gf.gm_lt (x k) (y k) hx'
   clear cellx celly hx hy
   go_wp2_with (first | (go_at_call 100; refine (mul_any _ _ _ (by omega) (by omega) (by omega) (by omega)).mono ?_; rintro e w' ⟨rfl, rfl⟩) | (go_at_call 98; refine (add_any _ _ _ (by omega) (by omega) (by omega) (by omega)).mono ?_; rintro e w' ⟨rfl, rfl⟩))
   go_round
   case rel => exact ⟨k + 1, by omega, by go_num, by simp [dotN]⟩
   case measure => simp [intOf]; omega
  ·have e : k = nx := by omega
   have E := hid e
   clear e cellx celly
   go_wp2
   go_ret2
   exact ⟨ret_ie (by rw [E.out]) rfl, rfl⟩

end Go.Proofs.YtopibkoklagceaaGreat.U

/- Rows of bytes as they lie in memory, and new ones. -/
namespace Go.Proofs.YtopibkoklagceaaGreat.U
open Go.RowKit

theorem Tryz.info5 : (Tryz.prog.info? 5).map (fun i => (i.zero, i.size, i.bytes)) = some (some (.int .u8 0), 1, 1) := by kernel_rfl

/-- A row of n bytes lies at block b from o on. -/
def RowAt (w : World) (b o n : Nat) (x : Nat → Nat) : Prop := ∀ i, i < n → w.cell? ⟨b, o + i, none⟩ = some (.int .u8 (x i : Nat))
/-- The world w has one block more than w0 has: n bytes, x, which may be written; what was there is as it was. -/
structure NewRow (w0 w : World) (n : Nat) (x : Nat → Nat) : Prop where
 size : w.heap.size = w0.heap.size + 1
 below : Below w0.heap.size w0 w
 cells : ∀ i, i < n → w.cell? ⟨w0.heap.size, i, none⟩ = some (.int .u8 (x i : Nat))
 free : ∀ i, w.frozen? ⟨w0.heap.size, i, none⟩ = false

theorem madeCells_get (z : Value) (n i : Nat) (h : i < n) : (madeCells #[z] n)[i]? = some z := by
 simp [madeCells, h, Nat.mod_one]
theorem run_make_u8 (n : Nat) (hn : n ≤ 70003) (w : World) :
  (Instr.makeSlice 22 (.int .i64 (n : Int)) (.int .i64 (n : Int))).run Tryz.prog w = .ok (.slice (some ⟨w.heap.size, 0, none⟩) n n) (w.alloc (.cells (madeCells #[.int .u8 0] n) 5)) := by
 obtain ⟨i0, hi, hz0, hz1, hz2⟩ := info_parts Tryz.info5
 have h := run_make (P := Tryz.prog) w 22 5 i0 (.int .u8 0) Tryz.underlying22 hi hz0 .i64 .i64 n n (by omega) (Int.le_refl _) (by rw [hz2]; omega) (by omega)
 rw [hz1] at h
 simpa [Value.cells] using h

theorem NewRow.made (w : World) (n : Nat) : NewRow w (w.alloc (.cells (madeCells #[.int .u8 0] n) 5)) n (fun _ => 0) where
 size := by simp
 below := (Below.refl _ _).alloc (Nat.le_refl _) _
 cells := fun i h => by rw [World.cell?_alloc_new, madeCells_get _ _ _ h]; rfl
 free := fun i => World.frozen?_alloc_new _ _ _ _
theorem NewRow.set {w0 w : World} {n : Nat} {x : Nat → Nat} (h : NewRow w0 w n x) (k : Nat) (v : Nat) (hk : k < n) :
  NewRow w0 (w.setCell ⟨w0.heap.size, k, none⟩ (.int .u8 (v : Nat))) n (fun i => if i = k then v else x i) where
 size := by simp [h.size]
 below := h.below.setCell (Nat.le_refl _) _
 cells := fun i hi => by
  by_cases e : i = k
  ·subst e
   rw [World.cell?_setCell_same _ _ _ (h.cells i hi)]; simp
  ·rw [World.cell?_setCell_other _ _ _ _ (by intro h2; cases h2; exact e rfl), h.cells i hi]; simp [e]
 free := fun i => by rw [World.frozen?_setCell]; exact h.free i
theorem NewRow.congr {w0 w : World} {n : Nat} {x y : Nat → Nat} (h : NewRow w0 w n x) (e : ∀ i, i < n → x i = y i) : NewRow w0 w n y where
 size := h.size
 below := h.below
 cells := fun i hi => by rw [h.cells i hi, e i hi]
 free := h.free

end Go.Proofs.YtopibkoklagceaaGreat.U

/- Contract of SameBytes of the statements' kit: of two slices that read alike it returns true, and leaves the world as it was. -/
namespace Go.Proofs.YtopibkoklagceaaGreat.U
open Go.RowKit

/-- The slice's value leads to n bytes x; one of no byte may lead anywhere. -/
def StrAt (w : World) (p : Option Addr) (n : Nat) (x : Nat → Nat) : Prop := n = 0 ∨ ∃ b o, p = some ⟨b, o, none⟩ ∧ RowAt w b o n x
end Go.Proofs.YtopibkoklagceaaGreat.U

/- Contract of LentBytes of the statements' kit: a copy of the bytes lies in a new block, with three marked bytes of spare room behind it; what was there is as it was. -/
namespace Go.Proofs.YtopibkoklagceaaGreat.U
open Go.RowKit

theorem size_setCells (b : Nat) : ∀ (vs : List Value) (o : Nat) (w : World), (w.setCells b o vs).heap.size = w.heap.size
 | [], _, _ => rfl
 | v :: r, o, w => by rw [World.setCells, size_setCells b r, World.size_setCell]
theorem below_setCells (b B : Nat) (hB : B ≤ b) : ∀ (vs : List Value) (o : Nat) (w0 w : World), Below B w0 w → Below B w0 (w.setCells b o vs)
 | [], _, _, _, h => h
 | v :: r, o, w0, w, h => by rw [World.setCells]; exact below_setCells b B hB r (o + 1) w0 _ (h.setCell hB _)

/-- n bytes as values. -/
def valN (n : Nat) (x : Nat → Nat) : List Value := (List.range n).map fun i => .int .u8 (x i : Nat)
theorem valN_len (n : Nat) (x : Nat → Nat) : (valN n x).length = n := by simp [valN]
theorem valN_get (n : Nat) (x : Nat → Nat) (i : Nat) (h : i < n) : (valN n x)[i]? = some (.int .u8 (x i : Nat)) := by simp [valN, h]

theorem NewRow.copied {w0 w : World} {n : Nat} {x : Nat → Nat} (h : NewRow w0 w n x) (m : Nat) (y : Nat → Nat) (hm : m ≤ n) :
  NewRow w0 (w.setCells w0.heap.size 0 (valN m y)) n (fun i => if i < m then y i else x i) where
 size := by rw [size_setCells, h.size]
 below := below_setCells _ _ (Nat.le_refl _) _ _ _ _ h.below
 cells := fun i hi => by
  by_cases e : i < m
  ·have hin := World.cell?_setCells_in w0.heap.size (valN m y) 0 w (fun j hj => by
     rw [valN_len] at hj
     rw [Nat.zero_add, h.cells j (by omega)]; rfl) i (by rw [valN_len]; exact e)
   rw [Nat.zero_add] at hin
   rw [hin, if_pos e]
   have g := valN_get m y i e
   rw [List.getElem?_eq_getElem (by rw [valN_len]; exact e)] at g
   exact g
  ·rw [World.cell?_setCells_out _ _ _ _ _ (fun _ _ => by rw [valN_len]; right; simp; omega), if_neg e, h.cells i hi]
 free := fun i => by rw [World.frozen?_setCells]; exact h.free i

/-- What a lent list reads as, its spare room with it. -/
def lentN (n : Nat) (x : Nat → Nat) (i : Nat) : Nat := if i < n then x i else 160 + i % 90

end Go.Proofs.YtopibkoklagceaaGreat.U

/- Contracts of OverBytes and KeptBytes of the statements' kit: the first turns the bytes of the one block that it is handed, and no other; the second returns true of a lent list that reads as it was lent. -/
namespace Go.Proofs.YtopibkoklagceaaGreat.U
open Go.RowKit

/-- From w to w' nothing has turned but what block g holds. -/
structure OnlyAt (g : Nat) (w w' : World) : Prop where
 os : w'.os = w.os
 tape : w'.tape = w.tape
 output : w'.output = w.output
 size : w'.heap.size = w.heap.size
 block : ∀ k, k ≠ g → w'.heap[k]? = w.heap[k]?
theorem OnlyAt.refl (g : Nat) (w : World) : OnlyAt g w w := ⟨rfl, rfl, rfl, rfl, fun _ _ => rfl⟩
theorem OnlyAt.setCell {g : Nat} {w w' : World} (h : OnlyAt g w w') (i : Nat) (v : Value) : OnlyAt g w (w'.setCell ⟨g, i, none⟩ v) :=
 ⟨h.os, h.tape, h.output, by rw [World.size_setCell]; exact h.size, fun k hk => (Below.heap_setCell _ _ _ k hk).trans (h.block k hk)⟩
theorem OnlyAt.below {g B : Nat} {w0 w w' : World} (h : OnlyAt g w w') (hb : Below B w0 w) (hB : B ≤ g) : Below B w0 w' :=
 ⟨h.os.trans hb.os, h.tape.trans hb.tape, h.output.trans hb.output, by rw [h.size]; exact hb.size, fun k hk => (h.block k (by omega)).trans (hb.block k hk)⟩
theorem OnlyAt.row {g : Nat} {w w' : World} (h : OnlyAt g w w') {b o n : Nat} {x : Nat → Nat} (hr : RowAt w b o n x) (hb : b ≠ g) : RowAt w' b o n x :=
 fun i hi => (World.cell?_of_block (w := w) (h.block b hb)).trans (hr i hi)

theorem RowAt.below {B : Nat} {w w' : World} {b o n : Nat} {x : Nat → Nat} (h : RowAt w b o n x) (hb : Below B w w') (hlt : b < B) : RowAt w' b o n x :=
 fun i hi => (hb.cell (p := ⟨b, o + i, none⟩) hlt).trans (h i hi)
theorem NewRow.row {w0 w : World} {n : Nat} {x : Nat → Nat} (h : NewRow w0 w n x) : RowAt w w0.heap.size 0 n x :=
 fun i hi => by rw [Nat.zero_add]; exact h.cells i hi

end Go.Proofs.YtopibkoklagceaaGreat.U
