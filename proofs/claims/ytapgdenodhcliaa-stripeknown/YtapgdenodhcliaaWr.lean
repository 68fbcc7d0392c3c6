/- Contracts of the document's own answers for products, inverses, quotients, powers and logs of bytes: the long product with its long division is the same product; each call leaves the world as it was. -/
import Derived.Test.YtapgdenodhcliaaWq
namespace Go.Proofs.Ytapgdenodhcliaa
open Go.RowKit

theorem ofInt_i64s (a : Nat) (ha : a < 32768) : (BitVec.ofInt 64 (a : Int)).toNat = a := by
  rw [BitVec.ofInt_natCast, BitVec.toNat_ofNat]; exact Nat.mod_eq_of_lt (by omega)
theorem i64_xor_nat (a b : Nat) (ha : a < 32768) (hb : b < 32768) : bits .xor .i64 (a : Int) (b : Int) = ((a ^^^ b : Nat) : Int) := by
  have hx : a ^^^ b < 2 ^ 15 := Nat.xor_lt_two_pow (by omega) (by omega)
  show IntKind.i64.wrap ((BitVec.ofInt 64 (a : Int) ^^^ BitVec.ofInt 64 (b : Int)).toNat : Int) = _
  rw [BitVec.toNat_xor, ofInt_i64s a ha, ofInt_i64s b hb]
  simp only [IntKind.wrap, IntKind.bits, IntKind.signed]
  simp
  omega
theorem w_tst' : ∀ b : Fin 256, ∀ k : Fin 8, (bits BinOp.and IntKind.u8 ((b.val : Int) / 2 ^ k.val) 1 == 1) = b.val.testBit k.val := by decide +kernel
theorem w_tst (b k : Nat) (hb : b < 256) (hk : k < 8) : (bits BinOp.and IntKind.u8 ((b : Int) / 2 ^ k) 1 == 1) = b.testBit k := w_tst' ⟨b, hb⟩ ⟨k, hk⟩
theorem w_shl' : ∀ a : Fin 256, ∀ k : Fin 8, a.val * 2 ^ k.val < 32768 ∧ a.val * 2 ^ k.val = a.val <<< k.val := by decide +kernel
theorem w_shl (a k : Nat) (ha : a < 256) (hk : k < 8) : wrap64 ((a : Int) * 2 ^ k) = ((a <<< k : Nat) : Int) ∧ a <<< k < 32768 := by
  have h := w_shl' ⟨a, ha⟩ ⟨k, hk⟩
  simp only at h
  have e : (a : Int) * 2 ^ k = ((a * 2 ^ k : Nat) : Int) := by simp
  rw [e, ← h.2]
  exact ⟨by unfold wrap64; omega, h.1⟩
theorem i64_and_nat (a b : Nat) (ha : a < 32768) (hb : b < 32768) : bits .and .i64 (a : Int) (b : Int) = ((a &&& b : Nat) : Int) := by
  have hx : a &&& b < 2 ^ 15 := Nat.and_lt_two_pow a (by omega)
  show IntKind.i64.wrap ((BitVec.ofInt 64 (a : Int) &&& BitVec.ofInt 64 (b : Int)).toNat : Int) = _
  rw [BitVec.toNat_and, ofInt_i64s a ha, ofInt_i64s b hb]
  simp only [IntKind.wrap, IntKind.bits, IntKind.signed]
  simp
  omega
theorem w_tst2 (N m : Nat) (hN : N < 32768) : (bits BinOp.and IntKind.i64 ((N : Int) / 2 ^ m) 1 == 1) = N.testBit m := by
  have e : (N : Int) / 2 ^ m = ((N / 2 ^ m : Nat) : Int) := by simp
  have hl : N / 2 ^ m < 32768 := Nat.lt_of_le_of_lt (Nat.div_le_self _ _) hN
  have h := i64_and_nat (N / 2 ^ m) 1 hl (by decide)
  rw [e, show (1 : Int) = ((1 : Nat) : Int) from rfl, h, Nat.and_one_is_mod, Nat.testBit_eq_decide_div_mod_eq]
  rw [Bool.eq_iff_iff]; simp; omega
theorem w_shl2' : ∀ k : Fin 7, 285 * 2 ^ k.val < 32768 ∧ 285 * 2 ^ k.val = 285 <<< k.val := by decide +kernel
theorem w_shl2 (k : Nat) (hk : k < 7) : wrap64 (285 * 2 ^ k) = ((285 <<< k : Nat) : Int) ∧ 285 <<< k < 32768 := by
  have h := w_shl2' ⟨k, hk⟩
  simp only at h
  have e : (285 : Int) * 2 ^ k = ((285 * 2 ^ k : Nat) : Int) := by simp
  rw [e, ← h.2]
  exact ⟨by unfold wrap64; omega, h.1⟩
/-- The accumulated sum with what is still to come. -/
def AccAt (a b k N : Nat) : Prop := N ^^^ Gf.accGo (8 - k) k a b = Gf.accGo 8 0 a b
theorem AccAt.on {a b k N : Nat} (h : AccAt a b k N) (hk : k < 8) (ht : b.testBit k = true) : AccAt a b (k + 1) (N ^^^ a <<< k) := by
  unfold AccAt at *
  rw [← h, show 8 - k = (8 - (k + 1)) + 1 by omega]
  conv => rhs; unfold Gf.accGo
  rw [ht, if_pos rfl, Nat.xor_assoc]
theorem AccAt.off {a b k N : Nat} (h : AccAt a b k N) (hk : k < 8) (ht : b.testBit k = false) : AccAt a b (k + 1) N := by
  unfold AccAt at *
  rw [← h, show 8 - k = (8 - (k + 1)) + 1 by omega]
  conv => rhs; unfold Gf.accGo
  rw [ht]; simp
theorem AccAt.out {a b N : Nat} (h : AccAt a b 8 N) : N = Gf.accGo 8 0 a b := by
  unfold AccAt at h; rw [← h]; simp [Gf.accGo]
/-- The number with what is left of its division. -/
def RedAt (a b m N : Nat) : Prop := Gf.redGo (m - 7) N = Gf.gm a b
theorem acc_red {a b N : Nat} (ha : a < 256) (hb : b < 256) (h : AccAt a b 8 N) : RedAt a b 14 N := by
  unfold RedAt; rw [h.out]; exact Gf.rm_eq a b ha hb
theorem RedAt.on {a b m N : Nat} (h : RedAt a b m N) (hm : 8 ≤ m) (ht : N.testBit m = true) : RedAt a b (m - 1) (N ^^^ 285 <<< (m - 8)) := by
  unfold RedAt at *
  rw [show m - 7 = (m - 8) + 1 by omega] at h
  unfold Gf.redGo at h
  rw [show m - 8 + 8 = m by omega, ht, if_pos rfl] at h
  rw [show m - 1 - 7 = m - 8 by omega]; exact h
theorem RedAt.off {a b m N : Nat} (h : RedAt a b m N) (hm : 8 ≤ m) (ht : N.testBit m = false) : RedAt a b (m - 1) N := by
  unfold RedAt at *
  rw [show m - 7 = (m - 8) + 1 by omega] at h
  unfold Gf.redGo at h
  rw [show m - 8 + 8 = m by omega, ht] at h
  rw [show m - 1 - 7 = m - 8 by omega]; simpa using h
theorem RedAt.out {a b N : Nat} (ha : a < 256) (h : RedAt a b 7 N) : N = Gf.gm a b ∧ N < 256 := by
  unfold RedAt at h
  have := Gf.gm_lt a b ha
  exact ⟨h, by rw [show N = Gf.gm a b from h]; exact this⟩

set_option maxRecDepth 100000 in
set_option maxHeartbeats 400000 in
theorem rmul_nat (a b : Nat) (w : World) (h1 : a < 256) (h3 : b < 256) :
    Calls Try.prog 58 #[.int .u8 a, .int .u8 b] w fun e w' => e = .returned (.int .u8 (Gf.gm a b : Nat)) ∧ w' = w := by
  go_enter Try.func58, Try.ntmps58
  go_wp2
  go_loop [5, 6] (fun n i => ∃ k N : Nat, k ≤ 8 ∧ N < 32768 ∧ i = .int .i64 k ∧ n = .int .i64 N ∧ AccAt a b k N) (fun _ i => 8 - (intOf i).toNat)
  case atStart => exact ⟨0, 0, by omega, by omega, rfl, rfl, by simp [AccAt]⟩
  case round =>
    obtain ⟨k, N, hk, hN, rfl, rfl, hm⟩ := hrel
    by_cases hlt : k < 8
    · have ht := w_tst b k h3 hlt
      obtain ⟨hs1, hs2⟩ := w_shl a k h1 hlt
      cases hc : b.testBit k with
      | true =>
        rw [hc] at ht
        have HM := hid (hm.on hlt hc)
        have HX := hid (i64_xor_nat N (a <<< k) hN hs2)
        have HB : Hid (N ^^^ a <<< k < 32768) := Nat.xor_lt_two_pow (n := 15) hN hs2
        have HS := hid hs1
        clear hm hc hs1 hs2
        go_wp2
        go_round
        case rel => exact ⟨k + 1, N ^^^ a <<< k, by omega, HB.out, by go_num, by rw [HS.out, HX.out], HM.out⟩
        case measure => simp [intOf]; omega
      | false =>
        rw [hc] at ht
        have HM := hid (hm.off hlt hc)
        clear hm hc hs1 hs2
        go_wp2
        go_round
        case rel => exact ⟨k + 1, N, by omega, hN, by go_num, rfl, HM.out⟩
        case measure => simp [intOf]; omega
    · have : k = 8 := by omega
      subst this
      have hr := acc_red h1 h3 hm
      clear hm
      go_wp2
      go_loop [5, 7] (fun n i => ∃ m N : Nat, 7 ≤ m ∧ m ≤ 14 ∧ N < 32768 ∧ i = .int .i64 m ∧ n = .int .i64 N ∧ RedAt a b m N) (fun _ i => (intOf i).toNat)
      case atStart => exact ⟨14, N, by omega, by omega, hN, rfl, rfl, hr⟩
      case round =>
        clear hr hN hk hlt
        obtain ⟨m, N, hm1, hm2, hN, rfl, rfl, hm⟩ := hrel
        by_cases hlt : 8 ≤ m
        · have ht := w_tst2 N m hN
          obtain ⟨hs1, hs2⟩ := w_shl2 (m - 8) (by omega)
          cases hc : N.testBit m with
          | true =>
            rw [hc] at ht
            have HM := hid (hm.on hlt hc)
            have HX := hid (i64_xor_nat N (285 <<< (m - 8)) hN hs2)
            have HB : Hid (N ^^^ 285 <<< (m - 8) < 32768) := Nat.xor_lt_two_pow (n := 15) hN hs2
            have HS := hid hs1
            clear hm hc hs1 hs2
            go_wp2
            go_round
            case rel => exact ⟨m - 1, N ^^^ 285 <<< (m - 8), by omega, by omega, HB.out, by go_num, by rw [HS.out, HX.out], HM.out⟩
            case measure => simp [intOf]; omega
          | false =>
            rw [hc] at ht
            have HM := hid (hm.off hlt hc)
            clear hm hc hs1 hs2
            go_wp2
            go_round
            case rel => exact ⟨m - 1, N, by omega, by omega, hN, by go_num, rfl, HM.out⟩
            case measure => simp [intOf]; omega
        · have : m = 7 := by omega
          subst this
          have HR := hid (hm.out h1)
          clear hm
          go_wp2
          go_ret
          exact ⟨ret_int (by have := HR.out; omega), rfl⟩

theorem rmul_any (a b : Int) (w : World) (h0 : 0 ≤ a) (h1 : a ≤ 255) (h2 : 0 ≤ b) (h3 : b ≤ 255) :
    Calls Try.prog 58 #[.int .u8 a, .int .u8 b] w fun e w' => e = .returned (.int .u8 (Gf.gm a.toNat b.toNat : Nat)) ∧ w' = w := by
  obtain ⟨A, rfl⟩ : ∃ A : Nat, a = A := ⟨a.toNat, by omega⟩
  obtain ⟨B, rfl⟩ : ∃ B : Nat, b = B := ⟨b.toNat, by omega⟩
  exact rmul_nat A B w (by omega) (by omega)
end Go.Proofs.Ytapgdenodhcliaa
