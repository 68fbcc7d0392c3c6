/- Words of 32 bits, SHA-256's rounds and blocks as plain mathematics, and the walk's own spelling of sums and bits against it. -/
import Derived.Test.YtgmehiidnclgmaaRows
import Derived.WalkKit
import Derived.WalkSpells
import Derived.WalkLawsBesides
import Derived.Laws.BitsAllLaws
import Derived.Laws.Closers25b
import Derived.Laws.IdiomCopy
import Derived.Deep.RegionHeld3
import Derived.Deep.QuietTactic
namespace Go.Proofs.Ytgmehiidnclgmaa
open Go.RowKit

theorem hid {p : Prop} (h : p) : Hid p := h
/-- A word of 32 bits, as the number that the program has. -/
def wv (x : BitVec 32) : Int := ((x.toNat : Nat) : Int)
theorem wv_nonneg (x : BitVec 32) : 0 ≤ wv x := by unfold wv; omega
theorem wv_lt (x : BitVec 32) : wv x < 4294967296 := by unfold wv; have := x.isLt; omega
theorem wv_inj {x y : BitVec 32} (h : wv x = wv y) : x = y := by unfold wv at h; exact BitVec.eq_of_toNat_eq (by omega)
theorem wadd (x y : BitVec 32) : (wv x + wv y) % 4294967296 = wv (x + y) := by
  unfold wv; rw [BitVec.toNat_add]; omega
theorem wxor (x y : BitVec 32) : bits .xor .u32 (wv x) (wv y) = wv (x ^^^ y) := by
  unfold wv; rw [u32_xor_nat _ _ x.isLt y.isLt, BitVec.toNat_xor]
theorem wand (x y : BitVec 32) : bits .and .u32 (wv x) (wv y) = wv (x &&& y) := by
  unfold wv; rw [u32_and_nat _ _ x.isLt y.isLt, BitVec.toNat_and]
theorem wor (x y : BitVec 32) : bits .or .u32 (wv x) (wv y) = wv (x ||| y) := by
  unfold wv; rw [u32_or_nat _ _ x.isLt y.isLt, BitVec.toNat_or]
theorem wnot (x : BitVec 32) : bits .xor .u32 (if IntKind.u32.signed = true then -1 else IntKind.u32.max) (wv x) = wv (~~~x) := by
  have h : (if IntKind.u32.signed = true then -1 else IntKind.u32.max) = wv (4294967295#32) := by decide
  rw [h, wxor, BitVec.xor_comm]
  congr 1
  rw [show (4294967295#32) = BitVec.allOnes 32 by decide, BitVec.xor_allOnes]
theorem wshr (x : BitVec 32) (k : Nat) : wv x / 2 ^ k = wv (x >>> k) := by
  unfold wv; rw [BitVec.toNat_ushiftRight, Nat.shiftRight_eq_div_pow]; simp
theorem wshl (x : BitVec 32) (k : Nat) : wv x * 2 ^ k % 4294967296 = wv (x <<< k) := by
  unfold wv; rw [BitVec.toNat_shiftLeft, Nat.shiftLeft_eq]; simp
theorem waddW (x y : BitVec 32) : IntKind.u32.wrap (wv x + wv y) = wv (x + y) := by rw [IntKind.wrap_u32, wadd]
theorem wshlW (x : BitVec 32) (k : Nat) : IntKind.u32.wrap (wv x * 2 ^ k) = wv (x <<< k) := by rw [IntKind.wrap_u32, wshl]
theorem wrap64_small (n : Int) (h0 : -9223372036854775808 ≤ n) (h1 : n ≤ 9223372036854775807) : IntKind.i64.wrap n = n := by
  simp [IntKind.wrap, IntKind.bits, IntKind.signed]; split <;> omega
def rr (x : BitVec 32) (n : Nat) : BitVec 32 := (x >>> n) ||| (x <<< (32 - n))

theorem u64_low (n : Nat) (h0 : 1 ≤ n) (h1 : n ≤ 31) : bits .and .u64 (IntKind.u64.wrap (-(n : Int))) 31 = ((32 - n : Nat) : Int) := by
  have h : ∀ k : Fin 31, bits .and .u64 (IntKind.u64.wrap (-((k.val + 1 : Nat) : Int))) 31 = ((32 - (k.val + 1) : Nat) : Int) := by decide +kernel
  have := h ⟨n - 1, by omega⟩
  simpa [show n - 1 + 1 = n by omega] using this

theorem rotl_any (x : BitVec 32) (n : Nat) (h0 : 1 ≤ n) (h1 : n ≤ 31) (w : World) :
    Calls Try.prog 77 #[.int .u32 (wv x), .int .i64 (-(n : Int))] w fun e w' => e = .returned (.int .u32 (wv (rr x n))) ∧ w' = w := by
  have l := u64_low n h0 h1
  have l2 : ((32 - n : Nat) : Int) = 32 - (n : Int) := by omega
  rw [l2] at l
  go_enter Try.func77, Try.ntmps77
  go_wp2
  go_ret
  refine ⟨?_, rfl⟩
  show Ending.returned (.int .u32 _) = _
  rw [wshl, wshr, wor, show 32 - (32 - n) = n by omega]
  unfold rr
  rw [BitVec.or_comm]
theorem right_any (x : BitVec 32) (i : Int) (n : Nat) (hi : i = (n : Int)) (h0 : 1 ≤ n) (h1 : n ≤ 31) (w : World) :
    Calls Try.prog 66 #[.int .u32 (wv x), .int .i64 i] w fun e w' => e = .returned (.int .u32 (wv (rr x n))) ∧ w' = w := by
  subst hi
  go_enter Try.func66, Try.ntmps66
  go_wp2_with (go_at_call 77; refine (rotl_any x n h0 h1 _).mono ?_; rintro e w' ⟨rfl, rfl⟩)
  go_ret
  exact ⟨rfl, rfl⟩
theorem rright_any (x : BitVec 32) (i : Int) (n : Nat) (hi : i = (n : Int)) (h0 : 1 ≤ n) (h1 : n ≤ 31) (w : World) :
    Calls Try.prog 67 #[.int .u32 (wv x), .int .i64 i] w fun e w' => e = .returned (.int .u32 (wv (rr x n))) ∧ ∃ m, w' = w.drewN m := by
  subst hi
  have k1 : (n : Int) ≤ 31 := by omega
  have k2 : (0 : Int) ≤ n := by omega
  have k3 : IntKind.i64.wrap (32 - (n : Int)) = 32 - (n : Int) := wrap64_small _ (by omega) (by omega)
  have k4 : (0 : Int) ≤ 32 - (n : Int) := by omega
  go_enter Try.func67, Try.ntmps67
  go_wp2_with fail
  go_quiet (fail)
  go_wp2
  go_ret
  refine ⟨?_, _, rfl⟩
  show Ending.returned (.int .u32 _) = _
  rw [wshlW, wshr, wor]
  rfl

theorem right_i (x : BitVec 32) (i : Int) (h0 : 1 ≤ i) (h1 : i ≤ 31) (w : World) :
    Calls Try.prog 66 #[.int .u32 (wv x), .int .i64 i] w fun e w' => e = .returned (.int .u32 (wv (rr x i.toNat))) ∧ w' = w :=
  right_any x i i.toNat (by omega) (by omega) (by omega) w
theorem rright_i (x : BitVec 32) (i : Int) (h0 : 1 ≤ i) (h1 : i ≤ 31) (w : World) :
    Calls Try.prog 67 #[.int .u32 (wv x), .int .i64 i] w fun e w' => e = .returned (.int .u32 (wv (rr x i.toNat))) ∧ ∃ m, w' = w.drewN m :=
  rright_any x i i.toNat (by omega) (by omega) (by omega) w
end Go.Proofs.Ytgmehiidnclgmaa
