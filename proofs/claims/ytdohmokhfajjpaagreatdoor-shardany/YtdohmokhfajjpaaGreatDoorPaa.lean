/- Texts laid into one, cut to what is needed: the remark ahead of each part says what is proved there. -/
import Derived.Test.YtdohmokhfajjpaaGreatDoorRows
import Derived.WalkKit
import Derived.WalkSpells
import Derived.WalkLawsBesides
import Derived.Laws.BitsAllLaws
import Derived.Laws.Closers25b
import Derived.Laws.IdiomCopy
import Derived.Deep.RegionHeld3
import Derived.Deep.QuietTactic
/- Words of 32 bits, SHA-256's rounds and blocks as plain mathematics, and the walk's own spelling of sums and bits against it. -/
namespace Go.Proofs.YtdohmokhfajjpaaGreatDoor.H
open Go.RowKit

theorem hid {p : Prop} (h : p) : Hid p := h
/-- A word of 32 bits, as the number that the program has. -/
def wv (x : BitVec 32) : Int := ((x.toNat : Nat) : Int)
theorem wv_nonneg (x : BitVec 32) : 0 ≤ wv x := by unfold wv; omega
theorem wv_lt (x : BitVec 32) : wv x < 4294967296 := by unfold wv; have := x.isLt; omega
theorem wadd (x y : BitVec 32) : (wv x + wv y) % 4294967296 = wv (x + y) := by
 unfold wv; rw [BitVec.toNat_add]; omega
theorem wxor (x y : BitVec 32) : bits .xor .u32 (wv x) (wv y) = wv (x ^^^ y) := by
 unfold wv; rw [u32_xor_nat _ _ x.isLt y.isLt, BitVec.toNat_xor]
theorem wand (x y : BitVec 32) : bits .and .u32 (wv x) (wv y) = wv (x &&& y) := by
 unfold wv; rw [u32_and_nat _ _ x.isLt y.isLt, BitVec.toNat_and]
theorem wor (x y : BitVec 32) : bits .or .u32 (wv x) (wv y) = wv (x ||| y) := by
 unfold wv; rw [u32_or_nat _ _ x.isLt y.isLt, BitVec.toNat_or]
theorem wnot (x : BitVec 32) : bits .xor .u32 (if IntKind.u32.signed = true then -1 else IntKind.u32.max) (wv x) = wv (~~~x) := by
 have h : (if IntKind.u32.signed = true then -1 else IntKind.u32.max) = wv (4294967295#32) := by decide
 rw [h, wxor, BitVec.xor_comm]
 congr 1
 rw [show (4294967295#32) = BitVec.allOnes 32 by decide, BitVec.xor_allOnes]
theorem wshr (x : BitVec 32) (k : Nat) : wv x / 2 ^ k = wv (x >>> k) := by
 unfold wv; rw [BitVec.toNat_ushiftRight, Nat.shiftRight_eq_div_pow]; simp
theorem wshl (x : BitVec 32) (k : Nat) : wv x * 2 ^ k % 4294967296 = wv (x <<< k) := by
 unfold wv; rw [BitVec.toNat_shiftLeft, Nat.shiftLeft_eq]; simp
theorem waddW (x y : BitVec 32) : IntKind.u32.wrap (wv x + wv y) = wv (x + y) := by rw [IntKind.wrap_u32, wadd]
def rr (x : BitVec 32) (n : Nat) : BitVec 32 := (x >>> n) ||| (x <<< (32 - n))

theorem u64_low (n : Nat) (h0 : 1 ≤ n) (h1 : n ≤ 31) : bits .and .u64 (IntKind.u64.wrap (-(n : Int))) 31 = ((32 - n : Nat) : Int) := by
 have h : ∀ k : Fin 31, bits .and .u64 (IntKind.u64.wrap (-((k.val + 1 : Nat) : Int))) 31 = ((32 - (k.val + 1) : Nat) : Int) := by decide +kernel
 have := h ⟨n - 1, by omega⟩
 simpa [show n - 1 + 1 = n by omega] using this

theorem rotl_any (x : BitVec 32) (n : Nat) (h0 : 1 ≤ n) (h1 : n ≤ 31) (w : World) :
  Calls Tryz.prog 82 #[.int .u32 (wv x), .int .i64 (-(n : Int))] w fun e w' => e = .returned (.int .u32 (wv (rr x n))) ∧ w' = w := by
 have l := u64_low n h0 h1
 have l2 : ((32 - n : Nat) : Int) = 32 - (n : Int) := by omega
 rw [l2] at l
 go_enter Tryz.func82, Tryz.ntmps82
 go_wp2
 go_ret
 refine ⟨?_, rfl⟩
 show Ending.returned (.int .u32 _) = _
 rw [wshl, wshr, wor, show 32 - (32 - n) = n by omega]
 unfold rr
 rw [BitVec.or_comm]
theorem right_any (x : BitVec 32) (i : Int) (n : Nat) (hi : i = (n : Int)) (h0 : 1 ≤ n) (h1 : n ≤ 31) (w : World) :
  Calls Tryz.prog 57 #[.int .u32 (wv x), .int .i64 i] w fun e w' => e = .returned (.int .u32 (wv (rr x n))) ∧ w' = w := by
 subst hi
 go_enter Tryz.func57, Tryz.ntmps57
 go_wp2_with (go_at_call 82; refine (rotl_any x n h0 h1 _).mono ?_; rintro e w' ⟨rfl, rfl⟩)
 go_ret
 exact ⟨rfl, rfl⟩
theorem right_i (x : BitVec 32) (i : Int) (h0 : 1 ≤ i) (h1 : i ≤ 31) (w : World) :
  Calls Tryz.prog 57 #[.int .u32 (wv x), .int .i64 i] w fun e w' => e = .returned (.int .u32 (wv (rr x i.toNat))) ∧ w' = w :=
 right_any x i i.toNat (by omega) (by omega) (by omega) w
end Go.Proofs.YtdohmokhfajjpaaGreatDoor.H

/- SHA-256 as plain mathematics: a block's words, the rounds, the blocks one behind the other, the filling up; and that mixing block by block with a filled-up end is mixing the filled-up whole. -/
namespace Go.Proofs.YtdohmokhfajjpaaGreatDoor.H
open Go.RowKit

def sg0 (x : BitVec 32) : BitVec 32 := rr x 7 ^^^ rr x 18 ^^^ (x >>> 3)
def sg1 (x : BitVec 32) : BitVec 32 := rr x 17 ^^^ rr x 19 ^^^ (x >>> 10)
/-- A block's word t, as far as its j-th byte. -/
def wpart (x : Nat → Nat) (t : Nat) : Nat → BitVec 32
 | 0 => 0
 | j + 1 => (wpart x t j <<< 8) ||| BitVec.ofNat 32 (x (4 * t + j))
def word (x : Nat → Nat) (t : Nat) : BitVec 32 := wpart x t 4
/-- The first n words of a block, and those that follow from them. -/
def schL (x : Nat → Nat) : Nat → List (BitVec 32)
 | 0 => []
 | n + 1 => schL x n ++ [if n < 16 then word x n else sg1 ((schL x n).getD (n - 2) 0) + (schL x n).getD (n - 7) 0 + sg0 ((schL x n).getD (n - 15) 0) + (schL x n).getD (n - 16) 0]
def sch (x : Nat → Nat) (t : Nat) : BitVec 32 := (schL x (t + 1)).getD t 0
theorem schL_len (x : Nat → Nat) : ∀ n, (schL x n).length = n
 | 0 => rfl
 | n + 1 => by simp [schL, schL_len x n]
theorem schL_get (x : Nat → Nat) (t : Nat) : ∀ n, t < n → (schL x n).getD t 0 = sch x t
 | 0, h => by omega
 | n + 1, h => by
  by_cases e : t = n
  ·subst e; rfl
  ·have : (schL x (n + 1)).getD t 0 = (schL x n).getD t 0 := by
     rw [schL]; simp only [List.getD_eq_getElem?_getD]
     rw [List.getElem?_append_left (by rw [schL_len]; omega)]
   rw [this, schL_get x t n (by omega)]
theorem sch_last (x : Nat → Nat) (n : Nat) : sch x n = (if n < 16 then word x n else sg1 ((schL x n).getD (n - 2) 0) + (schL x n).getD (n - 7) 0 + sg0 ((schL x n).getD (n - 15) 0) + (schL x n).getD (n - 16) 0) := by
 unfold sch; rw [schL]; simp only [List.getD_eq_getElem?_getD]
 rw [List.getElem?_append_right (by rw [schL_len]; omega), schL_len]; simp
theorem sch_low (x : Nat → Nat) (t : Nat) (h : t < 16) : sch x t = word x t := by rw [sch_last, if_pos h]
theorem sch_high (x : Nat → Nat) (t : Nat) (h : 16 ≤ t) : sch x t = sg1 (sch x (t - 2)) + sch x (t - 7) + sg0 (sch x (t - 15)) + sch x (t - 16) := by
 rw [sch_last, if_neg (by omega), schL_get _ _ _ (by omega), schL_get _ _ _ (by omega), schL_get _ _ _ (by omega), schL_get _ _ _ (by omega)]
/-- The eight words. -/
structure St where
 a : BitVec 32
 b : BitVec 32
 c : BitVec 32
 d : BitVec 32
 e : BitVec 32
 f : BitVec 32
 g : BitVec 32
 h : BitVec 32
def St.get (s : St) : Nat → BitVec 32
 | 0 => s.a
 | 1 => s.b
 | 2 => s.c
 | 3 => s.d
 | 4 => s.e
 | 5 => s.f
 | 6 => s.g
 | _ => s.h
def kL : List (BitVec 32) := [0x428a2f98#32, 0x71374491#32, 0xb5c0fbcf#32, 0xe9b5dba5#32, 0x3956c25b#32, 0x59f111f1#32, 0x923f82a4#32, 0xab1c5ed5#32, 0xd807aa98#32, 0x12835b01#32, 0x243185be#32, 0x550c7dc3#32, 0x72be5d74#32, 0x80deb1fe#32, 0x9bdc06a7#32, 0xc19bf174#32, 0xe49b69c1#32, 0xefbe4786#32, 0x0fc19dc6#32, 0x240ca1cc#32, 0x2de92c6f#32, 0x4a7484aa#32, 0x5cb0a9dc#32, 0x76f988da#32, 0x983e5152#32, 0xa831c66d#32, 0xb00327c8#32, 0xbf597fc7#32, 0xc6e00bf3#32, 0xd5a79147#32, 0x06ca6351#32, 0x14292967#32, 0x27b70a85#32, 0x2e1b2138#32, 0x4d2c6dfc#32, 0x53380d13#32, 0x650a7354#32, 0x766a0abb#32, 0x81c2c92e#32, 0x92722c85#32, 0xa2bfe8a1#32, 0xa81a664b#32, 0xc24b8b70#32, 0xc76c51a3#32, 0xd192e819#32, 0xd6990624#32, 0xf40e3585#32, 0x106aa070#32, 0x19a4c116#32, 0x1e376c08#32, 0x2748774c#32, 0x34b0bcb5#32, 0x391c0cb3#32, 0x4ed8aa4a#32, 0x5b9cca4f#32, 0x682e6ff3#32, 0x748f82ee#32, 0x78a5636f#32, 0x84c87814#32, 0x8cc70208#32, 0x90befffa#32, 0xa4506ceb#32, 0xbef9a3f7#32, 0xc67178f2#32]
def kk (t : Nat) : BitVec 32 := kL.getD t 0
def st0 : St := ⟨0x6a09e667#32, 0xbb67ae85#32, 0x3c6ef372#32, 0xa54ff53a#32, 0x510e527f#32, 0x9b05688c#32, 0x1f83d9ab#32, 0x5be0cd19#32⟩
def t1f (s : St) (k w : BitVec 32) : BitVec 32 := s.h + (rr s.e 6 ^^^ rr s.e 11 ^^^ rr s.e 25) + ((s.e &&& s.f) ^^^ (~~~s.e &&& s.g)) + k + w
def t2f (s : St) : BitVec 32 := (rr s.a 2 ^^^ rr s.a 13 ^^^ rr s.a 22) + ((s.a &&& s.b) ^^^ (s.a &&& s.c) ^^^ (s.b &&& s.c))
def rnd (s : St) (k w : BitVec 32) : St := ⟨t1f s k w + t2f s, s.a, s.b, s.c, s.d + t1f s k w, s.e, s.f, s.g⟩
def rnds (s : St) (x : Nat → Nat) : Nat → St
 | 0 => s
 | t + 1 => rnd (rnds s x t) (kk t) (sch x t)
def comp (s : St) (x : Nat → Nat) : St :=
 let r := rnds s x 64
 ⟨s.a + r.a, s.b + r.b, s.c + r.c, s.d + r.d, s.e + r.e, s.f + r.f, s.g + r.g, s.h + r.h⟩
theorem comp_get (s : St) (x : Nat → Nat) (i : Nat) : (comp s x).get i = s.get i + (rnds s x 64).get i := by
 unfold comp St.get
 match i with
 | 0 | 1 | 2 | 3 | 4 | 5 | 6 => rfl
 | _ + 7 => rfl
theorem sch_congr {x y : Nat → Nat} (h : ∀ i, i < 64 → x i = y i) : ∀ n, n ≤ 64 → schL x n = schL y n
 | 0, _ => rfl
 | n + 1, hn => by
  rw [schL, schL, sch_congr h n (by omega)]
  have : n < 16 → word x n = word y n := fun hl => by
   unfold word wpart wpart wpart wpart wpart
   rw [h _ (by omega), h _ (by omega), h _ (by omega), h _ (by omega)]
  split
  ·rw [this (by omega)]
  ·rfl
theorem rnds_congr (s : St) {x y : Nat → Nat} (h : ∀ i, i < 64 → x i = y i) : ∀ n, n ≤ 64 → rnds s x n = rnds s y n
 | 0, _ => rfl
 | n + 1, hn => by
  rw [rnds, rnds, rnds_congr s h n (by omega)]
  unfold sch
  rw [sch_congr h (n + 1) (by omega)]
theorem comp_congr (s : St) {x y : Nat → Nat} (h : ∀ i, i < 64 → x i = y i) : comp s x = comp s y := by
 unfold comp; rw [rnds_congr s h 64 (by omega)]
/-- The words behind n blocks of a message. -/
def hs (x : Nat → Nat) : Nat → St
 | 0 => st0
 | n + 1 => comp (hs x n) (fun i => x (64 * n + i))
theorem hs_congr {x y : Nat → Nat} : ∀ n, (∀ i, i < 64 * n → x i = y i) → hs x n = hs y n
 | 0, _ => rfl
 | n + 1, h => by
  rw [hs, hs, hs_congr n (fun i hi => h i (by omega))]
  exact comp_congr _ fun i hi => h _ (by omega)
/-- How many blocks n bytes have, filled up. -/
def nbl (n : Nat) : Nat := (n + 72) / 64
/-- n bytes filled up. -/
def padF (n : Nat) (x : Nat → Nat) (i : Nat) : Nat :=
 if i < n then x i else if i = n then 128 else if i < 64 * nbl n - 8 then 0 else (8 * n) / 256 ^ (64 * nbl n - 1 - i) % 256
def shaSt (n : Nat) (x : Nat → Nat) : St := hs (padF n x) (nbl n)
/-- A digest's bytes. -/
def outB (s : St) (i : Nat) : Nat := (s.get (i / 4)).toNat / 2 ^ (24 - 8 * (i % 4)) % 256
def sha (n : Nat) (x : Nat → Nat) (i : Nat) : Nat := outB (shaSt n x) i
theorem outB_lt (s : St) (i : Nat) : outB s i < 256 := Nat.mod_lt _ (by omega)
theorem sha_lt (n : Nat) (x : Nat → Nat) (i : Nat) : sha n x i < 256 := outB_lt _ _
theorem padF_congr (n : Nat) {x y : Nat → Nat} (h : ∀ i, i < n → x i = y i) (i : Nat) : padF n x i = padF n y i := by
 unfold padF; by_cases q : i < n
 ·rw [if_pos q, if_pos q, h i q]
 ·rw [if_neg q, if_neg q]
theorem sha_congr (n : Nat) {x y : Nat → Nat} (h : ∀ i, i < n → x i = y i) (i : Nat) : sha n x i = sha n y i := by
 unfold sha shaSt; rw [hs_congr (nbl n) (fun i _ => padF_congr n h i)]
/-- The last block of r bytes that are left of n, filled up, with the count if there is room. -/
def lastA (r : Nat) (x : Nat → Nat) (i : Nat) : Nat := if i < r then x i else if i = r then 128 else 0
def withC (n : Nat) (f : Nat → Nat) (i : Nat) : Nat := if i < 56 then f i else (8 * n) / 256 ^ (63 - i) % 256
theorem hs_full (n : Nat) (x : Nat → Nat) (q : Nat) (h : 64 * q ≤ n) : hs (padF n x) q = hs x q :=
 hs_congr q fun i hi => by unfold padF; rw [if_pos (by omega)]
theorem shaSt_short (n : Nat) (x : Nat → Nat) (h : n % 64 < 56) :
  shaSt n x = comp (hs x (n / 64)) (withC n (lastA (n % 64) (fun i => x (64 * (n / 64) + i)))) := by
 have e : nbl n = n / 64 + 1 := by unfold nbl; omega
 unfold shaSt; rw [e, hs, hs_full n x _ (by omega)]
 refine comp_congr _ fun i hi => ?_
 unfold padF withC lastA
 rw [e]
 by_cases c1 : i < 56
 ·rw [if_pos c1]
  by_cases c2 : i < n % 64
  ·rw [if_pos c2, if_pos (by omega)]
  ·rw [if_neg c2, if_neg (by omega)]
   by_cases c3 : i = n % 64
   ·rw [if_pos c3, if_pos (by omega)]
   ·rw [if_neg c3, if_neg (by omega), if_pos (by omega)]
 ·rw [if_neg c1, if_neg (by omega), if_neg (by omega), if_neg (by omega), show 64 * (n / 64 + 1) - 1 - (64 * (n / 64) + i) = 63 - i by omega]
theorem shaSt_long (n : Nat) (x : Nat → Nat) (h : 56 ≤ n % 64) :
  shaSt n x = comp (comp (hs x (n / 64)) (lastA (n % 64) (fun i => x (64 * (n / 64) + i)))) (withC n (fun _ => 0)) := by
 have e : nbl n = n / 64 + 1 + 1 := by unfold nbl; omega
 unfold shaSt; rw [e, hs, hs, hs_full n x _ (by omega)]
 have e1 : comp (hs x (n / 64)) (fun i => padF n x (64 * (n / 64) + i)) = comp (hs x (n / 64)) (lastA (n % 64) (fun i => x (64 * (n / 64) + i))) := by
  refine comp_congr _ fun i hi => ?_
  unfold padF lastA
  rw [e]
  by_cases c2 : i < n % 64
  ·rw [if_pos c2, if_pos (by omega)]
  ·rw [if_neg c2, if_neg (by omega)]
   by_cases c3 : i = n % 64
   ·rw [if_pos c3, if_pos (by omega)]
   ·rw [if_neg c3, if_neg (by omega), if_pos (by omega)]
 rw [e1]
 refine comp_congr _ fun i hi => ?_
 unfold padF withC
 rw [e, if_neg (by omega), if_neg (by omega)]
 by_cases c1 : i < 56
 ·rw [if_pos c1, if_pos (by omega)]
 ·rw [if_neg c1, if_neg (by omega), show 64 * (n / 64 + 1 + 1) - 1 - (64 * (n / 64 + 1) + i) = 63 - i by omega]
end Go.Proofs.YtdohmokhfajjpaaGreatDoor.H
