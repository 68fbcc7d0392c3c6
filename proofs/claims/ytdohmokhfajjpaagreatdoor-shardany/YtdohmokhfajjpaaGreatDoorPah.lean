/- Texts laid into one, cut to what is needed: the remark ahead of each part says what is proved there. -/
import Derived.Test.YtdohmokhfajjpaaGreatDoorPag
import Derived.Test.YtdohmokhfajjpaaGreatDoorPaf
import Derived.Test.YtdohmokhfajjpaaGreatDoorRows
import Derived.WalkKit
import Derived.WalkSpells
import Derived.WalkLawsBesides
import Derived.Laws.BitsAllLaws
import Derived.Laws.Closers25b
import Derived.Laws.IdiomCopy
import Derived.Deep.RegionHeld3
/- Files of blocks as mathematics: a file is read as its bytes; a file that is read as bytes is theirs; a turned byte is told, and its block. -/
namespace Go.Proofs.YtdohmokhfajjpaaGreatDoor.H
open Go Go.RowKit

/-- The byte t of the bytes whose file is y. -/
def dat (y : Nat → Nat) (t : Nat) : Nat := y (288 * (t / 256) + 32 + t % 256)
theorem map_range_add (p q : Nat) (f : Nat → Nat) : (List.range (p + q)).map f = (List.range p).map f ++ (List.range q).map (fun j => f (p + j)) := by
 rw [List.range_add, List.map_append, List.map_map]; rfl
theorem parL_pre (y : Nat → Nat) (n a b : Nat) (hab : a ≤ b) (hbn : b ≤ n) : ∀ k, k ≤ cnt n → (List.range k).flatMap (pcs y n a b) = (List.range (min b (256 * k) - a)).map fun j => dat y (a + j)
 | 0, _ => by simp
 | k + 1, hk => by
  have ih := parL_pre y n a b hab hbn k (by omega)
  rw [List.range_succ, List.flatMap_append, ih]
  simp only [List.flatMap_cons, List.flatMap_nil, List.append_nil]
  have hc : cnt n = (n + 255) / 256 := rfl
  have hq : min b (256 * (k + 1)) - a = (min b (256 * k) - a) + (phi n b k - plo a k) := by unfold phi plo bend; omega
  rw [hq, map_range_add]
  congr 1
  unfold pcs
  apply List.map_congr_left
  intro j hj
  have hj := List.mem_range.1 hj
  show _ = dat y (a + ((min b (256 * k) - a) + j))
  have e : a + ((min b (256 * k) - a) + j) = plo a k + j := by unfold phi plo bend at *; omega
  rw [e]
  unfold dat
  have h1 : (plo a k + j) / 256 = k := by unfold phi plo bend at *; omega
  have h2 : (plo a k + j) % 256 = plo a k - 256 * k + j := by unfold phi plo bend at *; omega
  rw [h1, h2, Nat.add_assoc (288 * k + 32)]
theorem parL_dat (y : Nat → Nat) (n a b : Nat) (hab : a ≤ b) (hbn : b ≤ n) : parL y n a b = (List.range (b - a)).map fun j => dat y (a + j) := by
 have h := parL_pre y n a b hab hbn (cnt n) (Nat.le_refl _)
 have hc : cnt n = (n + 255) / 256 := rfl
 rw [show min b (256 * cnt n) - a = b - a by omega] at h
 exact h
/-- Where blocks are all of one length but the last. -/
theorem flat_at : ∀ (K : Nat) (f : Nat → List Nat) (c : Nat), (∀ i, i + 1 < K → (f i).length = c) → ∀ i, i < K → ∀ j, j < (f i).length → ((List.range K).flatMap f)[c * i + j]? = (f i)[j]?
 | 0, _, _, _, i, hi, _, _ => by omega
 | K + 1, f, c, h, i, hi, j, hj => by
  rw [List.range_succ_eq_map, List.flatMap_cons, List.flatMap_map]
  cases i with
  | zero => rw [Nat.mul_zero, Nat.zero_add, List.getElem?_append_left hj]
  | succ i =>
   have h0 : (f 0).length = c := h 0 (by omega)
   rw [List.getElem?_append_right (by rw [h0, Nat.mul_add]; omega), h0, show c * (i + 1) + j - c = c * i + j by rw [Nat.mul_add]; omega]
   exact flat_at K (fun a => f (a + 1)) c (fun i hi => h (i + 1) (by omega)) i (by omega) j hj
theorem fileL_at (n : Nat) (x : Nat → Nat) (i : Nat) (hi : i < cnt n) (j : Nat) (hj : j < 32 + (bend n i - 256 * i)) : (fileL n x).getD (288 * i + j) 0 = (blkL n x i).getD j 0 := by
 have h := flat_at (cnt n) (blkL n x) 288 (fun k hk => by rw [blkL_len]; have : cnt n = (n + 255) / 256 := rfl; unfold bend; omega) i hi j (by rw [blkL_len]; exact hj)
 rw [List.getD_eq_getElem?_getD, List.getD_eq_getElem?_getD]
 unfold fileL
 rw [h]
theorem blk_dig (n : Nat) (x : Nat → Nat) (i j : Nat) (hj : j < 32) : (blkL n x i).getD j 0 = sha (bend n i - 256 * i) (fun k => x (256 * i + k)) j := by
 unfold blkL
 rw [List.getD_eq_getElem?_getD, List.getElem?_append_left (by simpa using hj)]
 simp [hj]
theorem blk_dat (n : Nat) (x : Nat → Nat) (i j : Nat) (hj : j < bend n i - 256 * i) : (blkL n x i).getD (32 + j) 0 = x (256 * i + j) := by
 unfold blkL
 rw [List.getD_eq_getElem?_getD, List.getElem?_append_right (by simp)]
 simp [hj]
/-- In a file of the right size a block ends where it should. -/
theorem sEnd_full (n i : Nat) (hi : i < cnt n) : sEnd (n + 32 * cnt n) n i - (288 * i + 32) = bend n i - 256 * i ∧ 288 * i + 32 + (bend n i - 256 * i) ≤ n + 32 * cnt n := by
 have hc : cnt n = (n + 255) / 256 := rfl
 unfold sEnd
 split
 ·unfold bend at *; omega
 ·unfold bend at *; omega
theorem snd_full (y : Nat → Nat) (n i : Nat) (hi : i < cnt n) : snd y (n + 32 * cnt n) n i = eqD 32 (sha (bend n i - 256 * i) (fun j => y (288 * i + 32 + j))) (fun j => y (288 * i + j)) := by
 have h := sEnd_full n i hi
 rw [snd_eq h.2, h.1]
def fil (n : Nat) (x : Nat → Nat) (i : Nat) : Nat := (fileL n x).getD i 0
theorem fil_dig (n : Nat) (x : Nat → Nat) (i : Nat) (hi : i < cnt n) (j : Nat) (hj : j < 32) : fil n x (288 * i + j) = sha (bend n i - 256 * i) (fun k => x (256 * i + k)) j := by
 unfold fil; rw [fileL_at n x i hi j (by omega), blk_dig n x i j hj]
theorem fil_dat (n : Nat) (x : Nat → Nat) (i : Nat) (hi : i < cnt n) (j : Nat) (hj : j < bend n i - 256 * i) : fil n x (288 * i + 32 + j) = x (256 * i + j) := by
 unfold fil; rw [Nat.add_assoc, fileL_at n x i hi (32 + j) (by omega), blk_dat n x i j hj]
theorem dat_fil (n : Nat) (x : Nat → Nat) (t : Nat) (ht : t < n) : dat (fil n x) t = x t := by
 have hc : cnt n = (n + 255) / 256 := rfl
 unfold dat
 rw [fil_dat n x (t / 256) (by omega) (t % 256) (by unfold bend; omega)]
 congr 1; omega
theorem snd_fil (n : Nat) (x : Nat → Nat) (i : Nat) (hi : i < cnt n) : snd (fil n x) (n + 32 * cnt n) n i = true := by
 rw [snd_full _ n i hi, eqD_iff]
 intro j hj
 show _ = fil n x (288 * i + j)
 rw [fil_dig n x i hi j hj]
 exact sha_congr _ (fun k hk => fil_dat n x i hi k hk) j
theorem parOK_fil (n : Nat) (x : Nat → Nat) (a b : Nat) : parOK (fil n x) (n + 32 * cnt n) n a b = true := by
 unfold parOK
 rw [List.all_eq_true]
 intro i hi
 rw [snd_fil n x i (List.mem_range.1 hi)]
 simp
theorem parL_fil (n : Nat) (x : Nat → Nat) (a b : Nat) (hab : a ≤ b) (hbn : b ≤ n) : parL (fil n x) n a b = (List.range (b - a)).map fun j => x (a + j) := by
 rw [parL_dat _ n a b hab hbn]
 apply List.map_congr_left
 intro j hj
 have := List.mem_range.1 hj
 exact dat_fil n x (a + j) (by omega)
theorem part_fil (n : Nat) (x : Nat → Nat) (hn : n ≤ 65536) (a b : Nat) (hab : a ≤ b) (hbn : b ≤ n) :
  partL (fil n x) (n + 32 * cnt n) n a b = ((List.range (b - a)).map fun j => x (a + j)) ∧ partE (fil n x) (n + 32 * cnt n) n a b = 0 := by
 have hr : rngB (n : Int) a b := ⟨by omega, by omega, by omega, by omega, by omega⟩
 have hm : ((n + 32 * cnt n : Nat) : Int) = szV n := (szV_nat n hn).symm
 have hok := parOK_fil n x a b
 constructor
 ·unfold partL
  rw [if_pos ⟨hr, hm, hok⟩]
  exact parL_fil n x a b hab hbn
 ·unfold partE
  rw [if_pos hr, if_pos hm]
  exact if_pos hok
end Go.Proofs.YtdohmokhfajjpaaGreatDoor.H

/- Plain mathematics of numbers of eight bits (Nat below 256): products by doubling are linear in either factor, so they make a commutative field with the sums (xor); powers, inverses, logs; the long product and its long division are the same. No conditions but bounds below 256. Nothing of the program is imported. -/
namespace Go.Proofs.YtdohmokhfajjpaaGreatDoor.U.Gf

def dbl (a : Nat) : Nat := (a <<< 1) ^^^ (if a.testBit 7 then 285 else 0)
def mulGo : Nat → Nat → Nat → Nat → Nat
 | 0, p, _, _ => p
 | k + 1, p, a, b => mulGo k (p ^^^ (if b.testBit 0 then a else 0)) (dbl a) (b >>> 1)
def gm (a b : Nat) : Nat := mulGo 8 0 a b

theorem xor_lc (a b c : Nat) : a ^^^ (b ^^^ c) = b ^^^ (a ^^^ c) := by
 rw [← Nat.xor_assoc, Nat.xor_comm a b, Nat.xor_assoc]
theorem xor4 (a b c d : Nat) : (a ^^^ b) ^^^ (c ^^^ d) = (a ^^^ c) ^^^ (b ^^^ d) := by
 rw [Nat.xor_assoc, Nat.xor_assoc, xor_lc b c d]

theorem if_xor (x y : Bool) (c : Nat) : (if (x ^^ y) = true then c else 0) = (if x = true then c else 0) ^^^ (if y = true then c else 0) := by
 cases x <;> cases y <;> simp
theorem if_xor2 (x : Bool) (c d : Nat) : (if x = true then c ^^^ d else 0) = (if x = true then c else 0) ^^^ (if x = true then d else 0) := by
 cases x <;> simp

theorem dbl_xor (a b : Nat) : dbl (a ^^^ b) = dbl a ^^^ dbl b := by
 unfold dbl; rw [Nat.shiftLeft_xor_distrib, Nat.testBit_xor, if_xor, xor4]

theorem mulGo_left (k : Nat) : ∀ p q a b c, mulGo k (p ^^^ q) (a ^^^ b) c = mulGo k p a c ^^^ mulGo k q b c := by
 induction k with
 | zero => intro p q a b c; rfl
 | succ k ih => intro p q a b c; unfold mulGo; rw [if_xor2, xor4, dbl_xor, ih]
theorem mulGo_right (k : Nat) : ∀ p q a b c, mulGo k (p ^^^ q) a (b ^^^ c) = mulGo k p a b ^^^ mulGo k q a c := by
 induction k with
 | zero => intro p q a b c; rfl
 | succ k ih => intro p q a b c; unfold mulGo; rw [Nat.testBit_xor, if_xor, xor4, Nat.shiftRight_xor_distrib, ih]

theorem gm_left (a b c : Nat) : gm (a ^^^ b) c = gm a c ^^^ gm b c := mulGo_left 8 0 0 a b c
theorem gm_right (a b c : Nat) : gm a (b ^^^ c) = gm a b ^^^ gm a c := mulGo_right 8 0 0 a b c

/-- A function that keeps sums. -/
def Lin (f : Nat → Nat) : Prop := ∀ x y, f (x ^^^ y) = f x ^^^ f y
theorem Lin.zero {f : Nat → Nat} (h : Lin f) : f 0 = 0 := by
 have e := h 0 0
 rw [show (0 : Nat) ^^^ 0 = 0 from rfl, Nat.xor_self] at e; exact e

def bit (a i : Nat) : Nat := if a.testBit i then 2 ^ i else 0
theorem bits_of : ∀ a : Fin 256, a.val = bit a 0 ^^^ (bit a 1 ^^^ (bit a 2 ^^^ (bit a 3 ^^^ (bit a 4 ^^^ (bit a 5 ^^^ (bit a 6 ^^^ bit a 7)))))) := by decide +kernel
theorem Lin.bit {f g : Nat → Nat} (hf : Lin f) (hg : Lin g) (a i : Nat) (h : f (2 ^ i) = g (2 ^ i)) : f (bit a i) = g (bit a i) := by
 unfold Gf.bit; cases a.testBit i
 ·simp [hf.zero, hg.zero]
 ·simpa using h
theorem Lin.ext {f g : Nat → Nat} (hf : Lin f) (hg : Lin g) (h : ∀ i : Fin 8, f (2 ^ i.val) = g (2 ^ i.val)) (a : Nat) (ha : a < 256) : f a = g a := by
 have e := bits_of ⟨a, ha⟩
 simp only at e
 rw [e]
 rw [hf, hf, hf, hf, hf, hf, hf, hg, hg, hg, hg, hg, hg, hg]
 rw [hf.bit hg a 0 (h 0), hf.bit hg a 1 (h 1), hf.bit hg a 2 (h 2), hf.bit hg a 3 (h 3), hf.bit hg a 4 (h 4), hf.bit hg a 5 (h 5), hf.bit hg a 6 (h 6), hf.bit hg a 7 (h 7)]

theorem comm_basis : ∀ i j : Fin 8, gm (2 ^ j.val) (2 ^ i.val) = gm (2 ^ i.val) (2 ^ j.val) := by decide +kernel
theorem gm_comm (a b : Nat) (ha : a < 256) (hb : b < 256) : gm a b = gm b a := by
 refine Lin.ext (f := fun x => gm a x) (g := fun x => gm x a) (fun x y => gm_right a x y) (fun x y => gm_left x y a) (fun i => ?_) b hb
 exact Lin.ext (f := fun x => gm x (2 ^ i.val)) (g := fun x => gm (2 ^ i.val) x) (fun x y => gm_left x y _) (fun x y => gm_right _ x y) (fun j => comm_basis i j) a ha

theorem assoc_basis : ∀ i j k : Fin 8, gm (gm (2 ^ i.val) (2 ^ j.val)) (2 ^ k.val) = gm (2 ^ i.val) (gm (2 ^ j.val) (2 ^ k.val)) := by decide +kernel
theorem gm_assoc (a b c : Nat) (ha : a < 256) (hb : b < 256) (hc : c < 256) : gm (gm a b) c = gm a (gm b c) := by
 refine Lin.ext (f := fun x => gm (gm x b) c) (g := fun x => gm x (gm b c)) (fun x y => ?_) (fun x y => gm_left x y _) (fun i => ?_) a ha
 ·simp only [gm_left]
 refine Lin.ext (f := fun x => gm (gm (2 ^ i.val) x) c) (g := fun x => gm (2 ^ i.val) (gm x c)) (fun x y => ?_) (fun x y => ?_) (fun j => ?_) b hb
 ·simp only [gm_left, gm_right]
 ·simp only [gm_left, gm_right]
 exact Lin.ext (f := fun x => gm (gm (2 ^ i.val) (2 ^ j.val)) x) (g := fun x => gm (2 ^ i.val) (gm (2 ^ j.val) x)) (fun x y => gm_right _ x y) (fun x y => by simp only [gm_right]) (fun k => assoc_basis i j k) c hc

theorem dbl_lt' : ∀ a : Fin 256, dbl a.val < 256 := by decide +kernel
theorem dbl_lt (a : Nat) (h : a < 256) : dbl a < 256 := dbl_lt' ⟨a, h⟩
theorem xor_lt (a b : Nat) (ha : a < 256) (hb : b < 256) : a ^^^ b < 256 := Nat.xor_lt_two_pow (n := 8) ha hb
theorem if_lt (x : Bool) (a : Nat) (h : a < 256) : (if x = true then a else 0) < 256 := by cases x <;> simp <;> omega
theorem mulGo_lt (k : Nat) : ∀ p a b, p < 256 → a < 256 → mulGo k p a b < 256 := by
 induction k with
 | zero => intro p a b h _; exact h
 | succ k ih => intro p a b h h2; exact ih _ _ _ (xor_lt _ _ h (if_lt _ _ h2)) (dbl_lt a h2)
theorem gm_lt (a b : Nat) (ha : a < 256) : gm a b < 256 := mulGo_lt 8 0 a b (by decide) ha

theorem gm_one' : ∀ a : Fin 256, gm a.val 1 = a.val := by decide +kernel
theorem gm_one (a : Nat) (h : a < 256) : gm a 1 = a := gm_one' ⟨a, h⟩
theorem one_gm (a : Nat) (h : a < 256) : gm 1 a = a := by rw [gm_comm 1 a (by decide) h, gm_one a h]
theorem gm_zero (a : Nat) : gm a 0 = 0 := Lin.zero (f := fun x => gm a x) (fun x y => gm_right a x y)
theorem zero_gm (a : Nat) : gm 0 a = 0 := Lin.zero (f := fun x => gm x a) (fun x y => gm_left x y a)

/-! Powers. -/
def gp (a : Nat) : Nat → Nat
 | 0 => 1
 | n + 1 => gm (gp a n) a
theorem gp_lt (a n : Nat) (_h : a < 256) : gp a n < 256 := by
 induction n with
 | zero => show 1 < 256; decide
 | succ n ih => exact gm_lt _ _ ih
theorem gp_add (a n m : Nat) (h : a < 256) : gp a (n + m) = gm (gp a n) (gp a m) := by
 induction m with
 | zero => exact (gm_one _ (gp_lt a n h)).symm
 | succ m ih => show gm (gp a (n + m)) a = gm (gp a n) (gm (gp a m) a); rw [ih, gm_assoc _ _ _ (gp_lt a n h) (gp_lt a m h) h]
theorem gp_sq (a n : Nat) (h : a < 256) : gp (gm a a) n = gp a (2 * n) := by
 induction n with
 | zero => rfl
 | succ n ih =>
  show gm (gp (gm a a) n) (gm a a) = gp a (2 * n + 1 + 1)
  rw [ih]; show _ = gm (gm (gp a (2 * n)) a) a
  rw [gm_assoc _ _ _ (gp_lt a _ h) h h]
theorem gp_one (a : Nat) (h : a < 256) : gp a 1 = a := one_gm a h

/-- Squares and products. -/
def rz : Nat → Nat → Nat → Nat → Nat
 | 0, p, _, _ => p
 | f + 1, p, a, n => rz f (if n % 2 = 1 then gm p a else p) (gm a a) (n / 2)
theorem rz_eq (f : Nat) : ∀ p a n, n < 2 ^ f → p < 256 → a < 256 → rz f p a n = gm p (gp a n) := by
 induction f with
 | zero => intro p a n hn hp _; have : n = 0 := by simp at hn; exact hn
           subst this; exact (gm_one p hp).symm
 | succ f ih =>
  intro p a n hn hp ha
  have h2 : n / 2 < 2 ^ f := by rw [Nat.pow_succ] at hn; omega
  unfold rz
  by_cases h : n % 2 = 1
  ·rw [if_pos h, ih _ _ _ h2 (gm_lt _ _ hp) (gm_lt _ _ ha), gp_sq a _ ha]
   have e : n = 1 + 2 * (n / 2) := by omega
   rw [gm_assoc _ _ _ hp ha (gp_lt _ _ ha)]
   conv => rhs; rw [e, gp_add a 1 _ ha, gp_one a ha]
  ·rw [if_neg h, ih _ _ _ h2 hp (gm_lt _ _ ha), gp_sq a _ ha]
   have e : n = 2 * (n / 2) := by omega
   conv => rhs; rw [e]

theorem fermat' : ∀ a : Fin 256, a.val ≠ 0 → rz 8 1 a.val 255 = 1 := by decide +kernel
theorem gp_255 (a : Nat) (h : a < 256) (h0 : a ≠ 0) : gp a 255 = 1 := by
 have e := fermat' ⟨a, h⟩ h0
 rw [rz_eq 8 1 a 255 (by decide) (by decide) h, one_gm _ (gp_lt _ _ h)] at e; exact e
/-- The inverse. -/
def gi (a : Nat) : Nat := gp a 254
theorem gi_lt (a : Nat) (h : a < 256) : gi a < 256 := gp_lt a 254 h
theorem gi_gm (a : Nat) (h : a < 256) (h0 : a ≠ 0) : gm (gi a) a = 1 := gp_255 a h h0
/-- The exponents: an int taken to 0 .. 254. -/
def ex (n : Int) : Nat := (n % 255).toNat
theorem ex_lt (n : Int) : ex n < 255 := by unfold ex; omega
/-! The long product and the long division. -/
def accGo : Nat → Nat → Nat → Nat → Nat
 | 0, _, _, _ => 0
 | f + 1, i, a, b => (if b.testBit i then a <<< i else 0) ^^^ accGo f (i + 1) a b
def redGo : Nat → Nat → Nat
 | 0, n => n
 | f + 1, n => redGo f (n ^^^ (if n.testBit (f + 8) then 285 <<< f else 0))
end Go.Proofs.YtdohmokhfajjpaaGreatDoor.U.Gf

/- Texts laid into one: the remark ahead of each part says what is proved there. -/
/- Contracts of the functions of package gf over plain numbers (Add, Mul and what they call): whatever bytes come in, each returns what the plain mathematics says, and the world is as it was. -/
namespace Go.Proofs.YtdohmokhfajjpaaGreatDoor.U
open Go.RowKit

theorem ret_int {k : IntKind} {a b : Int} (h : a = b) : Ending.returned (.int k a) = .returned (.int k b) := by rw [h]

/-! The walk's own spelling against the plain one. -/
theorem w_dbl' : ∀ a : Fin 256, bits BinOp.xor IntKind.u8 ((a.val : Int) * 2 % 256) (bits BinOp.and IntKind.u8 29 (-((a.val : Int) / 128) % 256)) = (Gf.dbl a.val : Nat) := by decide +kernel
theorem w_dbl (a : Int) (h0 : 0 ≤ a) (h1 : a ≤ 255) : bits BinOp.xor IntKind.u8 (a * 2 % 256) (bits BinOp.and IntKind.u8 29 (-(a / 128) % 256)) = (Gf.dbl a.toNat : Nat) := by
 have := w_dbl' ⟨a.toNat, by omega⟩
 simp only at this
 rwa [Int.toNat_of_nonneg h0] at this
theorem w_xor (a b : Int) (h0 : 0 ≤ a) (h1 : a ≤ 255) (h2 : 0 ≤ b) (h3 : b ≤ 255) : bits BinOp.xor IntKind.u8 a b = ((a.toNat ^^^ b.toNat : Nat) : Int) :=
 u8_xor a b h0 (by omega) h2 (by omega)
theorem w_msk' : ∀ b : Fin 256, -(bits BinOp.and IntKind.u8 (b.val : Int) 1) % 256 = if b.val.testBit 0 then 255 else 0 := by decide +kernel
theorem w_255' : ∀ a : Fin 256, bits BinOp.and IntKind.u8 (a.val : Int) 255 = (a.val : Int) := by decide +kernel
theorem w_000' : ∀ a : Fin 256, bits BinOp.and IntKind.u8 (a.val : Int) 0 = 0 := by decide +kernel
theorem w_step (p a b : Nat) (hp : p < 256) (ha : a < 256) (hb : b < 256) :
  bits BinOp.xor IntKind.u8 (p : Int) (bits BinOp.and IntKind.u8 (a : Int) (-(bits BinOp.and IntKind.u8 (b : Int) 1) % 256)) = ((p ^^^ (if b.testBit 0 then a else 0) : Nat) : Int) := by
 have h := w_msk' ⟨b, hb⟩
 simp only at h
 rw [h]
 cases b.testBit 0
 ·have e := w_000' ⟨a, ha⟩
  simp only at e
  simp only [Bool.false_eq_true, if_false]
  rw [e]; exact u8_xor_nat p 0 hp (by decide)
 ·have e := w_255' ⟨a, ha⟩
  simp only at e
  simp only [if_true]
  rw [e]; exact u8_xor_nat p a hp ha
theorem w_half (b : Nat) : Int.ediv (Int.ofNat b) (2 : Int) = Int.ofNat (b >>> 1) := by
 rw [Nat.shiftRight_eq_div_pow]; show ((b : Nat) : Int) / (2 : Int) = ((b / 2 ^ 1 : Nat) : Int); omega

set_option maxHeartbeats 400000 in
theorem add_any (a b : Int) (w : World) (h0 : 0 ≤ a) (h1 : a ≤ 255) (h2 : 0 ≤ b) (h3 : b ≤ 255) :
  Calls Tryz.prog 60 #[.int .u8 a, .int .u8 b] w fun e w' => e = .returned (.int .u8 ((a.toNat ^^^ b.toNat : Nat) : Int)) ∧ w' = w := by
 go_enter Tryz.func60, Tryz.ntmps60
 go_wp2
 go_ret
 exact ⟨ret_int (w_xor a b h0 h1 h2 h3), rfl⟩
set_option maxHeartbeats 400000 in
theorem spread_any (b : Int) (w : World) (_h0 : 0 ≤ b) (_h1 : b ≤ 255) :
  Calls Tryz.prog 84 #[.int .u8 b] w fun e w' => e = .returned (.int .u8 (-b % 256)) ∧ w' = w := by
 go_enter Tryz.func84, Tryz.ntmps84
 go_wp2
 go_ret
 exact ⟨rfl, rfl⟩
set_option maxHeartbeats 400000 in
theorem double_any (a : Int) (w : World) (h0 : 0 ≤ a) (h1 : a ≤ 255) :
  Calls Tryz.prog 85 #[.int .u8 a] w fun e w' => e = .returned (.int .u8 (Gf.dbl a.toNat : Nat)) ∧ w' = w := by
 go_enter Tryz.func85, Tryz.ntmps85
 go_wp2
 go_ret
 exact ⟨ret_int (w_dbl a h0 h1), rfl⟩
set_option maxHeartbeats 400000 in
theorem mul_any (a b : Int) (w : World) (h0 : 0 ≤ a) (h1 : a ≤ 255) (h2 : 0 ≤ b) (h3 : b ≤ 255) :
  Calls Tryz.prog 62 #[.int .u8 a, .int .u8 b] w fun e w' => e = .returned (.int .u8 (Gf.gm a.toNat b.toNat : Nat)) ∧ w' = w := by
 go_enter Tryz.func62, Tryz.ntmps62
 go_wp2
 go_loop [0, 1, 5, 6] (fun x y p i => ∃ k A B P : Nat, k ≤ 8 ∧ A < 256 ∧ B < 256 ∧ P < 256 ∧ i = .int .i64 k ∧ x = .int .u8 A ∧ y = .int .u8 B ∧ p = .int .u8 P ∧ Gf.mulGo (8 - k) P A B = Gf.gm a.toNat b.toNat) (fun _ _ _ i => 8 - (intOf i).toNat)
 case atStart => exact ⟨0, a.toNat, b.toNat, 0, by omega, by omega, by omega, by omega, rfl, by rw [Int.toNat_of_nonneg h0], by rw [Int.toNat_of_nonneg h2], rfl, rfl⟩
 case round =>
  obtain ⟨k, A, B, P, hk, hA, hB, hP, rfl, rfl, rfl, rfl, hm⟩ := hrel
  have HM : Hid (Gf.mulGo (8 - k) P A B = Gf.gm a.toNat b.toNat) := hm
  clear hm
  by_cases hlt : k < 8
  ·go_wp2_with (first | (go_at_call 84; refine (spread_any _ _ (bits_lo_u8 _ _ _) (bits_hi_u8 _ _ _)).mono ?_; rintro e w' ⟨rfl, rfl⟩) | (go_at_call 85; refine (double_any _ _ (by omega) (by omega)).mono ?_; rintro e w' ⟨rfl, rfl⟩))
   go_round
   case rel =>
    refine ⟨k + 1, Gf.dbl A, B >>> 1, P ^^^ (if B.testBit 0 then A else 0), by omega, Gf.dbl_lt A hA, ?_, Gf.xor_lt _ _ hP (Gf.if_lt _ _ hA), by go_num, ?_, ?_, ?_, ?_⟩
    ·rw [Nat.shiftRight_eq_div_pow]; omega
    ·simp
    ·exact congrArg (Value.int IntKind.u8) (w_half B)
    ·rw [w_step P A B hP hA hB]
    ·rw [← HM.out, show 8 - k = (8 - (k + 1)) + 1 by omega]; rfl
   case measure => simp [intOf]; omega
  ·have : k = 8 := by omega
   subst this
   go_wp2
   go_ret
   exact ⟨ret_int (by rw [← HM.out]; rfl), rfl⟩
end Go.Proofs.YtdohmokhfajjpaaGreatDoor.U

/- Contracts of the functions of package gf that make powers, inverses, quotients and logs: whatever bytes and exponents come in, each returns what the plain mathematics says, and the world is as it was. -/
namespace Go.Proofs.YtdohmokhfajjpaaGreatDoor.U
open Go.RowKit

theorem hid {p : Prop} (h : p) : Hid p := h

theorem tmod_ex (n : Int) : -255 < n.tmod 255 ∧ n.tmod 255 < 255 ∧ (n.tmod 255 < 0 → n.tmod 255 + 255 = (Gf.ex n : Nat)) ∧ (0 ≤ n.tmod 255 → n.tmod 255 = (Gf.ex n : Nat)) := by
 have e := Int.tmod_eq_emod (a := n) (b := 255)
 have b1 := Int.emod_nonneg n (b := 255) (by decide)
 have b2 := Int.emod_lt_of_pos n (b := 255) (by decide)
 unfold Gf.ex
 by_cases h : 0 ≤ n ∨ (255 : Int) ∣ n
 ·rw [if_pos h] at e; omega
 ·rw [if_neg h] at e
  have : n % 255 ≠ 0 := fun hz => h (Or.inr (Int.dvd_of_emod_eq_zero hz))
  have e2 : ((255 : Int).natAbs : Int) = 255 := rfl
  omega

set_option maxHeartbeats 400000 in
theorem turn_any (n : Int) (w : World) (_h0 : -9223372036854775808 ≤ n) (_h1 : n ≤ 9223372036854775807) :
  Calls Tryz.prog 97 #[.int .i64 n] w fun e w' => e = .returned (.int .i64 (Gf.ex n : Nat)) ∧ w' = w := by
 obtain ⟨b1, b2, b3, b4⟩ := tmod_ex n
 have B3 := hid b3
 have B4 := hid b4
 clear b3 b4
 go_enter Tryz.func97, Tryz.ntmps97
 go_wp2
 ·go_ret
  exact ⟨ret_int (B3.out (by assumption)), rfl⟩
 ·go_ret
  exact ⟨ret_int (B4.out (by assumption)), rfl⟩

theorem odd' : ∀ N : Fin 255, (bits BinOp.and IntKind.i64 (N.val : Int) 1 == 1) = (N.val % 2 == 1) := by decide +kernel
theorem half_i (b : Nat) : Int.ediv (Int.ofNat b) (2 : Int) = Int.ofNat (b / 2) := by
 show ((b : Nat) : Int) / (2 : Int) = ((b / 2 : Nat) : Int); omega

theorem rz_step1 (P A N : Nat) (hP : P < 256) (hA : A < 256) (h : N % 2 = 1) : Gf.gm (Gf.gm P A) (Gf.gp (Gf.gm A A) (N / 2)) = Gf.gm P (Gf.gp A N) := by
 rw [Gf.gp_sq A _ hA, Gf.gm_assoc _ _ _ hP hA (Gf.gp_lt _ _ hA)]
 have e : N = 1 + 2 * (N / 2) := by omega
 conv => rhs; rw [e, Gf.gp_add A 1 _ hA, Gf.gp_one A hA]
theorem rz_step0 (P A N : Nat) (hA : A < 256) (h : ¬ N % 2 = 1) : Gf.gm P (Gf.gp (Gf.gm A A) (N / 2)) = Gf.gm P (Gf.gp A N) := by
 rw [Gf.gp_sq A _ hA]
 have e : N = 2 * (N / 2) := by omega
 conv => rhs; rw [e]

set_option maxHeartbeats 400000 in
theorem raise_any (a n : Int) (w : World) (h0 : 0 ≤ a) (h1 : a ≤ 255) (h2 : 0 ≤ n) (h3 : n ≤ 254) :
  Calls Tryz.prog 96 #[.int .u8 a, .int .i64 n] w fun e w' => e = .returned (.int .u8 (Gf.gp a.toNat n.toNat : Nat)) ∧ w' = w := by
 go_enter Tryz.func96, Tryz.ntmps96
 go_wp2
 go_loop [0, 1, 5] (fun x y p => ∃ A N P : Nat, A < 256 ∧ N ≤ 254 ∧ P < 256 ∧ x = .int .u8 A ∧ y = .int .i64 N ∧ p = .int .u8 P ∧ Gf.gm P (Gf.gp A N) = Gf.gp a.toNat n.toNat) (fun _ y _ => (intOf y).toNat)
 case atStart => exact ⟨a.toNat, n.toNat, 1, by omega, by omega, by omega, by rw [Int.toNat_of_nonneg h0], by rw [Int.toNat_of_nonneg h2], rfl, Gf.one_gm _ (Gf.gp_lt _ _ (by omega))⟩
 case round =>
  obtain ⟨A, N, P, hA, hN, hP, rfl, rfl, rfl, hm⟩ := hrel
  have HM : Hid (Gf.gm P (Gf.gp A N) = Gf.gp a.toNat n.toNat) := hm
  clear hm
  by_cases hlt : 0 < N
  ·have ho := odd' ⟨N, by omega⟩
   simp only at ho
   by_cases hodd : N % 2 = 1
   ·have hb : (bits BinOp.and IntKind.i64 (N : Int) 1 == 1) = true := by rw [ho, hodd]; rfl
    clear ho
    have HO := hid hodd
    clear hodd
    go_wp2_with (go_at_call 62; refine (mul_any _ _ _ (by omega) (by omega) (by omega) (by omega)).mono ?_; rintro e w' ⟨rfl, rfl⟩)
    go_round
    case rel =>
     exact ⟨Gf.gm A A, N / 2, Gf.gm P A, Gf.gm_lt _ _ hA, by omega, Gf.gm_lt _ _ hP, by simp, congrArg (Value.int IntKind.i64) (half_i N), by simp, by rw [rz_step1 P A N hP hA HO.out]; exact HM.out⟩
    case measure => simp [intOf]; omega
   ·have hb : (bits BinOp.and IntKind.i64 (N : Int) 1 == 1) = false := by rw [ho]; simpa using hodd
    clear ho
    have HO := hid hodd
    clear hodd
    go_wp2_with (go_at_call 62; refine (mul_any _ _ _ (by omega) (by omega) (by omega) (by omega)).mono ?_; rintro e w' ⟨rfl, rfl⟩)
    go_round
    case rel =>
     exact ⟨Gf.gm A A, N / 2, P, Gf.gm_lt _ _ hA, by omega, hP, by simp, congrArg (Value.int IntKind.i64) (half_i N), rfl, by rw [rz_step0 P A N hA HO.out]; exact HM.out⟩
    case measure => simp [intOf]; omega
  ·have : N = 0 := by omega
   subst this
   go_wp2
   go_ret
   exact ⟨ret_int (by rw [← HM.out]; exact congrArg Int.ofNat (Gf.gm_one P hP).symm), rfl⟩

/-- What a power is, and its error's number. -/
def powV (a : Nat) (n : Int) : Int := if a = 0 then (if n = 0 then 1 else 0) else (Gf.gp a (Gf.ex n) : Nat)
def powE (a : Nat) (n : Int) : Int := if a = 0 then (if n < 0 then 5 else 0) else 0
set_option maxHeartbeats 400000 in
theorem pow_any (a n : Int) (w : World) (h0 : 0 ≤ a) (h1 : a ≤ 255) (h2 : -9223372036854775808 ≤ n) (h3 : n ≤ 9223372036854775807) :
  Calls Tryz.prog 83 #[.int .u8 a, .int .i64 n] w fun e w' => e = .returned (.tuple #[.int .u8 (powV a.toNat n), .int .i64 (powE a.toNat n)]) ∧ w' = w := by
 by_cases ha : a = 0
 ·subst ha
  by_cases hn : n < 0
  ·go_enter Tryz.func83, Tryz.ntmps83
   go_wp2
   go_ret2
   have e : n ≠ 0 := by omega
   exact ⟨by simp [powV, powE, hn, e], rfl⟩
  ·by_cases hz : n = 0
   ·subst hz
    go_enter Tryz.func83, Tryz.ntmps83
    go_wp2
    go_ret2
    exact ⟨by simp [powV, powE], rfl⟩
   ·have hz' : (n == 0) = false := by simpa using hz
    go_enter Tryz.func83, Tryz.ntmps83
    go_wp2
    go_ret2
    exact ⟨by simp [powV, powE, hn, hz], rfl⟩
 ·have ha' : (a != 0) = true := by simpa using ha
  have hx := Gf.ex_lt n
  go_enter Tryz.func83, Tryz.ntmps83
  go_wp2_with (first | (go_at_call 97; refine (turn_any _ _ h2 h3).mono ?_; rintro e w' ⟨rfl, rfl⟩) | (go_at_call 96; refine (raise_any _ _ _ h0 h1 (by omega) (by omega)).mono ?_; rintro e w' ⟨rfl, rfl⟩))
  go_ret2
  have e : a.toNat ≠ 0 := by omega
  exact ⟨by simp [powV, powE, e], rfl⟩
end Go.Proofs.YtdohmokhfajjpaaGreatDoor.U

/- Contract of Inv of package gf: whatever bytes come in, each returns what the plain mathematics says, and the world is as it was. -/
namespace Go.Proofs.YtdohmokhfajjpaaGreatDoor.U
open Go.RowKit

theorem ret_ie {k k2 : IntKind} {a b c d : Int} (h : a = b) (h2 : c = d) : Ending.returned (.tuple #[.int k a, .int k2 c]) = .returned (.tuple #[.int k b, .int k2 d]) := by rw [h, h2]

def invV (a : Nat) : Int := if a = 0 then 0 else (Gf.gi a : Nat)
def invE (a : Nat) : Int := if a = 0 then 5 else 0
theorem powV_neg (a : Nat) : powV a (-1) = invV a := by
 unfold powV invV
 by_cases h : a = 0
 ·rw [if_pos h, if_pos h]; rfl
 ·rw [if_neg h, if_neg h]; rfl
theorem powE_neg (a : Nat) : powE a (-1) = invE a := rfl

set_option maxHeartbeats 400000 in
theorem inv_any (a : Int) (w : World) (h0 : 0 ≤ a) (h1 : a ≤ 255) :
  Calls Tryz.prog 59 #[.int .u8 a] w fun e w' => e = .returned (.tuple #[.int .u8 (invV a.toNat), .int .i64 (invE a.toNat)]) ∧ w' = w := by
 go_enter Tryz.func59, Tryz.ntmps59
 go_wp2_with (go_at_call 83; refine (pow_any _ _ _ h0 h1 (by omega) (by omega)).mono ?_; rintro e w' ⟨rfl, rfl⟩)
 go_ret2
 exact ⟨ret_ie (powV_neg _) (powE_neg _), rfl⟩

end Go.Proofs.YtdohmokhfajjpaaGreatDoor.U

/- Contracts of the document's own answers for products, inverses, quotients, powers and logs of bytes: the long product with its long division is the same product; each call leaves the world as it was. -/
namespace Go.Proofs.YtdohmokhfajjpaaGreatDoor.U
open Go.RowKit

/-- The accumulated sum with what is still to come. -/
def AccAt (a b k N : Nat) : Prop := N ^^^ Gf.accGo (8 - k) k a b = Gf.accGo 8 0 a b
theorem AccAt.on {a b k N : Nat} (h : AccAt a b k N) (hk : k < 8) (ht : b.testBit k = true) : AccAt a b (k + 1) (N ^^^ a <<< k) := by
 unfold AccAt at *
 rw [← h, show 8 - k = (8 - (k + 1)) + 1 by omega]
 conv => rhs; unfold Gf.accGo
 rw [ht, if_pos rfl, Nat.xor_assoc]
theorem AccAt.off {a b k N : Nat} (h : AccAt a b k N) (hk : k < 8) (ht : b.testBit k = false) : AccAt a b (k + 1) N := by
 unfold AccAt at *
 rw [← h, show 8 - k = (8 - (k + 1)) + 1 by omega]
 conv => rhs; unfold Gf.accGo
 rw [ht]; simp
theorem AccAt.out {a b N : Nat} (h : AccAt a b 8 N) : N = Gf.accGo 8 0 a b := by
 unfold AccAt at h; rw [← h]; simp [Gf.accGo]
/-- The number with what is left of its division. -/
def RedAt (a b m N : Nat) : Prop := Gf.redGo (m - 7) N = Gf.gm a b
theorem RedAt.on {a b m N : Nat} (h : RedAt a b m N) (hm : 8 ≤ m) (ht : N.testBit m = true) : RedAt a b (m - 1) (N ^^^ 285 <<< (m - 8)) := by
 unfold RedAt at *
 rw [show m - 7 = (m - 8) + 1 by omega] at h
 unfold Gf.redGo at h
 rw [show m - 8 + 8 = m by omega, ht, if_pos rfl] at h
 rw [show m - 1 - 7 = m - 8 by omega]; exact h
theorem RedAt.off {a b m N : Nat} (h : RedAt a b m N) (hm : 8 ≤ m) (ht : N.testBit m = false) : RedAt a b (m - 1) N := by
 unfold RedAt at *
 rw [show m - 7 = (m - 8) + 1 by omega] at h
 unfold Gf.redGo at h
 rw [show m - 8 + 8 = m by omega, ht] at h
 rw [show m - 1 - 7 = m - 8 by omega]; simpa using h
theorem RedAt.out {a b N : Nat} (ha : a < 256) (h : RedAt a b 7 N) : N = Gf.gm a b ∧ N < 256 := by
 unfold RedAt at h
 have := Gf.gm_lt a b ha
 exact ⟨h, by rw [show N = Gf.gm a b from h]; exact this⟩

end Go.Proofs.YtdohmokhfajjpaaGreatDoor.U

/- Contract of the document's own answer for inverses: it is as the program's, and leaves the world as it was. -/
namespace Go.Proofs.YtdohmokhfajjpaaGreatDoor.U
open Go.RowKit

end Go.Proofs.YtdohmokhfajjpaaGreatDoor.U

/- Contracts of match and Dot of package gf, over slices of bytes as they lie in memory: the error's number by the lengths, the sum of the products; the world is as it was. -/
namespace Go.Proofs.YtdohmokhfajjpaaGreatDoor.U
open Go.RowKit

def errM (x y : Nat) : Int := if 65536 < x ∨ 65536 < y then 3 else if x = y then 0 else 2
set_option maxRecDepth 100000 in
set_option maxHeartbeats 400000 in
theorem match_any (a b : Option Addr) (x y cx cy : Nat) (w : World) :
  Calls Tryz.prog 61 #[.slice a x cx, .slice b y cy] w fun e w' => e = .returned (.int .i64 (errM x y)) ∧ w' = w := by
 by_cases h1 : 65536 < x
 ·have H : Hid (errM x y = 3) := if_pos (Or.inl h1)
  go_enter Tryz.func61, Tryz.ntmps61
  go_wp2
  go_ret
  exact ⟨ret_int H.out.symm, rfl⟩
 ·by_cases h2 : 65536 < y
  ·have H : Hid (errM x y = 3) := if_pos (Or.inr h2)
   go_enter Tryz.func61, Tryz.ntmps61
   go_wp2
   go_ret
   exact ⟨ret_int H.out.symm, rfl⟩
  ·by_cases h3 : x = y
   ·have H : Hid (errM x y = 0) := by unfold errM; rw [if_neg (by omega), if_pos h3]; trivial
    have h4 : ((x : Int) != (y : Int)) = false := by rw [h3]; simp
    clear h3
    go_enter Tryz.func61, Tryz.ntmps61
    go_wp2
    go_ret
    exact ⟨ret_int H.out.symm, rfl⟩
   ·have H : Hid (errM x y = 2) := by unfold errM; rw [if_neg (by omega), if_neg h3]; trivial
    have h4 : ((x : Int) != (y : Int)) = true := by simp; omega
    clear h3
    go_enter Tryz.func61, Tryz.ntmps61
    go_wp2
    go_ret
    exact ⟨ret_int H.out.symm, rfl⟩

/-- The sum of the products at each place, up to n. -/
def dotN (x y : Nat → Nat) : Nat → Nat
 | 0 => 0
 | n + 1 => dotN x y n ^^^ Gf.gm (x n) (y n)
theorem dotN_lt (x y : Nat → Nat) (n : Nat) (hx : ∀ i, i < n → x i < 256) : dotN x y n < 256 := by
 induction n with
 | zero => exact (by decide : 0 < 256)
 | succ n ih => exact Gf.xor_lt _ _ (ih fun i h => hx i (by omega)) (Gf.gm_lt _ _ (hx n (by omega)))

set_option maxRecDepth 100000 in
set_option maxHeartbeats 400000 in
theorem dot_some (bx ox nx cx bY oy cy : Nat) (x y : Nat → Nat) (w : World) (hn : nx ≤ 65536) (_hcx : nx ≤ cx) (hcy : nx ≤ cy)
  (hx : ∀ i, i < nx → x i < 256) (hy : ∀ i, i < nx → y i < 256)
  (cellx : ∀ i, i < nx → w.cell? ⟨bx, ox + i, none⟩ = some (.int .u8 (x i : Nat))) (celly : ∀ i, i < nx → w.cell? ⟨bY, oy + i, none⟩ = some (.int .u8 (y i : Nat))) :
  Calls Tryz.prog 42 #[.slice (some ⟨bx, ox, none⟩) nx cx, .slice (some ⟨bY, oy, none⟩) nx cy] w fun e w' => e = .returned (.tuple #[.int .u8 (dotN x y nx : Nat), .int .i64 0]) ∧ w' = w := by
 have HE : Hid (errM nx nx = 0) := by unfold errM; rw [if_neg (by omega), if_pos rfl]; trivial
 go_enter Tryz.func42, Tryz.ntmps42
 go_wp2_with (go_at_call 61; refine (match_any _ _ _ _ _ _ _).mono ?_; rintro e w' ⟨rfl, rfl⟩; rw [HE.out])
 go_loop [7, 22] (fun s i => ∃ k : Nat, k ≤ nx ∧ i = .int .i64 k ∧ s = .int .u8 (dotN x y k : Nat)) (fun _ i => (nx - intOf i).toNat)
 case atStart => exact ⟨0, by omega, rfl, rfl⟩
 case round =>
  obtain ⟨k, hk, rfl, rfl⟩ := hrel
  have hd := dotN_lt x y k (fun i h => hx i (by omega))
  by_cases hlt : k < nx
  ·have hcx' := cellx k hlt
   have hcy' := celly k hlt
   have hx' := hx k hlt
   have hy' := hy k hlt
   have hg := Gf.gm_lt (x k) (y k) hx'
   clear cellx celly hx hy
   go_wp2_with (first | (go_at_call 62; refine (mul_any _ _ _ (by omega) (by omega) (by omega) (by omega)).mono ?_; rintro e w' ⟨rfl, rfl⟩) | (go_at_call 60; refine (add_any _ _ _ (by omega) (by omega) (by omega) (by omega)).mono ?_; rintro e w' ⟨rfl, rfl⟩))
   go_round
   case rel => exact ⟨k + 1, by omega, by go_num, by simp [dotN]⟩
   case measure => simp [intOf]; omega
  ·have e : k = nx := by omega
   have E := hid e
   clear e cellx celly
   go_wp2
   go_ret2
   exact ⟨ret_ie (by rw [E.out]) rfl, rfl⟩

end Go.Proofs.YtdohmokhfajjpaaGreatDoor.U

/- Rows of bytes as they lie in memory, and new ones. -/
namespace Go.Proofs.YtdohmokhfajjpaaGreatDoor.U
open Go.RowKit

theorem Tryz.info5 : (Tryz.prog.info? 5).map (fun i => (i.zero, i.size, i.bytes)) = some (some (.int .u8 0), 1, 1) := by kernel_rfl

/-- A row of n bytes lies at block b from o on. -/
def RowAt (w : World) (b o n : Nat) (x : Nat → Nat) : Prop := ∀ i, i < n → w.cell? ⟨b, o + i, none⟩ = some (.int .u8 (x i : Nat))
/-- The world w has one block more than w0 has: n bytes, x, which may be written; what was there is as it was. -/
structure NewRow (w0 w : World) (n : Nat) (x : Nat → Nat) : Prop where
 size : w.heap.size = w0.heap.size + 1
 below : Below w0.heap.size w0 w
 cells : ∀ i, i < n → w.cell? ⟨w0.heap.size, i, none⟩ = some (.int .u8 (x i : Nat))
 free : ∀ i, w.frozen? ⟨w0.heap.size, i, none⟩ = false

theorem madeCells_get (z : Value) (n i : Nat) (h : i < n) : (madeCells #[z] n)[i]? = some z := by
 simp [madeCells, h, Nat.mod_one]
theorem run_make_u8 (n : Nat) (hn : n ≤ 70003) (w : World) :
  (Instr.makeSlice 22 (.int .i64 (n : Int)) (.int .i64 (n : Int))).run Tryz.prog w = .ok (.slice (some ⟨w.heap.size, 0, none⟩) n n) (w.alloc (.cells (madeCells #[.int .u8 0] n) 5)) := by
 obtain ⟨i0, hi, hz0, hz1, hz2⟩ := info_parts Tryz.info5
 have h := run_make (P := Tryz.prog) w 22 5 i0 (.int .u8 0) Tryz.underlying22 hi hz0 .i64 .i64 n n (by omega) (Int.le_refl _) (by rw [hz2]; omega) (by omega)
 rw [hz1] at h
 simpa [Value.cells] using h

theorem NewRow.made (w : World) (n : Nat) : NewRow w (w.alloc (.cells (madeCells #[.int .u8 0] n) 5)) n (fun _ => 0) where
 size := by simp
 below := (Below.refl _ _).alloc (Nat.le_refl _) _
 cells := fun i h => by rw [World.cell?_alloc_new, madeCells_get _ _ _ h]; rfl
 free := fun i => World.frozen?_alloc_new _ _ _ _
theorem NewRow.set {w0 w : World} {n : Nat} {x : Nat → Nat} (h : NewRow w0 w n x) (k : Nat) (v : Nat) (hk : k < n) :
  NewRow w0 (w.setCell ⟨w0.heap.size, k, none⟩ (.int .u8 (v : Nat))) n (fun i => if i = k then v else x i) where
 size := by simp [h.size]
 below := h.below.setCell (Nat.le_refl _) _
 cells := fun i hi => by
  by_cases e : i = k
  ·subst e
   rw [World.cell?_setCell_same _ _ _ (h.cells i hi)]; simp
  ·rw [World.cell?_setCell_other _ _ _ _ (by intro h2; cases h2; exact e rfl), h.cells i hi]; simp [e]
 free := fun i => by rw [World.frozen?_setCell]; exact h.free i
theorem NewRow.congr {w0 w : World} {n : Nat} {x y : Nat → Nat} (h : NewRow w0 w n x) (e : ∀ i, i < n → x i = y i) : NewRow w0 w n y where
 size := h.size
 below := h.below
 cells := fun i hi => by rw [h.cells i hi, e i hi]
 free := h.free

end Go.Proofs.YtdohmokhfajjpaaGreatDoor.U

/- Contract of SameBytes of the statements' kit: of two slices that read alike it returns true, and leaves the world as it was. -/
namespace Go.Proofs.YtdohmokhfajjpaaGreatDoor.U
open Go.RowKit

/-- The slice's value leads to n bytes x; one of no byte may lead anywhere. -/
def StrAt (w : World) (p : Option Addr) (n : Nat) (x : Nat → Nat) : Prop := n = 0 ∨ ∃ b o, p = some ⟨b, o, none⟩ ∧ RowAt w b o n x
end Go.Proofs.YtdohmokhfajjpaaGreatDoor.U

/- Contract of LentBytes of the statements' kit: a copy of the bytes lies in a new block, with three marked bytes of spare room behind it; what was there is as it was. -/
namespace Go.Proofs.YtdohmokhfajjpaaGreatDoor.U
open Go.RowKit

theorem size_setCells (b : Nat) : ∀ (vs : List Value) (o : Nat) (w : World), (w.setCells b o vs).heap.size = w.heap.size
 | [], _, _ => rfl
 | v :: r, o, w => by rw [World.setCells, size_setCells b r, World.size_setCell]
theorem below_setCells (b B : Nat) (hB : B ≤ b) : ∀ (vs : List Value) (o : Nat) (w0 w : World), Below B w0 w → Below B w0 (w.setCells b o vs)
 | [], _, _, _, h => h
 | v :: r, o, w0, w, h => by rw [World.setCells]; exact below_setCells b B hB r (o + 1) w0 _ (h.setCell hB _)

/-- n bytes as values. -/
def valN (n : Nat) (x : Nat → Nat) : List Value := (List.range n).map fun i => .int .u8 (x i : Nat)
theorem valN_len (n : Nat) (x : Nat → Nat) : (valN n x).length = n := by simp [valN]
theorem valN_get (n : Nat) (x : Nat → Nat) (i : Nat) (h : i < n) : (valN n x)[i]? = some (.int .u8 (x i : Nat)) := by simp [valN, h]

theorem NewRow.copied {w0 w : World} {n : Nat} {x : Nat → Nat} (h : NewRow w0 w n x) (m : Nat) (y : Nat → Nat) (hm : m ≤ n) :
  NewRow w0 (w.setCells w0.heap.size 0 (valN m y)) n (fun i => if i < m then y i else x i) where
 size := by rw [size_setCells, h.size]
 below := below_setCells _ _ (Nat.le_refl _) _ _ _ _ h.below
 cells := fun i hi => by
  by_cases e : i < m
  ·have hin := World.cell?_setCells_in w0.heap.size (valN m y) 0 w (fun j hj => by
     rw [valN_len] at hj
     rw [Nat.zero_add, h.cells j (by omega)]; rfl) i (by rw [valN_len]; exact e)
   rw [Nat.zero_add] at hin
   rw [hin, if_pos e]
   have g := valN_get m y i e
   rw [List.getElem?_eq_getElem (by rw [valN_len]; exact e)] at g
   exact g
  ·rw [World.cell?_setCells_out _ _ _ _ _ (fun _ _ => by rw [valN_len]; right; simp; omega), if_neg e, h.cells i hi]
 free := fun i => by rw [World.frozen?_setCells]; exact h.free i

/-- What a lent list reads as, its spare room with it. -/
def lentN (n : Nat) (x : Nat → Nat) (i : Nat) : Nat := if i < n then x i else 160 + i % 90

end Go.Proofs.YtdohmokhfajjpaaGreatDoor.U

/- Contracts of OverBytes and KeptBytes of the statements' kit: the first turns the bytes of the one block that it is handed, and no other; the second returns true of a lent list that reads as it was lent. -/
namespace Go.Proofs.YtdohmokhfajjpaaGreatDoor.U
open Go.RowKit

/-- From w to w' nothing has turned but what block g holds. -/
structure OnlyAt (g : Nat) (w w' : World) : Prop where
 os : w'.os = w.os
 tape : w'.tape = w.tape
 output : w'.output = w.output
 size : w'.heap.size = w.heap.size
 block : ∀ k, k ≠ g → w'.heap[k]? = w.heap[k]?
theorem OnlyAt.refl (g : Nat) (w : World) : OnlyAt g w w := ⟨rfl, rfl, rfl, rfl, fun _ _ => rfl⟩
theorem OnlyAt.setCell {g : Nat} {w w' : World} (h : OnlyAt g w w') (i : Nat) (v : Value) : OnlyAt g w (w'.setCell ⟨g, i, none⟩ v) :=
 ⟨h.os, h.tape, h.output, by rw [World.size_setCell]; exact h.size, fun k hk => (Below.heap_setCell _ _ _ k hk).trans (h.block k hk)⟩
theorem OnlyAt.below {g B : Nat} {w0 w w' : World} (h : OnlyAt g w w') (hb : Below B w0 w) (hB : B ≤ g) : Below B w0 w' :=
 ⟨h.os.trans hb.os, h.tape.trans hb.tape, h.output.trans hb.output, by rw [h.size]; exact hb.size, fun k hk => (h.block k (by omega)).trans (hb.block k hk)⟩
theorem OnlyAt.row {g : Nat} {w w' : World} (h : OnlyAt g w w') {b o n : Nat} {x : Nat → Nat} (hr : RowAt w b o n x) (hb : b ≠ g) : RowAt w' b o n x :=
 fun i hi => (World.cell?_of_block (w := w) (h.block b hb)).trans (hr i hi)

theorem RowAt.below {B : Nat} {w w' : World} {b o n : Nat} {x : Nat → Nat} (h : RowAt w b o n x) (hb : Below B w w') (hlt : b < B) : RowAt w' b o n x :=
 fun i hi => (hb.cell (p := ⟨b, o + i, none⟩) hlt).trans (h i hi)
theorem NewRow.row {w0 w : World} {n : Nat} {x : Nat → Nat} (h : NewRow w0 w n x) : RowAt w w0.heap.size 0 n x :=
 fun i hi => by rw [Nat.zero_add]; exact h.cells i hi

end Go.Proofs.YtdohmokhfajjpaaGreatDoor.U
