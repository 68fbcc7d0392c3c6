/- Texts laid into one, cut to what is needed: the remark ahead of each part says what is proved there. -/
import Derived.Test.YtopibkoklagceaaGreatQao
import Derived.Test.YtopibkoklagceaaGreatQan
/- Files of blocks as mathematics: a file is read as its bytes; a file that is read as bytes is theirs; a turned byte is told, and its block. -/
namespace Go.Proofs.YtopibkoklagceaaGreat.H
open Go Go.RowKit

/-- The byte t of the bytes whose file is y. -/
def dat (y : Nat → Nat) (t : Nat) : Nat := y (288 * (t / 256) + 32 + t % 256)
theorem map_range_add (p q : Nat) (f : Nat → Nat) : (List.range (p + q)).map f = (List.range p).map f ++ (List.range q).map (fun j => f (p + j)) := by
 rw [List.range_add, List.map_append, List.map_map]; rfl
theorem parL_pre (y : Nat → Nat) (n a b : Nat) (hab : a ≤ b) (hbn : b ≤ n) : ∀ k, k ≤ cnt n → (List.range k).flatMap (pcs y n a b) = (List.range (min b (256 * k) - a)).map fun j => dat y (a + j)
 | 0, _ => by simp
 | k + 1, hk => by
  have ih := parL_pre y n a b hab hbn k (by omega)
  rw [List.range_succ, List.flatMap_append, ih]
  simp only [List.flatMap_cons, List.flatMap_nil, List.append_nil]
  have hc : cnt n = (n + 255) / 256 := rfl
  have hq : min b (256 * (k + 1)) - a = (min b (256 * k) - a) + (phi n b k - plo a k) := by unfold phi plo bend; omega
  rw [hq, map_range_add]
  congr 1
  unfold pcs
  apply List.map_congr_left
  intro j hj
  have hj := List.mem_range.1 hj
  show _ = dat y (a + ((min b (256 * k) - a) + j))
  have e : a + ((min b (256 * k) - a) + j) = plo a k + j := by unfold phi plo bend at *; omega
  rw [e]
  unfold dat
  have h1 : (plo a k + j) / 256 = k := by unfold phi plo bend at *; omega
  have h2 : (plo a k + j) % 256 = plo a k - 256 * k + j := by unfold phi plo bend at *; omega
  rw [h1, h2, Nat.add_assoc (288 * k + 32)]
theorem parL_dat (y : Nat → Nat) (n a b : Nat) (hab : a ≤ b) (hbn : b ≤ n) : parL y n a b = (List.range (b - a)).map fun j => dat y (a + j) := by
 have h := parL_pre y n a b hab hbn (cnt n) (Nat.le_refl _)
 have hc : cnt n = (n + 255) / 256 := rfl
 rw [show min b (256 * cnt n) - a = b - a by omega] at h
 exact h
/-- Where blocks are all of one length but the last. -/
theorem flat_at : ∀ (K : Nat) (f : Nat → List Nat) (c : Nat), (∀ i, i + 1 < K → (f i).length = c) → ∀ i, i < K → ∀ j, j < (f i).length → ((List.range K).flatMap f)[c * i + j]? = (f i)[j]?
 | 0, _, _, _, i, hi, _, _ => by omega
 | K + 1, f, c, h, i, hi, j, hj => by
  rw [List.range_succ_eq_map, List.flatMap_cons, List.flatMap_map]
  cases i with
  | zero => rw [Nat.mul_zero, Nat.zero_add, List.getElem?_append_left hj]
  | succ i =>
   have h0 : (f 0).length = c := h 0 (by omega)
   rw [List.getElem?_append_right (by rw [h0, Nat.mul_add]; omega), h0, show c * (i + 1) + j - c = c * i + j by rw [Nat.mul_add]; omega]
   exact flat_at K (fun a => f (a + 1)) c (fun i hi => h (i + 1) (by omega)) i (by omega) j hj
theorem fileL_at (n : Nat) (x : Nat → Nat) (i : Nat) (hi : i < cnt n) (j : Nat) (hj : j < 32 + (bend n i - 256 * i)) : (fileL n x).getD (288 * i + j) 0 = (blkL n x i).getD j 0 := by
 have h := flat_at (cnt n) (blkL n x) 288 (fun k hk => by rw [blkL_len]; have : cnt n = (n + 255) / 256 := rfl; unfold bend; omega) i hi j (by rw [blkL_len]; exact hj)
 rw [List.getD_eq_getElem?_getD, List.getD_eq_getElem?_getD]
 unfold fileL
 rw [h]
theorem blk_dig (n : Nat) (x : Nat → Nat) (i j : Nat) (hj : j < 32) : (blkL n x i).getD j 0 = sha (bend n i - 256 * i) (fun k => x (256 * i + k)) j := by
 unfold blkL
 rw [List.getD_eq_getElem?_getD, List.getElem?_append_left (by simpa using hj)]
 simp [hj]
theorem blk_dat (n : Nat) (x : Nat → Nat) (i j : Nat) (hj : j < bend n i - 256 * i) : (blkL n x i).getD (32 + j) 0 = x (256 * i + j) := by
 unfold blkL
 rw [List.getD_eq_getElem?_getD, List.getElem?_append_right (by simp)]
 simp [hj]
/-- In a file of the right size a block ends where it should. -/
theorem sEnd_full (n i : Nat) (hi : i < cnt n) : sEnd (n + 32 * cnt n) n i - (288 * i + 32) = bend n i - 256 * i ∧ 288 * i + 32 + (bend n i - 256 * i) ≤ n + 32 * cnt n := by
 have hc : cnt n = (n + 255) / 256 := rfl
 unfold sEnd
 split
 ·unfold bend at *; omega
 ·unfold bend at *; omega
theorem snd_full (y : Nat → Nat) (n i : Nat) (hi : i < cnt n) : snd y (n + 32 * cnt n) n i = eqD 32 (sha (bend n i - 256 * i) (fun j => y (288 * i + 32 + j))) (fun j => y (288 * i + j)) := by
 have h := sEnd_full n i hi
 rw [snd_eq h.2, h.1]
def fil (n : Nat) (x : Nat → Nat) (i : Nat) : Nat := (fileL n x).getD i 0
theorem fil_dig (n : Nat) (x : Nat → Nat) (i : Nat) (hi : i < cnt n) (j : Nat) (hj : j < 32) : fil n x (288 * i + j) = sha (bend n i - 256 * i) (fun k => x (256 * i + k)) j := by
 unfold fil; rw [fileL_at n x i hi j (by omega), blk_dig n x i j hj]
theorem fil_dat (n : Nat) (x : Nat → Nat) (i : Nat) (hi : i < cnt n) (j : Nat) (hj : j < bend n i - 256 * i) : fil n x (288 * i + 32 + j) = x (256 * i + j) := by
 unfold fil; rw [Nat.add_assoc, fileL_at n x i hi (32 + j) (by omega), blk_dat n x i j hj]
theorem dat_fil (n : Nat) (x : Nat → Nat) (t : Nat) (ht : t < n) : dat (fil n x) t = x t := by
 have hc : cnt n = (n + 255) / 256 := rfl
 unfold dat
 rw [fil_dat n x (t / 256) (by omega) (t % 256) (by unfold bend; omega)]
 congr 1; omega
theorem snd_fil (n : Nat) (x : Nat → Nat) (i : Nat) (hi : i < cnt n) : snd (fil n x) (n + 32 * cnt n) n i = true := by
 rw [snd_full _ n i hi, eqD_iff]
 intro j hj
 show _ = fil n x (288 * i + j)
 rw [fil_dig n x i hi j hj]
 exact sha_congr _ (fun k hk => fil_dat n x i hi k hk) j
theorem parOK_fil (n : Nat) (x : Nat → Nat) (a b : Nat) : parOK (fil n x) (n + 32 * cnt n) n a b = true := by
 unfold parOK
 rw [List.all_eq_true]
 intro i hi
 rw [snd_fil n x i (List.mem_range.1 hi)]
 simp
theorem parL_fil (n : Nat) (x : Nat → Nat) (a b : Nat) (hab : a ≤ b) (hbn : b ≤ n) : parL (fil n x) n a b = (List.range (b - a)).map fun j => x (a + j) := by
 rw [parL_dat _ n a b hab hbn]
 apply List.map_congr_left
 intro j hj
 have := List.mem_range.1 hj
 exact dat_fil n x (a + j) (by omega)
theorem part_fil (n : Nat) (x : Nat → Nat) (hn : n ≤ 65536) (a b : Nat) (hab : a ≤ b) (hbn : b ≤ n) :
  partL (fil n x) (n + 32 * cnt n) n a b = ((List.range (b - a)).map fun j => x (a + j)) ∧ partE (fil n x) (n + 32 * cnt n) n a b = 0 := by
 have hr : rngB (n : Int) a b := ⟨by omega, by omega, by omega, by omega, by omega⟩
 have hm : ((n + 32 * cnt n : Nat) : Int) = szV n := (szV_nat n hn).symm
 have hok := parOK_fil n x a b
 constructor
 ·unfold partL
  rw [if_pos ⟨hr, hm, hok⟩]
  exact parL_fil n x a b hab hbn
 ·unfold partE
  rw [if_pos hr, if_pos hm]
  exact if_pos hok
end Go.Proofs.YtopibkoklagceaaGreat.H

/- Plain mathematics of numbers of eight bits (Nat below 256): products by doubling are linear in either factor, so they make a commutative field with the sums (xor); powers, inverses, logs; the long product and its long division are the same. No conditions but bounds below 256. Nothing of the program is imported. -/
namespace Go.Proofs.YtopibkoklagceaaGreat.U.Gf

def dbl (a : Nat) : Nat := (a <<< 1) ^^^ (if a.testBit 7 then 285 else 0)
def mulGo : Nat → Nat → Nat → Nat → Nat
 | 0, p, _, _ => p
 | k + 1, p, a, b => mulGo k (p ^^^ (if b.testBit 0 then a else 0)) (dbl a) (b >>> 1)
def gm (a b : Nat) : Nat := mulGo 8 0 a b

theorem xor_lc (a b c : Nat) : a ^^^ (b ^^^ c) = b ^^^ (a ^^^ c) := by
 rw [← Nat.xor_assoc, Nat.xor_comm a b, Nat.xor_assoc]
theorem xor4 (a b c d : Nat) : (a ^^^ b) ^^^ (c ^^^ d) = (a ^^^ c) ^^^ (b ^^^ d) := by
 rw [Nat.xor_assoc, Nat.xor_assoc, xor_lc b c d]

theorem if_xor (x y : Bool) (c : Nat) : (if (x ^^ y) = true then c else 0) = (if x = true then c else 0) ^^^ (if y = true then c else 0) := by
 cases x <;> cases y <;> simp
theorem if_xor2 (x : Bool) (c d : Nat) : (if x = true then c ^^^ d else 0) = (if x = true then c else 0) ^^^ (if x = true then d else 0) := by
 cases x <;> simp

theorem dbl_xor (a b : Nat) : dbl (a ^^^ b) = dbl a ^^^ dbl b := by
 unfold dbl; rw [Nat.shiftLeft_xor_distrib, Nat.testBit_xor, if_xor, xor4]

theorem mulGo_left (k : Nat) : ∀ p q a b c, mulGo k (p ^^^ q) (a ^^^ b) c = mulGo k p a c ^^^ mulGo k q b c := by
 induction k with
 | zero => intro p q a b c; rfl
 | succ k ih => intro p q a b c; unfold mulGo; rw [if_xor2, xor4, dbl_xor, ih]
theorem mulGo_right (k : Nat) : ∀ p q a b c, mulGo k (p ^^^ q) a (b ^^^ c) = mulGo k p a b ^^^ mulGo k q a c := by
 induction k with
 | zero => intro p q a b c; rfl
 | succ k ih => intro p q a b c; unfold mulGo; rw [Nat.testBit_xor, if_xor, xor4, Nat.shiftRight_xor_distrib, ih]

theorem gm_left (a b c : Nat) : gm (a ^^^ b) c = gm a c ^^^ gm b c := mulGo_left 8 0 0 a b c
theorem gm_right (a b c : Nat) : gm a (b ^^^ c) = gm a b ^^^ gm a c := mulGo_right 8 0 0 a b c

/-- A function that keeps sums. -/
def Lin (f : Nat → Nat) : Prop := ∀ x y, f (x ^^^ y) = f x ^^^ f y
theorem Lin.zero {f : Nat → Nat} (h : Lin f) : f 0 = 0 := by
 have e := h 0 0
 rw [show (0 : Nat) ^^^ 0 = 0 from rfl, Nat.xor_self] at e; exact e

def bit (a i : Nat) : Nat := if a.testBit i then 2 ^ i else 0
theorem bits_of : ∀ a : Fin 256, a.val = bit a 0 ^^^ (bit a 1 ^^^ (bit a 2 ^^^ (bit a 3 ^^^ (bit a 4 ^^^ (bit a 5 ^^^ (bit a 6 ^^^ bit a 7)))))) := by decide +kernel
theorem Lin.bit {f g : Nat → Nat} (hf : Lin f) (hg : Lin g) (a i : Nat) (h : f (2 ^ i) = g (2 ^ i)) : f (bit a i) = g (bit a i) := by
 unfold Gf.bit; cases a.testBit i
 ·simp [hf.zero, hg.zero]
 ·simpa using h
theorem Lin.ext {f g : Nat → Nat} (hf : Lin f) (hg : Lin g) (h : ∀ i : Fin 8, f (2 ^ i.val) = g (2 ^ i.val)) (a : Nat) (ha : a < 256) : f a = g a := by
 have e := bits_of ⟨a, ha⟩
 simp only at e
 rw [e]
 rw [hf, hf, hf, hf, hf, hf, hf, hg, hg, hg, hg, hg, hg, hg]
 rw [hf.bit hg a 0 (h 0), hf.bit hg a 1 (h 1), hf.bit hg a 2 (h 2), hf.bit hg a 3 (h 3), hf.bit hg a 4 (h 4), hf.bit hg a 5 (h 5), hf.bit hg a 6 (h 6), hf.bit hg a 7 (h 7)]

theorem comm_basis : ∀ i j : Fin 8, gm (2 ^ j.val) (2 ^ i.val) = gm (2 ^ i.val) (2 ^ j.val) := by decide +kernel
theorem gm_comm (a b : Nat) (ha : a < 256) (hb : b < 256) : gm a b = gm b a := by
 refine Lin.ext (f := fun x => gm a x) (g := fun x => gm x a) (fun x y => gm_right a x y) (fun x y => gm_left x y a) (fun i => ?_) b hb
 exact Lin.ext (f := fun x => gm x (2 ^ i.val)) (g := fun x => gm (2 ^ i.val) x) (fun x y => gm_left x y _) (fun x y => gm_right _ x y) (fun j => comm_basis i j) a ha

theorem assoc_basis : ∀ i j k : Fin 8, gm (gm (2 ^ i.val) (2 ^ j.val)) (2 ^ k.val) = gm (2 ^ i.val) (gm (2 ^ j.val) (2 ^ k.val)) := by decide +kernel
theorem gm_assoc (a b c : Nat) (ha : a < 256) (hb : b < 256) (hc : c < 256) : gm (gm a b) c = gm a (gm b c) := by
 refine Lin.ext (f := fun x => gm (gm x b) c) (g := fun x => gm x (gm b c)) (fun x y => ?_) (fun x y => gm_left x y _) (fun i => ?_) a ha
 ·simp only [gm_left]
 refine Lin.ext (f := fun x => gm (gm (2 ^ i.val) x) c) (g := fun x => gm (2 ^ i.val) (gm x c)) (fun x y => ?_) (fun x y => ?_) (fun j => ?_) b hb
 ·simp only [gm_left, gm_right]
 ·simp only [gm_left, gm_right]
 exact Lin.ext (f := fun x => gm (gm (2 ^ i.val) (2 ^ j.val)) x) (g := fun x => gm (2 ^ i.val) (gm (2 ^ j.val) x)) (fun x y => gm_right _ x y) (fun x y => by simp only [gm_right]) (fun k => assoc_basis i j k) c hc

theorem dbl_lt' : ∀ a : Fin 256, dbl a.val < 256 := by decide +kernel
theorem dbl_lt (a : Nat) (h : a < 256) : dbl a < 256 := dbl_lt' ⟨a, h⟩
theorem xor_lt (a b : Nat) (ha : a < 256) (hb : b < 256) : a ^^^ b < 256 := Nat.xor_lt_two_pow (n := 8) ha hb
theorem if_lt (x : Bool) (a : Nat) (h : a < 256) : (if x = true then a else 0) < 256 := by cases x <;> simp <;> omega
theorem mulGo_lt (k : Nat) : ∀ p a b, p < 256 → a < 256 → mulGo k p a b < 256 := by
 induction k with
 | zero => intro p a b h _; exact h
 | succ k ih => intro p a b h h2; exact ih _ _ _ (xor_lt _ _ h (if_lt _ _ h2)) (dbl_lt a h2)
theorem gm_lt (a b : Nat) (ha : a < 256) : gm a b < 256 := mulGo_lt 8 0 a b (by decide) ha

theorem gm_one' : ∀ a : Fin 256, gm a.val 1 = a.val := by decide +kernel
theorem gm_one (a : Nat) (h : a < 256) : gm a 1 = a := gm_one' ⟨a, h⟩
theorem one_gm (a : Nat) (h : a < 256) : gm 1 a = a := by rw [gm_comm 1 a (by decide) h, gm_one a h]
theorem gm_zero (a : Nat) : gm a 0 = 0 := Lin.zero (f := fun x => gm a x) (fun x y => gm_right a x y)
theorem zero_gm (a : Nat) : gm 0 a = 0 := Lin.zero (f := fun x => gm x a) (fun x y => gm_left x y a)

/-! Powers. -/
def gp (a : Nat) : Nat → Nat
 | 0 => 1
 | n + 1 => gm (gp a n) a
theorem gp_lt (a n : Nat) (_h : a < 256) : gp a n < 256 := by
 induction n with
 | zero => show 1 < 256; decide
 | succ n ih => exact gm_lt _ _ ih
theorem gp_add (a n m : Nat) (h : a < 256) : gp a (n + m) = gm (gp a n) (gp a m) := by
 induction m with
 | zero => exact (gm_one _ (gp_lt a n h)).symm
 | succ m ih => show gm (gp a (n + m)) a = gm (gp a n) (gm (gp a m) a); rw [ih, gm_assoc _ _ _ (gp_lt a n h) (gp_lt a m h) h]
theorem gp_sq (a n : Nat) (h : a < 256) : gp (gm a a) n = gp a (2 * n) := by
 induction n with
 | zero => rfl
 | succ n ih =>
  show gm (gp (gm a a) n) (gm a a) = gp a (2 * n + 1 + 1)
  rw [ih]; show _ = gm (gm (gp a (2 * n)) a) a
  rw [gm_assoc _ _ _ (gp_lt a _ h) h h]
theorem gp_one (a : Nat) (h : a < 256) : gp a 1 = a := one_gm a h

/-- Squares and products. -/
def rz : Nat → Nat → Nat → Nat → Nat
 | 0, p, _, _ => p
 | f + 1, p, a, n => rz f (if n % 2 = 1 then gm p a else p) (gm a a) (n / 2)
theorem rz_eq (f : Nat) : ∀ p a n, n < 2 ^ f → p < 256 → a < 256 → rz f p a n = gm p (gp a n) := by
 induction f with
 | zero => intro p a n hn hp _; have : n = 0 := by simp at hn; exact hn
           subst this; exact (gm_one p hp).symm
 | succ f ih =>
  intro p a n hn hp ha
  have h2 : n / 2 < 2 ^ f := by rw [Nat.pow_succ] at hn; omega
  unfold rz
  by_cases h : n % 2 = 1
  ·rw [if_pos h, ih _ _ _ h2 (gm_lt _ _ hp) (gm_lt _ _ ha), gp_sq a _ ha]
   have e : n = 1 + 2 * (n / 2) := by omega
   rw [gm_assoc _ _ _ hp ha (gp_lt _ _ ha)]
   conv => rhs; rw [e, gp_add a 1 _ ha, gp_one a ha]
  ·rw [if_neg h, ih _ _ _ h2 hp (gm_lt _ _ ha), gp_sq a _ ha]
   have e : n = 2 * (n / 2) := by omega
   conv => rhs; rw [e]

theorem fermat' : ∀ a : Fin 256, a.val ≠ 0 → rz 8 1 a.val 255 = 1 := by decide +kernel
theorem gp_255 (a : Nat) (h : a < 256) (h0 : a ≠ 0) : gp a 255 = 1 := by
 have e := fermat' ⟨a, h⟩ h0
 rw [rz_eq 8 1 a 255 (by decide) (by decide) h, one_gm _ (gp_lt _ _ h)] at e; exact e
/-- The inverse. -/
def gi (a : Nat) : Nat := gp a 254
theorem gi_lt (a : Nat) (h : a < 256) : gi a < 256 := gp_lt a 254 h
theorem gi_gm (a : Nat) (h : a < 256) (h0 : a ≠ 0) : gm (gi a) a = 1 := gp_255 a h h0
theorem gi_unique (a b : Nat) (ha : a < 256) (hb : b < 256) (e : gm a b = 1) : a ≠ 0 ∧ b = gi a := by
 have h0 : a ≠ 0 := by intro h; subst h; rw [zero_gm] at e; exact absurd e (by decide)
 refine ⟨h0, ?_⟩
 have h1 : gm (gi a) (gm a b) = b := by rw [← gm_assoc _ _ _ (gi_lt a ha) ha hb, gi_gm a ha h0, one_gm b hb]
 rw [e, gm_one _ (gi_lt a ha)] at h1; exact h1.symm

/-- The exponents: an int taken to 0 .. 254. -/
def ex (n : Int) : Nat := (n % 255).toNat
theorem ex_lt (n : Int) : ex n < 255 := by unfold ex; omega
/-! The long product and the long division. -/
def accGo : Nat → Nat → Nat → Nat → Nat
 | 0, _, _, _ => 0
 | f + 1, i, a, b => (if b.testBit i then a <<< i else 0) ^^^ accGo f (i + 1) a b
def redGo : Nat → Nat → Nat
 | 0, n => n
 | f + 1, n => redGo f (n ^^^ (if n.testBit (f + 8) then 285 <<< f else 0))
def rm (a b : Nat) : Nat := redGo 7 (accGo 8 0 a b)
theorem accGo_left (f : Nat) : ∀ i a b c, accGo f i (a ^^^ b) c = accGo f i a c ^^^ accGo f i b c := by
 induction f with
 | zero => intro i a b c; simp [accGo]
 | succ f ih => intro i a b c; unfold accGo; rw [ih, Nat.shiftLeft_xor_distrib, if_xor2, xor4]
theorem accGo_right (f : Nat) : ∀ i a b c, accGo f i a (b ^^^ c) = accGo f i a b ^^^ accGo f i a c := by
 induction f with
 | zero => intro i a b c; simp [accGo]
 | succ f ih => intro i a b c; unfold accGo; rw [ih, Nat.testBit_xor, if_xor, xor4]
theorem redGo_xor (f : Nat) : ∀ n m, redGo f (n ^^^ m) = redGo f n ^^^ redGo f m := by
 induction f with
 | zero => intro n m; rfl
 | succ f ih => intro n m; unfold redGo; rw [← ih, Nat.testBit_xor, if_xor, xor4]
theorem rm_basis : ∀ i j : Fin 8, rm (2 ^ j.val) (2 ^ i.val) = gm (2 ^ j.val) (2 ^ i.val) := by decide +kernel
theorem rm_eq (a b : Nat) (ha : a < 256) (hb : b < 256) : rm a b = gm a b := by
 refine Lin.ext (f := fun x => rm a x) (g := fun x => gm a x) (fun x y => ?_) (fun x y => gm_right a x y) (fun i => ?_) b hb
 ·simp only [rm, accGo_right, redGo_xor]
 exact Lin.ext (f := fun x => rm x (2 ^ i.val)) (g := fun x => gm x (2 ^ i.val)) (fun x y => by simp only [rm, accGo_left, redGo_xor]) (fun x y => gm_left x y _) (fun j => rm_basis i j) a ha

end Go.Proofs.YtopibkoklagceaaGreat.U.Gf
