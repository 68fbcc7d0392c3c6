/- Texts laid into one, cut to what is needed: the remark ahead of each part says what is proved there. -/

/- Plain mathematics of numbers of eight bits (Nat below 256): products by doubling are linear in either factor, so they make a commutative field with the sums (xor); powers, inverses, logs; the long product and its long division are the same. No conditions but bounds below 256. Nothing of the program is imported. -/
namespace Go.Proofs.YtopibkoklagceaaGreat.U.Gf

def dbl (a : Nat) : Nat := (a <<< 1) ^^^ (if a.testBit 7 then 285 else 0)
def mulGo : Nat → Nat → Nat → Nat → Nat
  | 0, p, _, _ => p
  | k + 1, p, a, b => mulGo k (p ^^^ (if b.testBit 0 then a else 0)) (dbl a) (b >>> 1)
def gm (a b : Nat) : Nat := mulGo 8 0 a b

theorem xor_lc (a b c : Nat) : a ^^^ (b ^^^ c) = b ^^^ (a ^^^ c) := by
  rw [← Nat.xor_assoc, Nat.xor_comm a b, Nat.xor_assoc]
theorem xor4 (a b c d : Nat) : (a ^^^ b) ^^^ (c ^^^ d) = (a ^^^ c) ^^^ (b ^^^ d) := by
  rw [Nat.xor_assoc, Nat.xor_assoc, xor_lc b c d]

theorem if_xor (x y : Bool) (c : Nat) : (if (x ^^ y) = true then c else 0) = (if x = true then c else 0) ^^^ (if y = true then c else 0) := by
  cases x <;> cases y <;> simp
theorem if_xor2 (x : Bool) (c d : Nat) : (if x = true then c ^^^ d else 0) = (if x = true then c else 0) ^^^ (if x = true then d else 0) := by
  cases x <;> simp

theorem dbl_xor (a b : Nat) : dbl (a ^^^ b) = dbl a ^^^ dbl b := by
  unfold dbl; rw [Nat.shiftLeft_xor_distrib, Nat.testBit_xor, if_xor, xor4]

theorem mulGo_left (k : Nat) : ∀ p q a b c, mulGo k (p ^^^ q) (a ^^^ b) c = mulGo k p a c ^^^ mulGo k q b c := by
  induction k with
  | zero => intro p q a b c; rfl
  | succ k ih => intro p q a b c; unfold mulGo; rw [if_xor2, xor4, dbl_xor, ih]
theorem mulGo_right (k : Nat) : ∀ p q a b c, mulGo k (p ^^^ q) a (b ^^^ c) = mulGo k p a b ^^^ mulGo k q a c := by
  induction k with
  | zero => intro p q a b c; rfl
  | succ k ih => intro p q a b c; unfold mulGo; rw [Nat.testBit_xor, if_xor, xor4, Nat.shiftRight_xor_distrib, ih]

theorem gm_left (a b c : Nat) : gm (a ^^^ b) c = gm a c ^^^ gm b c := mulGo_left 8 0 0 a b c
theorem gm_right (a b c : Nat) : gm a (b ^^^ c) = gm a b ^^^ gm a c := mulGo_right 8 0 0 a b c

/-- A function that keeps sums. -/
def Lin (f : Nat → Nat) : Prop := ∀ x y, f (x ^^^ y) = f x ^^^ f y
theorem Lin.zero {f : Nat → Nat} (h : Lin f) : f 0 = 0 := by
  have e := h 0 0
  rw [show (0 : Nat) ^^^ 0 = 0 from rfl, Nat.xor_self] at e; exact e

def bit (a i : Nat) : Nat := if a.testBit i then 2 ^ i else 0
theorem bits_of : ∀ a : Fin 256, a.val = bit a 0 ^^^ (bit a 1 ^^^ (bit a 2 ^^^ (bit a 3 ^^^ (bit a 4 ^^^ (bit a 5 ^^^ (bit a 6 ^^^ bit a 7)))))) := by decide +kernel
theorem Lin.bit {f g : Nat → Nat} (hf : Lin f) (hg : Lin g) (a i : Nat) (h : f (2 ^ i) = g (2 ^ i)) : f (bit a i) = g (bit a i) := by
  unfold Gf.bit; cases a.testBit i
  · simp [hf.zero, hg.zero]
  · simpa using h
theorem Lin.ext {f g : Nat → Nat} (hf : Lin f) (hg : Lin g) (h : ∀ i : Fin 8, f (2 ^ i.val) = g (2 ^ i.val)) (a : Nat) (ha : a < 256) : f a = g a := by
  have e := bits_of ⟨a, ha⟩
  simp only at e
  rw [e]
  rw [hf, hf, hf, hf, hf, hf, hf, hg, hg, hg, hg, hg, hg, hg]
  rw [hf.bit hg a 0 (h 0), hf.bit hg a 1 (h 1), hf.bit hg a 2 (h 2), hf.bit hg a 3 (h 3), hf.bit hg a 4 (h 4), hf.bit hg a 5 (h 5), hf.bit hg a 6 (h 6), hf.bit hg a 7 (h 7)]

theorem comm_basis : ∀ i j : Fin 8, gm (2 ^ j.val) (2 ^ i.val) = gm (2 ^ i.val) (2 ^ j.val) := by decide +kernel
theorem gm_comm (a b : Nat) (ha : a < 256) (hb : b < 256) : gm a b = gm b a := by
  refine Lin.ext (f := fun x => gm a x) (g := fun x => gm x a) (fun x y => gm_right a x y) (fun x y => gm_left x y a) (fun i => ?_) b hb
  exact Lin.ext (f := fun x => gm x (2 ^ i.val)) (g := fun x => gm (2 ^ i.val) x) (fun x y => gm_left x y _) (fun x y => gm_right _ x y) (fun j => comm_basis i j) a ha

theorem assoc_basis : ∀ i j k : Fin 8, gm (gm (2 ^ i.val) (2 ^ j.val)) (2 ^ k.val) = gm (2 ^ i.val) (gm (2 ^ j.val) (2 ^ k.val)) := by decide +kernel
theorem gm_assoc (a b c : Nat) (ha : a < 256) (hb : b < 256) (hc : c < 256) : gm (gm a b) c = gm a (gm b c) := by
  refine Lin.ext (f := fun x => gm (gm x b) c) (g := fun x => gm x (gm b c)) (fun x y => ?_) (fun x y => gm_left x y _) (fun i => ?_) a ha
  · simp only [gm_left]
  refine Lin.ext (f := fun x => gm (gm (2 ^ i.val) x) c) (g := fun x => gm (2 ^ i.val) (gm x c)) (fun x y => ?_) (fun x y => ?_) (fun j => ?_) b hb
  · simp only [gm_left, gm_right]
  · simp only [gm_left, gm_right]
  exact Lin.ext (f := fun x => gm (gm (2 ^ i.val) (2 ^ j.val)) x) (g := fun x => gm (2 ^ i.val) (gm (2 ^ j.val) x)) (fun x y => gm_right _ x y) (fun x y => by simp only [gm_right]) (fun k => assoc_basis i j k) c hc

theorem dbl_lt' : ∀ a : Fin 256, dbl a.val < 256 := by decide +kernel
theorem dbl_lt (a : Nat) (h : a < 256) : dbl a < 256 := dbl_lt' ⟨a, h⟩
theorem xor_lt (a b : Nat) (ha : a < 256) (hb : b < 256) : a ^^^ b < 256 := Nat.xor_lt_two_pow (n := 8) ha hb
theorem if_lt (x : Bool) (a : Nat) (h : a < 256) : (if x = true then a else 0) < 256 := by cases x <;> simp <;> omega
theorem mulGo_lt (k : Nat) : ∀ p a b, p < 256 → a < 256 → mulGo k p a b < 256 := by
  induction k with
  | zero => intro p a b h _; exact h
  | succ k ih => intro p a b h h2; exact ih _ _ _ (xor_lt _ _ h (if_lt _ _ h2)) (dbl_lt a h2)
theorem gm_lt (a b : Nat) (ha : a < 256) : gm a b < 256 := mulGo_lt 8 0 a b (by decide) ha

theorem gm_one' : ∀ a : Fin 256, gm a.val 1 = a.val := by decide +kernel
theorem gm_one (a : Nat) (h : a < 256) : gm a 1 = a := gm_one' ⟨a, h⟩
theorem one_gm (a : Nat) (h : a < 256) : gm 1 a = a := by rw [gm_comm 1 a (by decide) h, gm_one a h]
theorem gm_zero (a : Nat) : gm a 0 = 0 := Lin.zero (f := fun x => gm a x) (fun x y => gm_right a x y)
theorem zero_gm (a : Nat) : gm 0 a = 0 := Lin.zero (f := fun x => gm x a) (fun x y => gm_left x y a)

/-! Powers. -/
def gp (a : Nat) : Nat → Nat
  | 0 => 1
  | n + 1 => gm (gp a n) a
theorem gp_lt (a n : Nat) (_h : a < 256) : gp a n < 256 := by
  induction n with
  | zero => show 1 < 256; decide
  | succ n ih => exact gm_lt _ _ ih
theorem gp_add (a n m : Nat) (h : a < 256) : gp a (n + m) = gm (gp a n) (gp a m) := by
  induction m with
  | zero => exact (gm_one _ (gp_lt a n h)).symm
  | succ m ih => show gm (gp a (n + m)) a = gm (gp a n) (gm (gp a m) a); rw [ih, gm_assoc _ _ _ (gp_lt a n h) (gp_lt a m h) h]
theorem gp_sq (a n : Nat) (h : a < 256) : gp (gm a a) n = gp a (2 * n) := by
  induction n with
  | zero => rfl
  | succ n ih =>
    show gm (gp (gm a a) n) (gm a a) = gp a (2 * n + 1 + 1)
    rw [ih]; show _ = gm (gm (gp a (2 * n)) a) a
    rw [gm_assoc _ _ _ (gp_lt a _ h) h h]
theorem gp_one (a : Nat) (h : a < 256) : gp a 1 = a := one_gm a h

/-- Squares and products. -/
def rz : Nat → Nat → Nat → Nat → Nat
  | 0, p, _, _ => p
  | f + 1, p, a, n => rz f (if n % 2 = 1 then gm p a else p) (gm a a) (n / 2)
theorem rz_eq (f : Nat) : ∀ p a n, n < 2 ^ f → p < 256 → a < 256 → rz f p a n = gm p (gp a n) := by
  induction f with
  | zero => intro p a n hn hp _; have : n = 0 := by simp at hn; exact hn
            subst this; exact (gm_one p hp).symm
  | succ f ih =>
    intro p a n hn hp ha
    have h2 : n / 2 < 2 ^ f := by rw [Nat.pow_succ] at hn; omega
    unfold rz
    by_cases h : n % 2 = 1
    · rw [if_pos h, ih _ _ _ h2 (gm_lt _ _ hp) (gm_lt _ _ ha), gp_sq a _ ha]
      have e : n = 1 + 2 * (n / 2) := by omega
      rw [gm_assoc _ _ _ hp ha (gp_lt _ _ ha)]
      conv => rhs; rw [e, gp_add a 1 _ ha, gp_one a ha]
    · rw [if_neg h, ih _ _ _ h2 hp (gm_lt _ _ ha), gp_sq a _ ha]
      have e : n = 2 * (n / 2) := by omega
      conv => rhs; rw [e]

theorem fermat' : ∀ a : Fin 256, a.val ≠ 0 → rz 8 1 a.val 255 = 1 := by decide +kernel
theorem gp_255 (a : Nat) (h : a < 256) (h0 : a ≠ 0) : gp a 255 = 1 := by
  have e := fermat' ⟨a, h⟩ h0
  rw [rz_eq 8 1 a 255 (by decide) (by decide) h, one_gm _ (gp_lt _ _ h)] at e; exact e
/-- The inverse. -/
def gi (a : Nat) : Nat := gp a 254
theorem gi_lt (a : Nat) (h : a < 256) : gi a < 256 := gp_lt a 254 h
theorem gi_gm (a : Nat) (h : a < 256) (h0 : a ≠ 0) : gm (gi a) a = 1 := gp_255 a h h0
theorem gi_unique (a b : Nat) (ha : a < 256) (hb : b < 256) (e : gm a b = 1) : a ≠ 0 ∧ b = gi a := by
  have h0 : a ≠ 0 := by intro h; subst h; rw [zero_gm] at e; exact absurd e (by decide)
  refine ⟨h0, ?_⟩
  have h1 : gm (gi a) (gm a b) = b := by rw [← gm_assoc _ _ _ (gi_lt a ha) ha hb, gi_gm a ha h0, one_gm b hb]
  rw [e, gm_one _ (gi_lt a ha)] at h1; exact h1.symm

/-- The exponents: an int taken to 0 .. 254. -/
def ex (n : Int) : Nat := (n % 255).toNat
theorem ex_lt (n : Int) : ex n < 255 := by unfold ex; omega
/-! The long product and the long division. -/
def accGo : Nat → Nat → Nat → Nat → Nat
  | 0, _, _, _ => 0
  | f + 1, i, a, b => (if b.testBit i then a <<< i else 0) ^^^ accGo f (i + 1) a b
def redGo : Nat → Nat → Nat
  | 0, n => n
  | f + 1, n => redGo f (n ^^^ (if n.testBit (f + 8) then 285 <<< f else 0))
def rm (a b : Nat) : Nat := redGo 7 (accGo 8 0 a b)
theorem accGo_left (f : Nat) : ∀ i a b c, accGo f i (a ^^^ b) c = accGo f i a c ^^^ accGo f i b c := by
  induction f with
  | zero => intro i a b c; simp [accGo]
  | succ f ih => intro i a b c; unfold accGo; rw [ih, Nat.shiftLeft_xor_distrib, if_xor2, xor4]
theorem accGo_right (f : Nat) : ∀ i a b c, accGo f i a (b ^^^ c) = accGo f i a b ^^^ accGo f i a c := by
  induction f with
  | zero => intro i a b c; simp [accGo]
  | succ f ih => intro i a b c; unfold accGo; rw [ih, Nat.testBit_xor, if_xor, xor4]
theorem redGo_xor (f : Nat) : ∀ n m, redGo f (n ^^^ m) = redGo f n ^^^ redGo f m := by
  induction f with
  | zero => intro n m; rfl
  | succ f ih => intro n m; unfold redGo; rw [← ih, Nat.testBit_xor, if_xor, xor4]
theorem rm_basis : ∀ i j : Fin 8, rm (2 ^ j.val) (2 ^ i.val) = gm (2 ^ j.val) (2 ^ i.val) := by decide +kernel
theorem rm_eq (a b : Nat) (ha : a < 256) (hb : b < 256) : rm a b = gm a b := by
  refine Lin.ext (f := fun x => rm a x) (g := fun x => gm a x) (fun x y => ?_) (fun x y => gm_right a x y) (fun i => ?_) b hb
  · simp only [rm, accGo_right, redGo_xor]
  exact Lin.ext (f := fun x => rm x (2 ^ i.val)) (g := fun x => gm x (2 ^ i.val)) (fun x y => by simp only [rm, accGo_left, redGo_xor]) (fun x y => gm_left x y _) (fun j => rm_basis i j) a ha

end Go.Proofs.YtopibkoklagceaaGreat.U.Gf
