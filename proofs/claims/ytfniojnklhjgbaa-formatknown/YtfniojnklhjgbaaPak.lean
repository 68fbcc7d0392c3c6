/- Texts laid into one, cut to what is needed: the remark ahead of each part says what is proved there. -/
import Derived.Test.YtfniojnklhjgbaaRows
import Derived.WalkKit
import Derived.WalkSpells
import Derived.WalkLawsBesides
import Derived.Laws.BitsAllLaws
import Derived.Laws.Closers25b
import Derived.Laws.IdiomCopy
import Derived.Deep.RegionHeld3
/- Plain mathematics of numbers of eight bits (Nat below 256): products by doubling are linear in either factor, so they make a commutative field with the sums (xor); powers, inverses, logs; the long product and its long division are the same. No conditions but bounds below 256. Nothing of the program is imported. -/
namespace Go.Proofs.Ytfniojnklhjgbaa.U.Gf

def dbl (a : Nat) : Nat := (a <<< 1) ^^^ (if a.testBit 7 then 285 else 0)
def mulGo : Nat → Nat → Nat → Nat → Nat
  | 0, p, _, _ => p
  | k + 1, p, a, b => mulGo k (p ^^^ (if b.testBit 0 then a else 0)) (dbl a) (b >>> 1)
def gm (a b : Nat) : Nat := mulGo 8 0 a b

theorem xor_lc (a b c : Nat) : a ^^^ (b ^^^ c) = b ^^^ (a ^^^ c) := by
  rw [← Nat.xor_assoc, Nat.xor_comm a b, Nat.xor_assoc]
theorem xor4 (a b c d : Nat) : (a ^^^ b) ^^^ (c ^^^ d) = (a ^^^ c) ^^^ (b ^^^ d) := by
  rw [Nat.xor_assoc, Nat.xor_assoc, xor_lc b c d]

theorem if_xor (x y : Bool) (c : Nat) : (if (x ^^ y) = true then c else 0) = (if x = true then c else 0) ^^^ (if y = true then c else 0) := by
  cases x <;> cases y <;> simp
theorem if_xor2 (x : Bool) (c d : Nat) : (if x = true then c ^^^ d else 0) = (if x = true then c else 0) ^^^ (if x = true then d else 0) := by
  cases x <;> simp

theorem dbl_xor (a b : Nat) : dbl (a ^^^ b) = dbl a ^^^ dbl b := by
  unfold dbl; rw [Nat.shiftLeft_xor_distrib, Nat.testBit_xor, if_xor, xor4]

theorem mulGo_left (k : Nat) : ∀ p q a b c, mulGo k (p ^^^ q) (a ^^^ b) c = mulGo k p a c ^^^ mulGo k q b c := by
  induction k with
  | zero => intro p q a b c; rfl
  | succ k ih => intro p q a b c; unfold mulGo; rw [if_xor2, xor4, dbl_xor, ih]
theorem mulGo_right (k : Nat) : ∀ p q a b c, mulGo k (p ^^^ q) a (b ^^^ c) = mulGo k p a b ^^^ mulGo k q a c := by
  induction k with
  | zero => intro p q a b c; rfl
  | succ k ih => intro p q a b c; unfold mulGo; rw [Nat.testBit_xor, if_xor, xor4, Nat.shiftRight_xor_distrib, ih]

theorem gm_left (a b c : Nat) : gm (a ^^^ b) c = gm a c ^^^ gm b c := mulGo_left 8 0 0 a b c
theorem gm_right (a b c : Nat) : gm a (b ^^^ c) = gm a b ^^^ gm a c := mulGo_right 8 0 0 a b c

/-- A function that keeps sums. -/
def Lin (f : Nat → Nat) : Prop := ∀ x y, f (x ^^^ y) = f x ^^^ f y
theorem Lin.zero {f : Nat → Nat} (h : Lin f) : f 0 = 0 := by
  have e := h 0 0
  rw [show (0 : Nat) ^^^ 0 = 0 from rfl, Nat.xor_self] at e; exact e

def bit (a i : Nat) : Nat := if a.testBit i then 2 ^ i else 0
theorem bits_of : ∀ a : Fin 256, a.val = bit a 0 ^^^ (bit a 1 ^^^ (bit a 2 ^^^ (bit a 3 ^^^ (bit a 4 ^^^ (bit a 5 ^^^ (bit a 6 ^^^ bit a 7)))))) := by decide +kernel
theorem Lin.bit {f g : Nat → Nat} (hf : Lin f) (hg : Lin g) (a i : Nat) (h : f (2 ^ i) = g (2 ^ i)) : f (bit a i) = g (bit a i) := by
  unfold Gf.bit; cases a.testBit i
  · simp [hf.zero, hg.zero]
  · simpa using h
theorem Lin.ext {f g : Nat → Nat} (hf : Lin f) (hg : Lin g) (h : ∀ i : Fin 8, f (2 ^ i.val) = g (2 ^ i.val)) (a : Nat) (ha : a < 256) : f a = g a := by
  have e := bits_of ⟨a, ha⟩
  simp only at e
  rw [e]
  rw [hf, hf, hf, hf, hf, hf, hf, hg, hg, hg, hg, hg, hg, hg]
  rw [hf.bit hg a 0 (h 0), hf.bit hg a 1 (h 1), hf.bit hg a 2 (h 2), hf.bit hg a 3 (h 3), hf.bit hg a 4 (h 4), hf.bit hg a 5 (h 5), hf.bit hg a 6 (h 6), hf.bit hg a 7 (h 7)]

theorem comm_basis : ∀ i j : Fin 8, gm (2 ^ j.val) (2 ^ i.val) = gm (2 ^ i.val) (2 ^ j.val) := by decide +kernel
theorem gm_comm (a b : Nat) (ha : a < 256) (hb : b < 256) : gm a b = gm b a := by
  refine Lin.ext (f := fun x => gm a x) (g := fun x => gm x a) (fun x y => gm_right a x y) (fun x y => gm_left x y a) (fun i => ?_) b hb
  exact Lin.ext (f := fun x => gm x (2 ^ i.val)) (g := fun x => gm (2 ^ i.val) x) (fun x y => gm_left x y _) (fun x y => gm_right _ x y) (fun j => comm_basis i j) a ha

theorem assoc_basis : ∀ i j k : Fin 8, gm (gm (2 ^ i.val) (2 ^ j.val)) (2 ^ k.val) = gm (2 ^ i.val) (gm (2 ^ j.val) (2 ^ k.val)) := by decide +kernel
theorem gm_assoc (a b c : Nat) (ha : a < 256) (hb : b < 256) (hc : c < 256) : gm (gm a b) c = gm a (gm b c) := by
  refine Lin.ext (f := fun x => gm (gm x b) c) (g := fun x => gm x (gm b c)) (fun x y => ?_) (fun x y => gm_left x y _) (fun i => ?_) a ha
  · simp only [gm_left]
  refine Lin.ext (f := fun x => gm (gm (2 ^ i.val) x) c) (g := fun x => gm (2 ^ i.val) (gm x c)) (fun x y => ?_) (fun x y => ?_) (fun j => ?_) b hb
  · simp only [gm_left, gm_right]
  · simp only [gm_left, gm_right]
  exact Lin.ext (f := fun x => gm (gm (2 ^ i.val) (2 ^ j.val)) x) (g := fun x => gm (2 ^ i.val) (gm (2 ^ j.val) x)) (fun x y => gm_right _ x y) (fun x y => by simp only [gm_right]) (fun k => assoc_basis i j k) c hc

theorem dbl_lt' : ∀ a : Fin 256, dbl a.val < 256 := by decide +kernel
theorem dbl_lt (a : Nat) (h : a < 256) : dbl a < 256 := dbl_lt' ⟨a, h⟩
theorem xor_lt (a b : Nat) (ha : a < 256) (hb : b < 256) : a ^^^ b < 256 := Nat.xor_lt_two_pow (n := 8) ha hb
theorem if_lt (x : Bool) (a : Nat) (h : a < 256) : (if x = true then a else 0) < 256 := by cases x <;> simp <;> omega
theorem mulGo_lt (k : Nat) : ∀ p a b, p < 256 → a < 256 → mulGo k p a b < 256 := by
  induction k with
  | zero => intro p a b h _; exact h
  | succ k ih => intro p a b h h2; exact ih _ _ _ (xor_lt _ _ h (if_lt _ _ h2)) (dbl_lt a h2)
theorem gm_lt (a b : Nat) (ha : a < 256) : gm a b < 256 := mulGo_lt 8 0 a b (by decide) ha

theorem gm_one' : ∀ a : Fin 256, gm a.val 1 = a.val := by decide +kernel
theorem gm_one (a : Nat) (h : a < 256) : gm a 1 = a := gm_one' ⟨a, h⟩
theorem one_gm (a : Nat) (h : a < 256) : gm 1 a = a := by rw [gm_comm 1 a (by decide) h, gm_one a h]
theorem gm_zero (a : Nat) : gm a 0 = 0 := Lin.zero (f := fun x => gm a x) (fun x y => gm_right a x y)
theorem zero_gm (a : Nat) : gm 0 a = 0 := Lin.zero (f := fun x => gm x a) (fun x y => gm_left x y a)

/-! Powers. -/
def gp (a : Nat) : Nat → Nat
  | 0 => 1
  | n + 1 => gm (gp a n) a
theorem gp_lt (a n : Nat) (_h : a < 256) : gp a n < 256 := by
  induction n with
  | zero => show 1 < 256; decide
  | succ n ih => exact gm_lt _ _ ih
theorem gp_add (a n m : Nat) (h : a < 256) : gp a (n + m) = gm (gp a n) (gp a m) := by
  induction m with
  | zero => exact (gm_one _ (gp_lt a n h)).symm
  | succ m ih => show gm (gp a (n + m)) a = gm (gp a n) (gm (gp a m) a); rw [ih, gm_assoc _ _ _ (gp_lt a n h) (gp_lt a m h) h]
theorem gp_sq (a n : Nat) (h : a < 256) : gp (gm a a) n = gp a (2 * n) := by
  induction n with
  | zero => rfl
  | succ n ih =>
    show gm (gp (gm a a) n) (gm a a) = gp a (2 * n + 1 + 1)
    rw [ih]; show _ = gm (gm (gp a (2 * n)) a) a
    rw [gm_assoc _ _ _ (gp_lt a _ h) h h]
theorem gp_one (a : Nat) (h : a < 256) : gp a 1 = a := one_gm a h

/-- Squares and products. -/
def rz : Nat → Nat → Nat → Nat → Nat
  | 0, p, _, _ => p
  | f + 1, p, a, n => rz f (if n % 2 = 1 then gm p a else p) (gm a a) (n / 2)
theorem rz_eq (f : Nat) : ∀ p a n, n < 2 ^ f → p < 256 → a < 256 → rz f p a n = gm p (gp a n) := by
  induction f with
  | zero => intro p a n hn hp _; have : n = 0 := by simp at hn; exact hn
            subst this; exact (gm_one p hp).symm
  | succ f ih =>
    intro p a n hn hp ha
    have h2 : n / 2 < 2 ^ f := by rw [Nat.pow_succ] at hn; omega
    unfold rz
    by_cases h : n % 2 = 1
    · rw [if_pos h, ih _ _ _ h2 (gm_lt _ _ hp) (gm_lt _ _ ha), gp_sq a _ ha]
      have e : n = 1 + 2 * (n / 2) := by omega
      rw [gm_assoc _ _ _ hp ha (gp_lt _ _ ha)]
      conv => rhs; rw [e, gp_add a 1 _ ha, gp_one a ha]
    · rw [if_neg h, ih _ _ _ h2 hp (gm_lt _ _ ha), gp_sq a _ ha]
      have e : n = 2 * (n / 2) := by omega
      conv => rhs; rw [e]

theorem fermat' : ∀ a : Fin 256, a.val ≠ 0 → rz 8 1 a.val 255 = 1 := by decide +kernel
theorem gp_255 (a : Nat) (h : a < 256) (h0 : a ≠ 0) : gp a 255 = 1 := by
  have e := fermat' ⟨a, h⟩ h0
  rw [rz_eq 8 1 a 255 (by decide) (by decide) h, one_gm _ (gp_lt _ _ h)] at e; exact e
/-- The inverse. -/
def gi (a : Nat) : Nat := gp a 254
theorem gi_lt (a : Nat) (h : a < 256) : gi a < 256 := gp_lt a 254 h
theorem gi_gm (a : Nat) (h : a < 256) (h0 : a ≠ 0) : gm (gi a) a = 1 := gp_255 a h h0
/-- The exponents: an int taken to 0 .. 254. -/
def ex (n : Int) : Nat := (n % 255).toNat
/-! The long product and the long division. -/
def accGo : Nat → Nat → Nat → Nat → Nat
  | 0, _, _, _ => 0
  | f + 1, i, a, b => (if b.testBit i then a <<< i else 0) ^^^ accGo f (i + 1) a b
def redGo : Nat → Nat → Nat
  | 0, n => n
  | f + 1, n => redGo f (n ^^^ (if n.testBit (f + 8) then 285 <<< f else 0))
def rm (a b : Nat) : Nat := redGo 7 (accGo 8 0 a b)
end Go.Proofs.Ytfniojnklhjgbaa.U.Gf

/- Texts laid into one: the remark ahead of each part says what is proved there. -/
/- Contracts of the functions of package gf over plain numbers (Add, Mul and what they call): whatever bytes come in, each returns what the plain mathematics says, and the world is as it was. -/
namespace Go.Proofs.Ytfniojnklhjgbaa.U
open Go.RowKit

/-! The walk's own spelling against the plain one. -/
end Go.Proofs.Ytfniojnklhjgbaa.U

/- Contracts of the functions of package gf that make powers, inverses, quotients and logs: whatever bytes and exponents come in, each returns what the plain mathematics says, and the world is as it was. -/
namespace Go.Proofs.Ytfniojnklhjgbaa.U
open Go.RowKit

theorem hid {p : Prop} (h : p) : Hid p := h

end Go.Proofs.Ytfniojnklhjgbaa.U

/- Contract of Inv of package gf: whatever bytes come in, each returns what the plain mathematics says, and the world is as it was. -/
namespace Go.Proofs.Ytfniojnklhjgbaa.U
open Go.RowKit

end Go.Proofs.Ytfniojnklhjgbaa.U

/- Contracts of the document's own answers for products, inverses, quotients, powers and logs of bytes: the long product with its long division is the same product; each call leaves the world as it was. -/
namespace Go.Proofs.Ytfniojnklhjgbaa.U
open Go.RowKit

/-- The accumulated sum with what is still to come. -/
def AccAt (a b k N : Nat) : Prop := N ^^^ Gf.accGo (8 - k) k a b = Gf.accGo 8 0 a b
theorem AccAt.on {a b k N : Nat} (h : AccAt a b k N) (hk : k < 8) (ht : b.testBit k = true) : AccAt a b (k + 1) (N ^^^ a <<< k) := by
  unfold AccAt at *
  rw [← h, show 8 - k = (8 - (k + 1)) + 1 by omega]
  conv => rhs; unfold Gf.accGo
  rw [ht, if_pos rfl, Nat.xor_assoc]
theorem AccAt.out {a b N : Nat} (h : AccAt a b 8 N) : N = Gf.accGo 8 0 a b := by
  unfold AccAt at h; rw [← h]; simp [Gf.accGo]
/-- The number with what is left of its division. -/
def RedAt (a b m N : Nat) : Prop := Gf.redGo (m - 7) N = Gf.gm a b
theorem RedAt.on {a b m N : Nat} (h : RedAt a b m N) (hm : 8 ≤ m) (ht : N.testBit m = true) : RedAt a b (m - 1) (N ^^^ 285 <<< (m - 8)) := by
  unfold RedAt at *
  rw [show m - 7 = (m - 8) + 1 by omega] at h
  unfold Gf.redGo at h
  rw [show m - 8 + 8 = m by omega, ht, if_pos rfl] at h
  rw [show m - 1 - 7 = m - 8 by omega]; exact h
theorem RedAt.out {a b N : Nat} (ha : a < 256) (h : RedAt a b 7 N) : N = Gf.gm a b ∧ N < 256 := by
  unfold RedAt at h
  have := Gf.gm_lt a b ha
  exact ⟨h, by rw [show N = Gf.gm a b from h]; exact this⟩

end Go.Proofs.Ytfniojnklhjgbaa.U

/- Contract of the document's own answer for inverses: it is as the program's, and leaves the world as it was. -/
namespace Go.Proofs.Ytfniojnklhjgbaa.U
open Go.RowKit

end Go.Proofs.Ytfniojnklhjgbaa.U

/- Contracts of match and Dot of package gf, over slices of bytes as they lie in memory: the error's number by the lengths, the sum of the products; the world is as it was. -/
namespace Go.Proofs.Ytfniojnklhjgbaa.U
open Go.RowKit

end Go.Proofs.Ytfniojnklhjgbaa.U

/- Rows of bytes as they lie in memory, and new ones. -/
namespace Go.Proofs.Ytfniojnklhjgbaa.U
open Go.RowKit

theorem Try.info5 : (Try.prog.info? 5).map (fun i => (i.zero, i.size, i.bytes)) = some (some (.int .u8 0), 1, 1) := by kernel_rfl

/-- A row of n bytes lies at block b from o on. -/
def RowAt (w : World) (b o n : Nat) (x : Nat → Nat) : Prop := ∀ i, i < n → w.cell? ⟨b, o + i, none⟩ = some (.int .u8 (x i : Nat))
/-- The world w has one block more than w0 has: n bytes, x, which may be written; what was there is as it was. -/
structure NewRow (w0 w : World) (n : Nat) (x : Nat → Nat) : Prop where
  size : w.heap.size = w0.heap.size + 1
  below : Below w0.heap.size w0 w
  cells : ∀ i, i < n → w.cell? ⟨w0.heap.size, i, none⟩ = some (.int .u8 (x i : Nat))
  free : ∀ i, w.frozen? ⟨w0.heap.size, i, none⟩ = false

theorem madeCells_get (z : Value) (n i : Nat) (h : i < n) : (madeCells #[z] n)[i]? = some z := by
  simp [madeCells, h, Nat.mod_one]
theorem run_make_u8 (n : Nat) (hn : n ≤ 70003) (w : World) :
    (Instr.makeSlice 24 (.int .i64 (n : Int)) (.int .i64 (n : Int))).run Try.prog w = .ok (.slice (some ⟨w.heap.size, 0, none⟩) n n) (w.alloc (.cells (madeCells #[.int .u8 0] n) 5)) := by
  obtain ⟨i0, hi, hz0, hz1, hz2⟩ := info_parts Try.info5
  have h := run_make (P := Try.prog) w 24 5 i0 (.int .u8 0) Try.underlying24 hi hz0 .i64 .i64 n n (by omega) (Int.le_refl _) (by rw [hz2]; omega) (by omega)
  rw [hz1] at h
  simpa [Value.cells] using h

theorem NewRow.made (w : World) (n : Nat) : NewRow w (w.alloc (.cells (madeCells #[.int .u8 0] n) 5)) n (fun _ => 0) where
  size := by simp
  below := (Below.refl _ _).alloc (Nat.le_refl _) _
  cells := fun i h => by rw [World.cell?_alloc_new, madeCells_get _ _ _ h]; rfl
  free := fun i => World.frozen?_alloc_new _ _ _ _
theorem NewRow.set {w0 w : World} {n : Nat} {x : Nat → Nat} (h : NewRow w0 w n x) (k : Nat) (v : Nat) (hk : k < n) :
    NewRow w0 (w.setCell ⟨w0.heap.size, k, none⟩ (.int .u8 (v : Nat))) n (fun i => if i = k then v else x i) where
  size := by simp [h.size]
  below := h.below.setCell (Nat.le_refl _) _
  cells := fun i hi => by
    by_cases e : i = k
    · subst e
      rw [World.cell?_setCell_same _ _ _ (h.cells i hi)]; simp
    · rw [World.cell?_setCell_other _ _ _ _ (by intro h2; cases h2; exact e rfl), h.cells i hi]; simp [e]
  free := fun i => by rw [World.frozen?_setCell]; exact h.free i
theorem NewRow.congr {w0 w : World} {n : Nat} {x y : Nat → Nat} (h : NewRow w0 w n x) (e : ∀ i, i < n → x i = y i) : NewRow w0 w n y where
  size := h.size
  below := h.below
  cells := fun i hi => by rw [h.cells i hi, e i hi]
  free := h.free

end Go.Proofs.Ytfniojnklhjgbaa.U

/- Contract of SameBytes of the statements' kit: of two slices that read alike it returns true, and leaves the world as it was. -/
namespace Go.Proofs.Ytfniojnklhjgbaa.U
open Go.RowKit

/-- The slice's value leads to n bytes x; one of no byte may lead anywhere. -/
def StrAt (w : World) (p : Option Addr) (n : Nat) (x : Nat → Nat) : Prop := n = 0 ∨ ∃ b o, p = some ⟨b, o, none⟩ ∧ RowAt w b o n x
end Go.Proofs.Ytfniojnklhjgbaa.U

/- Contract of LentBytes of the statements' kit: a copy of the bytes lies in a new block, with three marked bytes of spare room behind it; what was there is as it was. -/
namespace Go.Proofs.Ytfniojnklhjgbaa.U
open Go.RowKit

theorem size_setCells (b : Nat) : ∀ (vs : List Value) (o : Nat) (w : World), (w.setCells b o vs).heap.size = w.heap.size
  | [], _, _ => rfl
  | v :: r, o, w => by rw [World.setCells, size_setCells b r, World.size_setCell]
theorem below_setCells (b B : Nat) (hB : B ≤ b) : ∀ (vs : List Value) (o : Nat) (w0 w : World), Below B w0 w → Below B w0 (w.setCells b o vs)
  | [], _, _, _, h => h
  | v :: r, o, w0, w, h => by rw [World.setCells]; exact below_setCells b B hB r (o + 1) w0 _ (h.setCell hB _)

/-- n bytes as values. -/
def valN (n : Nat) (x : Nat → Nat) : List Value := (List.range n).map fun i => .int .u8 (x i : Nat)
theorem valN_len (n : Nat) (x : Nat → Nat) : (valN n x).length = n := by simp [valN]
theorem valN_get (n : Nat) (x : Nat → Nat) (i : Nat) (h : i < n) : (valN n x)[i]? = some (.int .u8 (x i : Nat)) := by simp [valN, h]

theorem NewRow.copied {w0 w : World} {n : Nat} {x : Nat → Nat} (h : NewRow w0 w n x) (m : Nat) (y : Nat → Nat) (hm : m ≤ n) :
    NewRow w0 (w.setCells w0.heap.size 0 (valN m y)) n (fun i => if i < m then y i else x i) where
  size := by rw [size_setCells, h.size]
  below := below_setCells _ _ (Nat.le_refl _) _ _ _ _ h.below
  cells := fun i hi => by
    by_cases e : i < m
    · have hin := World.cell?_setCells_in w0.heap.size (valN m y) 0 w (fun j hj => by
        rw [valN_len] at hj
        rw [Nat.zero_add, h.cells j (by omega)]; rfl) i (by rw [valN_len]; exact e)
      rw [Nat.zero_add] at hin
      rw [hin, if_pos e]
      have g := valN_get m y i e
      rw [List.getElem?_eq_getElem (by rw [valN_len]; exact e)] at g
      exact g
    · rw [World.cell?_setCells_out _ _ _ _ _ (fun _ _ => by rw [valN_len]; right; simp; omega), if_neg e, h.cells i hi]
  free := fun i => by rw [World.frozen?_setCells]; exact h.free i

/-- What a lent list reads as, its spare room with it. -/
def lentN (n : Nat) (x : Nat → Nat) (i : Nat) : Nat := if i < n then x i else 160 + i % 90

end Go.Proofs.Ytfniojnklhjgbaa.U

/- Contracts of OverBytes and KeptBytes of the statements' kit: the first turns the bytes of the one block that it is handed, and no other; the second returns true of a lent list that reads as it was lent. -/
namespace Go.Proofs.Ytfniojnklhjgbaa.U
open Go.RowKit

/-- From w to w' nothing has turned but what block g holds. -/
structure OnlyAt (g : Nat) (w w' : World) : Prop where
  os : w'.os = w.os
  tape : w'.tape = w.tape
  output : w'.output = w.output
  size : w'.heap.size = w.heap.size
  block : ∀ k, k ≠ g → w'.heap[k]? = w.heap[k]?
theorem OnlyAt.refl (g : Nat) (w : World) : OnlyAt g w w := ⟨rfl, rfl, rfl, rfl, fun _ _ => rfl⟩
theorem OnlyAt.setCell {g : Nat} {w w' : World} (h : OnlyAt g w w') (i : Nat) (v : Value) : OnlyAt g w (w'.setCell ⟨g, i, none⟩ v) :=
  ⟨h.os, h.tape, h.output, by rw [World.size_setCell]; exact h.size, fun k hk => (Below.heap_setCell _ _ _ k hk).trans (h.block k hk)⟩
theorem OnlyAt.below {g B : Nat} {w0 w w' : World} (h : OnlyAt g w w') (hb : Below B w0 w) (hB : B ≤ g) : Below B w0 w' :=
  ⟨h.os.trans hb.os, h.tape.trans hb.tape, h.output.trans hb.output, by rw [h.size]; exact hb.size, fun k hk => (h.block k (by omega)).trans (hb.block k hk)⟩
theorem OnlyAt.row {g : Nat} {w w' : World} (h : OnlyAt g w w') {b o n : Nat} {x : Nat → Nat} (hr : RowAt w b o n x) (hb : b ≠ g) : RowAt w' b o n x :=
  fun i hi => (World.cell?_of_block (w := w) (h.block b hb)).trans (hr i hi)

theorem RowAt.below {B : Nat} {w w' : World} {b o n : Nat} {x : Nat → Nat} (h : RowAt w b o n x) (hb : Below B w w') (hlt : b < B) : RowAt w' b o n x :=
  fun i hi => (hb.cell (p := ⟨b, o + i, none⟩) hlt).trans (h i hi)
theorem NewRow.row {w0 w : World} {n : Nat} {x : Nat → Nat} (h : NewRow w0 w n x) : RowAt w w0.heap.size 0 n x :=
  fun i hi => by rw [Nat.zero_add]; exact h.cells i hi

end Go.Proofs.Ytfniojnklhjgbaa.U

/- Texts laid into one: the remark ahead of each part says what is proved there. -/
/- Plain mathematics: the numbers of eight bits as a type of their own, a field; sums over the first n places and what may be done with them; a map that is one to one on the first n numbers reaches each of them. No conditions. Nothing of the program is imported. -/
namespace Go.Proofs.Ytfniojnklhjgbaa.U

/-- A number of eight bits. -/
structure K where
  val : Nat
  lt : val < 256
theorem K.ext {a b : K} (h : a.val = b.val) : a = b := by cases a; cases b; cases h; rfl
instance : DecidableEq K := fun a b => if h : a.val = b.val then isTrue (K.ext h) else isFalse (fun e => h (by rw [e]))
instance : Inhabited K := ⟨⟨0, by decide⟩⟩
/-- Any number, taken as one of eight bits. -/
def kb (n : Nat) : K := ⟨n % 256, Nat.mod_lt _ (by decide)⟩
namespace K
def k0 : K := ⟨0, by decide⟩
def k1 : K := ⟨1, by decide⟩
def ad (a b : K) : K := ⟨a.val ^^^ b.val, Gf.xor_lt _ _ a.lt b.lt⟩
def ml (a b : K) : K := ⟨Gf.gm a.val b.val, Gf.gm_lt _ _ a.lt⟩
def iv (a : K) : K := ⟨if a.val = 0 then 0 else Gf.gi a.val, by have := Gf.gi_lt a.val a.lt; split <;> omega⟩
end K
instance : Add K := ⟨K.ad⟩
instance : Mul K := ⟨K.ml⟩
instance : OfNat K 0 := ⟨K.k0⟩
instance : OfNat K 1 := ⟨K.k1⟩
theorem K.val_ne {a : K} (h : a ≠ 0) : a.val ≠ 0 := fun e => h (K.ext e)
theorem K.one_ne : (1 : K) ≠ 0 := by decide

theorem kadd_comm (a b : K) : a + b = b + a := K.ext (Nat.xor_comm _ _)
theorem kadd_assoc (a b c : K) : a + b + c = a + (b + c) := K.ext (Nat.xor_assoc _ _ _)
theorem kadd_self (a : K) : a + a = 0 := K.ext (Nat.xor_self _)
theorem kadd_zero (a : K) : a + 0 = a := K.ext (Nat.xor_zero _)
theorem kzero_add (a : K) : 0 + a = a := K.ext (Nat.zero_xor _)
theorem kmul_comm (a b : K) : a * b = b * a := K.ext (Gf.gm_comm _ _ a.lt b.lt)
theorem kmul_assoc (a b c : K) : a * b * c = a * (b * c) := K.ext (Gf.gm_assoc _ _ _ a.lt b.lt c.lt)
theorem kmul_add (a b c : K) : a * (b + c) = a * b + a * c := K.ext (Gf.gm_right _ _ _)
theorem kadd_mul (a b c : K) : (a + b) * c = a * c + b * c := K.ext (Gf.gm_left _ _ _)
theorem kone_mul (a : K) : 1 * a = a := K.ext (Gf.one_gm _ a.lt)
theorem kmul_zero (a : K) : a * 0 = 0 := K.ext (Gf.gm_zero _)
theorem kzero_mul (a : K) : 0 * a = 0 := K.ext (Gf.zero_gm _)
theorem kiv_mul (a : K) (h : a ≠ 0) : K.iv a * a = 1 := by
  apply K.ext
  show Gf.gm (if a.val = 0 then 0 else Gf.gi a.val) a.val = 1
  rw [if_neg (K.val_ne h)]
  exact Gf.gi_gm _ a.lt (K.val_ne h)
theorem kmul_iv (a : K) (h : a ≠ 0) : a * K.iv a = 1 := by rw [kmul_comm]; exact kiv_mul a h
theorem kiv_ne (a : K) (h : a ≠ 0) : K.iv a ≠ 0 := fun e => by
  have := kiv_mul a h
  rw [e, kzero_mul] at this
  exact K.one_ne this.symm
theorem kmul_ne {a b : K} (ha : a ≠ 0) (h : a * b = 0) : b = 0 := by
  have : K.iv a * (a * b) = b := by rw [← kmul_assoc, kiv_mul a ha, kone_mul]
  rw [h, kmul_zero] at this; exact this.symm
theorem kadd_lc (a b c : K) : a + (b + c) = b + (a + c) := by rw [← kadd_assoc, kadd_comm a b, kadd_assoc]
theorem kadd4 (a b c d : K) : (a + b) + (c + d) = (a + c) + (b + d) := by rw [kadd_assoc, kadd_assoc, kadd_lc b c d]
/-- The sum over the first n places. -/
def sm (f : Nat → K) : Nat → K
  | 0 => 0
  | n + 1 => sm f n + f n
theorem sm_congr {f g : Nat → K} : ∀ {n : Nat}, (∀ i, i < n → f i = g i) → sm f n = sm g n
  | 0, _ => rfl
  | n + 1, h => by show sm f n + f n = sm g n + g n; rw [sm_congr (fun i hi => h i (by omega)), h n (by omega)]
theorem sm_add (f g : Nat → K) : ∀ n, sm (fun i => f i + g i) n = sm f n + sm g n
  | 0 => (kadd_zero 0).symm
  | n + 1 => by show sm _ n + (f n + g n) = (sm f n + f n) + (sm g n + g n); rw [sm_add f g n, kadd4]
theorem sm_mul (c : K) (f : Nat → K) : ∀ n, sm (fun i => c * f i) n = c * sm f n
  | 0 => (kmul_zero c).symm
  | n + 1 => by show sm _ n + c * f n = c * (sm f n + f n); rw [sm_mul c f n, kmul_add]
theorem sm_mul' (c : K) (f : Nat → K) (n : Nat) : sm (fun i => f i * c) n = sm f n * c := by
  rw [kmul_comm, ← sm_mul]; exact sm_congr (fun i _ => kmul_comm _ _)
theorem sm_at (f : Nat → K) (k : Nat) : ∀ n, sm (fun i => if i = k then f i else 0) n = if k < n then f k else 0
  | 0 => by rw [if_neg (by omega)]; rfl
  | n + 1 => by
    show sm _ n + (if n = k then f n else 0) = _
    rw [sm_at f k n]
    by_cases e : n = k
    · subst e; rw [if_neg (by omega), if_pos rfl, if_pos (by omega), kzero_add]
    · rw [if_neg e, kadd_zero]
      by_cases h : k < n
      · rw [if_pos h, if_pos (by omega)]
      · rw [if_neg h, if_neg (by omega)]
/-- The product of two matrices, the first one's rows having m numbers. -/
def pr (m : Nat) (X Y : Nat → Nat → K) (i j : Nat) : K := sm (fun k => X i k * Y k j) m
/-- The one. -/
def on (i j : Nat) : K := if i = j then 1 else 0
end Go.Proofs.Ytfniojnklhjgbaa.U

/- Plain mathematics of sweeping a matrix by exchanges: what the rows tell of each other stays true in either direction; so a matrix all of whose rows were exchanged leads to its inverse, and a row that has no pivot is a sum of multiples of the rows ahead of it. No conditions but bounds. Nothing of the program is imported. -/
namespace Go.Proofs.Ytfniojnklhjgbaa.U

/-- One place turned, of any function. -/
def put {α : Type} (f : Nat → α) (k : Nat) (v : α) : Nat → α := fun i => if i = k then v else f i
theorem put_same {α : Type} (f : Nat → α) (k : Nat) (v : α) : put f k v k = v := if_pos rfl
/-- The pivot's row behind the exchange; all rows behind it. -/
def xrow (T : Nat → Nat → K) (i0 j0 : Nat) (j : Nat) : K := (if j = j0 then 1 else T i0 j) * K.iv (T i0 j0)
def xch (T : Nat → Nat → K) (i0 j0 : Nat) : Nat → Nat → K := fun i j => if i = i0 then xrow T i0 j0 j else (if j = j0 then 0 else T i j) + T i j0 * xrow T i0 j0 j

/-- The sum of a row without its place j0. -/
def rest (T : Nat → Nat → K) (j0 m : Nat) (z : Nat → K) (i : Nat) : K := sm (fun j => if j = j0 then 0 else T i j * z j) m
/-- The first column from j on, of f that are left, in which row i may be exchanged. -/
def pcol (T : Nat → Nat → K) (Q : Nat → Option Nat) (i : Nat) : Nat → Nat → Option Nat
  | 0, _ => none
  | f + 1, j => if (Q j).isSome = true ∨ T i j = 0 then pcol T Q i f (j + 1) else some j
/-- How far a sweep has come: the numbers, each row's pivot, each column's row, the pivots one by one. -/
structure Sw where
  T : Nat → Nat → K
  P : Nat → Option Nat
  Q : Nat → Option Nat
  l : List Nat
def swStep (m : Nat) (s : Sw) (i : Nat) : Sw := match pcol s.T s.Q i m 0 with
  | none => s
  | some j => ⟨xch s.T i j, put s.P i (some j), put s.Q j (some i), s.l ++ [j]⟩
def sw (A : Nat → Nat → K) (m : Nat) : Nat → Sw
  | 0 => ⟨A, fun _ => none, fun _ => none, []⟩
  | i + 1 => swStep m (sw A m i) i
/-- The pivots, as a function. -/
def piv (s : Sw) (i : Nat) : Nat := (s.l[i]?).getD 0
end Go.Proofs.Ytfniojnklhjgbaa.U

/- Plain mathematics: any k unlike rows of the code of k are independent (Cauchy's rows), by taking away one row and one column at a time. No conditions but bounds. Nothing of the program is imported. -/
namespace Go.Proofs.Ytfniojnklhjgbaa.U

/-! Counting. -/
end Go.Proofs.Ytfniojnklhjgbaa.U

/- Plain mathematics of ranks: fewer equations than unknowns have a solution that is not zero; so there is one rank, however it was found; and what sweeping column by column leaves has it, with the inverse beside it. No conditions but bounds. Nothing of the program is imported. -/
namespace Go.Proofs.Ytfniojnklhjgbaa.U

/-- A row and a list of numbers, multiplied place by place and added. -/
def ap (m : Nat) (f x : Nat → K) : K := sm (fun c => f c * x c) m
def Ker (A : Nat → Nat → K) (n m : Nat) (x : Nat → K) : Prop := ∀ i, i < n → ap m (A i) x = 0

/-! Sweeping column by column. -/
/-- What row operations keep: the second matrix makes the first one of A, and nothing is lost. -/
structure RK (A : Nat → Nat → K) (n m : Nat) (T W : Nat → Nat → K) : Prop where
  ker : ∀ x, Ker T n m x → Ker A n m x
  wa : ∀ i, i < n → ∀ c, c < m → pr n W A i c = T i c
def swI (p r i : Nat) : Nat := if i = p then r else if i = r then p else i
theorem swI_lt {p r i n : Nat} (hp : p < n) (hr : r < n) (hi : i < n) : swI p r i < n := by unfold swI; split <;> (try split) <;> omega
theorem swI_swI (p r i : Nat) : swI p r (swI p r i) = i := by
  unfold swI
  by_cases h1 : i = p
  · by_cases h2 : r = p
    · simp [h1, h2]
    · simp [h1, h2]
  · by_cases h2 : i = r
    · simp [h2]
    · simp [h1, h2]
theorem RK.swap {A T W : Nat → Nat → K} {n m : Nat} (h : RK A n m T W) (p r : Nat) (hp : p < n) (hr : r < n) : RK A n m (fun i => T (swI p r i)) (fun i => W (swI p r i)) where
  ker := fun x hx => h.ker x (fun i hi => by have h2 : ap m (T (swI p r (swI p r i))) x = 0 := hx (swI p r i) (swI_lt hp hr hi); rwa [swI_swI] at h2)
  wa := fun i hi c hc => h.wa (swI p r i) (swI_lt hp hr hi) c hc
def scR (T : Nat → Nat → K) (r : Nat) (b : K) : Nat → Nat → K := fun i c => if i = r then T r c * b else T i c
theorem RK.scale {A T W : Nat → Nat → K} {n m : Nat} (h : RK A n m T W) (r : Nat) (b : K) (hr : r < n) (hb : b ≠ 0) : RK A n m (scR T r b) (scR W r b) where
  ker := fun x hx => h.ker x (fun i hi => by
    have h2 := hx i hi
    by_cases e : i = r
    · subst e
      unfold ap scR at h2
      rw [sm_congr (g := fun c => b * (T i c * x c)) (fun c _ => by rw [if_pos rfl, kmul_comm (T i c), kmul_assoc]), sm_mul] at h2
      exact kmul_ne hb h2
    · unfold ap scR at h2
      rw [sm_congr (g := fun c => T i c * x c) (fun c _ => by rw [if_neg e])] at h2
      exact h2)
  wa := fun i hi c hc => by
    by_cases e : i = r
    · subst e
      unfold pr scR
      rw [if_pos rfl, ← h.wa i hi c hc]
      unfold pr
      rw [sm_congr (g := fun k => W i k * A k c * b) (fun k _ => by rw [if_pos rfl, kmul_assoc, kmul_comm b, ← kmul_assoc]), sm_mul']
    · unfold pr scR
      rw [if_neg e, ← h.wa i hi c hc]
      unfold pr
      exact sm_congr (fun k _ => by rw [if_neg e])
/-- Rows ahead of n0 but r are rid of column j; the second matrix goes with it. -/
def elR (X T : Nat → Nat → K) (r j n0 : Nat) : Nat → Nat → K := fun i c => if i < n0 ∧ i ≠ r then X i c + X r c * T i j else X i c
theorem RK.elim {A T W : Nat → Nat → K} {n m : Nat} (h : RK A n m T W) (r j : Nat) (hr : r < n) : RK A n m (elR T T r j n) (elR W T r j n) where
  ker := fun x hx => h.ker x (fun i hi => by
    have hrr : ap m (T r) x = 0 := by
      have := hx r hr
      unfold ap elR at this
      rw [sm_congr (g := fun c => T r c * x c) (fun c _ => by rw [if_neg (fun q => q.2 rfl)])] at this
      exact this
    by_cases e : i = r
    · subst e; exact hrr
    · have h2 := hx i hi
      unfold ap elR at h2
      rw [sm_congr (g := fun c => T i c * x c + T i j * (T r c * x c)) (fun c _ => by rw [if_pos ⟨hi, e⟩, kadd_mul, kmul_comm (T r c), kmul_assoc]), sm_add, sm_mul] at h2
      have h3 : sm (fun c => T r c * x c) m = 0 := hrr
      rw [h3, kmul_zero, kadd_zero] at h2
      exact h2)
  wa := fun i hi c hc => by
    by_cases e : i = r
    · subst e
      have e1 : elR T T i j n i c = T i c := if_neg (fun q => q.2 rfl)
      rw [e1, ← h.wa i hi c hc]
      unfold pr
      exact sm_congr (fun k _ => by unfold elR; rw [if_neg (fun q => q.2 rfl)])
    · have e1 : elR T T r j n i c = T i c + T r c * T i j := if_pos ⟨hi, e⟩
      rw [e1, ← h.wa i hi c hc, ← h.wa r hr c hc]
      unfold pr
      rw [sm_congr (g := fun k => W i k * A k c + W r k * A k c * T i j) (fun k _ => by
        unfold elR
        rw [if_pos ⟨hi, e⟩, kadd_mul, kmul_assoc (W r k), kmul_comm (T i j), ← kmul_assoc (W r k)]), sm_add, sm_mul']

/-- What is known when column j is come to, and r pivots were found. -/
structure RInv (A : Nat → Nat → K) (n m j r : Nat) (T W : Nat → Nat → K) : Prop where
  rk : RK A n m T W
  rn : r ≤ n
  jm : j ≤ m
  ex : ∃ (q : Nat → Nat) (fr : List Nat), fr.length + r = j ∧ (∀ k, k < r → q k < j) ∧ (∀ k, k < r → ∀ i, i < n → T i (q k) = on i k) ∧ (∀ c, c < j → c ∈ fr ∨ ∃ k, k < r ∧ q k = c) ∧ (fr = [] → ∀ k, k < r → q k = k)
  zero : ∀ i, i < n → r ≤ i → ∀ c, c < j → T i c = 0
theorem RInv.start (A : Nat → Nat → K) (n m : Nat) : RInv A n m 0 0 A on where
  rk := ⟨fun _ h => h, fun i hi c _ => by
    unfold pr on
    rw [sm_congr (g := fun k => if k = i then A k c else 0) (fun k _ => by by_cases e : i = k <;> simp [e, kone_mul, kzero_mul, eq_comm]), sm_at (fun k => A k c), if_pos hi]⟩
  rn := Nat.zero_le _
  jm := Nat.zero_le _
  ex := ⟨fun _ => 0, [], rfl, fun k hk => absurd hk (by omega), fun k hk => absurd hk (by omega), fun c hc => absurd hc (by omega), fun _ k hk => absurd hk (by omega)⟩
  zero := fun i _ _ c hc => absurd hc (by omega)
theorem RInv.pivot {A T W : Nat → Nat → K} {n m j r p : Nat} (h : RInv A n m j r T W) (hj : j < m) (hr : r < n) (hp : r ≤ p) (hpn : p < n) (hne : T p j ≠ 0) :
    RInv A n m (j + 1) (r + 1) (elR (scR (fun i => T (swI p r i)) r (K.iv (T p j))) (scR (fun i => T (swI p r i)) r (K.iv (T p j))) r j n) (elR (scR (fun i => W (swI p r i)) r (K.iv (T p j))) (scR (fun i => T (swI p r i)) r (K.iv (T p j))) r j n) where
  rk := ((h.rk.swap p r hpn hr).scale r _ hr (kiv_ne _ hne)).elim r j hr
  rn := hr
  jm := hj
  ex := by
    obtain ⟨q, fr, h1, h2, h3, h4, h5⟩ := h.ex
    refine ⟨fun k => if k = r then j else q k, fr, by omega, fun k hk => ?_, fun k hk i hi => ?_, fun c hc => ?_, fun e k hk => ?_⟩
    · show (if k = r then j else q k) < j + 1
      by_cases e : k = r
      · rw [if_pos e]; omega
      · rw [if_neg e]; have := h2 k (by omega); omega
    · show elR _ _ r j n i (if k = r then j else q k) = on i k
      have hrj : scR (fun i => T (swI p r i)) r (K.iv (T p j)) r j = 1 := by
        unfold scR; rw [if_pos rfl]
        show T (swI p r r) j * _ = 1
        have : swI p r r = p := by unfold swI; by_cases e : r = p <;> simp [e]
        rw [this]; exact kmul_iv _ hne
      by_cases e : k = r
      · subst e
        rw [if_pos rfl]
        unfold elR
        by_cases q1 : i = k
        · subst q1; rw [if_neg (fun z => z.2 rfl), hrj]; unfold on; rw [if_pos rfl]
        · rw [if_pos ⟨hi, q1⟩, hrj, kone_mul, kadd_self]; unfold on; rw [if_neg q1]
      · rw [if_neg e]
        have hsw : ∀ a, a < n → T (swI p r a) (q k) = on a k := fun a ha => by
          rw [h3 k (by omega) _ (swI_lt hpn hr ha)]
          unfold on swI
          by_cases z1 : a = p
          · rw [if_pos z1, if_neg (by omega), if_neg (by omega)]
          · rw [if_neg z1]
            by_cases z2 : a = r
            · rw [if_pos z2, if_neg (by omega), if_neg (by omega)]
            · rw [if_neg z2]
        have hsr : scR (fun i => T (swI p r i)) r (K.iv (T p j)) r (q k) = 0 := by
          unfold scR; rw [if_pos rfl]
          show T (swI p r r) (q k) * _ = 0
          rw [hsw r hr]; unfold on; rw [if_neg (fun z => e z.symm), kzero_mul]
        unfold elR
        by_cases q1 : i = r
        · subst q1
          rw [if_neg (fun z => z.2 rfl), hsr]; unfold on; rw [if_neg (fun z => e z.symm)]
        · rw [if_pos ⟨hi, q1⟩, hsr, kzero_mul, kadd_zero]
          unfold scR; rw [if_neg q1]; exact hsw i hi
    · by_cases e : c = j
      · right; exact ⟨r, by omega, by show (if r = r then j else q r) = c; rw [if_pos rfl, e]⟩
      · rcases h4 c (by omega) with z | ⟨k, hk, z⟩
        · exact .inl z
        · right; exact ⟨k, by omega, by show (if k = r then j else q k) = c; rw [if_neg (by omega)]; exact z⟩
    · show (if k = r then j else q k) = k
      by_cases z : k = r
      · rw [if_pos z]; rw [e] at h1; simp at h1; omega
      · rw [if_neg z]; exact h5 e k (by omega)
  zero := fun i hi hri c hc => by
    have hrj : scR (fun i => T (swI p r i)) r (K.iv (T p j)) r j = 1 := by
      unfold scR; rw [if_pos rfl]
      show T (swI p r r) j * _ = 1
      have : swI p r r = p := by unfold swI; by_cases e : r = p <;> simp [e]
      rw [this]; exact kmul_iv _ hne
    unfold elR
    rw [if_pos ⟨hi, by omega⟩]
    by_cases e : c = j
    · rw [e, hrj, kone_mul, kadd_self]
    · have hs : ∀ a, a < n → r ≤ a → T (swI p r a) c = 0 := fun a ha hra => by
        refine h.zero _ (swI_lt hpn hr ha) ?_ c (by omega)
        unfold swI; split <;> (try split) <;> omega
      have h1 : scR (fun i => T (swI p r i)) r (K.iv (T p j)) r c = 0 := by
        unfold scR; rw [if_pos rfl]; show T (swI p r r) c * _ = 0; rw [hs r hr (Nat.le_refl _), kzero_mul]
      rw [h1, kzero_mul, kadd_zero]
      unfold scR; rw [if_neg (by omega)]; exact hs i hi (by omega)
theorem RInv.left {A T W : Nat → Nat → K} {n j : Nat} (h : RInv A n n j n T W) (i c : Nat) (hi : i < n) (hc : c < n) : pr n W A i c = on i c := by
  obtain ⟨q, fr, h1, h2, h3, h4, h5⟩ := h.ex
  have hjm := h.jm
  have hfr : fr = [] := List.eq_nil_of_length_eq_zero (by omega)
  rw [h.rk.wa i hi c hc]
  have := h3 c hc i hi
  rwa [h5 hfr c hc] at this
end Go.Proofs.Ytfniojnklhjgbaa.U
