/- Parts of a file's bytes, block by block, as lists. -/
import Derived.Test.YtgmehiidnclgmaaFh
namespace Go.Proofs.Ytgmehiidnclgmaa
open Go Go.RowKit

def plo (a i : Nat) : Nat := max (256 * i) a
def phi (n b i : Nat) : Nat := min (bend n i) b
def pcs (y : Nat → Nat) (n a b i : Nat) : List Nat := (List.range (phi n b i - plo a i)).map fun j => y (288 * i + 32 + (plo a i - 256 * i) + j)
def parL (y : Nat → Nat) (n a b : Nat) : List Nat := (List.range (cnt n)).flatMap (pcs y n a b)
def parP (y : Nat → Nat) (n a b : Nat) (pre : List (Fin (cnt n))) : List Nat := pre.flatMap fun i => pcs y n a b i.val
def parOK (y : Nat → Nat) (m n a b : Nat) : Bool := (List.range (cnt n)).all fun i => decide (phi n b i ≤ plo a i) || snd y m n i
def parB (y : Nat → Nat) (m n a b : Nat) (pre : List (Fin (cnt n))) : Prop := ∀ i ∈ pre, phi n b i.val ≤ plo a i.val ∨ snd y m n i.val = true
theorem pcs_len (y : Nat → Nat) (n a b i : Nat) : (pcs y n a b i).length = phi n b i - plo a i := by simp [pcs]
theorem pcs_nil (y : Nat → Nat) (n a b i : Nat) (h : phi n b i ≤ plo a i) : pcs y n a b i = [] := by unfold pcs; rw [Nat.sub_eq_zero_of_le h]; rfl
theorem parP_snoc (y : Nat → Nat) (n a b : Nat) (pre : List (Fin (cnt n))) (i : Fin (cnt n)) : parP y n a b (pre ++ [i]) = parP y n a b pre ++ pcs y n a b i.val := by simp [parP]
theorem parP_len (y : Nat → Nat) (n a b : Nat) : ∀ pre : List (Fin (cnt n)), (parP y n a b pre).length ≤ 256 * pre.length
  | [] => by simp [parP]
  | i :: pre => by
    have := parP_len y n a b pre
    have h : (pcs y n a b i.val).length ≤ 256 := by rw [pcs_len]; unfold phi plo bend; omega
    unfold parP at *
    rw [List.flatMap_cons, List.length_append, List.length_cons]; omega
theorem parP_take (y : Nat → Nat) (n a b : Nat) (hab : a ≤ b) (hbn : b ≤ n) : ∀ k, k ≤ cnt n → (parP y n a b ((List.finRange (cnt n)).take k)).length = min b (256 * k) - a
  | 0, _ => by simp [parP]
  | k + 1, hk => by
    have ih := parP_take y n a b hab hbn k (by omega)
    rw [take_snoc _ k hk, parP_snoc, List.length_append, ih, pcs_len]
    show _ + (phi n b k - plo a k) = _
    have : cnt n = (n + 255) / 256 := rfl
    unfold phi plo bend; omega
theorem fin_range (c : Nat) : (List.finRange c).map (fun i => i.val) = List.range c := by
  apply List.ext_getElem
  · simp
  · intro i h1 h2; simp
theorem parP_all (y : Nat → Nat) (n a b : Nat) : parP y n a b (List.finRange (cnt n)) = parL y n a b := by
  unfold parP parL
  rw [← fin_range, List.flatMap_map]
theorem parL_len (y : Nat → Nat) (n a b : Nat) (hab : a ≤ b) (hbn : b ≤ n) : (parL y n a b).length = b - a := by
  have h := parP_take y n a b hab hbn (cnt n) (Nat.le_refl _)
  rw [List.take_of_length_le (by simp), parP_all] at h
  rw [h]
  have : cnt n = (n + 255) / 256 := rfl
  omega
theorem parOK_true {y : Nat → Nat} {m n a b : Nat} (h : parB y m n a b (List.finRange (cnt n))) : parOK y m n a b = true := by
  unfold parOK
  rw [List.all_eq_true]
  intro i hi
  have := h ⟨i, List.mem_range.1 hi⟩ (List.mem_finRange _)
  simpa using this
theorem parOK_false {y : Nat → Nat} {m n a b : Nat} {i : Nat} (hi : i < cnt n) (h1 : plo a i < phi n b i) (h2 : snd y m n i = false) : parOK y m n a b = false := by
  unfold parOK
  rw [Bool.eq_false_iff]
  intro h
  rw [List.all_eq_true] at h
  have := h i (List.mem_range.2 hi)
  rw [h2] at this
  simp at this
  omega
/-- What Part tells. -/
def PartAt (w : World) (ok : Bool) (L : List Nat) (e : Ending) (w' : World) : Prop := Below w.heap.size w w' ∧
  ((ok = true ∧ ∃ g, e = .returned (.tuple #[.slice (some ⟨g, 0, none⟩) L.length L.length, .int .i64 0]) ∧ w.heap.size ≤ g ∧ RowL w' g L) ∨ (ok = false ∧ e = .returned (.tuple #[.slice none 0 0, .int .i64 14])))
end Go.Proofs.Ytgmehiidnclgmaa
