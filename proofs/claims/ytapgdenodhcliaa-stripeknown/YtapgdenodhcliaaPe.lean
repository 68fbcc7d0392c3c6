/- Contract of Product of the document's own answer: the product lies in new memory; what was there is as it was. -/
import Derived.Test.YtapgdenodhcliaaPa
import Derived.Test.YtapgdenodhcliaaPc
namespace Go.Proofs.Ytapgdenodhcliaa
open Go.RowKit

/-- A row's first j numbers are as they shall be, the number at j is the sum as far as k; the others are 0. -/
def prRow (X Y : Nat → Nat → K) (i m j k : Nat) : Nat → K := fun c => if c < j then pr m X Y i c else if c = j then sm (fun q => X i q * Y q c) k else 0
theorem prRow_at (X Y : Nat → Nat → K) (i m j k : Nat) : prRow X Y i m j k j = sm (fun q => X i q * Y q j) k := by unfold prRow; rw [if_neg (by omega), if_pos rfl]
theorem prRow_step (X Y : Nat → Nat → K) (i m j k c : Nat) : upd (fun c => kv (prRow X Y i m j k c)) j (kv (prRow X Y i m j k j + X i k * Y k j)) c = kv (prRow X Y i m j (k + 1) c) := by
  unfold upd
  by_cases e : c = j
  · subst e; rw [if_pos rfl, prRow_at, prRow_at]; rfl
  · rw [if_neg e]
    show kv (prRow X Y i m j k c) = kv (prRow X Y i m j (k + 1) c)
    unfold prRow
    by_cases q : c < j
    · rw [if_pos q, if_pos q]
    · rw [if_neg q, if_neg q, if_neg e, if_neg e]
theorem prRow_next (X Y : Nat → Nat → K) (i m j c : Nat) : prRow X Y i m j m c = prRow X Y i m (j + 1) 0 c := by
  unfold prRow
  by_cases q : c < j
  · rw [if_pos q, if_pos (by omega)]
  · rw [if_neg q]
    by_cases e : c = j
    · rw [if_pos e, if_pos (by omega)]; rfl
    · rw [if_neg e, if_neg (by omega)]
      by_cases z : c = j + 1
      · rw [if_pos z]; rfl
      · rw [if_neg z]
theorem prRow_start (X Y : Nat → Nat → K) (i m c : Nat) : prRow X Y i m 0 0 c = 0 := by
  unfold prRow; rw [if_neg (by omega)]; split <;> rfl

/-- What holds while the row in block g is made, beside rows that stand. -/
structure RowMade (B : Nat) (w wr : World) (g m : Nat) (x : Nat → K) : Prop where
  row : wr.ownsRow B 5 1 (.slice (some ⟨g, 0, none⟩) m m) m (vals m fun c => kv (x c))
  bel : Below B w wr
theorem RowMade.congr {B : Nat} {w wr : World} {g m : Nat} {x y : Nat → K} (h : RowMade B w wr g m x) (e : ∀ c, c < m → x c = y c) : RowMade B w wr g m y :=
  ⟨by have := h.row; rwa [vals_congr (W := fun c => kv (y c)) (fun c hc => by show kv (x c) = kv (y c); rw [e c hc])] at this, h.bel⟩
theorem RowMade.set {B : Nat} {w wr : World} {g m : Nat} {x y : Nat → K} (h : RowMade B w wr g m x) (k : Nat) (v : K) (e : ∀ c, upd (fun c => kv (x c)) k (kv v) c = kv (y c)) : RowMade B w (wr.setCell ⟨g, k, none⟩ (.int .u8 ((v.val : Nat) : Int))) g m y := by
  refine ⟨?_, h.bel.setCell (p := ⟨g, k, none⟩) (own_ge h.row).1 _⟩
  have h1 := (h.row.stored k (kv v)).1
  rw [vals_set, vals_congr (W := fun c => kv (y c)) (fun c _ => e c)] at h1
  exact h1
theorem RowMade.drew {B : Nat} {w wr : World} {g m : Nat} {x : Nat → K} (h : RowMade B w wr g m x) : RowMade B w wr.drew g m x := ⟨h.row.drew, h.bel.drew⟩

end Go.Proofs.Ytapgdenodhcliaa
