/- Contract of MatrixKnown: all of the chapter's examples are answered as it says; what was there is as it was. -/
import Derived.Test.YtapgdenodhcliaaMm
namespace Go.RowKit
/-- One behind the other. -/
theorem Below.then {w w' w'' : World} (h : Below w.heap.size w w') (h' : Below w'.heap.size w' w'') : Below w.heap.size w w'' := h.trans (h'.mono h.size)
end Go.RowKit
namespace Go.Proofs.Ytapgdenodhcliaa
open Go.RowKit

theorem alloc3 (w : World) (a b c : Obj) : Below w.heap.size w (((w.alloc a).alloc b).alloc c) := ((((Below.refl _ _).alloc (Nat.le_refl _) _).alloc (by simp) _).alloc (by simp; omega) _)
theorem alloc1 (w : World) (a : Obj) : Below w.heap.size w (w.alloc a) := (Below.refl _ _).alloc (Nat.le_refl _) _

theorem known_mul : ∀ i, i < 2 → ∀ j, j < 2 → pr 2 (li2 1 2 3 4) (li2 1 0 0 1) i j = li2 1 2 3 4 i j := by
  intro i hi j hj
  rcases lt2 hi with rfl | rfl <;> rcases lt2 hj with rfl | rfl <;> decide +kernel
def ri2 (a b : Int) (i : Nat) : Int := if i = 0 then a else b
theorem known_pick : ∀ i, i < 2 → ∀ j, j < 2 → li2 1 2 3 4 (ri2 1 0 i).toNat j = li2 3 4 1 2 i j := by
  intro i hi j hj
  rcases lt2 hi with rfl | rfl <;> rcases lt2 hj with rfl | rfl <;> decide +kernel
theorem ints2_at (w : World) (a b : Int) : IntsAt (w.alloc (.cells #[.int .i64 a, .int .i64 b] 3)) (some ⟨w.heap.size, 0, none⟩) 2 (ri2 a b) :=
  .inr ⟨_, _, rfl, fun i hi => by
    rw [World.cell?_alloc_new]
    rcases lt2 hi with rfl | rfl <;> rfl⟩
theorem ints1_at (w : World) (a : Int) : IntsAt (w.alloc (.cells #[.int .i64 a] 3)) (some ⟨w.heap.size, 0, none⟩) 1 (fun _ => a) :=
  .inr ⟨_, _, rfl, fun i hi => by
    rw [World.cell?_alloc_new]
    obtain rfl : i = 0 := by omega
    rfl⟩
theorem lit21_at (w : World) (N a b c : Nat) (hN : N = w.heap.size) :
    TopAt (((w.alloc (.cells #[.int .u8 ((a : Nat) : Int), .int .u8 ((b : Nat) : Int)] 5)).alloc (.cells #[.int .u8 ((c : Nat) : Int)] 5)).alloc (.cells #[.slice (some ⟨N, 0, none⟩) 2 2, .slice (some ⟨N + 1, 0, none⟩) 1 1] 22))
      (some ⟨N + 1 + 1, 0, none⟩) 2 (fun i => some ⟨N + i, 0, none⟩) (fun i => if i = 0 then 2 else 1) (fun i => if i = 0 then 2 else 1) :=
  .inr ⟨_, _, rfl, fun i hi => by
    subst hN
    have e : (w.heap.size + 1 + 1) = ((w.alloc (.cells #[.int .u8 ((a : Nat) : Int), .int .u8 ((b : Nat) : Int)] 5)).alloc (.cells #[.int .u8 ((c : Nat) : Int)] 5)).heap.size := by simp
    rw [e, World.cell?_alloc_new]
    rcases lt2 hi with rfl | rfl <;> rfl⟩

end Go.Proofs.Ytapgdenodhcliaa
