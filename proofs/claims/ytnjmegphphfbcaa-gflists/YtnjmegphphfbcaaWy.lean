/- The walk of GfKnown: it returns true in every world, and changes nothing that was there. -/
import Derived.Test.YtnjmegphphfbcaaWx
namespace Go.Proofs.Ytnjmegphphfbcaa
open Go.RowKit

set_option maxHeartbeats 400000 in
theorem lawpow_true (a n v : Int) (w : World) (h0 : 0 ≤ a) (h1 : a ≤ 255) (h2 : -9223372036854775808 ≤ n) (h3 : n ≤ 9223372036854775807) (hv : powV a.toNat n = v) (he : powE a.toNat n = 0) :
    Calls Try.prog 28 #[.int .u8 a, .int .i64 n, .int .u8 v] w fun e w' => e = .returned (.bool true) ∧ w' = w := by
  subst hv
  go_enter Try.func28, Try.ntmps28
  go_wp2_with (go_at_call 12; refine (pow_any _ _ _ h0 h1 h2 h3).mono ?_; rintro e w' ⟨rfl, rfl⟩)
  go_ret
  exact ⟨rfl, rfl⟩

theorem k1 : invE 0 = 5 := by decide +kernel
theorem k2 : divV 9 7 = 3 := by decide +kernel
theorem k3 : invE 7 = 0 := by decide +kernel
theorem k4 : powE 0 (-1) = 5 := by decide +kernel
theorem k5 : logV 29 = 8 := by decide +kernel
theorem k6 : logE 29 = 0 := by decide +kernel
theorem k7 : Gf.gm 3 7 = 9 := by decide +kernel
theorem k8 : (83 : Nat) ^^^ 202 = 153 := by decide +kernel

/-- Two bytes. -/
def two (a b : Nat) (i : Nat) : Nat := if i = 0 then a else b
theorem two_lt (a b : Nat) (ha : a < 256) (hb : b < 256) : ∀ i, i < 2 → two a b i < 256 := by
  intro i _; unfold two; split <;> assumption
theorem two_row (w : World) (b x y : Nat) (h0 : w.cell? ⟨b, 0, none⟩ = some (.int .u8 (x : Nat))) (h1 : w.cell? ⟨b, 1, none⟩ = some (.int .u8 (y : Nat))) : RowAt w b 0 2 (two x y) := by
  intro i hi
  match i, hi with
  | 0, _ => exact h0
  | 1, _ => exact h1

theorem new2 (w : World) (o : Obj) (C : Array Value) (i : Nat) : ((w.alloc o).alloc (.cells C 5)).cell? ⟨w.heap.size + 1, i, none⟩ = C[i]? :=
  World.cell?_alloc_at _ _ _ _ (by simp)
theorem ax_known : axN 2 (two 1 2) (two 1 1) 0 = 3 ∧ axN 2 (two 1 2) (two 1 1) 1 = 0 := by decide +kernel

theorem axpy_known (w : World) :
    Calls Try.prog 21 #[.slice (some ⟨w.heap.size, 0, none⟩) 2 2, .slice (some ⟨w.heap.size + 1, 0, none⟩) 2 2, .int .u8 2]
      ((w.alloc (.cells #[.int .u8 1, .int .u8 2] 5)).alloc (.cells #[.int .u8 1, .int .u8 1] 5)) fun e w' =>
      e = .returned (.tuple #[.slice (some ⟨w.heap.size + 2, 0, none⟩) 2 2, .int .i64 0]) ∧ w'.heap.size = w.heap.size + 3 ∧ Below w.heap.size w w' ∧ RowAt w' (w.heap.size + 2) 0 2 (two 3 0) := by
  have hc := axpy_some w.heap.size 0 2 2 (w.heap.size + 1) 0 2 2 (two 1 2) (two 1 1) ((w.alloc (.cells #[.int .u8 1, .int .u8 2] 5)).alloc (.cells #[.int .u8 1, .int .u8 1] 5))
    (by decide) (by decide) (by decide) (two_lt _ _ (by decide) (by decide)) (two_lt _ _ (by decide) (by decide)) (by simp; omega) (by simp)
    (two_row _ _ _ _ (by simp) (by simp)) (two_row _ _ _ _ (new2 _ _ _ 0) (new2 _ _ _ 1))
  refine hc.mono ?_
  rintro e w' ⟨rfl, h⟩
  have hs := h.size
  simp at hs
  refine ⟨by simp, by omega, ((((Below.refl _ _).alloc (Nat.le_refl _) _).alloc (by simp) _).trans (h.below.mono (by simp; omega))), ?_⟩
  intro i hi
  have := h.cells i hi
  simp at this
  rw [Nat.zero_add, this]
  match i, hi with
  | 0, _ => rw [ax_known.1]; rfl
  | 1, _ => rw [ax_known.2]; rfl

theorem dot_known (w : World) :
    Calls Try.prog 23 #[.slice (some ⟨w.heap.size, 0, none⟩) 2 2, .slice (some ⟨w.heap.size + 1, 0, none⟩) 2 2]
      ((w.alloc (.cells #[.int .u8 1, .int .u8 2] 5)).alloc (.cells #[.int .u8 3, .int .u8 4] 5)) fun e w' =>
      e = .returned (.tuple #[.int .u8 11, .int .i64 0]) ∧ w' = (w.alloc (.cells #[.int .u8 1, .int .u8 2] 5)).alloc (.cells #[.int .u8 3, .int .u8 4] 5) := by
  have hc := dot_some w.heap.size 0 2 2 (w.heap.size + 1) 0 2 (two 1 2) (two 3 4) ((w.alloc (.cells #[.int .u8 1, .int .u8 2] 5)).alloc (.cells #[.int .u8 3, .int .u8 4] 5))
    (by decide) (by decide) (by decide) (two_lt _ _ (by decide) (by decide)) (two_lt _ _ (by decide) (by decide))
    (two_row _ _ _ _ (by simp) (by simp)) (two_row _ _ _ _ (new2 _ _ _ 0) (new2 _ _ _ 1))
  have e : dotN (two 1 2) (two 3 4) 2 = 11 := by decide +kernel
  rw [e] at hc
  exact hc
theorem dot_known2 (p : Addr) (c : Nat) (w : World) :
    Calls Try.prog 23 #[.slice (some p) 1 c, .slice none 0 0] w fun e w' => e = .returned (.tuple #[.int .u8 0, .int .i64 2]) ∧ w' = w := by
  have e : errM 1 0 = 2 := by decide
  have hc := dot_err (some p) none 1 0 c 0 w (by rw [e]; decide)
  rw [e] at hc
  exact hc

theorem same_known (w w2 : World) (o1 o2 o3 : Obj) (hs : w2.heap.size = w.heap.size + 3) (hr : RowAt w2 (w.heap.size + 2) 0 2 (two 3 0)) :
    Calls Try.prog 25 #[.slice (some ⟨w.heap.size + 2, 0, none⟩) 2 2, .slice (some ⟨w2.heap.size + 1 + 1 + 1, 0, none⟩) 2 2]
      ((((w2.alloc o1).alloc o2).alloc o3).alloc (.cells #[.int .u8 3, .int .u8 0] 5)) fun e w' =>
      e = .returned (.bool true) ∧ w' = (((w2.alloc o1).alloc o2).alloc o3).alloc (.cells #[.int .u8 3, .int .u8 0] 5) := by
  refine same_true _ _ 2 2 2 (two 3 0) _ (.inr ⟨_, _, rfl, ?_⟩) (.inr ⟨_, _, rfl, ?_⟩)
  · intro i hi
    rw [World.cell?_alloc_lt _ _ _ (by simp; omega), World.cell?_alloc_lt _ _ _ (by simp; omega), World.cell?_alloc_lt _ _ _ (by simp; omega), World.cell?_alloc_lt _ _ _ (by simp; omega)]
    exact hr i hi
  · exact two_row _ _ _ _ (World.cell?_alloc_at _ _ _ _ (by simp)) (World.cell?_alloc_at _ _ _ _ (by simp))

set_option maxRecDepth 100000 in
set_option maxHeartbeats 1000000 in
theorem known_any (w : World) :
    Calls Try.prog 5 #[] w fun e w' => e = .returned (.bool true) ∧ Below w.heap.size w w' := by
  have k1 := k1
  have k2 := k2
  have k3 := k3
  have k4 := k4
  have k5 := k5
  have k6 := k6
  have k7 := k7
  have k8 := k8
  go_enter Try.func5, Try.ntmps5
  go_wp2_with (first | (go_at_call 8; refine (inv_any _ _ (by omega) (by omega)).mono ?_; rintro e w' ⟨rfl, hw⟩; have hw2 := hw.symm; subst hw2; clear hw) | (go_at_call 10; refine (div_any _ _ _ (by omega) (by omega) (by omega) (by omega)).mono ?_; rintro e w' ⟨rfl, hw⟩; have hw2 := hw.symm; subst hw2; clear hw) | (go_at_call 12; refine (pow_any _ _ _ (by omega) (by omega) (by omega) (by omega)).mono ?_; rintro e w' ⟨rfl, hw⟩; have hw2 := hw.symm; subst hw2; clear hw) | (go_at_call 14; refine (log_any _ _ (by omega) (by omega)).mono ?_; rintro e w' ⟨rfl, hw⟩; have hw2 := hw.symm; subst hw2; clear hw))
  refine (axpy_known w).mono ?_
  rintro e w2 ⟨rfl, hs2, hb2, hr2⟩
  have HS := hid hs2
  have HB := hid hb2
  have HR := hid hr2
  clear hs2 hb2 hr2
  go_wp2_with fail
  refine (dot_known w2).mono ?_
  rintro e w3 ⟨rfl, hw3⟩
  have hw3' := hw3.symm
  subst hw3'
  clear hw3
  go_wp2_with fail
  refine (dot_known2 _ _ _).mono ?_
  rintro e w3 ⟨rfl, hw3⟩
  have hw3' := hw3.symm
  subst hw3'
  clear hw3
  go_wp2_with (first | (go_at_call 19; refine (awake_any _).mono ?_; rintro e w' ⟨rfl, hw⟩; have hw2 := hw.symm; subst hw2; clear hw) | (go_at_call 16; refine (add_any _ _ _ (by omega) (by omega) (by omega) (by omega)).mono ?_; rintro e w' ⟨rfl, hw⟩; have hw2 := hw.symm; subst hw2; clear hw) | (go_at_call 17; refine (mul_any _ _ _ (by omega) (by omega) (by omega) (by omega)).mono ?_; rintro e w' ⟨rfl, hw⟩; have hw2 := hw.symm; subst hw2; clear hw) | (go_at_call 28; refine (lawpow_true _ _ _ _ (by omega) (by omega) (by omega) (by omega) (by decide +kernel) (by decide +kernel)).mono ?_; rintro e w' ⟨rfl, hw⟩; have hw2 := hw.symm; subst hw2; clear hw))
  refine (same_known w w2 _ _ _ HS.out HR.out).mono ?_
  rintro e w3 ⟨rfl, hw3⟩
  have hw3' := hw3.symm
  subst hw3'
  clear hw3
  go_wp2_with fail
  go_ret
  have h2 := HS.out
  exact ⟨rfl, ((((HB.out.alloc (by omega) _).alloc (by simp; omega) _).alloc (by simp; omega) _).alloc (by simp; omega) _)⟩
end Go.Proofs.Ytnjmegphphfbcaa
