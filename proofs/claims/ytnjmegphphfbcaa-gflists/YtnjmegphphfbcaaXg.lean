/- The walk of GfLists: it returns true of every two lists of bytes and every byte, in every world, and changes nothing that was there. -/
import Derived.Test.YtnjmegphphfbcaaXf
namespace Go.Proofs.Ytnjmegphphfbcaa
open Go.RowKit

/-- The lengths of which GfLists does not speak. -/
def early (n0 n1 : Nat) : Prop := (2000 < n0 ∧ n0 ≤ 65536) ∨ (2000 < n1 ∧ n1 ≤ 65536) ∨ 70000 < n0 ∨ 70000 < n1

set_option maxRecDepth 100000 in
set_option maxHeartbeats 1000000 in
theorem lists_early (p0 p1 : Option Addr) (n0 n1 c0 c1 : Nat) (a : Int) (w : World) (h : early n0 n1) :
    Calls Try.prog 4 #[.slice p0 n0 c0, .slice p1 n1 c1, .int .u8 a] w fun e w' => e = .returned (.bool true) ∧ Below w.heap.size w w' := by
  have H := hid h
  clear h
  go_enter Try.func4, Try.ntmps4
  go_wp2_with fail
  all_goals first
    | (go_ret; exact ⟨rfl, Below.refl _ _⟩)
    | (exfalso; have h := H.out; unfold early at h; omega)

set_option maxRecDepth 100000 in
set_option maxHeartbeats 2000000 in
theorem lists_ok (p0 p1 : Option Addr) (n c0 c1 a : Nat) (x y : Nat → Nat) (w : World) (hn : n ≤ 2000) (ha : a < 256)
    (hx : ∀ i, i < n → x i < 256) (hy : ∀ i, i < n → y i < 256) (sx : StrAt w p0 n x) (sy : StrAt w p1 n y) :
    Calls Try.prog 4 #[.slice p0 n c0, .slice p1 n c1, .int .u8 a] w fun e w' => e = .returned (.bool true) ∧ Below w.heap.size w w' := by
  have l0 := hid sx.lt
  have l1 := hid sy.lt
  go_enter Try.func4, Try.ntmps4
  go_wp2_with fail
  refine (lent_any p0 n c0 x w (by omega) sx).mono ?_
  rintro e w1 ⟨rfl, h1⟩
  have E1 := hid h1.size
  go_wp2_with fail
  refine (lent_any p1 n c1 y w1 (by omega) (sy.below' h1.below)).mono ?_
  rintro e w2 ⟨rfl, h2⟩
  rw [E1.out]
  have k2 := Kept.start h1 h2 sx sy
  clear h1 h2 sx sy
  go_wp2_with fail
  refine (axpy_kept k2 hn ha hx hy).mono ?_
  rintro e w3 ⟨rfl, b3, su, tu⟩
  have k3 := k2.on b3
  clear k2 b3
  go_wp2_with fail
  refine (raxpy_any p1 p0 n c1 c0 a y x w3 (by omega) ha hy hx k3.sy k3.sx).mono ?_
  rintro e w4 ⟨pv, cv, rfl, sv, b4⟩
  have su4 := su.below' b4
  have tu4 := tu.on b4
  have k4 := k3.on b4
  clear su tu k3 b4
  go_wp2_with fail
  refine (dot_kept k4 hn hx hy).mono ?_
  rintro e w5 ⟨rfl, hw5⟩
  have hw5' := hw5.symm
  subst hw5'
  clear hw5
  go_wp2_with fail
  refine (rdot_any p0 p1 n c0 c1 x y w4 (by omega) hx hy k4.sx k4.sy).mono ?_
  rintro e w5 ⟨rfl, qn, hq⟩
  have b5 : Below w4.heap.size w4 w5 := by rw [hq]; exact below_dn w4 qn
  clear hq
  have su5 := su4.below' b5
  have sv5 := sv.below' b5
  have tu5 := tu4.on b5
  have k5 := k4.on b5
  clear su4 sv tu4 k4 b5
  go_wp2_with fail
  refine (same_true _ _ n _ _ (axN a y x) w5 su5 sv5).mono ?_
  rintro e w6 ⟨rfl, hw6⟩
  have hw6' := hw6.symm
  subst hw6'
  clear hw6 su5 sv5
  go_wp2_with fail
  refine (kept_x k5 (by omega) c0).mono ?_
  rintro e w6 ⟨rfl, b6⟩
  have tu6 := tu5.on b6
  have k6 := k5.on b6
  clear tu5 k5 b6
  go_wp2_with fail
  refine (kept_y k6 (by omega) c1).mono ?_
  rintro e w7 ⟨rfl, b7⟩
  have tu7 := tu6.on b7
  have k7 := k6.on b7
  clear tu6 k6 b7
  go_wp2_with fail
  refine (over_any _ n w7 (by omega) tu7.cells tu7.free).mono ?_
  rintro e w8 ⟨rfl, ho⟩
  have k8 := k7.over ho tu7.lo l0.out l1.out
  clear tu7 k7 ho
  go_wp2_with fail
  refine (kept_x k8 (by omega) c0).mono ?_
  rintro e w9 ⟨rfl, b9⟩
  have k9 := k8.on b9
  clear k8 b9
  go_wp2_with fail
  refine (kept_y k9 (by omega) c1).mono ?_
  rintro e w10 ⟨rfl, b10⟩
  have k10 := k9.on b10
  clear k9 b10
  go_wp2_with fail
  refine (awake_any w10).mono ?_
  rintro e w11 ⟨rfl, hw11⟩
  have hw11' := hw11.symm
  subst hw11'
  clear hw11
  go_wp2_with fail
  go_ret
  exact ⟨rfl, k10.below⟩
end Go.Proofs.Ytnjmegphphfbcaa
