/- The walk of GfLists at lists that do not go together, and both walks put together. -/
import Derived.Test.YtnjmegphphfbcaaXg
namespace Go.Proofs.Ytnjmegphphfbcaa
open Go.RowKit

theorem axpy_bad (a b : Option Addr) (x y cx cy : Nat) (m : Int) (w : World) (h : errM y x ≠ 0) :
    Calls Try.prog 21 #[.slice a x cx, .slice b y cy, .int .u8 m] w fun e w' => e = .returned (.tuple #[.slice none 0 0, .int .i64 (errM y x)]) ∧ w' = w := by
  rw [errM_comm y x] at h ⊢
  exact axpy_err a b x y cx cy m w h

set_option maxRecDepth 100000 in
set_option maxHeartbeats 4000000 in
theorem lists_err (p0 p1 : Option Addr) (n0 n1 c0 c1 a : Nat) (x y : Nat → Nat) (w : World) (h0 : n0 ≤ 70000) (h1 : n1 ≤ 70000) (he : errM n0 n1 ≠ 0)
    (t0 : (2000 < (n0 : Int)) = False ∨ ((n0 : Int) ≤ 65536) = False) (t1 : (2000 < (n1 : Int)) = False ∨ ((n1 : Int) ≤ 65536) = False)
    (sx : StrAt w p0 n0 x) (sy : StrAt w p1 n1 y) :
    Calls Try.prog 4 #[.slice p0 n0 c0, .slice p1 n1 c1, .int .u8 a] w fun e w' => e = .returned (.bool true) ∧ Below w.heap.size w w' := by
  have HE := hid he
  clear he
  have q0 : ¬ (70000 : Int) < (n0 : Int) := by omega
  have q1 : ¬ (70000 : Int) < (n1 : Int) := by omega
  have T : Hid (¬ (2000 < (n0 : Int) ∧ (n0 : Int) ≤ 65536)) := by
    rintro ⟨a, b⟩
    rcases t0 with t | t
    · rw [t] at a; exact a
    · rw [t] at b; exact b
  have T' : Hid (¬ (2000 < (n1 : Int) ∧ (n1 : Int) ≤ 65536)) := by
    rintro ⟨a, b⟩
    rcases t1 with t | t
    · rw [t] at a; exact a
    · rw [t] at b; exact b
  clear t0 t1
  by_cases u0 : (2000 : Int) < (n0 : Int)
  all_goals by_cases u1 : (2000 : Int) < (n1 : Int)
  all_goals try have v0 : ¬ (n0 : Int) ≤ 65536 := fun h => T.out ⟨u0, h⟩
  all_goals try have v1 : ¬ (n1 : Int) ≤ 65536 := fun h => T'.out ⟨u1, h⟩
  all_goals
    go_enter Try.func4, Try.ntmps4
    go_wp2_with fail
    refine (lent_any p0 n0 c0 x w (by omega) sx).mono ?_
    rintro e w1 ⟨rfl, h1⟩
    have E1 := hid h1.size
    go_wp2_with fail
    refine (lent_any p1 n1 c1 y w1 (by omega) (sy.below' h1.below)).mono ?_
    rintro e w2 ⟨rfl, h2⟩
    rw [E1.out]
    have k2 := Kept.start h1 h2 sx sy
    clear h1 h2 sx sy
    go_wp2_with fail
    refine (axpy_bad _ _ n1 n0 _ _ _ w2 HE.out).mono ?_
    rintro e w3 ⟨rfl, hw3⟩
    have hw3' := hw3.symm
    subst hw3'
    clear hw3
    go_wp2_with fail
    refine (raxpy_err _ _ n1 n0 _ _ _ w2 HE.out).mono ?_
    rintro e w3 ⟨rfl, hw3⟩
    have hw3' := hw3.symm
    subst hw3'
    clear hw3
    go_wp2_with fail
    refine (dot_err _ _ n0 n1 _ _ w2 HE.out).mono ?_
    rintro e w3 ⟨rfl, hw3⟩
    have hw3' := hw3.symm
    subst hw3'
    clear hw3
    go_wp2_with fail
    refine (rdot_err _ _ n0 n1 _ _ w2 HE.out).mono ?_
    rintro e w5 ⟨rfl, qn, hq⟩
    have b5 : Below w2.heap.size w2 w5 := by rw [hq]; exact below_dn w2 qn
    clear hq
    have k5 := k2.on b5
    clear k2 b5
    go_wp2_with fail
    refine (same_true none none 0 0 0 x w5 (.inl rfl) (.inl rfl)).mono ?_
    rintro e w6 ⟨rfl, hw6⟩
    have hw6' := hw6.symm
    subst hw6'
    clear hw6
    go_wp2_with fail
    refine (kept_x k5 (by omega) c0).mono ?_
    rintro e w6 ⟨rfl, b6⟩
    have k6 := k5.on b6
    clear k5 b6
    go_wp2_with fail
    refine (kept_y k6 (by omega) c1).mono ?_
    rintro e w7 ⟨rfl, b7⟩
    have k7 := k6.on b7
    clear k6 b7
    go_wp2_with fail
    refine (over_nil w7).mono ?_
    rintro e w8 ⟨rfl, hw8⟩
    have hw8' := hw8.symm
    subst hw8'
    clear hw8
    go_wp2_with fail
    refine (kept_x k7 (by omega) c0).mono ?_
    rintro e w9 ⟨rfl, b9⟩
    have k9 := k7.on b9
    clear k7 b9
    go_wp2_with fail
    refine (kept_y k9 (by omega) c1).mono ?_
    rintro e w10 ⟨rfl, b10⟩
    have k10 := k9.on b10
    clear k9 b10
    go_wp2_with fail
    refine (awake_any w10).mono ?_
    rintro e w11 ⟨rfl, hw11⟩
    have hw11' := hw11.symm
    subst hw11'
    clear hw11
    go_wp2_with fail
    go_ret
    exact ⟨rfl, k10.below⟩

theorem lists_any (p0 p1 : Option Addr) (n0 n1 c0 c1 a : Nat) (x y : Nat → Nat) (w : World) (ha : a < 256)
    (hx : ∀ i, i < n0 → x i < 256) (hy : ∀ i, i < n1 → y i < 256) (sx : StrAt w p0 n0 x) (sy : StrAt w p1 n1 y) :
    Calls Try.prog 4 #[.slice p0 n0 c0, .slice p1 n1 c1, .int .u8 a] w fun e w' => e = .returned (.bool true) ∧ Below w.heap.size w w' := by
  by_cases h : early n0 n1
  · exact lists_early p0 p1 n0 n1 c0 c1 a w h
  · unfold early at h
    by_cases he : errM n0 n1 = 0
    · have hlen : n0 = n1 ∧ n0 ≤ 65536 := by
        unfold errM at he
        by_cases q : 65536 < n0 ∨ 65536 < n1
        · rw [if_pos q] at he; exact absurd he (by decide)
        · rw [if_neg q] at he
          by_cases q2 : n0 = n1
          · exact ⟨q2, by omega⟩
          · rw [if_neg q2] at he; exact absurd he (by decide)
      obtain ⟨rfl, h2⟩ := hlen
      exact lists_ok p0 p1 n0 c0 c1 a x y w (by omega) ha hx hy sx sy
    · refine lists_err p0 p1 n0 n1 c0 c1 a x y w (by omega) (by omega) he ?_ ?_ sx sy
      · by_cases q : (2000 : Int) < (n0 : Int)
        · right; simp; omega
        · left; simp; omega
      · by_cases q : (2000 : Int) < (n1 : Int)
        · right; simp; omega
        · left; simp; omega
end Go.Proofs.Ytnjmegphphfbcaa
