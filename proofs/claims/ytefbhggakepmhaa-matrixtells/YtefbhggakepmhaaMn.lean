/- Contract of MatrixKnown: all of the chapter's examples are answered as it says; what was there is as it was. -/
import Derived.Test.YtefbhggakepmhaaMm
namespace Go.RowKit
/-- One behind the other. -/
theorem Below.then {w w' w'' : World} (h : Below w.heap.size w w') (h' : Below w'.heap.size w' w'') : Below w.heap.size w w'' := h.trans (h'.mono h.size)
end Go.RowKit
namespace Go.Proofs.Ytefbhggakepmhaa
open Go.RowKit

theorem alloc3 (w : World) (a b c : Obj) : Below w.heap.size w (((w.alloc a).alloc b).alloc c) := ((((Below.refl _ _).alloc (Nat.le_refl _) _).alloc (by simp) _).alloc (by simp; omega) _)
theorem alloc1 (w : World) (a : Obj) : Below w.heap.size w (w.alloc a) := (Below.refl _ _).alloc (Nat.le_refl _) _

theorem known_mul : ∀ i, i < 2 → ∀ j, j < 2 → pr 2 (li2 1 2 3 4) (li2 1 0 0 1) i j = li2 1 2 3 4 i j := by
  intro i hi j hj
  rcases lt2 hi with rfl | rfl <;> rcases lt2 hj with rfl | rfl <;> decide +kernel
def ri2 (a b : Int) (i : Nat) : Int := if i = 0 then a else b
theorem known_pick : ∀ i, i < 2 → ∀ j, j < 2 → li2 1 2 3 4 (ri2 1 0 i).toNat j = li2 3 4 1 2 i j := by
  intro i hi j hj
  rcases lt2 hi with rfl | rfl <;> rcases lt2 hj with rfl | rfl <;> decide +kernel
theorem ints2_at (w : World) (a b : Int) : IntsAt (w.alloc (.cells #[.int .i64 a, .int .i64 b] 3)) (some ⟨w.heap.size, 0, none⟩) 2 (ri2 a b) :=
  .inr ⟨_, _, rfl, fun i hi => by
    rw [World.cell?_alloc_new]
    rcases lt2 hi with rfl | rfl <;> rfl⟩
theorem ints1_at (w : World) (a : Int) : IntsAt (w.alloc (.cells #[.int .i64 a] 3)) (some ⟨w.heap.size, 0, none⟩) 1 (fun _ => a) :=
  .inr ⟨_, _, rfl, fun i hi => by
    rw [World.cell?_alloc_new]
    obtain rfl : i = 0 := by omega
    rfl⟩
theorem lit21_at (w : World) (N a b c : Nat) (hN : N = w.heap.size) :
    TopAt (((w.alloc (.cells #[.int .u8 ((a : Nat) : Int), .int .u8 ((b : Nat) : Int)] 5)).alloc (.cells #[.int .u8 ((c : Nat) : Int)] 5)).alloc (.cells #[.slice (some ⟨N, 0, none⟩) 2 2, .slice (some ⟨N + 1, 0, none⟩) 1 1] 41))
      (some ⟨N + 1 + 1, 0, none⟩) 2 (fun i => some ⟨N + i, 0, none⟩) (fun i => if i = 0 then 2 else 1) (fun i => if i = 0 then 2 else 1) :=
  .inr ⟨_, _, rfl, fun i hi => by
    subst hN
    have e : (w.heap.size + 1 + 1) = ((w.alloc (.cells #[.int .u8 ((a : Nat) : Int), .int .u8 ((b : Nat) : Int)] 5)).alloc (.cells #[.int .u8 ((c : Nat) : Int)] 5)).heap.size := by simp
    rw [e, World.cell?_alloc_new]
    rcases lt2 hi with rfl | rfl <;> rfl⟩

set_option maxRecDepth 100000 in
set_option maxHeartbeats 4000000 in
theorem known_any (w : World) : Calls Try.prog 5 #[] w fun e w' => e = .returned (.bool true) ∧ Below w.heap.size w w' := by
  go_enter Try.func5, Try.ntmps5
  go_wp2_with fail
  have M0 := hid ((lit2_at w w.heap.size 1 2 3 4 rfl (by decide) (by decide) (by decide) (by decide)))
  refine (mul_ok _ _ 2 2 2 _ _ _ _ _ _ (li2 1 2 3 4) (li2 1 0 0 1) _ (by exact M0.out.keep (Stays.of_below (alloc3 _ _ _ _))) (by exact lit2_at _ (w.heap.size + 1 + 1 + 1) 1 0 0 1 (by simp) (by decide) (by decide) (by decide) (by decide)) (by omega) (by omega) (by omega) (by omega) (by omega) (by omega)).mono ?_
  rintro e w1 ⟨g1, G1, rfl, hm1, hb1⟩
  have M1 := hid (M0.out.keep (Stays.of_below ((alloc3 _ _ _ _).then hb1)))
  have P1 := hid hm1.toMat
  have B1 := hid ((alloc3 w _ _ _).then ((alloc3 _ _ _ _).then hb1))
  clear M0 hm1 hb1
  go_wp2_with fail
  refine (invert_square _ 2 2 _ _ (li2 1 1 1 1) _ (by omega) (by omega) (by exact lit2_at w1 w1.heap.size 1 1 1 1 rfl (by decide) (by decide) (by decide) (by decide))).mono ?_
  rintro e w2 ⟨hb2, ⟨_, rfl⟩ | ⟨h, _⟩⟩
  rotate_left
  · exact absurd h (by decide +kernel)
  have b2 := (alloc3 w1 _ _ _).then hb2
  have M2 := hid (M1.out.keep (Stays.of_below b2))
  have P2 := hid (P1.out.keep (Stays.of_below b2))
  have B2 := hid (B1.out.then b2)
  clear M1 P1 B1 b2 hb2
  go_wp2_with fail
  refine (rank_ok _ 2 2 2 _ _ (li2 1 1 1 1) _ (by omega) (by omega) (by omega) (by omega) (by exact lit2_at w2 w2.heap.size 1 1 1 1 rfl (by decide) (by decide) (by decide) (by decide))).mono ?_
  rintro e w3 ⟨rfl, hb3⟩
  rw [show (sw (li2 1 1 1 1) 2 2).l.length = 1 by decide +kernel]
  have b3 := (alloc3 w2 _ _ _).then hb3
  have M3 := hid (M2.out.keep (Stays.of_below b3))
  have P3 := hid (P2.out.keep (Stays.of_below b3))
  have B3 := hid (B2.out.then b3)
  clear M2 P2 B2 b3 hb3
  go_wp2_with fail
  refine (pick_rows _ _ 2 2 2 2 2 _ _ (li2 1 2 3 4) (ri2 1 0) _ (by omega) (by omega) (by omega) (by omega) (by omega) (by omega) (by exact M3.out.keep (Stays.of_below (alloc1 _ _))) (by exact ints2_at w3 1 0)).mono ?_
  rintro e w4 ⟨hb4, ⟨h, _⟩ | ⟨_, g4, G4, Q4, rfl, hm4⟩⟩
  · exact absurd h (by decide +kernel)
  have b4 := (alloc1 w3 _).then hb4
  have M4 := hid (M3.out.keep (Stays.of_below b4))
  have P4 := hid (P3.out.keep (Stays.of_below b4))
  have R4 := hid hm4.toMat
  have B4 := hid (B3.out.then b4)
  clear M3 P3 B3 b4 hb4 hm4
  go_wp2_with fail
  refine (pick_rows _ _ 2 2 2 1 1 _ _ (li2 1 2 3 4) (fun _ => 2) _ (by omega) (by omega) (by omega) (by omega) (by omega) (by omega) (by exact M4.out.keep (Stays.of_below (alloc1 _ _))) (by exact ints1_at w4 2)).mono ?_
  rintro e w5 ⟨hb5, ⟨_, rfl⟩ | ⟨h, _⟩⟩
  rotate_left
  · exact absurd (h 0 (by omega)) (by decide)
  have b5 := (alloc1 w4 _).then hb5
  have M5 := hid (M4.out.keep (Stays.of_below b5))
  have P5 := hid (P4.out.keep (Stays.of_below b5))
  have R5 := hid (R4.out.keep (Stays.of_below b5))
  have B5 := hid (B4.out.then b5)
  clear M4 P4 R4 B4 b5 hb5
  go_wp2_with fail
  refine (one_err 0 w5 (by omega)).mono ?_
  rintro e w' ⟨rfl, hw⟩
  have hw2 := hw.symm
  subst hw2
  clear hw
  go_wp2_with fail
  refine (code_err 16 1 w5 (by omega) (by omega) (by omega) (by omega) (by omega)).mono ?_
  rintro e w' ⟨rfl, hw⟩
  have hw2 := hw.symm
  subst hw2
  clear hw
  go_wp2_with fail
  refine (awake_any w5).mono ?_
  rintro e w6 ⟨rfl, hb6⟩
  have M6 := hid (M5.out.keep (Stays.of_below hb6))
  have P6 := hid (P5.out.keep (Stays.of_below hb6))
  have R6 := hid (R5.out.keep (Stays.of_below hb6))
  have B6 := hid (B5.out.then hb6)
  clear M5 P5 R5 B5 hb6
  go_wp2_with fail
  refine (makes_true _ _ 2 _ _ _ _ (fun _ => 2) _ _ _ (li2 1 2 3 4) w6 (by omega) P6.out M6.out known_mul).mono ?_
  rintro e w7 ⟨rfl, hb7⟩
  have R7 := hid (R6.out.keep (Stays.of_below hb7))
  have B7 := hid (B6.out.then hb7)
  clear M6 P6 R6 B6 hb7
  go_wp2_with fail
  refine (makes_true _ _ 2 _ _ _ _ (fun _ => 2) _ _ _ (li2 3 4 1 2) _ (by omega) (by exact R7.out.keep (Stays.of_below (alloc3 _ _ _ _))) (by exact lit2_at w7 w7.heap.size 3 4 1 2 rfl (by decide) (by decide) (by decide) (by decide)) known_pick).mono ?_
  rintro e w8 ⟨rfl, hb8⟩
  have B8 := hid (B7.out.then ((alloc3 w7 _ _ _).then hb8))
  clear R7 B7 hb8
  go_wp2_with fail
  refine (check_any _ 2 2 _ (fun i => if i = 0 then 2 else 1) _ _ (by omega) (by exact lit21_at w8 w8.heap.size 1 2 3 rfl)).mono ?_
  rintro e w9 ⟨rfl, hw⟩
  have hw2 := hw.symm
  subst hw2
  clear hw
  rw [show errC 2 (fun i => if i = 0 then 2 else 1) = 2 by decide +kernel]
  have B9 := hid (B8.out.then (alloc3 w8 (.cells #[.int .u8 1, .int .u8 2] 5) (.cells #[.int .u8 3] 5) (.cells #[.slice (some ⟨w8.heap.size, 0, none⟩) 2 2, .slice (some ⟨w8.heap.size + 1, 0, none⟩) 1 1] 41)))
  clear B8
  go_wp2
  go_ret
  exact ⟨rfl, B9.out⟩
end Go.Proofs.Ytefbhggakepmhaa
