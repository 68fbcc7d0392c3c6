/- Contracts of the document's own answers for wrong and Dot of lists: as the program's; the world is as it was, but for draws. -/
import Derived.Test.YtnjmegphphfbcaaXa
import Derived.Deep.QuietTactic
import Derived.BigQuiet
import Derived.Deep.Draws
namespace Go.Proofs.Ytnjmegphphfbcaa
open Go.RowKit

set_option maxRecDepth 100000 in
set_option maxHeartbeats 400000 in
theorem wrong_any (a b : Option Addr) (x y cx cy : Nat) (w : World) :
    Calls Try.prog 34 #[.slice a x cx, .slice b y cy] w fun e w' => e = .returned (.int .i64 (errM x y)) ∧ w' = w := by
  by_cases h1 : 65536 < x
  · have H : Hid (errM x y = 3) := if_pos (Or.inl h1)
    go_enter Try.func34, Try.ntmps34
    go_wp2
    go_ret
    exact ⟨ret_int H.out.symm, rfl⟩
  · by_cases h2 : 65536 < y
    · have H : Hid (errM x y = 3) := if_pos (Or.inr h2)
      go_enter Try.func34, Try.ntmps34
      go_wp2
      go_ret
      exact ⟨ret_int H.out.symm, rfl⟩
    · by_cases h3 : x = y
      · have H : Hid (errM x y = 0) := by unfold errM; rw [if_neg (by omega), if_pos h3]; trivial
        have h4 : ((x : Int) != (y : Int)) = false := by rw [h3]; simp
        clear h3
        go_enter Try.func34, Try.ntmps34
        go_wp2
        go_ret
        exact ⟨ret_int H.out.symm, rfl⟩
      · have H : Hid (errM x y = 2) := by unfold errM; rw [if_neg (by omega), if_neg h3]; trivial
        have h4 : ((x : Int) != (y : Int)) = true := by simp; omega
        clear h3
        go_enter Try.func34, Try.ntmps34
        go_wp2
        go_ret
        exact ⟨ret_int H.out.symm, rfl⟩

set_option maxRecDepth 100000 in
set_option maxHeartbeats 1000000 in
theorem rdot_some (bx ox n cx bY oy cy : Nat) (x y : Nat → Nat) (w : World) (hn : n ≤ 65536)
    (hx : ∀ i, i < n → x i < 256) (hy : ∀ i, i < n → y i < 256)
    (cellx : RowAt w bx ox n x) (celly : RowAt w bY oy n y) :
    Calls Try.prog 24 #[.slice (some ⟨bx, ox, none⟩) n cx, .slice (some ⟨bY, oy, none⟩) n cy] w fun e w' => e = .returned (.tuple #[.int .u8 (dotN x y n : Nat), .int .i64 0]) ∧ ∃ q, w' = w.drewN q := by
  have HE : Hid (errM n n = 0) := by unfold errM; rw [if_neg (by omega), if_pos rfl]; trivial
  go_enter Try.func24, Try.ntmps24
  go_wp2_with (go_at_call 34; refine (wrong_any _ _ _ _ _ _ _).mono ?_; rintro e w' ⟨rfl, hw⟩; have hw2 := hw.symm; subst hw2; clear hw; rw [HE.out])
  go_loopw [7, 8] (fun s i wr => ∃ k q : Nat, k ≤ n ∧ i = .int .i64 k ∧ s = .int .u8 (dotN x y k : Nat) ∧ wr = w.drewN q) (fun _ i _ => (n - intOf i).toNat)
  case atStart => exact ⟨0, 0, by omega, rfl, rfl, rfl⟩
  case round =>
    obtain ⟨k, q, hk, rfl, rfl, hwr⟩ := hrel
    have HW := hid hwr
    have hd := dotN_lt x y k (fun i h => hx i (by omega))
    by_cases hlt : k < n
    · have hcx' : wr.cell? ⟨bx, ox + k, none⟩ = some (.int .u8 (x k : Nat)) := by rw [hwr]; simpa using cellx k hlt
      have hcy' : wr.cell? ⟨bY, oy + k, none⟩ = some (.int .u8 (y k : Nat)) := by rw [hwr]; simpa using celly k hlt
      have hx' := hx k hlt
      have hy' := hy k hlt
      have hg := Gf.gm_lt (x k) (y k) hx'
      have hlt' : (k : Int) < (n : Int) := by omega
      have HX := hid (w_xor (dotN x y k : Nat) (Gf.gm (x k) (y k) : Nat) (by omega) (by omega) (by omega) (by omega))
      clear cellx celly hx hy hwr
      go_wp2_with fail
      go_quiet ((go_at_call 18; refine Calls.quiet_of_same (rmul_any _ _ _ (by omega) (by omega) (by omega) (by omega))))
      go_wp2
      go_roundw
      case rel => exact ⟨k + 1, q + nq, by omega, by go_num, by rw [HX.out]; simp [dotN], by rw [HW.out, World.drewN_drewN]⟩
      case measure => simp [intOf]; omega
    · have e : k = n := by omega
      have E := hid e
      clear e cellx celly hwr
      go_wp2
      go_ret2
      exact ⟨ret_ie (by rw [E.out]) rfl, q, HW.out⟩

set_option maxRecDepth 100000 in
set_option maxHeartbeats 400000 in
theorem rdot_zero (a b : Option Addr) (cx cy : Nat) (w : World) :
    Calls Try.prog 24 #[.slice a 0 cx, .slice b 0 cy] w fun e w' => e = .returned (.tuple #[.int .u8 0, .int .i64 0]) ∧ ∃ q, w' = w.drewN q := by
  have HE : Hid (errM 0 0 = 0) := by unfold errM; rw [if_neg (by omega), if_pos rfl]; trivial
  go_enter Try.func24, Try.ntmps24
  go_wp2_with (go_at_call 34; refine (wrong_any _ _ _ _ _ _ _).mono ?_; rintro e w' ⟨rfl, hw⟩; have hw2 := hw.symm; subst hw2; clear hw; rw [HE.out])
  refine wp_loop_rounds 1 ?_
  rw [rounds_succ]
  go_wp2
  go_ret2
  exact ⟨rfl, 0, rfl⟩

set_option maxRecDepth 100000 in
set_option maxHeartbeats 400000 in
theorem rdot_err (a b : Option Addr) (x y cx cy : Nat) (w : World) (h : errM x y ≠ 0) :
    Calls Try.prog 24 #[.slice a x cx, .slice b y cy] w fun e w' => e = .returned (.tuple #[.int .u8 0, .int .i64 (errM x y)]) ∧ ∃ q, w' = w.drewN q := by
  have h' : (errM x y != 0) = true := by simpa using h
  clear h
  go_enter Try.func24, Try.ntmps24
  go_wp2_with (go_at_call 34; refine (wrong_any _ _ _ _ _ _ _).mono ?_; rintro e w' ⟨rfl, hw⟩; have hw2 := hw.symm; subst hw2; clear hw)
  go_ret2
  exact ⟨rfl, 0, rfl⟩
end Go.Proofs.Ytnjmegphphfbcaa
