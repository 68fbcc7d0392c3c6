/- Contracts of match and Dot of package gf, over slices of bytes as they lie in memory: the error's number by the lengths, the sum of the products; the world is as it was. -/
import Derived.Test.YtapgdenodhcliaaWs
namespace Go.Proofs.Ytapgdenodhcliaa
open Go.RowKit

def errM (x y : Nat) : Int := if 65536 < x ∨ 65536 < y then 3 else if x = y then 0 else 2
set_option maxRecDepth 100000 in
set_option maxHeartbeats 400000 in
theorem match_any (a b : Option Addr) (x y cx cy : Nat) (w : World) :
    Calls Try.prog 68 #[.slice a x cx, .slice b y cy] w fun e w' => e = .returned (.int .i64 (errM x y)) ∧ w' = w := by
  by_cases h1 : 65536 < x
  · have H : Hid (errM x y = 3) := if_pos (Or.inl h1)
    go_enter Try.func68, Try.ntmps68
    go_wp2
    go_ret
    exact ⟨ret_int H.out.symm, rfl⟩
  · by_cases h2 : 65536 < y
    · have H : Hid (errM x y = 3) := if_pos (Or.inr h2)
      go_enter Try.func68, Try.ntmps68
      go_wp2
      go_ret
      exact ⟨ret_int H.out.symm, rfl⟩
    · by_cases h3 : x = y
      · have H : Hid (errM x y = 0) := by unfold errM; rw [if_neg (by omega), if_pos h3]; trivial
        have h4 : ((x : Int) != (y : Int)) = false := by rw [h3]; simp
        clear h3
        go_enter Try.func68, Try.ntmps68
        go_wp2
        go_ret
        exact ⟨ret_int H.out.symm, rfl⟩
      · have H : Hid (errM x y = 2) := by unfold errM; rw [if_neg (by omega), if_neg h3]; trivial
        have h4 : ((x : Int) != (y : Int)) = true := by simp; omega
        clear h3
        go_enter Try.func68, Try.ntmps68
        go_wp2
        go_ret
        exact ⟨ret_int H.out.symm, rfl⟩

/-- The sum of the products at each place, up to n. -/
def dotN (x y : Nat → Nat) : Nat → Nat
  | 0 => 0
  | n + 1 => dotN x y n ^^^ Gf.gm (x n) (y n)
theorem dotN_lt (x y : Nat → Nat) (n : Nat) (hx : ∀ i, i < n → x i < 256) : dotN x y n < 256 := by
  induction n with
  | zero => exact (by decide : 0 < 256)
  | succ n ih => exact Gf.xor_lt _ _ (ih fun i h => hx i (by omega)) (Gf.gm_lt _ _ (hx n (by omega)))

set_option maxRecDepth 100000 in
set_option maxHeartbeats 400000 in
theorem dot_some (bx ox nx cx bY oy cy : Nat) (x y : Nat → Nat) (w : World) (hn : nx ≤ 65536) (_hcx : nx ≤ cx) (hcy : nx ≤ cy)
    (hx : ∀ i, i < nx → x i < 256) (hy : ∀ i, i < nx → y i < 256)
    (cellx : ∀ i, i < nx → w.cell? ⟨bx, ox + i, none⟩ = some (.int .u8 (x i : Nat))) (celly : ∀ i, i < nx → w.cell? ⟨bY, oy + i, none⟩ = some (.int .u8 (y i : Nat))) :
    Calls Try.prog 55 #[.slice (some ⟨bx, ox, none⟩) nx cx, .slice (some ⟨bY, oy, none⟩) nx cy] w fun e w' => e = .returned (.tuple #[.int .u8 (dotN x y nx : Nat), .int .i64 0]) ∧ w' = w := by
  have HE : Hid (errM nx nx = 0) := by unfold errM; rw [if_neg (by omega), if_pos rfl]; trivial
  go_enter Try.func55, Try.ntmps55
  go_wp2_with (go_at_call 68; refine (match_any _ _ _ _ _ _ _).mono ?_; rintro e w' ⟨rfl, rfl⟩; rw [HE.out])
  go_loop [7, 22] (fun s i => ∃ k : Nat, k ≤ nx ∧ i = .int .i64 k ∧ s = .int .u8 (dotN x y k : Nat)) (fun _ i => (nx - intOf i).toNat)
  case atStart => exact ⟨0, by omega, rfl, rfl⟩
  case round =>
    obtain ⟨k, hk, rfl, rfl⟩ := hrel
    have hd := dotN_lt x y k (fun i h => hx i (by omega))
    by_cases hlt : k < nx
    · have hcx' := cellx k hlt
      have hcy' := celly k hlt
      have hx' := hx k hlt
      have hy' := hy k hlt
      have hg := Gf.gm_lt (x k) (y k) hx'
      clear cellx celly hx hy
      go_wp2_with (first | (go_at_call 69; refine (mul_any _ _ _ (by omega) (by omega) (by omega) (by omega)).mono ?_; rintro e w' ⟨rfl, rfl⟩) | (go_at_call 67; refine (add_any _ _ _ (by omega) (by omega) (by omega) (by omega)).mono ?_; rintro e w' ⟨rfl, rfl⟩))
      go_round
      case rel => exact ⟨k + 1, by omega, by go_num, by simp [dotN]⟩
      case measure => simp [intOf]; omega
    · have e : k = nx := by omega
      have E := hid e
      clear e cellx celly
      go_wp2
      go_ret2
      exact ⟨ret_ie (by rw [E.out]) rfl, rfl⟩

set_option maxRecDepth 100000 in
set_option maxHeartbeats 400000 in
theorem dot_err (a b : Option Addr) (x y cx cy : Nat) (w : World) (h : errM x y ≠ 0) :
    Calls Try.prog 55 #[.slice a x cx, .slice b y cy] w fun e w' => e = .returned (.tuple #[.int .u8 0, .int .i64 (errM x y)]) ∧ w' = w := by
  have h' : (errM x y != 0) = true := by simpa using h
  clear h
  go_enter Try.func55, Try.ntmps55
  go_wp2_with (go_at_call 68; refine (match_any _ _ _ _ _ _ _).mono ?_; rintro e w' ⟨rfl, rfl⟩)
  go_ret2
  exact ⟨rfl, rfl⟩
end Go.Proofs.Ytapgdenodhcliaa
