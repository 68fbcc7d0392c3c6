/- Contracts of Inv, Div and Log of package gf, and of the small helpers of the statements: whatever bytes come in, each returns what the plain mathematics says, and the world is as it was. -/
import Derived.Test.YtnjmegphphfbcaaWp
namespace Go.Proofs.Ytnjmegphphfbcaa
open Go.RowKit

theorem ret_ie {k k2 : IntKind} {a b c d : Int} (h : a = b) (h2 : c = d) : Ending.returned (.tuple #[.int k a, .int k2 c]) = .returned (.tuple #[.int k b, .int k2 d]) := by rw [h, h2]

def invV (a : Nat) : Int := if a = 0 then 0 else (Gf.gi a : Nat)
def invE (a : Nat) : Int := if a = 0 then 5 else 0
theorem invV_bd (a : Nat) (h : a < 256) : 0 ≤ invV a ∧ invV a ≤ 255 := by
  have := Gf.gi_lt a h
  unfold invV; split <;> omega
theorem powV_neg (a : Nat) : powV a (-1) = invV a := by
  unfold powV invV
  by_cases h : a = 0
  · rw [if_pos h, if_pos h]; rfl
  · rw [if_neg h, if_neg h]; rfl
theorem powE_neg (a : Nat) : powE a (-1) = invE a := rfl

set_option maxHeartbeats 400000 in
theorem inv_any (a : Int) (w : World) (h0 : 0 ≤ a) (h1 : a ≤ 255) :
    Calls Try.prog 8 #[.int .u8 a] w fun e w' => e = .returned (.tuple #[.int .u8 (invV a.toNat), .int .i64 (invE a.toNat)]) ∧ w' = w := by
  go_enter Try.func8, Try.ntmps8
  go_wp2_with (go_at_call 12; refine (pow_any _ _ _ h0 h1 (by omega) (by omega)).mono ?_; rintro e w' ⟨rfl, rfl⟩)
  go_ret2
  exact ⟨ret_ie (powV_neg _) (powE_neg _), rfl⟩

def divV (a b : Nat) : Int := if b = 0 then 0 else (Gf.gm a (Gf.gi b) : Nat)
set_option maxHeartbeats 400000 in
theorem div_any (a b : Int) (w : World) (h0 : 0 ≤ a) (h1 : a ≤ 255) (h2 : 0 ≤ b) (h3 : b ≤ 255) :
    Calls Try.prog 10 #[.int .u8 a, .int .u8 b] w fun e w' => e = .returned (.tuple #[.int .u8 (divV a.toNat b.toNat), .int .i64 (invE b.toNat)]) ∧ w' = w := by
  have hb := invV_bd b.toNat (by omega)
  by_cases hz : b.toNat = 0
  · have e : invE b.toNat = 5 := if_pos hz
    have hd : divV a.toNat b.toNat = 0 := if_pos hz
    rw [e, hd]
    have E := hid e
    clear e hd
    go_enter Try.func10, Try.ntmps10
    go_wp2_with (go_at_call 8; refine (inv_any _ _ h2 h3).mono ?_; rintro e w' ⟨rfl, rfl⟩; rw [E.out])
    go_ret2
    exact ⟨rfl, rfl⟩
  · have e : invE b.toNat = 0 := if_neg hz
    have hd : divV a.toNat b.toNat = (Gf.gm a.toNat (Gf.gi b.toNat) : Nat) := if_neg hz
    have hi : invV b.toNat = (Gf.gi b.toNat : Nat) := if_neg hz
    rw [e, hd]
    have E := hid e
    have I := hid hi
    have hg := Gf.gi_lt b.toNat (by omega)
    clear e hd hi hb
    go_enter Try.func10, Try.ntmps10
    go_wp2_with (first | (go_at_call 8; refine (inv_any _ _ h2 h3).mono ?_; rintro e w' ⟨rfl, rfl⟩; rw [E.out, I.out]) | (go_at_call 17; refine (mul_any _ _ _ h0 h1 (by omega) (by omega)).mono ?_; rintro e w' ⟨rfl, rfl⟩))
    go_ret2
    exact ⟨ret_ie (by simp) rfl, rfl⟩

def logV (a : Nat) : Int := match Gf.lg a with | some r => (r : Nat) | none => 0
def logE (a : Nat) : Int := match Gf.lg a with | some _ => 0 | none => 5

/-- What is left of the search gives the log. -/
def LogAt (a n X : Nat) : Prop := Gf.lgGo a (255 - n) n X = Gf.lg a
theorem LogAt.hit {a n X : Nat} (h : LogAt a n X) (hn : n < 255) (e : X = a) : logV a = n ∧ logE a = 0 := by
  have hr : Gf.lg a = some n := by
    rw [← h, show 255 - n = (254 - n) + 1 by omega]
    exact if_pos e
  unfold logV logE; rw [hr]; exact ⟨rfl, rfl⟩
theorem LogAt.next {a n X : Nat} (h : LogAt a n X) (hn : n < 255) (e : X ≠ a) : LogAt a (n + 1) (Gf.gm X 2) := by
  unfold LogAt
  rw [← h, show 255 - n = (255 - (n + 1)) + 1 by omega]
  exact (if_neg e).symm
theorem LogAt.out {a X : Nat} (h : LogAt a 255 X) : logV a = 0 ∧ logE a = 5 := by
  have hr : Gf.lg a = none := by rw [← h]; rfl
  unfold logV logE; rw [hr]; exact ⟨rfl, rfl⟩

set_option maxRecDepth 100000 in
set_option maxHeartbeats 400000 in
theorem log_any (a : Int) (w : World) (h0 : 0 ≤ a) (h1 : a ≤ 255) :
    Calls Try.prog 14 #[.int .u8 a] w fun e w' => e = .returned (.tuple #[.int .i64 (logV a.toNat), .int .i64 (logE a.toNat)]) ∧ w' = w := by
  go_enter Try.func14, Try.ntmps14
  go_wp2
  go_loop [4, 6] (fun x i => ∃ n X : Nat, n ≤ 255 ∧ X < 256 ∧ i = .int .i64 n ∧ x = .int .u8 X ∧ LogAt a.toNat n X) (fun _ i => (255 - intOf i).toNat)
  case atStart => exact ⟨0, 1, by omega, by omega, rfl, rfl, rfl⟩
  case round =>
    obtain ⟨n, X, hn, hX, rfl, rfl, hm⟩ := hrel
    by_cases hlt : n < 255
    · by_cases hf : (X : Int) = a
      · have hv := hm.hit hlt (by omega)
        have HV := hid hv
        have hf' : ((X : Int) == a) = true := by simpa using hf
        clear hv hm hf
        go_wp2
        go_ret2
        exact ⟨ret_ie HV.out.1.symm HV.out.2.symm, rfl⟩
      · have hr := hm.next hlt (by omega)
        have HR := hid hr
        have hf' : ((X : Int) == a) = false := by simpa using hf
        clear hr hm hf
        go_wp2_with (go_at_call 17; refine (mul_any _ _ _ (by omega) (by omega) (by omega) (by omega)).mono ?_; rintro e w' ⟨rfl, rfl⟩)
        go_round
        case rel => exact ⟨n + 1, Gf.gm X 2, by omega, Gf.gm_lt _ _ hX, by go_num, by simp, HR.out⟩
        case measure => simp [intOf]; omega
    · have : n = 255 := by omega
      subst this
      have HV := hid hm.out
      clear hm
      go_wp2
      go_ret2
      exact ⟨ret_ie HV.out.1.symm HV.out.2.symm, rfl⟩

end Go.Proofs.Ytnjmegphphfbcaa
