/- Contracts of the document's own answers for inverses, quotients, powers and logs, and of the statements' small helpers: each is as the program's, and leaves the world as it was. -/
import Derived.Test.YtnjmegphphfbcaaWr
namespace Go.Proofs.Ytnjmegphphfbcaa
open Go.RowKit

theorem gi_gm' (a : Nat) (ha : a < 256) (h0 : a ≠ 0) : Gf.gm a (Gf.gi a) = 1 := by
  rw [Gf.gm_comm a _ ha (Gf.gi_lt a ha)]; exact Gf.gi_gm a ha h0
theorem gi_ne (a : Nat) (ha : a < 256) (h0 : a ≠ 0) : Gf.gi a ≠ 0 := by
  intro e; have h := gi_gm' a ha h0; rw [e, Gf.gm_zero] at h; exact absurd h (by decide)

set_option maxRecDepth 100000 in
set_option maxHeartbeats 400000 in
theorem rinv_nat (a : Nat) (w : World) (h1 : a < 256) :
    Calls Try.prog 9 #[.int .u8 a] w fun e w' => e = .returned (.tuple #[.int .u8 (invV a), .int .i64 (invE a)]) ∧ w' = w := by
  go_enter Try.func9, Try.ntmps9
  go_wp2
  go_loop [4] (fun i => ∃ k : Nat, 1 ≤ k ∧ k ≤ 256 ∧ i = .int .i64 k ∧ (a ≠ 0 → k ≤ Gf.gi a)) (fun i => (256 - intOf i).toNat)
  case atStart => exact ⟨1, by omega, by omega, rfl, fun h => by have := gi_ne a h1 h; omega⟩
  case round =>
    obtain ⟨k, hk1, hk2, rfl, hk⟩ := hrel
    have HK := hid hk
    clear hk
    by_cases hlt : k < 256
    · by_cases hf : Gf.gm a k = 1
      · have hu := Gf.gi_unique a k h1 hlt hf
        have hv : invV a = k := by unfold invV; rw [if_neg hu.1, ← hu.2]
        have he : invE a = 0 := if_neg hu.1
        have HV := hid hv
        have HE := hid he
        have hf' : (((Gf.gm a k : Nat) : Int) == 1) = true := by rw [hf]; rfl
        clear hv he hf hu
        go_wp2_with (go_at_call 18; refine (rmul_any _ _ _ (by omega) (by omega) (by omega) (by omega)).mono ?_; rintro e w' ⟨rfl, rfl⟩)
        go_ret2
        exact ⟨ret_ie HV.out.symm HE.out.symm, rfl⟩
      · have hn : a ≠ 0 → k + 1 ≤ Gf.gi a := by
          intro h0
          have h2 := HK.out h0
          have h3 : k ≠ Gf.gi a := by intro e; rw [e] at hf; exact hf (gi_gm' a h1 h0)
          omega
        have HN := hid hn
        have hf' : (((Gf.gm a k : Nat) : Int) == 1) = false := by rw [beq_eq_false_iff_ne]; omega
        clear hf hn HK
        go_wp2_with (go_at_call 18; refine (rmul_any _ _ _ (by omega) (by omega) (by omega) (by omega)).mono ?_; rintro e w' ⟨rfl, rfl⟩)
        go_round
        case rel => exact ⟨k + 1, by omega, by omega, by go_num, HN.out⟩
        case measure => simp [intOf]; omega
    · have : k = 256 := by omega
      subst this
      have hz : a = 0 := by
        by_cases h0 : a = 0
        · exact h0
        · have := HK.out h0; have := Gf.gi_lt a h1; omega
      have HV : Hid (invV a = 0) := if_pos hz
      have HE : Hid (invE a = 5) := if_pos hz
      clear hz HK
      go_wp2
      go_ret2
      exact ⟨ret_ie HV.out.symm HE.out.symm, rfl⟩

theorem rinv_any (a : Int) (w : World) (h0 : 0 ≤ a) (h1 : a ≤ 255) :
    Calls Try.prog 9 #[.int .u8 a] w fun e w' => e = .returned (.tuple #[.int .u8 (invV a.toNat), .int .i64 (invE a.toNat)]) ∧ w' = w := by
  obtain ⟨A, rfl⟩ : ∃ A : Nat, a = A := ⟨a.toNat, by omega⟩
  exact rinv_nat A w (by omega)

set_option maxHeartbeats 400000 in
theorem rdiv_any (a b : Int) (w : World) (h0 : 0 ≤ a) (h1 : a ≤ 255) (h2 : 0 ≤ b) (h3 : b ≤ 255) :
    Calls Try.prog 11 #[.int .u8 a, .int .u8 b] w fun e w' => e = .returned (.tuple #[.int .u8 (divV a.toNat b.toNat), .int .i64 (invE b.toNat)]) ∧ w' = w := by
  have hb := invV_bd b.toNat (by omega)
  by_cases hz : b.toNat = 0
  · have e : invE b.toNat = 5 := if_pos hz
    have hd : divV a.toNat b.toNat = 0 := if_pos hz
    rw [e, hd]
    have E := hid e
    clear e hd
    go_enter Try.func11, Try.ntmps11
    go_wp2_with (go_at_call 9; refine (rinv_any _ _ h2 h3).mono ?_; rintro e w' ⟨rfl, rfl⟩; rw [E.out])
    go_ret2
    exact ⟨rfl, rfl⟩
  · have e : invE b.toNat = 0 := if_neg hz
    have hd : divV a.toNat b.toNat = (Gf.gm a.toNat (Gf.gi b.toNat) : Nat) := if_neg hz
    have hi : invV b.toNat = (Gf.gi b.toNat : Nat) := if_neg hz
    rw [e, hd]
    have E := hid e
    have I := hid hi
    have hg := Gf.gi_lt b.toNat (by omega)
    clear e hd hi hb
    go_enter Try.func11, Try.ntmps11
    go_wp2_with (first | (go_at_call 9; refine (rinv_any _ _ h2 h3).mono ?_; rintro e w' ⟨rfl, rfl⟩; rw [E.out, I.out]) | (go_at_call 18; refine (rmul_any _ _ _ h0 h1 (by omega) (by omega)).mono ?_; rintro e w' ⟨rfl, rfl⟩))
    go_ret2
    exact ⟨ret_ie (by simp) rfl, rfl⟩

set_option maxRecDepth 100000 in
set_option maxHeartbeats 400000 in
theorem rpow_nz (a n : Int) (w : World) (h0 : 0 ≤ a) (h1 : a ≤ 255) (_h2 : -9223372036854775808 ≤ n) (_h3 : n ≤ 9223372036854775807) (ha : a ≠ 0) :
    Calls Try.prog 13 #[.int .u8 a, .int .i64 n] w fun e w' => e = .returned (.tuple #[.int .u8 (Gf.gp a.toNat (Gf.ex n) : Nat), .int .i64 0]) ∧ w' = w := by
  have ha' : (a == 0) = false := by simpa using ha
  clear ha
  obtain ⟨b1, b2, b3, b4⟩ := tmod_ex n
  have hx := Gf.ex_lt n
  by_cases hneg : n.tmod 255 < 0
  · have B3 := hid (b3 hneg)
    clear b3 b4
    go_enter Try.func13, Try.ntmps13
    go_wp2
    rw [B3.out]
    go_loop [7, 8] (fun x i => ∃ k : Nat, k ≤ Gf.ex n ∧ i = .int .i64 k ∧ x = .int .u8 (Gf.gp a.toNat k : Nat)) (fun _ i => (Gf.ex n - intOf i).toNat)
    case atStart => exact ⟨0, by omega, rfl, rfl⟩
    case round =>
      obtain ⟨k, hk, rfl, rfl⟩ := hrel
      have hp := Gf.gp_lt a.toNat k (by omega)
      by_cases hlt : k < Gf.ex n
      · go_wp2_with (go_at_call 18; refine (rmul_any _ _ _ (by omega) (by omega) (by omega) (by omega)).mono ?_; rintro e w' ⟨rfl, rfl⟩)
        go_round
        case rel => exact ⟨k + 1, by omega, by go_num, by simp [Gf.gp]⟩
        case measure => simp [intOf]; omega
      · have e : k = Gf.ex n := by omega
        have E := hid e
        clear e
        go_wp2
        go_ret2
        exact ⟨ret_ie (by rw [E.out]) rfl, rfl⟩
  · have B4 := hid (b4 (by omega))
    clear b3 b4
    go_enter Try.func13, Try.ntmps13
    go_wp2
    rw [B4.out]
    go_loop [7, 8] (fun x i => ∃ k : Nat, k ≤ Gf.ex n ∧ i = .int .i64 k ∧ x = .int .u8 (Gf.gp a.toNat k : Nat)) (fun _ i => (Gf.ex n - intOf i).toNat)
    case atStart => exact ⟨0, by omega, rfl, rfl⟩
    case round =>
      obtain ⟨k, hk, rfl, rfl⟩ := hrel
      have hp := Gf.gp_lt a.toNat k (by omega)
      by_cases hlt : k < Gf.ex n
      · go_wp2_with (go_at_call 18; refine (rmul_any _ _ _ (by omega) (by omega) (by omega) (by omega)).mono ?_; rintro e w' ⟨rfl, rfl⟩)
        go_round
        case rel => exact ⟨k + 1, by omega, by go_num, by simp [Gf.gp]⟩
        case measure => simp [intOf]; omega
      · have e : k = Gf.ex n := by omega
        have E := hid e
        clear e
        go_wp2
        go_ret2
        exact ⟨ret_ie (by rw [E.out]) rfl, rfl⟩

set_option maxHeartbeats 400000 in
theorem rpow_any (a n : Int) (w : World) (h0 : 0 ≤ a) (h1 : a ≤ 255) (h2 : -9223372036854775808 ≤ n) (h3 : n ≤ 9223372036854775807) :
    Calls Try.prog 13 #[.int .u8 a, .int .i64 n] w fun e w' => e = .returned (.tuple #[.int .u8 (powV a.toNat n), .int .i64 (powE a.toNat n)]) ∧ w' = w := by
  by_cases ha : a = 0
  · subst ha
    by_cases hn : n < 0
    · go_enter Try.func13, Try.ntmps13
      go_wp2
      go_ret2
      have e : n ≠ 0 := by omega
      exact ⟨by simp [powV, powE, hn, e], rfl⟩
    · by_cases hz : n = 0
      · subst hz
        go_enter Try.func13, Try.ntmps13
        go_wp2
        go_ret2
        exact ⟨by simp [powV, powE], rfl⟩
      · have hz' : (n == 0) = false := by simpa using hz
        go_enter Try.func13, Try.ntmps13
        go_wp2
        go_ret2
        exact ⟨by simp [powV, powE, hn, hz], rfl⟩
  · have e : a.toNat ≠ 0 := by omega
    have hv : powV a.toNat n = (Gf.gp a.toNat (Gf.ex n) : Nat) := if_neg e
    have he : powE a.toNat n = 0 := if_neg e
    rw [hv, he]
    exact rpow_nz a n w h0 h1 h2 h3 ha

set_option maxRecDepth 100000 in
set_option maxHeartbeats 400000 in
theorem rlog_any (a : Int) (w : World) (h0 : 0 ≤ a) (h1 : a ≤ 255) :
    Calls Try.prog 15 #[.int .u8 a] w fun e w' => e = .returned (.tuple #[.int .i64 (logV a.toNat), .int .i64 (logE a.toNat)]) ∧ w' = w := by
  go_enter Try.func15, Try.ntmps15
  go_wp2
  go_loop [4, 5] (fun x i => ∃ n X : Nat, n ≤ 255 ∧ X < 256 ∧ i = .int .i64 n ∧ x = .int .u8 X ∧ LogAt a.toNat n X) (fun _ i => (255 - intOf i).toNat)
  case atStart => exact ⟨0, 1, by omega, by omega, rfl, rfl, rfl⟩
  case round =>
    obtain ⟨n, X, hn, hX, rfl, rfl, hm⟩ := hrel
    by_cases hlt : n < 255
    · by_cases hf : (X : Int) = a
      · have hv := hm.hit hlt (by omega)
        have HV := hid hv
        have hf' : ((X : Int) == a) = true := by simpa using hf
        clear hv hm hf
        go_wp2
        go_ret2
        exact ⟨ret_ie HV.out.1.symm HV.out.2.symm, rfl⟩
      · have hr := hm.next hlt (by omega)
        have HR := hid hr
        have hf' : ((X : Int) == a) = false := by simpa using hf
        clear hr hm hf
        go_wp2_with (go_at_call 18; refine (rmul_any _ _ _ (by omega) (by omega) (by omega) (by omega)).mono ?_; rintro e w' ⟨rfl, rfl⟩)
        go_round
        case rel => exact ⟨n + 1, Gf.gm X 2, by omega, Gf.gm_lt _ _ hX, by go_num, by simp, HR.out⟩
        case measure => simp [intOf]; omega
    · have : n = 255 := by omega
      subst this
      have HV := hid hm.out
      clear hm
      go_wp2
      go_ret2
      exact ⟨ret_ie HV.out.1.symm HV.out.2.symm, rfl⟩

end Go.Proofs.Ytnjmegphphfbcaa
