/- Contract of the document's own answer for inverses: it is as the program's, and leaves the world as it was. -/
import Derived.Test.YtapgdenodhcliaaWr
namespace Go.Proofs.Ytapgdenodhcliaa
open Go.RowKit

theorem gi_gm' (a : Nat) (ha : a < 256) (h0 : a ≠ 0) : Gf.gm a (Gf.gi a) = 1 := by
  rw [Gf.gm_comm a _ ha (Gf.gi_lt a ha)]; exact Gf.gi_gm a ha h0
theorem gi_ne (a : Nat) (ha : a < 256) (h0 : a ≠ 0) : Gf.gi a ≠ 0 := by
  intro e; have h := gi_gm' a ha h0; rw [e, Gf.gm_zero] at h; exact absurd h (by decide)

set_option maxRecDepth 100000 in
set_option maxHeartbeats 400000 in
theorem rinv_nat (a : Nat) (w : World) (h1 : a < 256) :
    Calls Try.prog 57 #[.int .u8 a] w fun e w' => e = .returned (.tuple #[.int .u8 (invV a), .int .i64 (invE a)]) ∧ w' = w := by
  go_enter Try.func57, Try.ntmps57
  go_wp2
  go_loop [4] (fun i => ∃ k : Nat, 1 ≤ k ∧ k ≤ 256 ∧ i = .int .i64 k ∧ (a ≠ 0 → k ≤ Gf.gi a)) (fun i => (256 - intOf i).toNat)
  case atStart => exact ⟨1, by omega, by omega, rfl, fun h => by have := gi_ne a h1 h; omega⟩
  case round =>
    obtain ⟨k, hk1, hk2, rfl, hk⟩ := hrel
    have HK := hid hk
    clear hk
    by_cases hlt : k < 256
    · by_cases hf : Gf.gm a k = 1
      · have hu := Gf.gi_unique a k h1 hlt hf
        have hv : invV a = k := by unfold invV; rw [if_neg hu.1, ← hu.2]
        have he : invE a = 0 := if_neg hu.1
        have HV := hid hv
        have HE := hid he
        have hf' : (((Gf.gm a k : Nat) : Int) == 1) = true := by rw [hf]; rfl
        clear hv he hf hu
        go_wp2_with (go_at_call 58; refine (rmul_any _ _ _ (by omega) (by omega) (by omega) (by omega)).mono ?_; rintro e w' ⟨rfl, rfl⟩)
        go_ret2
        exact ⟨ret_ie HV.out.symm HE.out.symm, rfl⟩
      · have hn : a ≠ 0 → k + 1 ≤ Gf.gi a := by
          intro h0
          have h2 := HK.out h0
          have h3 : k ≠ Gf.gi a := by intro e; rw [e] at hf; exact hf (gi_gm' a h1 h0)
          omega
        have HN := hid hn
        have hf' : (((Gf.gm a k : Nat) : Int) == 1) = false := by rw [beq_eq_false_iff_ne]; omega
        clear hf hn HK
        go_wp2_with (go_at_call 58; refine (rmul_any _ _ _ (by omega) (by omega) (by omega) (by omega)).mono ?_; rintro e w' ⟨rfl, rfl⟩)
        go_round
        case rel => exact ⟨k + 1, by omega, by omega, by go_num, HN.out⟩
        case measure => simp [intOf]; omega
    · have : k = 256 := by omega
      subst this
      have hz : a = 0 := by
        by_cases h0 : a = 0
        · exact h0
        · have := HK.out h0; have := Gf.gi_lt a h1; omega
      have HV : Hid (invV a = 0) := if_pos hz
      have HE : Hid (invE a = 5) := if_pos hz
      clear hz HK
      go_wp2
      go_ret2
      exact ⟨ret_ie HV.out.symm HE.out.symm, rfl⟩

theorem rinv_any (a : Int) (w : World) (h0 : 0 ≤ a) (h1 : a ≤ 255) :
    Calls Try.prog 57 #[.int .u8 a] w fun e w' => e = .returned (.tuple #[.int .u8 (invV a.toNat), .int .i64 (invE a.toNat)]) ∧ w' = w := by
  obtain ⟨A, rfl⟩ : ∃ A : Nat, a = A := ⟨a.toNat, by omega⟩
  exact rinv_nat A w (by omega)

end Go.Proofs.Ytapgdenodhcliaa
