/- The statements' small helper awake returns true, and leaves the world as it was. -/
import Derived.Test.YtnjmegphphfbcaaWs
namespace Go.Proofs.Ytnjmegphphfbcaa
open Go.RowKit
theorem k_i2 : invV 2 = 142 := by decide +kernel
theorem k_e2 : invE 2 = 0 := by decide +kernel
theorem k_m1 : Gf.gm 128 2 = 29 := by decide +kernel
theorem k_m2 : Gf.gm 255 255 = 226 := by decide +kernel

set_option maxHeartbeats 400000 in
theorem awake_any (w : World) :
    Calls Try.prog 19 #[] w fun e w' => e = .returned (.bool true) ∧ w' = w := by
  have h1 := k_i2
  have h2 := k_e2
  have h3 := k_m1
  have h4 := k_m2
  go_enter Try.func19, Try.ntmps19
  go_wp2_with (first | (go_at_call 8; refine (inv_any _ _ (by omega) (by omega)).mono ?_; rintro e w' ⟨rfl, rfl⟩) | (go_at_call 17; refine (mul_any _ _ _ (by omega) (by omega) (by omega) (by omega)).mono ?_; rintro e w' ⟨rfl, rfl⟩))
  go_ret
  exact ⟨rfl, rfl⟩
end Go.Proofs.Ytnjmegphphfbcaa
