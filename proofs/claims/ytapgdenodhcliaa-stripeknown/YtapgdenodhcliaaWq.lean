/- Contract of Inv of package gf: whatever bytes come in, each returns what the plain mathematics says, and the world is as it was. -/
import Derived.Test.YtapgdenodhcliaaWp
namespace Go.Proofs.Ytapgdenodhcliaa
open Go.RowKit

theorem ret_ie {k k2 : IntKind} {a b c d : Int} (h : a = b) (h2 : c = d) : Ending.returned (.tuple #[.int k a, .int k2 c]) = .returned (.tuple #[.int k b, .int k2 d]) := by rw [h, h2]

def invV (a : Nat) : Int := if a = 0 then 0 else (Gf.gi a : Nat)
def invE (a : Nat) : Int := if a = 0 then 5 else 0
theorem invV_bd (a : Nat) (h : a < 256) : 0 ≤ invV a ∧ invV a ≤ 255 := by
  have := Gf.gi_lt a h
  unfold invV; split <;> omega
theorem powV_neg (a : Nat) : powV a (-1) = invV a := by
  unfold powV invV
  by_cases h : a = 0
  · rw [if_pos h, if_pos h]; rfl
  · rw [if_neg h, if_neg h]; rfl
theorem powE_neg (a : Nat) : powE a (-1) = invE a := rfl

set_option maxHeartbeats 400000 in
theorem inv_any (a : Int) (w : World) (h0 : 0 ≤ a) (h1 : a ≤ 255) :
    Calls Try.prog 66 #[.int .u8 a] w fun e w' => e = .returned (.tuple #[.int .u8 (invV a.toNat), .int .i64 (invE a.toNat)]) ∧ w' = w := by
  go_enter Try.func66, Try.ntmps66
  go_wp2_with (go_at_call 79; refine (pow_any _ _ _ h0 h1 (by omega) (by omega)).mono ?_; rintro e w' ⟨rfl, rfl⟩)
  go_ret2
  exact ⟨ret_ie (powV_neg _) (powE_neg _), rfl⟩

end Go.Proofs.Ytapgdenodhcliaa
