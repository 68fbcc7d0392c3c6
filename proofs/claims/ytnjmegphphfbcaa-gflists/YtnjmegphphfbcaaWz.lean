/- The walk of GfField: it returns true of every three bytes, in every world, and changes nothing that was there. -/
import Derived.Test.YtnjmegphphfbcaaWy
namespace Go.Proofs.Ytnjmegphphfbcaa
open Go.RowKit

set_option maxRecDepth 100000 in
set_option maxHeartbeats 1000000 in
theorem field_any (a b c : Nat) (w : World) (ha : a < 256) (hb : b < 256) (hc : c < 256) :
    Calls Try.prog 6 #[.int .u8 a, .int .u8 b, .int .u8 c] w fun e w' => e = .returned (.bool true) ∧ Below w.heap.size w w' := by
  have x1 := Gf.xor_lt a b ha hb
  have x2 := Gf.xor_lt b c hb hc
  have m1 := Gf.gm_lt a b ha
  have m2 := Gf.gm_lt b c hb
  have m3 := Gf.gm_lt a c ha
  have r1 : b ^^^ a = a ^^^ b := Nat.xor_comm b a
  have r2 : a ^^^ b ^^^ c = a ^^^ (b ^^^ c) := Nat.xor_assoc a b c
  have r3 : Gf.gm b a = Gf.gm a b := Gf.gm_comm b a hb ha
  have r4 : Gf.gm (Gf.gm a b) c = Gf.gm a (Gf.gm b c) := Gf.gm_assoc a b c ha hb hc
  have r5 : Gf.gm a 1 = a := Gf.gm_one a ha
  have r6 : Gf.gm a 0 = 0 := Gf.gm_zero a
  have r7 : Gf.gm a (b ^^^ c) = Gf.gm a b ^^^ Gf.gm a c := Gf.gm_right a b c
  by_cases hz : b = 0
  · have e1 : invE b = 5 := if_pos hz
    have hz' : ((b : Int) == 0) = true := by simp [hz]
    clear hz
    go_enter Try.func6, Try.ntmps6
    go_wp2_with fail
    refine (known_any w).mono ?_
    rintro e w2 ⟨rfl, hb2⟩
    have HB := hid hb2
    clear hb2
    go_wp2_with (first | (go_at_call 16; refine (add_any _ _ _ (by omega) (by omega) (by omega) (by omega)).mono ?_; rintro e w' ⟨rfl, hw⟩; have hw2 := hw.symm; subst hw2; clear hw) | (go_at_call 17; refine (mul_any _ _ _ (by omega) (by omega) (by omega) (by omega)).mono ?_; rintro e w' ⟨rfl, hw⟩; have hw2 := hw.symm; subst hw2; clear hw) | (go_at_call 10; refine (div_any _ _ _ (by omega) (by omega) (by omega) (by omega)).mono ?_; rintro e w' ⟨rfl, hw⟩; have hw2 := hw.symm; subst hw2; clear hw) | (go_at_call 8; refine (inv_any _ _ (by omega) (by omega)).mono ?_; rintro e w' ⟨rfl, hw⟩; have hw2 := hw.symm; subst hw2; clear hw))
    go_ret
    exact ⟨rfl, HB.out⟩
  · have e1 : invE b = 0 := if_neg hz
    have e2 : invV b = (Gf.gi b : Nat) := if_neg hz
    have e3 : divV a b = (Gf.gm a (Gf.gi b) : Nat) := if_neg hz
    have i1 := Gf.gi_lt b hb
    have i2 := Gf.gm_lt a (Gf.gi b) ha
    have r8 : Gf.gm (Gf.gi b) b = 1 := Gf.gi_gm b hb hz
    have r9 : Gf.gm (Gf.gm a (Gf.gi b)) b = a := by rw [Gf.gm_assoc _ _ _ ha i1 hb, r8, r5]
    have hz' : ((b : Int) == 0) = false := by simp [hz]
    clear hz
    go_enter Try.func6, Try.ntmps6
    go_wp2_with fail
    refine (known_any w).mono ?_
    rintro e w2 ⟨rfl, hb2⟩
    have HB := hid hb2
    clear hb2
    go_wp2_with (first | (go_at_call 16; refine (add_any _ _ _ (by omega) (by omega) (by omega) (by omega)).mono ?_; rintro e w' ⟨rfl, hw⟩; have hw2 := hw.symm; subst hw2; clear hw) | (go_at_call 17; refine (mul_any _ _ _ (by omega) (by omega) (by omega) (by omega)).mono ?_; rintro e w' ⟨rfl, hw⟩; have hw2 := hw.symm; subst hw2; clear hw) | (go_at_call 10; refine (div_any _ _ _ (by omega) (by omega) (by omega) (by omega)).mono ?_; rintro e w' ⟨rfl, hw⟩; have hw2 := hw.symm; subst hw2; clear hw) | (go_at_call 8; refine (inv_any _ _ (by omega) (by omega)).mono ?_; rintro e w' ⟨rfl, hw⟩; have hw2 := hw.symm; subst hw2; clear hw))
    go_ret
    exact ⟨rfl, HB.out⟩
end Go.Proofs.Ytnjmegphphfbcaa
