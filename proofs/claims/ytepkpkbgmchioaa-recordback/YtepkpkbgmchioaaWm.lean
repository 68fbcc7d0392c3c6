/- RecordUints: how many bytes a number has; too many bytes. -/
import Derived.Test.YtepkpkbgmchioaaWl
import Derived.Test.YtepkpkbgmchioaaVp
namespace Go.Proofs.Ytepkpkbgmchioaa
open Go Go.RowKit

theorem nb_span : ∀ n : Nat, (1 < (nb n).length → 128 ^ ((nb n).length - 1) ≤ n) ∧ n < 128 ^ (nb n).length := by
  intro n
  induction n using Nat.strongRecOn with
  | _ n ih =>
    by_cases h : n < 128
    · rw [nb_lt h]; simp; omega
    · rw [nb_ge h]
      have := ih (n / 128) (by omega)
      have hp := nb_pos (n / 128)
      rw [List.length_cons]
      generalize (nb (n / 128)).length = l at *
      obtain ⟨h1, h2⟩ := this
      constructor
      · intro _
        rw [Nat.add_sub_cancel]
        by_cases hl : 1 < l
        · have h3 := h1 hl
          obtain ⟨j, rfl⟩ : ∃ j, l = j + 1 := ⟨l - 1, by omega⟩
          rw [Nat.add_sub_cancel] at h3
          rw [Nat.pow_succ]
          have := Nat.div_add_mod n 128
          have : 128 ^ j * 128 ≤ n / 128 * 128 := Nat.mul_le_mul_right _ h3
          omega
        · have : l = 1 := by omega
          subst this; omega
      · rw [Nat.pow_succ]
        have := Nat.div_add_mod n 128
        have := Nat.mod_lt n (show 0 < 128 by decide)
        have : (n / 128 + 1) * 128 ≤ 128 ^ l * 128 := Nat.mul_le_mul_right _ h2
        omega
theorem shr_eq (k s : Nat) : (k : Int) >>> s = ((k >>> s : Nat) : Int) := rfl
theorem shr_zero (k s p : Nat) (hp : 2 ^ s = p) (h : k < p) : (k : Int) >>> s = 0 := by
  rw [shr_eq, Nat.shiftRight_eq_div_pow, hp, Nat.div_eq_of_lt h]; rfl
theorem shr_pos (k s p : Nat) (hp : 2 ^ s = p) (h : p ≤ k) : ((k : Int) >>> s == 0) = false := by
  rw [shr_eq, Nat.shiftRight_eq_div_pow, hp]
  have : 0 < p := by rw [← hp]; exact Nat.two_pow_pos s
  have := Nat.div_pos h this
  simp
  omega
theorem all256 {x y : List Nat} (h : ∀ z ∈ x, z < 256) (h' : ∀ z ∈ y, z < 256) : ∀ z ∈ x ++ y, z < 256 := fun z hz => by
  rcases List.mem_append.1 hz with e | e
  · exact h z e
  · exact h' z e
set_option maxRecDepth 100000 in
theorem uints_big (n : Int) (a : Option Addr) (len cap : Nat) (w : World) (hl : 20 < len) : Calls Try.prog 7 #[i64 n, .slice a len cap] w fun e w' => e = .returned (.bool true) ∧ Below w.heap.size w w' := by
  have hl' : 20 < (len : Int) := by omega
  go_enter Try.func7, Try.ntmps7
  go_wp2_with (go_at_call 32; refine (awake_any _).mono ?_; rintro e w1 ⟨rfl, hb1⟩)
  go_ret
  exact ⟨rfl, hb1⟩
#print axioms nb_span
end Go.Proofs.Ytepkpkbgmchioaa
