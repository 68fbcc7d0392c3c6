/- The walk of MatrixJoins: of any three matrices that are not large the products may be put together in any way. No conditions. -/
import Derived.Test.YtapgdenodhcliaaMo
namespace Go.Proofs.Ytapgdenodhcliaa
open Go.RowKit

theorem errMul_zero {n n' : Nat} {L L' : Nat → Nat} (h : errMul n L n' L' = 0) : errC n L = 0 ∧ errC n' L' = 0 ∧ n' = L 0 := by
  unfold errMul at h
  by_cases h1 : errC n L = 0
  · rw [if_neg (fun q => q h1)] at h
    by_cases h2 : errC n' L' = 0
    · rw [if_neg (fun q => q h2)] at h
      by_cases h3 : n' = L 0
      · exact ⟨h1, h2, h3⟩
      · rw [if_neg h3] at h; exact absurd h (by decide)
    · rw [if_pos h2] at h; exact absurd h h2
  · rw [if_pos h1] at h; exact absurd h h1

theorem errMul_ok {n n' : Nat} {L L' : Nat → Nat} (h1 : errC n L = 0) (h2 : errC n' L' = 0) (h3 : n' = L 0) : errMul n L n' L' = 0 := by
  unfold errMul; rw [if_neg (fun q => q h1), if_neg (fun q => q h2), if_pos h3]
/-- Mul, whatever comes in. -/
theorem mul_all (p q : Option Addr) (n n' c d : Nat) (A A' : Nat → Option Addr) (L L' C C' : Nat → Nat) (X Y : Nat → Nat → K) (w : World) (hn : n ≤ 100) (hn' : n' ≤ 100) (h : MatAt w p n A L C X) (h' : MatAt w q n' A' L' C' Y) :
    Calls Try.prog 62 #[.slice p n c, .slice q n' d] w fun e w' => Below w.heap.size w w' ∧ ((errMul n L n' L' ≠ 0 ∧ e = .returned (.tuple #[.slice none 0 0, .int .i64 (errMul n L n' L')])) ∨
      (errMul n L n' L' = 0 ∧ ∃ g G, e = .returned (.tuple #[.slice (some ⟨g, 0, none⟩) n n, .int .i64 0]) ∧ OwnMat w.heap.size w' g n n (L' 0) G (fun _ => L' 0) (pr (L 0) X Y))) := by
  by_cases he : errMul n L n' L' = 0
  · obtain ⟨h1, h2, h3⟩ := errMul_zero he
    have o1 := errC_zero h1
    have o2 := errC_zero h2
    subst h3
    refine (mul_ok p q n (L 0) (L' 0) c d A A' C C' X Y w (h.even o1.2.2.2.2) (h'.even o2.2.2.2.2) o1.1 o1.2.1 o1.2.2.1 o1.2.2.2.1 o2.2.2.1 o2.2.2.2.1).mono ?_
    rintro e w' ⟨g, G, rfl, hm, hb⟩
    exact ⟨hb, .inr ⟨he, g, G, rfl, hm⟩⟩
  · refine (mul_err p q n n' c d A A' L L' C C' w hn hn' h.top h'.top he).mono ?_
    rintro e w' ⟨rfl, rfl⟩
    exact ⟨Below.refl _ _, .inl ⟨he, rfl⟩⟩

end Go.Proofs.Ytapgdenodhcliaa
