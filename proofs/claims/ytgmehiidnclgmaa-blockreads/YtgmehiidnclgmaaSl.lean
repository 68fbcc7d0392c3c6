/- Digests held against one another. -/
import Derived.Test.YtgmehiidnclgmaaSh
import Derived.ChangeKeysEq
import Derived.Laws.StructEq
namespace Go.Proofs.Ytgmehiidnclgmaa
open Go Go.RowKit
def eqD (n : Nat) (x y : Nat → Nat) : Bool := (List.range n).all fun i => decide (x i = y i)
theorem eqD_iff (n : Nat) (x y : Nat → Nat) : eqD n x y = true ↔ ∀ i, i < n → x i = y i := by unfold eqD; rw [List.all_eq_true]; simp
theorem eqD_self (n : Nat) (x : Nat → Nat) : eqD n x x = true := (eqD_iff n x x).2 fun _ _ => rfl
theorem run_part5 (n : Nat) (x : Nat → Nat) (i : Nat) (h : i < n) (w : World) : (part 5 (aB n x) (i * 1)).run Try.prog w = .ok (.int .u8 ((x i : Nat) : Int)) w := by
  have ha : (isAgg 5).run Try.prog w = .ok false w := by kernel_rfl
  unfold part
  rw [Sem.run_bind, ha]
  simp [aB_get n x i h]
theorem run_eq5 (d : Nat) (a b : Nat) (w : World) : (Op.equalIn (d + 1) 5 (.int .u8 (a : Int)) (.int .u8 (b : Int))).run Try.prog w = .ok (decide (a = b)) w := by
  unfold Op.equalIn
  rw [Sem.run_bind, run_underlying Try.underlying5]
  by_cases h : a = b
  · subst h; simp
  · have h2 : ¬ (a : Int) = (b : Int) := by omega
    simp [h]
    exact h2
theorem run_eqItems5 (d n : Nat) (x y : Nat → Nat) (w : World) : ∀ is : List Nat, (∀ i ∈ is, i < n) → (Op.eqItems (d + 1) 5 1 (aB n x) (aB n y) is).run Try.prog w = .ok (is.all fun i => decide (x i = y i)) w
  | [], _ => by simp [Op.eqItems]
  | i :: is, h => by
    have hi := h i (by simp)
    unfold Op.eqItems
    rw [Sem.run_bind, run_part5 n x i hi]
    simp only [Result.andThen_ok]
    rw [Sem.run_bind, run_part5 n y i hi]
    simp only [Result.andThen_ok]
    rw [Sem.run_bind, run_eq5]
    simp only [Result.andThen_ok]
    by_cases e : x i = y i
    · rw [if_neg (by simp [e]), run_eqItems5 d n x y w is (fun j hj => h j (by simp [hj]))]
      simp [e]
    · rw [if_pos (by simp [e])]
      simp [e]
theorem run_eqDig (x y : Nat → Nat) (w : World) : (Op.equalIn 10000 61 (.agg (aB 32 x)) (.agg (aB 32 y))).run Try.prog w = .ok (eqD 32 x y) w := by
  obtain ⟨i0, hi0, _, _, _⟩ := info_parts Try.info5
  rw [run_equalIn_array (P := Try.prog) (w := w) 9999 (aB 32 x) (aB 32 y) Try.underlying61 hi0, show Try.prog.cellsOf 5 = 1 by kernel_rfl]
  exact run_eqItems5 9998 32 x y w _ (fun i hi => List.mem_range.1 hi)
end Go.Proofs.Ytgmehiidnclgmaa
