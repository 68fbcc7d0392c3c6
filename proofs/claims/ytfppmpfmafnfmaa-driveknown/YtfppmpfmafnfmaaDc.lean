/- Contracts of made, isOut, lets and Name of package drive. -/
import Derived.Test.YtfppmpfmafnfmaaDb
import Derived.LaidEqlPtr
namespace Go.Proofs.Ytfppmpfmafnfmaa
open Go Go.RowKit

theorem underP : Try.prog.underlying 23 = some (.pointer 51) := by kernel_rfl
theorem eqP_same (p : Nat) (w : World) : (binOp .eql 23 (ptr p) (ptr p)).run Try.prog w = .ok (.bool true) w := by
  have hi : (Try.prog.info? 51).isSome = true := by kernel_rfl
  obtain ⟨j, hj⟩ := Option.isSome_iff_exists.1 hi
  exact run_eql_ptr_same w _ underP hj
theorem eqP_nil (p : Nat) (w : World) : (binOp .eql 23 (.pointer none) (ptr p)).run Try.prog w = .ok (.bool false) w := by
  have h : ∀ d : Nat, (Op.equalIn (d + 1) 23 (.pointer none) (ptr p)).run Try.prog w = .ok false w := fun d => by
    simp [Op.equalIn, run_underlying underP]
  simp only [binOp]
  simp [Op.equal, Op.maxDepth, h 9999]
set_option maxRecDepth 100000 in
theorem made_any {w : World} {S : Nat → Prop} {p m : Nat} {fu : Option Nat} {d : Pd} {L : List (Nm × Ent)} (h : DrC w S p m fu d L) :
    Calls Try.prog 40 #[ptr p] w fun e w' => e = .returned (.bool true) ∧ w' = w := by
  have c0 : w.cell? ⟨p, 0, none⟩ = some (ptr p) := h.c.cell 0
  have hq := eqP_same p
  go_enter Try.func40, Try.ntmps40
  go_wp2
  go_ret
  simp
theorem made_nil (w : World) : Calls Try.prog 40 #[.pointer none] w fun e w' => e = .returned (.bool false) ∧ w' = w := by
  go_enter Try.func40, Try.ntmps40
  go_wp2
  go_ret
  simp
set_option maxRecDepth 100000 in
theorem made_bare {w : World} {p : Nat} (c0 : w.cell? ⟨p, 0, none⟩ = some (.pointer none)) : Calls Try.prog 40 #[ptr p] w fun e w' => e = .returned (.bool false) ∧ w' = w := by
  have hq := eqP_nil p
  go_enter Try.func40, Try.ntmps40
  go_wp2
  go_ret
  simp
theorem isOut_any {w : World} {S : Nat → Prop} {p m : Nat} {fu : Option Nat} {d : Pd} {L : List (Nm × Ent)} (h : DrC w S p m fu d L) {f : Fs} (hf : FuAt w S fu f) :
    Calls Try.prog 42 #[ptr p] w fun e w' => e = .returned (.bool (d.isOut f)) ∧ w' = w := by
  have c7 : w.cell? ⟨p, 7, none⟩ = some (.bool d.out) := h.c.cell 7
  have c8 : w.cell? ⟨p, 8, none⟩ = some (fuV fu) := h.c.cell 8
  cases ho : d.out
  · match fu, f, hf with
    | none, none, _ =>
      rw [ho] at c7
      simp only [fuV] at c8
      go_enter Try.func42, Try.ntmps42
      go_wp2
      go_ret
      simp [Pd.isOut, ho, goneF]
    | some q, some (n, g), hf =>
      rw [ho] at c7
      simp only [fuV] at c8
      have g1 : w.cell? ⟨q, 1, none⟩ = some (.bool g) := hf.1.cell 1
      go_enter Try.func42, Try.ntmps42
      go_wp2
      go_ret
      simp [Pd.isOut, ho, goneF]
  · rw [ho] at c7
    go_enter Try.func42, Try.ntmps42
    go_wp2
    go_ret
    simp [Pd.isOut, ho]
/-- A fuse lets a change by, or is gone. -/
theorem lets_any {w : World} {S : Nat → Prop} {q n : Nat} {g : Bool} (h : FuAt w S (some q) (some (n, g))) :
    Calls Try.prog 79 #[ptr q] w fun e w' => e = .returned (.bool (letsF (some (n, g)))) ∧ FuAt w' S (some q) (burn (some (n, g))) ∧ Only (fun b => b = q) w w' ∧ w'.heap.size = w.heap.size := by
  have g0 : w.cell? ⟨q, 0, none⟩ = some (.int .i64 (n : Int)) := h.1.cell 0
  have g1 : w.cell? ⟨q, 1, none⟩ = some (.bool g) := h.1.cell 1
  have z0 : w.frozen? ⟨q, 0, none⟩ = false := h.1.free 0
  have z1 : w.frozen? ⟨q, 1, none⟩ = false := h.1.free 1
  have hn := h.2.2
  cases n with
  | zero =>
    go_enter Try.func79, Try.ntmps79
    go_wp2
    go_ret
    refine ⟨rfl, ⟨?_, h.2⟩, Only.set _ _ _ rfl, setCell_size _ _ _⟩
    exact h.1.set 1 (.bool true)
  | succ n =>
    go_enter Try.func79, Try.ntmps79
    go_wp2
    go_ret
    refine ⟨rfl, ⟨?_, h.2.1, by omega⟩, Only.set _ _ _ rfl, setCell_size _ _ _⟩
    have h2 := h.1.set 0 (.int .i64 (n : Int))
    simpa using h2
#print axioms isOut_any
end Go.Proofs.Ytfppmpfmafnfmaa
