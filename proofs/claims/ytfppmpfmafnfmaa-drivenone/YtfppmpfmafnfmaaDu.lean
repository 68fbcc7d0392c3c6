/- What a drive answers that is nil, or that nobody made. -/
import Derived.Test.YtfppmpfmafnfmaaDs
namespace Go.Proofs.Ytfppmpfmafnfmaa
open Go Go.RowKit

/-- A pointer to no drive, or to one whose first cell is nil. -/
inductive Bare (w : World) : Value → Prop
  | nil : Bare w (.pointer none)
  | zero (p : Nat) (h : w.cell? ⟨p, 0, none⟩ = some (.pointer none)) : Bare w (ptr p)
theorem Bare.below {w w' : World} {v : Value} (h : Bare w v) (hb : Below w.heap.size w w') : Bare w' v := by
  cases h with
  | nil => exact .nil
  | zero p h => exact .zero p ((World.cell?_of_block (hb.block p (cell_lt' (a := ⟨p, 0, none⟩) (by rw [h]; simp)))).trans h)
theorem Bare.form {w : World} {v : Value} (h : Bare w v) : ∃ a, v = .pointer a := by cases h <;> exact ⟨_, rfl⟩
theorem made_none {w : World} {v : Value} (h : Bare w v) : Calls Try.prog 40 #[v] w fun e w' => e = .returned (.bool false) ∧ w' = w := by
  cases h with
  | nil => exact made_nil w
  | zero p h => exact made_bare h
theorem answers_none {w : World} {v : Value} (h : Bare w v) (x : Value) : Calls Try.prog 60 #[v, x] w fun e w' => e = .returned (.int .i64 1) ∧ w' = w := by
  cases h with
  | nil => exact answers_nil x w
  | zero p h => exact answers_bare h x
theorem find_none {w : World} {v : Value} (h : Bare w v) (s : Nm) : Calls Try.prog 59 #[v, sv s] w fun e w' => e = .returned (.tuple #[.agg #[.slice none 0 0, .bool false], .int .i64 1]) ∧ Below w.heap.size w w' := by
  have HA := hid (fun (o1 o2 : Obj) x => answers_none ((h.below ((Below.refl _ _).alloc (Nat.le_refl _) o1)).below ((Below.refl _ _).alloc (Nat.le_refl _) o2)) x)
  obtain ⟨a, rfl⟩ := h.form
  clear h
  go_enter Try.func59, Try.ntmps59
  go_wp2_with (go_at_call 60; refine (HA.out _ _ _).mono ?_; rintro e w' ⟨rfl, hw'⟩; have hw2 := hw'.symm; subst hw2)
  refine ret_file rfl w.heap.size _ _ _ rfl rfl rfl ((heap_alloc_old _ _ (by simp only [size_al]; omega)).trans (at_new w _)) ?_
  exact ⟨rfl, (((Below.refl _ _).alloc (Nat.le_refl _) _).alloc (by simp only [size_al]; omega) _)⟩
theorem write_none {w : World} {v : Value} (h : Bare w v) (s : Nm) (po : Option Addr) (n c : Nat) : Calls Try.prog 23 #[v, sv s, .slice po n c] w fun e w' => e = .returned (.int .i64 1) ∧ Below w.heap.size w w' := by
  have HA := hid (fun (o0 o1 o2 o3 : Obj) x => answers_none ((((h.below ((Below.refl _ _).alloc (Nat.le_refl _) o0)).below ((Below.refl _ _).alloc (Nat.le_refl _) o1)).below ((Below.refl _ _).alloc (Nat.le_refl _) o2)).below ((Below.refl _ _).alloc (Nat.le_refl _) o3)) x)
  obtain ⟨a, rfl⟩ := h.form
  clear h
  go_enter Try.func23, Try.ntmps23
  go_wp2_with (go_at_call 60; refine (HA.out _ _ _ _ _).mono ?_; rintro e w' ⟨rfl, hw'⟩; have hw2 := hw'.symm; subst hw2)
  go_ret
  exact ⟨rfl, (((((Below.refl w.heap.size w).alloc (Nat.le_refl _) _).alloc (by simp only [size_al]; omega) _).alloc (by simp only [size_al]; omega) _).alloc (by simp only [size_al]; omega) _)⟩
theorem sync_none {w : World} {v : Value} (h : Bare w v) (s : Nm) : Calls Try.prog 24 #[v, sv s] w fun e w' => e = .returned (.int .i64 1) ∧ Below w.heap.size w w' := by
  have HA := hid (fun (o0 o1 : Obj) => find_none ((h.below ((Below.refl _ _).alloc (Nat.le_refl _) o0)).below ((Below.refl _ _).alloc (Nat.le_refl _) o1)) s)
  obtain ⟨a, rfl⟩ := h.form
  clear h
  go_enter Try.func24, Try.ntmps24
  go_wp2_with (go_at_call 59; refine (HA.out _ _).mono ?_; rintro e w1 ⟨rfl, hb1⟩; have HB := hid hb1; clear hb1)
  go_ret
  exact ⟨rfl, below_on _ _ (below_on _ _ (((Below.refl w.heap.size w).alloc (Nat.le_refl _) _).alloc (by simp only [size_al]; omega) _) HB.out) ((Below.refl _ _).alloc (Nat.le_refl _) _)⟩
theorem rename_none {w : World} {v : Value} (h : Bare w v) (s t : Nm) : Calls Try.prog 25 #[v, sv s, sv t] w fun e w' => e = .returned (.int .i64 1) ∧ Below w.heap.size w w' := by
  have HA := hid (fun (o0 o1 o2 o3 : Obj) x => answers_none ((((h.below ((Below.refl _ _).alloc (Nat.le_refl _) o0)).below ((Below.refl _ _).alloc (Nat.le_refl _) o1)).below ((Below.refl _ _).alloc (Nat.le_refl _) o2)).below ((Below.refl _ _).alloc (Nat.le_refl _) o3)) x)
  obtain ⟨a, rfl⟩ := h.form
  clear h
  go_enter Try.func25, Try.ntmps25
  go_wp2_with (go_at_call 60; refine (HA.out _ _ _ _ _).mono ?_; rintro e w' ⟨rfl, hw'⟩; have hw2 := hw'.symm; subst hw2)
  go_ret
  exact ⟨rfl, (((((Below.refl w.heap.size w).alloc (Nat.le_refl _) _).alloc (by simp only [size_al]; omega) _).alloc (by simp only [size_al]; omega) _).alloc (by simp only [size_al]; omega) _)⟩
theorem delete_none {w : World} {v : Value} (h : Bare w v) (s : Nm) : Calls Try.prog 26 #[v, sv s] w fun e w' => e = .returned (.int .i64 1) ∧ Below w.heap.size w w' := by
  have HA := hid (fun (o0 o1 : Obj) => find_none ((h.below ((Below.refl _ _).alloc (Nat.le_refl _) o0)).below ((Below.refl _ _).alloc (Nat.le_refl _) o1)) s)
  obtain ⟨a, rfl⟩ := h.form
  clear h
  go_enter Try.func26, Try.ntmps26
  go_wp2_with (go_at_call 59; refine (HA.out _ _).mono ?_; rintro e w1 ⟨rfl, hb1⟩; have HB := hid hb1; clear hb1)
  go_ret
  exact ⟨rfl, below_on _ _ (below_on _ _ (((Below.refl w.heap.size w).alloc (Nat.le_refl _) _).alloc (by simp only [size_al]; omega) _) HB.out) ((Below.refl _ _).alloc (Nat.le_refl _) _)⟩
theorem read_none {w : World} {v : Value} (h : Bare w v) (s : Nm) : Calls Try.prog 21 #[v, sv s] w fun e w' => e = .returned (.tuple #[.slice none 0 0, .int .i64 1]) ∧ Below w.heap.size w w' := by
  have HA := hid (fun (_ : Unit) => find_none h s)
  obtain ⟨a, rfl⟩ := h.form
  clear h
  go_enter Try.func21, Try.ntmps21
  go_wp2_with (go_at_call 59; refine (HA.out ()).mono ?_; rintro e w1 ⟨rfl, hb1⟩; have HB := hid hb1; clear hb1)
  go_ret2
  exact ⟨rfl, below_on _ _ (below_on _ _ (Below.refl w.heap.size w) HB.out) ((Below.refl _ _).alloc (Nat.le_refl _) _)⟩
theorem list_none {w : World} {v : Value} (h : Bare w v) (s : Nm) : Calls Try.prog 22 #[v, sv s] w fun e w' => e = .returned (.tuple #[.slice none 0 0, .int .i64 1]) ∧ Below w.heap.size w w' := by
  have HA := hid (fun (o0 : Obj) x => answers_none (h.below ((Below.refl _ _).alloc (Nat.le_refl _) o0)) x)
  obtain ⟨a, rfl⟩ := h.form
  clear h
  go_enter Try.func22, Try.ntmps22
  go_wp2_with (go_at_call 60; refine (HA.out _ _).mono ?_; rintro e w' ⟨rfl, hw'⟩; have hw2 := hw'.symm; subst hw2)
  go_ret2
  exact ⟨rfl, ((Below.refl w.heap.size w).alloc (Nat.le_refl _) _)⟩
theorem offline_none {w : World} {v : Value} (h : Bare w v) (b : Bool) : Calls Try.prog 27 #[v, .bool b] w fun e w' => e = .returned (.int .i64 1) ∧ w' = w := by
  have HA := hid (made_none h)
  obtain ⟨a, rfl⟩ := h.form
  clear h
  go_enter Try.func27, Try.ntmps27
  go_wp2_with (go_at_call 40; refine HA.out.mono ?_; rintro e w' ⟨rfl, hw'⟩; have hw2 := hw'.symm; subst hw2)
  go_ret
  exact ⟨rfl, by first | rfl | trivial⟩
theorem full_none {w : World} {v : Value} (h : Bare w v) (b : Bool) : Calls Try.prog 28 #[v, .bool b] w fun e w' => e = .returned (.int .i64 1) ∧ w' = w := by
  have HA := hid (made_none h)
  obtain ⟨a, rfl⟩ := h.form
  clear h
  go_enter Try.func28, Try.ntmps28
  go_wp2_with (go_at_call 40; refine HA.out.mono ?_; rintro e w' ⟨rfl, hw'⟩; have hw2 := hw'.symm; subst hw2)
  go_ret
  exact ⟨rfl, by first | rfl | trivial⟩
theorem turn_none {w : World} {v : Value} (h : Bare w v) (s : Nm) (at_ : Int) (k : Int) : Calls Try.prog 29 #[v, sv s, .int .i64 at_, .int .u8 k] w fun e w' => e = .returned (.int .i64 1) ∧ w' = w := by
  have HA := hid (made_none h)
  obtain ⟨a, rfl⟩ := h.form
  clear h
  go_enter Try.func29, Try.ntmps29
  go_wp2_with (go_at_call 40; refine HA.out.mono ?_; rintro e w' ⟨rfl, hw'⟩; have hw2 := hw'.symm; subst hw2)
  go_ret
  exact ⟨rfl, by first | rfl | trivial⟩
theorem crash_none {w : World} {v : Value} (h : Bare w v)  : Calls Try.prog 30 #[v, .slice none 0 0] w fun e w' => e = .returned (.int .i64 1) ∧ w' = w := by
  have HA := hid (made_none h)
  obtain ⟨a, rfl⟩ := h.form
  clear h
  go_enter Try.func30, Try.ntmps30
  go_wp2_with (go_at_call 40; refine HA.out.mono ?_; rintro e w' ⟨rfl, hw'⟩; have hw2 := hw'.symm; subst hw2)
  go_ret
  exact ⟨rfl, by first | rfl | trivial⟩
theorem used_none {w : World} {v : Value} (h : Bare w v)  : Calls Try.prog 31 #[v] w fun e w' => e = .returned (.int .i64 0) ∧ w' = w := by
  have HA := hid (made_none h)
  obtain ⟨a, rfl⟩ := h.form
  clear h
  go_enter Try.func31, Try.ntmps31
  go_wp2_with (go_at_call 40; refine HA.out.mono ?_; rintro e w' ⟨rfl, hw'⟩; have hw2 := hw'.symm; subst hw2)
  go_ret
  exact ⟨rfl, by first | rfl | trivial⟩
theorem loose_none {w : World} {v : Value} (h : Bare w v)  : Calls Try.prog 32 #[v] w fun e w' => e = .returned (.slice none 0 0) ∧ w' = w := by
  have HA := hid (made_none h)
  obtain ⟨a, rfl⟩ := h.form
  clear h
  go_enter Try.func32, Try.ntmps32
  go_wp2_with (go_at_call 40; refine HA.out.mono ?_; rintro e w' ⟨rfl, hw'⟩; have hw2 := hw'.symm; subst hw2)
  go_ret
  exact ⟨rfl, by first | rfl | trivial⟩
theorem ops_none {w : World} {v : Value} (h : Bare w v)  : Calls Try.prog 33 #[v] w fun e w' => e = .returned (.int .i64 0) ∧ w' = w := by
  have HA := hid (made_none h)
  obtain ⟨a, rfl⟩ := h.form
  clear h
  go_enter Try.func33, Try.ntmps33
  go_wp2_with (go_at_call 40; refine HA.out.mono ?_; rintro e w' ⟨rfl, hw'⟩; have hw2 := hw'.symm; subst hw2)
  go_ret
  exact ⟨rfl, by first | rfl | trivial⟩
theorem up_none {w : World} {v : Value} (h : Bare w v)  : Calls Try.prog 34 #[v] w fun e w' => e = .returned (.bool false) ∧ w' = w := by
  have HA := hid (made_none h)
  obtain ⟨a, rfl⟩ := h.form
  clear h
  go_enter Try.func34, Try.ntmps34
  go_wp2_with (go_at_call 40; refine HA.out.mono ?_; rintro e w' ⟨rfl, hw'⟩; have hw2 := hw'.symm; subst hw2)
  go_ret
  exact ⟨rfl, by first | rfl | trivial⟩
theorem clone_none {w : World} {v : Value} (h : Bare w v)  : Calls Try.prog 12 #[v] w fun e w' => e = .returned (.pointer none) ∧ w' = w := by
  have HA := hid (made_none h)
  obtain ⟨a, rfl⟩ := h.form
  clear h
  go_enter Try.func12, Try.ntmps12
  go_wp2_with (go_at_call 40; refine HA.out.mono ?_; rintro e w' ⟨rfl, hw'⟩; have hw2 := hw'.symm; subst hw2)
  go_ret
  exact ⟨rfl, by first | rfl | trivial⟩
theorem fuse_none {w : World} {v : Value} (h : Bare w v) (b : Nat) (hc : CAt w b #[v] 23) (n : Int) : Calls Try.prog 14 #[.slice (some ⟨b, 0, none⟩) 1 1, .int .i64 n] w fun e w' => e = .returned (.int .i64 1) ∧ w' = w := by
  have HA := hid (made_none h)
  obtain ⟨a, rfl⟩ := h.form
  have c0 : w.cell? ⟨b, 0, none⟩ = some (.pointer a) := hc.cell 0
  clear h hc
  go_enter Try.func14, Try.ntmps14
  go_wp2
  refine wp_loop_rounds 1 ?_
  rw [rounds_succ]
  go_wp2_with (go_at_call 40; refine HA.out.mono ?_; rintro e w' ⟨rfl, hw'⟩; have hw2 := hw'.symm; subst hw2)
  go_ret
  exact ⟨rfl, by first | rfl | trivial⟩
#print axioms fuse_none
end Go.Proofs.Ytfppmpfmafnfmaa
