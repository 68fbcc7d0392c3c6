/- Four drives, two of them with a fuse: what the statement on fuses carries. -/
import Derived.Test.YtfppmpfmafnfmaaEg
namespace Go.Proofs.Ytfppmpfmafnfmaa
open Go Go.RowKit

section
variable (d : Pd) (x : AV)
theorem ans_fs (l : Nat) (ns : List Nm) : d.ans (some (l, false)) ns = d.ans none ns := by unfold Pd.ans Pd.isOut goneF; simp
theorem ans_gone (l : Nat) (ns : List Nm) : d.ans (some (l, true)) ns = 11 := by unfold Pd.ans Pd.isOut goneF; simp
theorem chg_none (F : List (Nm × Fi)) : d.chg none F = (0, { d with F := F, ops := d.ops + 1 }, none) := rfl
theorem chg_zero (F : List (Nm × Fi)) : d.chg (some (0, false)) F = (11, d, some (0, true)) := rfl
theorem chg_succ (l : Nat) (F : List (Nm × Fi)) : d.chg (some (l + 1, false)) F = (0, { d with F := F, ops := d.ops + 1 }, some (l, false)) := rfl
/-- A step with a fuse beside one without. -/
structure StepRel (r0 : Nat × Pd × Fs) (rf : Nat → Nat × Pd × Fs) : Prop where
  ok : r0.1 = 0 → rf 0 = (11, d, some (0, true)) ∧ (∀ l, rf (l + 1) = (0, r0.2.1, some (l, false))) ∧ r0.2.1.ops = d.ops + 1
  no : r0.1 ≠ 0 → r0.2.1 = d ∧ ∀ l, rf l = (r0.1, d, some (l, false))
theorem rel_chg (F : List (Nm × Fi)) : StepRel d (d.chg none F) (fun l => d.chg (some (l, false)) F) :=
  ⟨fun _ => ⟨rfl, fun _ => rfl, rfl⟩, fun h => absurd rfl h⟩
theorem rel_err {e : Nat} (he : e ≠ 0) : StepRel d (e, d, none) (fun l => (e, d, some (l, false))) := ⟨fun h => absurd h he, fun _ => ⟨rfl, fun _ => rfl⟩⟩
theorem step_rel : StepRel d (d.step none x) (fun l => d.step (some (l, false)) x) := by
  unfold Pd.step
  split
  · unfold Pd.write
    simp only [ans_fs]
    by_cases h1 : d.ans none [x.A] ≠ 0
    · simp only [if_pos h1]; exact rel_err d h1
    · simp only [if_neg h1]
      by_cases h2 : (d.full || decide (d.size < usedOf (gdel d.F x.A) + x.bs.length)) = true
      · simp only [if_pos h2]; exact rel_err d (by decide)
      · simp only [if_neg h2]; exact rel_chg d _
  · unfold Pd.sync
    simp only [ans_fs]
    by_cases h1 : d.ans none [x.A] ≠ 0
    · simp only [if_pos h1]; exact rel_err d h1
    · simp only [if_neg h1]
      cases gget d.F x.A with
      | none => exact rel_err d (by decide)
      | some y => exact rel_chg d _
  · unfold Pd.rename
    simp only [ans_fs]
    by_cases h1 : d.ans none [x.A, x.C] ≠ 0
    · simp only [if_pos h1]; exact rel_err d h1
    · simp only [if_neg h1]
      cases gget d.F x.A with
      | none => exact rel_err d (by decide)
      | some y => exact rel_chg d _
  · unfold Pd.delete
    simp only [ans_fs]
    by_cases h1 : d.ans none [x.A] ≠ 0
    · simp only [if_pos h1]; exact rel_err d h1
    · simp only [if_neg h1]
      cases gget d.F x.A with
      | none => exact rel_err d (by decide)
      | some y => exact rel_chg d _
theorem step_gone (l : Nat) : d.step (some (l, true)) x = (11, d, some (l, true)) := by
  unfold Pd.step Pd.write Pd.sync Pd.rename Pd.delete
  simp only [ans_gone]
  split <;> rfl
end
def D4 (pa pb pc pd q : Nat) (Sa Sb Sc Sd : Nat → Prop) (da db dc dd : Pd) : Nat → Dv
  | 0 => ⟨pa, Sa, some q, da⟩
  | 1 => ⟨pb, Sb, some q, db⟩
  | 2 => ⟨pc, Sc, none, dc⟩
  | _ => ⟨pd, Sd, none, dd⟩
theorem Sys.congr {w wr : World} {k : Nat} {D D' : Nat → Dv} {Z : Nat → Nat × Bool} (h : Sys w wr k D Z) (e : ∀ i, i < k → D' i = D i) : Sys w wr k D' Z :=
  ⟨fun i hi => by rw [e i hi]; exact h.dr i hi, fun i hi q hq => by
    rw [e i hi] at hq
    obtain ⟨h1, h2, h3, h4⟩ := h.fz i hi q hq
    exact ⟨h1, h2, h3, fun j hj => by rw [e j hj]; exact h4 j hj⟩, fun i j hi hj hij => by rw [e i hi, e j hj]; exact h.dj i j hi hj hij, fun i hi => by rw [e i hi]; exact h.ge i hi, h.be⟩
/-- Four drives; the first two have the fuse at q, which stands at z. -/
def FZ (w wr : World) (pa pb pc pd q : Nat) (da db dc dd : Pd) (z : Nat × Bool) : Prop := ∃ Sa Sb Sc Sd Z, Sys w wr 4 (D4 pa pb pc pd q Sa Sb Sc Sd da db dc dd) Z ∧ Z q = z
section
variable {w wr : World} {pa pb pc pd q : Nat} {da db dc dd : Pd} {z : Nat × Bool}
theorem FZ.below (h : FZ w wr pa pb pc pd q da db dc dd z) {w' : World} (hb : Below wr.heap.size wr w') : FZ w w' pa pb pc pd q da db dc dd z := by
  obtain ⟨Sa, Sb, Sc, Sd, Z, hs, hz⟩ := h
  exact ⟨Sa, Sb, Sc, Sd, Z, hs.below hb, hz⟩
theorem FZ.be (h : FZ w wr pa pb pc pd q da db dc dd z) : Below w.heap.size w wr := by obtain ⟨_, _, _, _, _, hs, _⟩ := h; exact hs.be
theorem FZ.step0 (h : FZ w wr pa pb pc pd q da db dc dd z) (x : AV) (hx : x.ok wr) (hn : x.bs.length ≤ 140737488355328) (ho : da.ops < 1000000000000) (hl : da.F.length < 1000000000000) :
    Calls Try.prog 35 #[ptr pa, .agg x.val] wr fun e w' => e = .returned (.int .i64 ((da.step (some z) x).1 : Int)) ∧ FZ w w' pa pb pc pd q (da.step (some z) x).2.1 db dc dd ((da.step (some z) x).2.2.getD (0, false)) := by
  obtain ⟨Sa, Sb, Sc, Sd, Z, hs, rfl⟩ := h
  refine (hs.step (i := 0) (by omega) x hx hn ho hl).mono fun e w' ⟨h1, S2, h2⟩ => ⟨h1, S2, Sb, Sc, Sd, setZ Z (some q) (da.step (some (Z q)) x).2.2, ?_, ?_⟩
  · refine h2.congr fun i hi => ?_
    have : i = 0 ∨ i = 1 ∨ i = 2 ∨ i = 3 := by omega
    rcases this with rfl | rfl | rfl | rfl <;> rfl
  · unfold setZ; rw [if_pos rfl]
theorem FZ.step1 (h : FZ w wr pa pb pc pd q da db dc dd z) (x : AV) (hx : x.ok wr) (hn : x.bs.length ≤ 140737488355328) (ho : db.ops < 1000000000000) (hl : db.F.length < 1000000000000) :
    Calls Try.prog 35 #[ptr pb, .agg x.val] wr fun e w' => e = .returned (.int .i64 ((db.step (some z) x).1 : Int)) ∧ FZ w w' pa pb pc pd q da (db.step (some z) x).2.1 dc dd ((db.step (some z) x).2.2.getD (0, false)) := by
  obtain ⟨Sa, Sb, Sc, Sd, Z, hs, rfl⟩ := h
  refine (hs.step (i := 1) (by omega) x hx hn ho hl).mono fun e w' ⟨h1, S2, h2⟩ => ⟨h1, Sa, S2, Sc, Sd, setZ Z (some q) (db.step (some (Z q)) x).2.2, ?_, ?_⟩
  · refine h2.congr fun i hi => ?_
    have : i = 0 ∨ i = 1 ∨ i = 2 ∨ i = 3 := by omega
    rcases this with rfl | rfl | rfl | rfl <;> rfl
  · unfold setZ; rw [if_pos rfl]
theorem FZ.step2 (h : FZ w wr pa pb pc pd q da db dc dd z) (x : AV) (hx : x.ok wr) (hn : x.bs.length ≤ 140737488355328) (ho : dc.ops < 1000000000000) (hl : dc.F.length < 1000000000000) :
    Calls Try.prog 35 #[ptr pc, .agg x.val] wr fun e w' => e = .returned (.int .i64 ((dc.step none x).1 : Int)) ∧ FZ w w' pa pb pc pd q da db (dc.step none x).2.1 dd z := by
  obtain ⟨Sa, Sb, Sc, Sd, Z, hs, rfl⟩ := h
  refine (hs.step (i := 2) (by omega) x hx hn ho hl).mono fun e w' ⟨h1, S2, h2⟩ => ⟨h1, Sa, Sb, S2, Sd, setZ Z none (dc.step none x).2.2, ?_, ?_⟩
  · refine h2.congr fun i hi => ?_
    have : i = 0 ∨ i = 1 ∨ i = 2 ∨ i = 3 := by omega
    rcases this with rfl | rfl | rfl | rfl <;> rfl
  · unfold setZ; rw [if_neg (by simp)]
theorem FZ.step3 (h : FZ w wr pa pb pc pd q da db dc dd z) (x : AV) (hx : x.ok wr) (hn : x.bs.length ≤ 140737488355328) (ho : dd.ops < 1000000000000) (hl : dd.F.length < 1000000000000) :
    Calls Try.prog 35 #[ptr pd, .agg x.val] wr fun e w' => e = .returned (.int .i64 ((dd.step none x).1 : Int)) ∧ FZ w w' pa pb pc pd q da db dc (dd.step none x).2.1 z := by
  obtain ⟨Sa, Sb, Sc, Sd, Z, hs, rfl⟩ := h
  refine (hs.step (i := 3) (by omega) x hx hn ho hl).mono fun e w' ⟨h1, S2, h2⟩ => ⟨h1, Sa, Sb, Sc, S2, setZ Z none (dd.step none x).2.2, ?_, ?_⟩
  · refine h2.congr fun i hi => ?_
    have : i = 0 ∨ i = 1 ∨ i = 2 ∨ i = 3 := by omega
    rcases this with rfl | rfl | rfl | rfl <;> rfl
  · unfold setZ; rw [if_neg (by simp)]
theorem FZ.up0 (h : FZ w wr pa pb pc pd q da db dc dd z) : Calls Try.prog 34 #[ptr pa] wr fun e w' => e = .returned (.bool (da.up (some z))) ∧ w' = wr := by
  obtain ⟨Sa, Sb, Sc, Sd, Z, hs, rfl⟩ := h; exact hs.up (i := 0) (by omega)
theorem FZ.up1 (h : FZ w wr pa pb pc pd q da db dc dd z) : Calls Try.prog 34 #[ptr pb] wr fun e w' => e = .returned (.bool (db.up (some z))) ∧ w' = wr := by
  obtain ⟨Sa, Sb, Sc, Sd, Z, hs, rfl⟩ := h; exact hs.up (i := 1) (by omega)
theorem FZ.ops0 (h : FZ w wr pa pb pc pd q da db dc dd z) : Calls Try.prog 33 #[ptr pa] wr fun e w' => e = .returned (.int .i64 (da.ops : Int)) ∧ w' = wr := by
  obtain ⟨Sa, Sb, Sc, Sd, Z, hs, rfl⟩ := h; exact hs.ops (i := 0) (by omega)
theorem FZ.ops1 (h : FZ w wr pa pb pc pd q da db dc dd z) : Calls Try.prog 33 #[ptr pb] wr fun e w' => e = .returned (.int .i64 (db.ops : Int)) ∧ w' = wr := by
  obtain ⟨Sa, Sb, Sc, Sd, Z, hs, rfl⟩ := h; exact hs.ops (i := 1) (by omega)
theorem FZ.ops2 (h : FZ w wr pa pb pc pd q da db dc dd z) : Calls Try.prog 33 #[ptr pc] wr fun e w' => e = .returned (.int .i64 (dc.ops : Int)) ∧ w' = wr := by
  obtain ⟨Sa, Sb, Sc, Sd, Z, hs, rfl⟩ := h; exact hs.ops (i := 2) (by omega)
theorem FZ.ops3 (h : FZ w wr pa pb pc pd q da db dc dd z) : Calls Try.prog 33 #[ptr pd] wr fun e w' => e = .returned (.int .i64 (dd.ops : Int)) ∧ w' = wr := by
  obtain ⟨Sa, Sb, Sc, Sd, Z, hs, rfl⟩ := h; exact hs.ops (i := 3) (by omega)
end
#print axioms step_rel
end Go.Proofs.Ytfppmpfmafnfmaa
