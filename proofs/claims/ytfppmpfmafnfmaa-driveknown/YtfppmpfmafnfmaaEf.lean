/- Drives beside one another, some of them with one fuse together. -/
import Derived.Test.YtfppmpfmafnfmaaEe
namespace Go.Proofs.Ytfppmpfmafnfmaa
open Go Go.RowKit

structure Dv where
  p : Nat
  S : Nat → Prop
  fu : Option Nat
  d : Pd
def fsOf (Z : Nat → Nat × Bool) (x : Dv) : Fs := x.fu.map Z
structure Sys (w wr : World) (k : Nat) (D : Nat → Dv) (Z : Nat → Nat × Bool) : Prop where
  dr : ∀ i, i < k → DrAt wr (D i).S (D i).p (D i).fu (D i).d
  fz : ∀ i, i < k → ∀ q, (D i).fu = some q → CAt wr q #[.int .i64 ((Z q).1 : Int), .bool (Z q).2] 81 ∧ (Z q).1 ≤ 9223372036854775807 ∧ w.heap.size ≤ q ∧ ∀ j, j < k → ¬ (D j).S q
  dj : ∀ i j, i < k → j < k → i ≠ j → ∀ b, (D i).S b → ¬ (D j).S b
  ge : ∀ i, i < k → ∀ b, (D i).S b → w.heap.size ≤ b
  be : Below w.heap.size w wr
def setD (D : Nat → Dv) (i : Nat) (x : Dv) : Nat → Dv := fun j => if j = i then x else D j
theorem setD_same (D : Nat → Dv) (i : Nat) (x : Dv) : setD D i x i = x := by simp [setD]
theorem setD_ne (D : Nat → Dv) {i j : Nat} (x : Dv) (h : j ≠ i) : setD D i x j = D j := by simp [setD, h]
def setZ (Z : Nat → Nat × Bool) (fu : Option Nat) (f : Fs) : Nat → Nat × Bool := fun b => if fu = some b then f.getD (0, false) else Z b
section
variable {w wr : World} {k : Nat} {D : Nat → Dv} {Z : Nat → Nat × Bool}
theorem Sys.lt (h : Sys w wr k D Z) {i : Nat} (hi : i < k) : ∀ b, (D i).S b → b < wr.heap.size := by obtain ⟨m, L, hd⟩ := h.dr i hi; exact hd.lt
theorem Sys.fu (h : Sys w wr k D Z) {i : Nat} (hi : i < k) : FuAt wr (D i).S (D i).fu (fsOf Z (D i)) := by
  unfold fsOf
  cases hq : (D i).fu with
  | none => exact trivial
  | some q =>
    obtain ⟨h1, h2, _, h4⟩ := h.fz i hi q hq
    exact ⟨h1, h4 i hi, h2⟩
theorem Sys.below (h : Sys w wr k D Z) {w' : World} (hb : Below wr.heap.size wr w') : Sys w w' k D Z :=
  ⟨fun i hi => by obtain ⟨m, L, hd⟩ := h.dr i hi; exact ⟨m, L, hd.below hb⟩, fun i hi q hq => by obtain ⟨h1, h2⟩ := h.fz i hi q hq; exact ⟨h1.below hb, h2⟩, h.dj, h.ge, below_on _ _ h.be hb⟩
/-- A call of one drive that may turn its own blocks and its fuse alone. -/
theorem Sys.turn (h : Sys w wr k D Z) {i : Nat} (hi : i < k) {w' : World} {S2 : Nat → Prop} {d2 : Pd} {fu2 : Option Nat} {f2 : Fs} (hg : Grows wr (D i).S S2) (hd : DrAt w' S2 (D i).p fu2 d2) (hfu : fu2 = (D i).fu ∨ fu2 = none)
    (hf : FuAt w' S2 (D i).fu f2) (ho : Only (fun b => (D i).S b ∨ (D i).fu = some b) wr w') : Sys w w' k (setD D i ⟨(D i).p, S2, fu2, d2⟩) (setZ Z (D i).fu f2) := by
  have hq : ∀ j, j < k → ∀ q, (D j).fu = some q → q < wr.heap.size := fun j hj q e => (h.fz j hj q e).1.lt
  have hS : ∀ j, j < k → ∀ b, b < wr.heap.size → (setD D i ⟨(D i).p, S2, fu2, d2⟩ j).S b → (D j).S b := fun j _ b hb hs => by
    by_cases e : j = i
    · subst e; rw [setD_same] at hs; exact (hg.2 b hs).elim id (fun hle => by omega)
    · rw [setD_ne D _ e] at hs; exact hs
  refine ⟨fun j hj => ?_, fun j hj q e => ?_, fun a b ha hb hab c hc hc2 => ?_, fun j hj b hb => ?_, ?_⟩
  · by_cases e : j = i
    · subst e; rw [setD_same]; exact hd
    · rw [setD_ne D _ e]
      refine (h.dr j hj).keep ho.size fun b hb => ho.block b (h.lt hj b hb) fun e2 => ?_
      rcases e2 with e2 | e2
      · exact h.dj j i hj hi e b hb e2
      · exact (h.fz i hi b e2).2.2.2 j hj hb
  · have hje : ∃ j', j' < k ∧ (D j').fu = some q := by
      by_cases ej : j = i
      · subst ej
        rw [setD_same] at e
        rcases hfu with hfu | hfu
        · exact ⟨j, hj, by rw [← hfu]; exact e⟩
        · rw [hfu] at e; cases e
      · rw [setD_ne D _ ej] at e; exact ⟨j, hj, e⟩
    obtain ⟨j', hj', e'⟩ := hje
    obtain ⟨h1, h2, h3, h4⟩ := h.fz j' hj' q e'
    have hns : ∀ j2, j2 < k → ¬ (setD D i ⟨(D i).p, S2, fu2, d2⟩ j2).S q := fun j2 hj2 hs => h4 j2 hj2 (hS j2 hj2 q h1.lt hs)
    by_cases eq : (D i).fu = some q
    · have hz : setZ Z (D i).fu f2 q = f2.getD (0, false) := by unfold setZ; rw [if_pos eq]
      rw [hz]
      rw [eq] at hf
      match f2, hf with
      | some (n, g), hf => exact ⟨hf.1, hf.2.2, h3, hns⟩
    · have hz : setZ Z (D i).fu f2 q = Z q := by unfold setZ; rw [if_neg eq]
      rw [hz]
      exact ⟨h1.keep (ho.block q h1.lt fun e2 => e2.elim (h4 i hi) eq), h2, h3, hns⟩
  · by_cases e1 : a = i
    · subst e1
      have hc' := hc
      rw [setD_same] at hc'
      rw [setD_ne D _ (Ne.symm hab)] at hc2
      exact h.dj b a hb ha (Ne.symm hab) c hc2 (hS a ha c (h.lt hb c hc2) hc)
    · rw [setD_ne D _ e1] at hc
      exact h.dj a b ha hb hab c hc (hS b hb c (h.lt ha c hc) hc2)
  · by_cases e : j = i
    · subst e; rw [setD_same] at hb
      rcases hg.2 b hb with hb | hb
      · exact h.ge j hj b hb
      · exact Nat.le_trans h.be.size hb
    · rw [setD_ne D _ e] at hb; exact h.ge j hj b hb
  · exact ⟨ho.os.trans h.be.os, ho.tape.trans h.be.tape, ho.output.trans h.be.output, Nat.le_trans h.be.size ho.size, fun b hb => (ho.block b (Nat.lt_of_lt_of_le hb h.be.size) (fun e => by
      rcases e with e | e
      · have := h.ge i hi b e; omega
      · have := (h.fz i hi b e).2.2.1; omega)).trans (h.be.block b hb)⟩
def stD (D : Nat → Dv) (i : Nat) (S2 : Nat → Prop) (r : Nat × Pd × Fs) : Nat → Dv := setD D i ⟨(D i).p, S2, (D i).fu, r.2.1⟩
/-- What a call of drive i leaves that answers r. -/
def Stepped (w : World) (k : Nat) (D : Nat → Dv) (Z : Nat → Nat × Bool) (i : Nat) (r : Nat × Pd × Fs) (e : Ending) (w' : World) : Prop :=
  e = .returned (.int .i64 (r.1 : Int)) ∧ ∃ S2, Sys w w' k (stD D i S2 r) (setZ Z (D i).fu r.2.2)
theorem Sys.done (h : Sys w wr k D Z) {i : Nat} (hi : i < k) {r : Nat × Pd × Fs} {e : Ending} {w' : World} (hD : Done wr (D i).S (D i).p (D i).fu r e w') : Stepped w k D Z i r e w' := by
  obtain ⟨h1, S2, hg, hd, hf, ho⟩ := hD
  exact ⟨h1, S2, h.turn hi hg hd (Or.inl rfl) hf ho⟩
theorem Sys.step (h : Sys w wr k D Z) {i : Nat} (hi : i < k) (x : AV) (hx : x.ok wr) (hn : x.bs.length ≤ 140737488355328) (ho : (D i).d.ops < 1000000000000) (hl : (D i).d.F.length < 1000000000000) :
    Calls Try.prog 35 #[ptr (D i).p, .agg x.val] wr (Stepped w k D Z i ((D i).d.step (fsOf Z (D i)) x)) := by
  obtain ⟨m, L, hd⟩ := h.dr i hi
  exact (step_any hd (h.fu hi) x hx hn ho hl).mono fun e w' hD => h.done hi hD
theorem Sys.up (h : Sys w wr k D Z) {i : Nat} (hi : i < k) : Calls Try.prog 34 #[ptr (D i).p] wr fun e w' => e = .returned (.bool ((D i).d.up (fsOf Z (D i)))) ∧ w' = wr := by
  obtain ⟨m, L, hd⟩ := h.dr i hi
  exact up_any hd (h.fu hi)
theorem Sys.ops (h : Sys w wr k D Z) {i : Nat} (hi : i < k) : Calls Try.prog 33 #[ptr (D i).p] wr fun e w' => e = .returned (.int .i64 ((D i).d.ops : Int)) ∧ w' = wr := by
  obtain ⟨m, L, hd⟩ := h.dr i hi
  exact ops_any hd
theorem Sys.crash (h : Sys w wr k D Z) {i : Nat} (hi : i < k) (po : Option Addr) (c : Nat) (ks : List Bool) (hk : KAt wr (D i).S po ks) (hkn : ks.length ≤ 1000000000) (hl : (D i).d.F.length < 1000000000000) :
    Calls Try.prog 30 #[ptr (D i).p, .slice po ks.length c] wr fun e w' => e = .returned (.int .i64 0) ∧ Sys w w' k (setD D i ⟨(D i).p, (D i).S, none, (D i).d.crash ks⟩) (setZ Z (D i).fu (fsOf Z (D i))) ∧ Only (D i).S wr w' := by
  obtain ⟨m, L, hd⟩ := h.dr i hi
  refine (crash_any hd po c ks hk hkn hl).mono fun e w' ⟨h1, h2, h3⟩ => ?_
  have ho : Only (D i).S wr w' := h3.mono fun b hb => hb.elim (fun e => e ▸ hd.sp) (fun e => e ▸ hd.sm)
  exact ⟨h1, h.turn hi (Grows.refl _ _) h2 (Or.inr rfl) ((h.fu hi).kept ho (fun q hq => (h.fu hi).ne q hq)) (ho.mono fun b hb => Or.inl hb), ho⟩
theorem setZ_same (Z : Nat → Nat × Bool) (x : Dv) : setZ Z x.fu (fsOf Z x) = Z := by
  funext b
  unfold setZ fsOf
  split
  · rename_i e; rw [e]; rfl
  · rfl
end
#print axioms Sys.turn
end Go.Proofs.Ytfppmpfmafnfmaa
