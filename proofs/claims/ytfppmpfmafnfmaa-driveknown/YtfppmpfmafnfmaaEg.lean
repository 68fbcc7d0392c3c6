/- Contract of Fuse of package drive, of two drives and of one. -/
import Derived.Test.YtfppmpfmafnfmaaEf
namespace Go.Proofs.Ytfppmpfmafnfmaa
open Go Go.RowKit

def Pd.lit (d : Pd) (f : Fs) : Pd := { d with out := d.isOut f }
/-- What a fuse of two drives leaves. -/
def Fu2At (w : World) (S1 S2 : Nat → Prop) (p1 p2 : Nat) (d1 d2 : Pd) (n : Nat) (e : Ending) (w' : World) : Prop :=
  e = .returned (.int .i64 0) ∧ ∃ q, w.heap.size ≤ q ∧ DrAt w' S1 p1 (some q) d1 ∧ DrAt w' S2 p2 (some q) d2 ∧ CAt w' q #[.int .i64 (n : Int), .bool false] 81 ∧ Only (fun b => b = p1 ∨ b = p2) w w'
def Fu1At (w : World) (S1 : Nat → Prop) (p1 : Nat) (d1 : Pd) (n : Nat) (e : Ending) (w' : World) : Prop :=
  e = .returned (.int .i64 0) ∧ ∃ q, w.heap.size ≤ q ∧ DrAt w' S1 p1 (some q) d1 ∧ CAt w' q #[.int .i64 (n : Int), .bool false] 81 ∧ Only (fun b => b = p1) w w'
section
variable {w : World} {S1 S2 : Nat → Prop} {p1 m1 p2 m2 : Nat} {fu1 fu2 : Option Nat} {d1 d2 : Pd} {L1 L2 : List (Nm × Ent)}
/-- A fuse is no drive. -/
theorem FuAt.ne_drive {f : Fs} (hf : FuAt w S1 fu1 f) {p : Nat} {cs : Array Value} (hc : CAt w p cs 51) : ∀ q, fu1 = some q → q ≠ p := by
  intro q hq e
  match fu1, f, hf with
  | some q', some (n, g), hf =>
    cases hq
    have h1 : w.heap[q]? = _ := hf.1
    have h2 : w.heap[p]? = _ := hc
    rw [e, h2] at h1
    have ht := (Obj.cells.inj (Option.some.inj h1)).2.1
    revert ht; decide
theorem DrC.litC (h : DrC w S1 p1 m1 fu1 d1 L1) (o : Bool) (q : Nat) : DrC ((w.setCell ⟨p1, 7, none⟩ (.bool o)).setCell ⟨p1, 8, none⟩ (ptr q)) S1 p1 m1 (some q) { d1 with out := o } L1 :=
  (h.setC 7 (.bool o) (d2 := { d1 with out := o }) (fu2 := fu1) rfl rfl rfl).setC 8 (ptr q) (d2 := { d1 with out := o }) (fu2 := some q) rfl rfl rfl
set_option maxHeartbeats 1000000 in
set_option maxRecDepth 100000 in
theorem fuse2_any (h1 : DrC w S1 p1 m1 fu1 d1 L1) {f1 : Fs} (hf1 : FuAt w S1 fu1 f1) (h2 : DrC w S2 p2 m2 fu2 d2 L2) {f2 : Fs} (hf2 : FuAt w S2 fu2 f2) (hdj : ∀ b, S1 b → ¬ S2 b) (bl c : Nat) (hc : CAt w bl #[ptr p1, ptr p2] 23) (n : Nat) (hn : n ≤ 9223372036854775807) :
    Calls Try.prog 14 #[.slice (some ⟨bl, 0, none⟩) 2 c, .int .i64 (n : Int)] w (Fu2At w S1 S2 p1 p2 (d1.lit f1) (d2.lit f2) n) := by
  have H1 := hid h1
  have H2 := hid h2
  have HF1 := hid hf1
  have HF2 := hid hf2
  have HDJ := hid hdj
  have HM1 := hid (made_any h1)
  have HM2 := hid (made_any h2)
  have HBL := hid hc
  have b0 : w.cell? ⟨bl, 0, none⟩ = some (ptr p1) := hc.cell 0
  have b1 : w.cell? ⟨bl, 1, none⟩ = some (ptr p2) := hc.cell 1
  have hbl := hc.lt
  have hp1 := h1.c.lt
  have hp2 := h2.c.lt
  have hne : p1 ≠ p2 := fun e => hdj p1 h1.sp (e ▸ h2.sp)
  have hb1 := (h1.box_ne hc (by decide)).1
  have hb2 := (h2.box_ne hc (by decide)).1
  have HNE := hid (And.intro hne (And.intro hb1 hb2))
  have hn0 : ¬ (n : Int) < 0 := by omega
  have t1 : True := trivial
  have t2 : True := trivial
  clear h1 h2 hf1 hf2 hdj hc hne hb1 hb2
  go_enter Try.func14, Try.ntmps14
  go_wp2
  refine wp_loop_rounds 3 ?_
  rw [rounds_succ]
  go_wp2_with (go_at_call 40; refine HM1.out.mono ?_; rintro e w' ⟨rfl, hw'⟩; have hw2 := hw'.symm; subst hw2)
  rw [rounds_succ]
  go_wp2_with (go_at_call 40; refine HM2.out.mono ?_; rintro e w' ⟨rfl, hw'⟩; have hw2 := hw'.symm; subst hw2)
  rw [rounds_succ]
  go_wp2
  have HQ := hid (CAt.made w #[.int .i64 (n : Int), .bool false] 81)
  have HD1 := hid (H1.out.alloc (.cells #[.int .i64 (n : Int), .bool false] 81))
  have HD2 := hid (H2.out.alloc (.cells #[.int .i64 (n : Int), .bool false] 81))
  have HG1 := hid (HF1.out.alloc (.cells #[.int .i64 (n : Int), .bool false] 81))
  have HG2 := hid (HF2.out.alloc (.cells #[.int .i64 (n : Int), .bool false] 81))
  have HB := hid (HBL.out.old (.cells #[.int .i64 (n : Int), .bool false] 81))
  have HO := hid (Only.alloc (S := fun b => b = p1 ∨ b = p2) w (.cells #[.int .i64 (n : Int), .bool false] 81))
  clear HBL b0 b1
  generalize w.alloc (.cells #[.int .i64 (n : Int), .bool false] 81) = w0 at *
  have k0 : w0.cell? ⟨bl, 0, none⟩ = some (ptr p1) := HB.out.cell 0
  have a7 : w0.cell? ⟨p1, 7, none⟩ = some (.bool d1.out) := HD1.out.c.cell 7
  have a8 : w0.cell? ⟨p1, 8, none⟩ = some (fuV fu1) := HD1.out.c.cell 8
  have y7 : w0.frozen? ⟨p1, 7, none⟩ = false := HD1.out.c.free 7
  have y8 : w0.frozen? ⟨p1, 8, none⟩ = false := HD1.out.c.free 8
  have HIO1 := hid (isOut_any HD1.out HG1.out)
  refine wp_loop_rounds 3 ?_
  rw [rounds_succ]
  go_wp2_with (go_at_call 42; refine HIO1.out.mono ?_; rintro e w' ⟨rfl, hw'⟩; have hw2 := hw'.symm; subst hw2)
  have hk1 : ∀ b, b ≠ p1 → ((w0.setCell ⟨p1, 7, none⟩ (.bool (d1.isOut f1))).setCell ⟨p1, 8, none⟩ (ptr w.heap.size)).heap[b]? = w0.heap[b]? := fun b hb => (heap_setCell_ne _ _ _ _ hb).trans (heap_setCell_ne _ _ _ _ hb)
  have hz1 : ((w0.setCell ⟨p1, 7, none⟩ (.bool (d1.isOut f1))).setCell ⟨p1, 8, none⟩ (ptr w.heap.size)).heap.size = w0.heap.size := (setCell_size _ _ _).trans (setCell_size _ _ _)
  have HE1 := hid (HD1.out.litC (d1.isOut f1) w.heap.size)
  have HE2 := hid (HD2.out.keep (w' := (w0.setCell ⟨p1, 7, none⟩ (.bool (d1.isOut f1))).setCell ⟨p1, 8, none⟩ (ptr w.heap.size)) (Nat.le_of_eq hz1.symm) (fun b hb => hk1 b (fun e => HDJ.out p1 H1.out.sp (e ▸ hb))))
  have HH2 := hid (HG2.out.keep (w' := (w0.setCell ⟨p1, 7, none⟩ (.bool (d1.isOut f1))).setCell ⟨p1, 8, none⟩ (ptr w.heap.size)) (fun q hq => hk1 q (HG2.out.ne_drive HD1.out.c q hq)))
  have HQ1 := hid (HQ.out.keep (hk1 _ (by omega)))
  have HB1 := hid (HB.out.keep (hk1 _ HNE.out.2.1))
  have HO1 := hid ((HO.out.then (Only.set (S := fun b => b = p1 ∨ b = p2) w0 ⟨p1, 7, none⟩ (.bool (d1.isOut f1)) (Or.inl rfl)) (fun _ _ h => h)).then (Only.set (S := fun b => b = p1 ∨ b = p2) _ ⟨p1, 8, none⟩ (ptr w.heap.size) (Or.inl rfl)) (fun _ _ h => h))
  clear hk1 hz1 k0 a7 a8 y7 y8
  generalize ((w0.setCell ⟨p1, 7, none⟩ (.bool (d1.isOut f1))).setCell ⟨p1, 8, none⟩ (ptr w.heap.size)) = w1 at *
  have k1 : w1.cell? ⟨bl, 1, none⟩ = some (ptr p2) := HB1.out.cell 1
  have a7 : w1.cell? ⟨p2, 7, none⟩ = some (.bool d2.out) := HE2.out.c.cell 7
  have a8 : w1.cell? ⟨p2, 8, none⟩ = some (fuV fu2) := HE2.out.c.cell 8
  have y7 : w1.frozen? ⟨p2, 7, none⟩ = false := HE2.out.c.free 7
  have y8 : w1.frozen? ⟨p2, 8, none⟩ = false := HE2.out.c.free 8
  have HIO2 := hid (isOut_any HE2.out HH2.out)
  rw [rounds_succ]
  go_wp2_with (go_at_call 42; refine HIO2.out.mono ?_; rintro e w' ⟨rfl, hw'⟩; have hw2 := hw'.symm; subst hw2)
  have hk2 : ∀ b, b ≠ p2 → ((w1.setCell ⟨p2, 7, none⟩ (.bool (d2.isOut f2))).setCell ⟨p2, 8, none⟩ (ptr w.heap.size)).heap[b]? = w1.heap[b]? := fun b hb => (heap_setCell_ne _ _ _ _ hb).trans (heap_setCell_ne _ _ _ _ hb)
  have hz2 : ((w1.setCell ⟨p2, 7, none⟩ (.bool (d2.isOut f2))).setCell ⟨p2, 8, none⟩ (ptr w.heap.size)).heap.size = w1.heap.size := (setCell_size _ _ _).trans (setCell_size _ _ _)
  have HZ2 := hid (HE2.out.litC (d2.isOut f2) w.heap.size)
  have HZ1 := hid (HE1.out.keep (w' := (w1.setCell ⟨p2, 7, none⟩ (.bool (d2.isOut f2))).setCell ⟨p2, 8, none⟩ (ptr w.heap.size)) (Nat.le_of_eq hz2.symm) (fun b hb => hk2 b (fun e => HDJ.out b hb (e ▸ H2.out.sp))))
  have HQ2 := hid (HQ1.out.keep (hk2 _ (by omega)))
  have HO2 := hid ((HO1.out.then (Only.set (S := fun b => b = p1 ∨ b = p2) w1 ⟨p2, 7, none⟩ (.bool (d2.isOut f2)) (Or.inr rfl)) (fun _ _ h => h)).then (Only.set (S := fun b => b = p1 ∨ b = p2) _ ⟨p2, 8, none⟩ (ptr w.heap.size) (Or.inr rfl)) (fun _ _ h => h))
  clear hk2 hz2 k1 a7 a8 y7 y8
  generalize ((w1.setCell ⟨p2, 7, none⟩ (.bool (d2.isOut f2))).setCell ⟨p2, 8, none⟩ (ptr w.heap.size)) = w2 at *
  rw [rounds_succ]
  go_wp2
  go_ret
  exact ⟨rfl, w.heap.size, Nat.le_refl _, ⟨m1, L1, HZ1.out⟩, ⟨m2, L2, HZ2.out⟩, HQ2.out, HO2.out⟩
#print axioms fuse2_any
end
section
variable {w wr : World} {k : Nat} {D : Nat → Dv} {Z : Nat → Nat × Bool}
/-- Two drives have a fuse together. -/
theorem Sys.lit2 (h : Sys w wr k D Z) {i j : Nat} (hi : i < k) (hj : j < k) (hij : i ≠ j) {n : Nat} (hn : n ≤ 9223372036854775807) {w' : World} {q : Nat} {d1 d2 : Pd} (hq : wr.heap.size ≤ q) (h1 : DrAt w' (D i).S (D i).p (some q) d1) (h2 : DrAt w' (D j).S (D j).p (some q) d2) (hc : CAt w' q #[.int .i64 (n : Int), .bool false] 81)
    (ho : Only (fun b => b = (D i).p ∨ b = (D j).p) wr w') : Sys w w' k (setD (setD D i ⟨(D i).p, (D i).S, some q, d1⟩) j ⟨(D j).p, (D j).S, some q, d2⟩) (fun b => if b = q then (n, false) else Z b) := by
  have hS : ∀ a, (setD (setD D i ⟨(D i).p, (D i).S, some q, d1⟩) j ⟨(D j).p, (D j).S, some q, d2⟩ a).S = (D a).S := fun a => by
    by_cases e1 : a = j
    · subst e1; rw [setD_same]
    · rw [setD_ne _ _ e1]
      by_cases e2 : a = i
      · subst e2; rw [setD_same]
      · rw [setD_ne _ _ e2]
  have hSp : ∀ a, a < k → (D a).S (D a).p := fun a ha => by obtain ⟨m, L, hd⟩ := h.dr a ha; exact hd.sp
  have hnp : ∀ a b, a < k → b = (D i).p ∨ b = (D j).p → a ≠ i → a ≠ j → ¬ (D a).S b := fun a b ha e h1 h2 hs => by
    rcases e with rfl | rfl
    · exact h.dj a i ha hi h1 _ hs (hSp i hi)
    · exact h.dj a j ha hj h2 _ hs (hSp j hj)
  have hfp : ∀ a, a < k → ∀ q2, (D a).fu = some q2 → q2 ≠ (D i).p ∧ q2 ≠ (D j).p := fun a ha q2 e => ⟨fun e2 => (h.fz a ha q2 e).2.2.2 i hi (e2 ▸ hSp i hi), fun e2 => (h.fz a ha q2 e).2.2.2 j hj (e2 ▸ hSp j hj)⟩
  have hold : ∀ a, a < k → ∀ q2, (D a).fu = some q2 → CAt w' q2 #[.int .i64 (((if q2 = q then (n, false) else Z q2 : Nat × Bool)).1 : Int), .bool (if q2 = q then (n, false) else Z q2 : Nat × Bool).2] 81 ∧ (if q2 = q then (n, false) else Z q2 : Nat × Bool).1 ≤ 9223372036854775807 ∧ w.heap.size ≤ q2 ∧ ∀ b, b < k → ¬ (D b).S q2 := fun a ha q2 e => by
    obtain ⟨g1, g2, g3, g4⟩ := h.fz a ha q2 e
    have hl := g1.lt
    rw [if_neg (by omega)]
    exact ⟨g1.keep (ho.block q2 hl (fun e2 => e2.elim (hfp a ha q2 e).1 (hfp a ha q2 e).2)), g2, g3, g4⟩
  have hnew : CAt w' q #[.int .i64 (((if q = q then (n, false) else Z q : Nat × Bool)).1 : Int), .bool (if q = q then (n, false) else Z q : Nat × Bool).2] 81 ∧ (if q = q then (n, false) else Z q : Nat × Bool).1 ≤ 9223372036854775807 ∧ w.heap.size ≤ q ∧ ∀ b, b < k → ¬ (D b).S q := by
    rw [if_pos rfl]
    exact ⟨hc, hn, Nat.le_trans h.be.size hq, fun b hb hs => by have := h.lt hb q hs; omega⟩
  refine ⟨fun a ha => ?_, fun a ha q2 e => ?_, fun a b ha hb hab c hc1 hc2 => ?_, fun a ha b hb => ?_, ?_⟩
  · by_cases e1 : a = j
    · subst e1; rw [setD_same]; exact h2
    · rw [setD_ne _ _ e1]
      by_cases e2 : a = i
      · subst e2; rw [setD_same]; exact h1
      · rw [setD_ne _ _ e2]
        exact (h.dr a ha).keep ho.size fun b hb => ho.block b (h.lt ha b hb) fun e => hnp a b ha e e2 e1 hb
  · have hx : (∀ b, b < k → ¬ (setD (setD D i ⟨(D i).p, (D i).S, some q, d1⟩) j ⟨(D j).p, (D j).S, some q, d2⟩ b).S q2) ↔ ∀ b, b < k → ¬ (D b).S q2 := by simp only [hS]
    rw [hx]
    by_cases e1 : a = j
    · subst e1; rw [setD_same] at e; cases e; exact hnew
    · rw [setD_ne _ _ e1] at e
      by_cases e2 : a = i
      · subst e2; rw [setD_same] at e; cases e; exact hnew
      · rw [setD_ne _ _ e2] at e; exact hold a ha q2 e
  · rw [hS] at hc1 hc2; exact h.dj a b ha hb hab c hc1 hc2
  · rw [hS] at hb; exact h.ge a ha b hb
  · exact ⟨ho.os.trans h.be.os, ho.tape.trans h.be.tape, ho.output.trans h.be.output, Nat.le_trans h.be.size ho.size, fun b hb => (ho.block b (Nat.lt_of_lt_of_le hb h.be.size) (fun e => by
      rcases e with rfl | rfl
      · have := h.ge i hi _ (hSp i hi); omega
      · have := h.ge j hj _ (hSp j hj); omega)).trans (h.be.block b hb)⟩
#print axioms Sys.lit2
end
end Go.Proofs.Ytfppmpfmafnfmaa
