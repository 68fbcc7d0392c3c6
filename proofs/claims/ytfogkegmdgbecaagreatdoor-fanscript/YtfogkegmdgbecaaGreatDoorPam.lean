/- Texts laid into one, cut to what is needed: the remark ahead of each part says what is proved there. -/
import Derived.Test.YtfogkegmdgbecaaGreatDoorPak
import Derived.Test.YtfogkegmdgbecaaGreatDoorPal
import Derived.Test.YtfogkegmdgbecaaGreatDoorPah
/- The document's drives of a set: k of them beside one another that have a fuse together, or none (as FA of the program's). -/
namespace Go.Proofs.YtfogkegmdgbecaaGreatDoor
open Go Go.RowKit

structure RA (w wr : World) (T : Nat → Prop) (k : Nat) (p : Nat → Nat) (d : Nat → Pd) (f : Fs) (c : Nat) : Prop where
 ex : ∃ (R : Nat → Nat → Prop) (fu : Option Nat), (∀ i, i < k → RfAt wr (R i) (p i) (if i < c then none else fu) (d i)) ∧ (∀ i j, i < k → j < k → i ≠ j → ∀ b, R i b → ¬ R j b) ∧ (∀ i, i < k → ∀ b, R i b → T b) ∧ FuR wr (fun b => ∃ i, i < k ∧ R i b) fu f ∧ (∀ q, fu = some q → T q)
 lt : ∀ b, T b → b < wr.heap.size
 ge : ∀ b, T b → w.heap.size ≤ b
 be : Below w.heap.size w wr
theorem FuR.thin {w : World} {R R' : Nat → Prop} : ∀ {fu : Option Nat} {f : Fs}, FuR w R fu f → (∀ b, R' b → R b) → FuR w R' fu f
 | none, none, _, _ => trivial
 | some _, some (_, _), h, hs => ⟨h.1, fun hr => h.2.1 (hs _ hr), h.2.2⟩
theorem FuR.some {w : World} {R : Nat → Prop} {f : Fs} {fu : Option Nat} (h : FuR w R fu f) : f.isSome = fu.isSome := by
 cases fu <;> cases f <;> first | rfl | exact h.elim
theorem RfAt.keep {w w' : World} {R : Nat → Prop} {q : Nat} {fu : Option Nat} {d : Pd} (h : RfAt w R q fu d) (hs : w.heap.size ≤ w'.heap.size) (hk : ∀ b, R b → w'.heap[b]? = w.heap[b]?) : RfAt w' R q fu d := by
 obtain ⟨v, L, h⟩ := h
 exact ⟨v, L, h.keep hs hk⟩
theorem RfAt.lt {w : World} {R : Nat → Prop} {q : Nat} {fu : Option Nat} {d : Pd} (h : RfAt w R q fu d) : ∀ b, R b → b < w.heap.size := by
 obtain ⟨v, L, h⟩ := h
 exact h.lt
section
variable {w wr w' : World} {T : Nat → Prop} {k : Nat} {p : Nat → Nat} {d : Nat → Pd} {f : Fs} {c : Nat}
theorem RA.only (h : RA w wr T k p d f c) {Y : Nat → Prop} (ho : Only Y wr w') (hY : ∀ b, b < w.heap.size → ¬ Y b) (hT : ∀ b, T b → ¬ Y b) : RA w w' T k p d f c := by
 obtain ⟨R, fu, h1, h2, h3, h4, h5⟩ := h.ex
 refine ⟨⟨R, fu, fun i hi => (h1 i hi).keep ho.size fun b hb => ho.block b (h.lt b (h3 i hi b hb)) (hT b (h3 i hi b hb)), h2, h3, h4.keep fun q e => ho.block q (h.lt q (h5 q e)) (hT q (h5 q e)), h5⟩, fun b hb => Nat.lt_of_lt_of_le (h.lt b hb) ho.size, h.ge, ?_⟩
 exact ⟨ho.os.trans h.be.os, ho.tape.trans h.be.tape, ho.output.trans h.be.output, Nat.le_trans h.be.size ho.size, fun b hb => (ho.block b (Nat.lt_of_lt_of_le hb h.be.size) (hY b hb)).trans (h.be.block b hb)⟩
theorem RA.below (h : RA w wr T k p d f c) (hb : Below wr.heap.size wr w') : RA w w' T k p d f c := h.only (Only.of_below (S := fun _ => False) hb) (fun _ _ h => h) (fun _ _ h => h)
theorem RA.look (h : RA w wr T k p d f c) {i : Nat} (hi : i < k) {g : FuncId} {args : Array Value} {Q : Ending → World → Prop} (hc : ∀ fu S v L, RfC wr S (p i) v fu (d i) L → FuR wr S fu (fAt c f i) → Calls Tryz.prog g args wr Q) : Calls Tryz.prog g args wr Q := by
 obtain ⟨R, fu, h1, h2, h3, h4, h5⟩ := h.ex
 obtain ⟨v, L, hr⟩ := h1 i hi
 refine hc _ _ v L hr ?_
 unfold fAt
 split
 ·trivial
 ·exact h4.thin fun b hb => ⟨i, hi, hb⟩
/-- What a call leaves that changed drive i. -/
def RStep (w wr : World) (T : Nat → Prop) (k : Nat) (p : Nat → Nat) (d : Nat → Pd) (f : Fs) (c : Nat) (w' : World) : Prop :=
 ∃ T', Grows wr T T' ∧ RA w w' T' k p d f c ∧ Only T wr w'
theorem RA.turn (h : RA w wr T k p d f c) {i : Nat} (hi : i < k) {g : FuncId} {args : Array Value} {d2 : Pd} {f2 : Fs} {c2 : Nat} {Q : Ending → Prop}
  (hc2 : (∀ j, j < k → j ≠ i → (j < c2 ↔ j < c)) ∧ ((i < c2 ↔ i < c) ∨ (i < c2)))
  (hc : ∀ fu S v L, (∀ b, S b → T b) → RfC wr S (p i) v fu (d i) L → FuR wr S fu (fAt c f i) → Calls Tryz.prog g args wr fun e w' => Q e ∧ ∃ S2, Grows wr S S2 ∧ RfAt w' S2 (p i) (if (i < c2 ∧ ¬ i < c) then none else fu) d2 ∧ FuR w' S2 fu (fAt c f2 i) ∧ Only (fun b => S b ∨ fu = some b) wr w')
  (hn : i < c → f2 = f) :
  Calls Tryz.prog g args wr fun e w' => Q e ∧ RStep w wr T k p (upd d i d2) f2 c2 w' := by
 obtain ⟨R, fu, h1, h2, h3, h4, h5⟩ := h.ex
 obtain ⟨v, L, hr⟩ := h1 i hi
 have hu : FuR wr (R i) (if i < c then none else fu) (fAt c f i) := by
  unfold fAt
  split
  ·trivial
  ·exact h4.thin fun b hb => ⟨i, hi, hb⟩
 refine (hc _ _ v L (h3 i hi) hr hu).mono ?_
 rintro en w' ⟨hQ, S2, hg, hda, hfa, ho⟩
 have hfu : ∀ b, (if i < c then none else fu) = some b → fu = some b := fun b e => by split at e; cases e; exact e
 have hoT : Only T wr w' := ho.mono fun b hb => hb.elim (h3 i hi b) (fun e => h5 b (hfu b e))
 have hql : ∀ q, fu = some q → q < wr.heap.size ∧ ∀ j, j < k → ¬ R j q := fun q e => ⟨h.lt q (h5 q e), fun j hj hr => h4.ne q e ⟨j, hj, hr⟩⟩
 have hlt : ∀ j, j < k → ∀ b, R j b → b < wr.heap.size := fun j hj b hb => h.lt b (h3 j hj b hb)
 have hkeep : ∀ j, j < k → j ≠ i → ∀ b, R j b → w'.heap[b]? = wr.heap[b]? := fun j hj hne b hb => ho.block b (hlt j hj b hb) (fun e => e.elim (fun hs => h2 j i hj hi hne b hb hs) (fun e => (hql b (hfu b e)).2 j hj hb))
 refine ⟨hQ, fun b => T b ∨ S2 b, ⟨fun b hb => .inl hb, fun b hb => hb.elim .inl fun hb => (hg.2 b hb).elim (fun hb => .inl (h3 i hi b hb)) .inr⟩, ⟨⟨upd R i S2, fu, fun j hj => ?_, fun a b ha hb hab x hx hy => ?_, fun j hj b hb => ?_, ?_, fun q e => .inl (h5 q e)⟩, fun b hb => ?_, fun b hb => ?_, ?_⟩, hoT⟩
 ·by_cases e : j = i
  ·subst e
   rw [upd_same, upd_same]
   have e2 : (if (j < c2 ∧ ¬ j < c) then none else (if j < c then none else fu)) = (if j < c2 then none else fu) := by
    have := hc2.2
    by_cases a1 : j < c2 <;> by_cases a2 : j < c <;> simp [a1, a2] <;> simp [a1, a2] at this
   rw [← e2]; exact hda
  ·rw [upd_ne _ _ e, upd_ne _ _ e]
   have e2 : (if j < c2 then none else fu) = (if j < c then none else fu) := by
    have := hc2.1 j hj e
    by_cases a1 : j < c <;> simp [a1, this]
   rw [e2]
   exact (h1 j hj).keep ho.size (hkeep j hj e)
 ·have key : ∀ j, j < k → j ≠ i → ∀ x, R j x → ¬ S2 x := fun j hj hne x hx hs => (hg.2 x hs).elim (fun hs => h2 j i hj hi hne x hx hs) (fun hl => by have := hlt j hj x hx; omega)
  by_cases e : a = i
  ·subst e
   rw [upd_same] at hx
   rw [upd_ne _ _ (Ne.symm hab)] at hy
   exact key b hb (Ne.symm hab) x hy hx
  ·rw [upd_ne _ _ e] at hx
   by_cases e' : b = i
   ·subst e'; rw [upd_same] at hy; exact key a ha e x hx hy
   ·rw [upd_ne _ _ e'] at hy; exact h2 a b ha hb hab x hx hy
 ·by_cases e : j = i
  ·subst e; rw [upd_same] at hb; exact .inr hb
  ·rw [upd_ne _ _ e] at hb; exact .inl (h3 j hj b hb)
 ·-- the fuse
  have hnot : ∀ q, fu = some q → ¬ S2 q → ¬ ∃ j, j < k ∧ upd R i S2 j q := fun q e hs ⟨j, hj, hr⟩ => by
   by_cases e2 : j = i
   ·subst e2; rw [upd_same] at hr; exact hs hr
   ·rw [upd_ne _ _ e2] at hr; exact (hql q e).2 j hj hr
  by_cases hic : i < c
  ·have hff := hn hic
   rw [hff]
   match fu, f, h4 with
   | none, none, _ => trivial
   | some q, some (n, gg), h4 =>
    refine ⟨h4.1.keep (ho.block q (hql q rfl).1 (fun e => e.elim (fun hs => (hql q rfl).2 i hi hs) (fun e => by rw [if_pos hic] at e; cases e))), hnot q rfl (fun hs => (hg.2 q hs).elim (fun hs => (hql q rfl).2 i hi hs) (fun hl => by have := (hql q rfl).1; omega)), h4.2.2⟩
  ·rw [if_neg hic] at hfa
   unfold fAt at hfa
   rw [if_neg hic] at hfa
   match fu, f2, hfa with
   | none, none, _ => trivial
   | some q, some (n, gg), hfa => exact ⟨hfa.1, hnot q rfl hfa.2.1, hfa.2.2⟩
 ·exact hb.elim (fun hb => Nat.lt_of_lt_of_le (h.lt b hb) ho.size) (fun hb => hda.lt b hb)
 ·exact hb.elim (h.ge b) (fun hb => (hg.2 b hb).elim (fun hb => h.ge b (h3 i hi b hb)) (fun hl => Nat.le_trans h.be.size hl))
 ·exact ⟨hoT.os.trans h.be.os, hoT.tape.trans h.be.tape, hoT.output.trans h.be.output, Nat.le_trans h.be.size hoT.size, fun b hb => (hoT.block b (Nat.lt_of_lt_of_le hb h.be.size) (fun ht => by have := h.ge b ht; omega)).trans (h.be.block b hb)⟩
theorem RA.step (h : RA w wr T k p d f 0) {i : Nat} (hi : i < k) {g : FuncId} {args : Array Value} {r : Nat × Pd × Fs} (hc : ∀ fu S v L, RfC wr S (p i) v fu (d i) L → FuR wr S fu f → Calls Tryz.prog g args wr (RDone wr S (p i) fu r)) :
  Calls Tryz.prog g args wr fun e w' => e = .returned (.int .i64 (r.1 : Int)) ∧ RStep w wr T k p (upd d i r.2.1) r.2.2 0 w' := by
 refine h.turn hi (c2 := 0) (Q := fun e => e = .returned (.int .i64 (r.1 : Int))) ⟨fun _ _ _ => Iff.rfl, Or.inl Iff.rfl⟩ (fun fu S v L _ hd hf => (hc fu S v L hd (by simpa [fAt] using hf)).mono ?_) (fun h => absurd h (Nat.not_lt_zero _))
 rintro e w' ⟨h1, S2, hg, hda, hfa, ho⟩
 exact ⟨h1, S2, hg, by simpa using hda, by simpa [fAt] using hfa, ho⟩
theorem RA.turned (h : RA w wr T k p d f c) {i : Nat} (hi : i < k) {g : FuncId} {args : Array Value} {r : Nat × Pd} (hc : ∀ fu S v L, RfC wr S (p i) v fu (d i) L → Calls Tryz.prog g args wr (RTurnAt wr S (p i) fu r)) :
  Calls Tryz.prog g args wr fun e w' => e = .returned (.int .i64 (r.1 : Int)) ∧ RStep w wr T k p (upd d i r.2) f c w' := by
 refine h.turn hi (c2 := c) (Q := fun e => e = .returned (.int .i64 (r.1 : Int))) ⟨fun _ _ _ => Iff.rfl, Or.inl Iff.rfl⟩ (fun fu S v L _ hd hf => (hc fu S v L hd).mono ?_) (fun _ => rfl)
 rintro e w' ⟨h1, S2, hg, hda, ho⟩
 refine ⟨h1, S2, hg, by rw [if_neg (by simp)]; exact hda, ?_, ho.mono fun b hb => .inl (hb ▸ hd.sp)⟩
 match fu, fAt c f i, hf with
 | none, none, _ => trivial
 | some q, some (n, gg), hf => exact ⟨hf.1.keep (ho.block q hf.1.lt (fun e => hf.2.1 (e ▸ hd.sp))), fun hs => (hg.2 q hs).elim hf.2.1 (fun hl => by have := hf.1.lt; omega), hf.2.2⟩
/-- The first drive that has the fuse still crashes. -/
theorem RA.crash (h : RA w wr T k p d f c) (hi : c < k) (po : Option Addr) (cc : Nat) (ks : List Bool) (hk : KAt wr (fun _ => False) po ks) (hkn : ks.length ≤ 1000000000) (hl : (d c).F.length < 999000) :
  Calls Tryz.prog 28 #[ptr (p c), .slice po ks.length cc] wr fun e w' => e = .returned (.int .i64 0) ∧ RStep w wr T k p (upd d c ((d c).crash ks)) f (c + 1) w' := by
 refine h.turn hi (c2 := c + 1) (Q := fun e => e = .returned (.int .i64 0)) ⟨fun j _ hne => by omega, Or.inr (by omega)⟩ (fun fu S v L _ hd hf => (rcrash_any hd po cc ks hk hkn (by rw [hd.lenF]; exact hl)).mono ?_) (fun h => absurd h (Nat.lt_irrefl _))
 rintro e w' ⟨h1, S2, hg, hda, ho⟩
 refine ⟨h1, S2, hg, by rw [if_pos ⟨by omega, Nat.lt_irrefl _⟩]; exact hda, ?_, ho.mono fun b hb => .inl (hb ▸ hd.sp)⟩
 match fu, fAt c f c, hf with
 | none, none, _ => trivial
 | some q, some (n, gg), hf => exact ⟨hf.1.keep (ho.block q hf.1.lt (fun e => hf.2.1 (e ▸ hd.sp))), fun hs => (hg.2 q hs).elim hf.2.1 (fun hl => by have := hf.1.lt; omega), hf.2.2⟩
theorem RA.calm (h : RA w wr T k p d f k) : RA w wr T k p d none 0 := by
 obtain ⟨R, fu, h1, h2, h3, h4, h5⟩ := h.ex
 exact ⟨⟨R, none, fun i hi => by have := h1 i hi; rw [if_pos hi] at this; simpa using this, h2, h3, trivial, fun _ e => by cases e⟩, h.lt, h.ge, h.be⟩
theorem RA.empty (w wr : World) (hb : Below w.heap.size w wr) (p : Nat → Nat) (d : Nat → Pd) : RA w wr (fun _ => False) 0 p d none 0 :=
 ⟨⟨fun _ _ => False, none, fun i hi => absurd hi (Nat.not_lt_zero _), fun i _ hi => absurd hi (Nat.not_lt_zero _), fun i hi => absurd hi (Nat.not_lt_zero _), trivial, fun _ e => by cases e⟩, fun _ h => h.elim, fun _ h => h.elim, hb⟩
/-- One drive more, made since wr. -/
theorem RA.more (h : RA w wr T k p d none 0) {q : Nat} {x : Pd} (hd : RfAt w' (fun b => wr.heap.size ≤ b ∧ b < w'.heap.size) q none x) (hb : Below wr.heap.size wr w') :
  ∃ T', Grows wr T T' ∧ RA w w' T' (k + 1) (upd p k q) (upd d k x) none 0 := by
 obtain ⟨R, fu, h1, h2, h3, h4, h5⟩ := h.ex
 have hfu : fu = none := by
  cases fu with
  | none => rfl
  | some q => exact h4.elim
 subst hfu
 have old : ∀ i, i < k + 1 → i ≠ k → i < k := fun i hi hn => by omega
 have hlt : ∀ j, j < k → ∀ b, R j b → b < wr.heap.size := fun j hj b hb => h.lt b (h3 j hj b hb)
 refine ⟨fun b => T b ∨ (wr.heap.size ≤ b ∧ b < w'.heap.size), ⟨fun b hb => Or.inl hb, fun b hb => hb.elim Or.inl fun h => Or.inr h.1⟩, ⟨upd R k (fun b => wr.heap.size ≤ b ∧ b < w'.heap.size), none, fun i hi => ?_, fun i j hi hj hij b hbi hbj => ?_, fun i hi b hbi => ?_, trivial, fun _ e => by cases e⟩, fun b hb' => ?_, fun b hb' => ?_, below_on _ _ h.be hb⟩
 ·by_cases e : i = k
  ·subst e; rw [upd_same, upd_same, upd_same]; simpa using hd
  ·rw [upd_ne _ _ e, upd_ne _ _ e, upd_ne _ _ e]
   have := h1 i (old i hi e)
   simp only [Nat.not_lt_zero, if_false] at this ⊢
   exact this.keep hb.size fun b hb' => hb.block b (hlt i (old i hi e) b hb')
 ·by_cases e1 : i = k
  ·subst e1; rw [upd_same] at hbi; rw [upd_ne _ _ (Ne.symm hij)] at hbj
   have := hlt j (old j hj (Ne.symm hij)) b hbj; have := hbi.1; omega
  ·rw [upd_ne _ _ e1] at hbi
   by_cases e2 : j = k
   ·subst e2; rw [upd_same] at hbj; have := hlt i (old i hi e1) b hbi; have := hbj.1; omega
   ·rw [upd_ne _ _ e2] at hbj; exact h2 i j (old i hi e1) (old j hj e2) hij b hbi hbj
 ·by_cases e : i = k
  ·subst e; rw [upd_same] at hbi; exact .inr hbi
  ·rw [upd_ne _ _ e] at hbi; exact .inl (h3 i (old i hi e) b hbi)
 ·exact hb'.elim (fun h' => Nat.lt_of_lt_of_le (h.lt b h') hb.size) (fun h' => h'.2)
 ·exact hb'.elim (h.ge b) (fun h' => Nat.le_trans h.be.size h'.1)
end
end Go.Proofs.YtfogkegmdgbecaaGreatDoor

/- What happens to the drives of a set: made, crashed, offline, full, turned, a fuse for all; none, checkDrives. -/
namespace Go.Proofs.YtfogkegmdgbecaaGreatDoor
open Go Go.RowKit

section
variable {w wr : World} {T : Nat → Prop} {k : Nat} {p : Nat → Nat} {d : Nat → Pd} {f : Fs} {c : Nat}
theorem FA.empty (w wr : World) (hb : Below w.heap.size w wr) (p : Nat → Nat) (d : Nat → Pd) : FA w wr (fun _ => False) 0 p d none 0 :=
 ⟨⟨fun _ => ⟨0, fun _ => False, none, fresh 1⟩, fun _ => (0, false), none, ⟨fun i hi => absurd hi (Nat.not_lt_zero _), fun i hi => absurd hi (Nat.not_lt_zero _), fun i _ hi => absurd hi (Nat.not_lt_zero _), fun i hi => absurd hi (Nat.not_lt_zero _), hb⟩, fun i hi => absurd hi (Nat.not_lt_zero _), rfl, fun _ e => by cases e⟩, fun _ h => h.elim, fun _ h => h.elim, hb⟩
/-- One drive more, made since wr. -/
theorem FA.more (h : FA w wr T k p d none 0) {w' : World} {q n : Nat} (hd : DrAt w' (fun b => wr.heap.size ≤ b ∧ b < w'.heap.size) q none (fresh n)) (hb : Below wr.heap.size wr w') :
  ∃ T', Grows wr T T' ∧ FA w w' T' (k + 1) (upd p k q) (upd d k (fresh n)) none 0 := by
 obtain ⟨D, Z, fu, hs, hdd, hf, hq⟩ := h.ex
 have hfu : ∀ i, i < k → (D i).fu = none := fun i hi => by
  have h2 := (hdd i hi).2.1
  rw [h2]
  cases fu with
  | none => simp
  | some q => simp at hf
 let N : Dv := ⟨q, fun b => wr.heap.size ≤ b ∧ b < w'.heap.size, none, fresh n⟩
 have hs' := hs.below hb
 have old : ∀ i, i < k + 1 → i ≠ k → i < k := fun i hi hn => by omega
 refine ⟨fun b => T b ∨ (wr.heap.size ≤ b ∧ b < w'.heap.size), ⟨fun b hb => Or.inl hb, fun b hb => hb.elim Or.inl fun h => Or.inr h.1⟩, ⟨setD D k N, Z, none, ⟨fun i hi => ?_, fun i hi x e => ?_, fun i j hi hj hij b hbi hbj => ?_, fun i hi b hbi => ?_, hs'.be⟩, fun i hi => ?_, rfl, fun _ e => by cases e⟩, fun b hb' => ?_, fun b hb' => ?_, hs'.be⟩
 ·by_cases e : i = k
  ·subst e; rw [setD_same]; exact hd
  ·rw [setD_ne _ _ e]; exact hs'.dr i (old i hi e)
 ·by_cases e2 : i = k
  ·subst e2; rw [setD_same] at e; cases e
  ·rw [setD_ne _ _ e2, hfu i (old i hi e2)] at e; cases e
 ·by_cases e1 : i = k
  ·subst e1; rw [setD_same] at hbi; rw [setD_ne _ _ (Ne.symm hij)] at hbj
   have := hs.lt (old j hj (Ne.symm hij)) b hbj; have := hbi.1; omega
  ·rw [setD_ne _ _ e1] at hbi
   have h1 := hs.lt (old i hi e1) b hbi
   by_cases e2 : j = k
   ·subst e2; rw [setD_same] at hbj; have := hbj.1; omega
   ·rw [setD_ne _ _ e2] at hbj; exact hs.dj i j (old i hi e1) (old j hj e2) hij b hbi hbj
 ·by_cases e : i = k
  ·subst e; rw [setD_same] at hbi; exact Nat.le_trans h.be.size hbi.1
  ·rw [setD_ne _ _ e] at hbi; exact hs.ge i (old i hi e) b hbi
 ·by_cases e : i = k
  ·subst e; rw [setD_same, upd_same, upd_same]; exact ⟨rfl, by simp [N], rfl, fun b hb => Or.inr hb⟩
  ·rw [setD_ne _ _ e, upd_ne _ _ e, upd_ne _ _ e]
   obtain ⟨g1, g2, g3, g4⟩ := hdd i (old i hi e)
   exact ⟨g1, by rw [hfu i (old i hi e)]; simp, g3, fun b hb => Or.inl (g4 b hb)⟩
 ·exact hb'.elim (fun h' => Nat.lt_of_lt_of_le (h.lt b h') hb.size) (fun h' => h'.2)
 ·exact hb'.elim (h.ge b) (fun h' => Nat.le_trans h.be.size h'.1)
theorem FA.setA (h : FA w wr T k p d f c) {i : Nat} (hi : i < k) {g : FuncId} {args : Array Value} {d2 : Pd} (hc : ∀ fu S m L, DrC wr S (p i) m fu (d i) L → Calls Tryz.prog g args wr (SetAt wr S (p i) m fu d2 L)) :
  Calls Tryz.prog g args wr fun e w' => e = .returned (.int .i64 0) ∧ FStep w wr T k p (upd d i d2) f c w' := by
 refine h.turn hi (c2 := c) (R := fun e => e = .returned (.int .i64 0)) ⟨fun _ _ _ => Iff.rfl, Or.inl Iff.rfl⟩ (fun fu S m L _ hd hf => (hc fu S m L hd).mono ?_) (fun _ => rfl) rfl
 rintro e w' ⟨h1, h2, h3, h4⟩
 have ho : Only S wr w' := h3.mono fun b hb => hb ▸ hd.sp
 exact ⟨h1, S, Grows.refl _ _, by rw [if_neg (by simp)]; exact ⟨m, L, h2⟩, hf.kept ho (fun q hq => hf.ne q hq), ho.mono fun b hb => Or.inl hb⟩
theorem FA.turned (h : FA w wr T k p d f c) {i : Nat} (hi : i < k) {g : FuncId} {args : Array Value} {r : Nat × Pd} (hc : ∀ fu S m L, DrC wr S (p i) m fu (d i) L → Calls Tryz.prog g args wr (TurnAt wr S (p i) fu r)) :
  Calls Tryz.prog g args wr fun e w' => e = .returned (.int .i64 (r.1 : Int)) ∧ FStep w wr T k p (upd d i r.2) f c w' := by
 refine h.turn hi (c2 := c) (R := fun e => e = .returned (.int .i64 (r.1 : Int))) ⟨fun _ _ _ => Iff.rfl, Or.inl Iff.rfl⟩ (fun fu S m L _ hd hf => (hc fu S m L hd).mono ?_) (fun _ => rfl) rfl
 rintro e w' ⟨h1, h2, h3⟩
 exact ⟨h1, S, Grows.refl _ _, by rw [if_neg (by simp)]; exact h2, hf.kept h3 (fun q hq => hf.ne q hq), h3.mono fun b hb => Or.inl hb⟩
/-- The first drive that has the fuse still crashes. -/
theorem FA.crash (h : FA w wr T k p d f c) (hi : c < k) (po : Option Addr) (cc : Nat) (ks : List Bool) (hk : KAt wr T po ks) (hkn : ks.length ≤ 1000000000) (hl : (d c).F.length < 1000000000000) :
  Calls Tryz.prog 27 #[ptr (p c), .slice po ks.length cc] wr fun e w' => e = .returned (.int .i64 0) ∧ FStep w wr T k p (upd d c ((d c).crash ks)) f (c + 1) w' := by
 refine h.turn hi (c2 := c + 1) (R := fun e => e = .returned (.int .i64 0)) ⟨fun j _ hj => by omega, Or.inr (by omega)⟩ (fun fu S m L hST hd hf => ?_) (fun h => absurd h (Nat.lt_irrefl _)) rfl
 have hkS : KAt wr S po ks := by
  rcases hk with hk | ⟨b, o, h1, h2, h3⟩
  ·exact Or.inl hk
  ·exact Or.inr ⟨b, o, h1, fun hs => h2 (hST b hs), h3⟩
 refine (crash_any hd po cc ks hkS hkn hl).mono ?_
 rintro e w' ⟨h1, h2, h3⟩
 have ho : Only S wr w' := h3.mono fun b hb => hb.elim (fun e => e ▸ hd.sp) (fun e => e ▸ hd.sm)
 exact ⟨h1, S, Grows.refl _ _, by rw [if_pos ⟨by omega, by omega⟩]; exact h2, hf.kept ho (fun q hq => hf.ne q hq), ho.mono fun b hb => Or.inl hb⟩
/-- All have crashed. -/
theorem FA.calm (h : FA w wr T k p d f k) : FA w wr T k p d none 0 := by
 obtain ⟨D, Z, fu, hs, hdd, hf, hq⟩ := h.ex
 exact ⟨⟨D, Z, none, hs, fun i hi => by obtain ⟨g1, g2, g3, g4⟩ := hdd i hi; exact ⟨g1, by rw [g2, if_pos hi]; simp, g3, g4⟩, rfl, fun _ e => by cases e⟩, h.lt, h.ge, h.be⟩
/-- A drive is given a fuse q that lies ready. -/
theorem Sys.lit1 {D : Nat → Dv} {Z : Nat → Nat × Bool} (h : Sys w wr k D Z) {i : Nat} (hi : i < k) {q : Nat} (hq : CAt wr q #[.int .i64 ((Z q).1 : Int), .bool (Z q).2] 136) (hz : (Z q).1 ≤ 9223372036854775807) (hw : w.heap.size ≤ q) (hS : ∀ j, j < k → ¬ (D j).S q) (o : Bool) :
  Sys w ((wr.setCell ⟨(D i).p, 7, none⟩ (.bool o)).setCell ⟨(D i).p, 8, none⟩ (ptr q)) k (setD D i ⟨(D i).p, (D i).S, some q, { (D i).d with out := o }⟩) Z := by
 obtain ⟨m, L, hr⟩ := h.dr i hi
 have hk : ∀ b, b ≠ (D i).p → ((wr.setCell ⟨(D i).p, 7, none⟩ (.bool o)).setCell ⟨(D i).p, 8, none⟩ (ptr q)).heap[b]? = wr.heap[b]? := fun b hb => (heap_setCell_ne _ _ _ _ hb).trans (heap_setCell_ne _ _ _ _ hb)
 have hsz : ((wr.setCell ⟨(D i).p, 7, none⟩ (.bool o)).setCell ⟨(D i).p, 8, none⟩ (ptr q)).heap.size = wr.heap.size := (setCell_size _ _ _).trans (setCell_size _ _ _)
 have fne : ∀ {x : Nat} {cs : Array Value}, CAt wr x cs 136 → x ≠ (D i).p := fun {x cs} hx e => by
  have h1 := hr.c; unfold CAt at h1 hx; rw [e, h1] at hx; simp at hx
 have sS : ∀ j, (setD D i ⟨(D i).p, (D i).S, some q, { (D i).d with out := o }⟩ j).S = (D j).S := fun j => by
  by_cases e : j = i
  ·subst e; rw [setD_same]
  ·rw [setD_ne _ _ e]
 refine ⟨fun j hj => ?_, fun j hj x e => ?_, fun a b ha hb hab => by rw [sS, sS]; exact h.dj a b ha hb hab, fun j hj => by rw [sS]; exact h.ge j hj, ?_⟩
 ·by_cases e : j = i
  ·subst e; rw [setD_same]; exact ⟨m, L, hr.litC o q⟩
  ·rw [setD_ne _ _ e]
   exact (h.dr j hj).keep (Nat.le_of_eq hsz.symm) fun b hb => hk b fun e2 => h.dj j i hj hi e b hb (e2 ▸ hr.sp)
 ·by_cases e2 : j = i
  ·subst e2; rw [setD_same] at e; cases e
   exact ⟨hq.keep (hk _ (fne hq)), hz, hw, fun j2 hj2 => by rw [sS]; exact hS j2 hj2⟩
  ·rw [setD_ne _ _ e2] at e
   obtain ⟨h1, h2, h3, h4⟩ := h.fz j hj x e
   exact ⟨h1.keep (hk _ (fne h1)), h2, h3, fun j2 hj2 => by rw [sS]; exact h4 j2 hj2⟩
 ·have := h.ge i hi _ hr.sp
  exact ⟨h.be.os, h.be.tape, h.be.output, by rw [hsz]; exact h.be.size, fun b hb => (hk b (by omega)).trans (h.be.block b hb)⟩
end
end Go.Proofs.YtfogkegmdgbecaaGreatDoor

/- What a drive answers that is nil, or that nobody made. -/
namespace Go.Proofs.YtfogkegmdgbecaaGreatDoor
open Go Go.RowKit

/-- A pointer to no drive, or to one whose first cell is nil. -/
inductive Bare (w : World) : Value → Prop
 | nil : Bare w (.pointer none)
 | zero (p : Nat) (h : w.cell? ⟨p, 0, none⟩ = some (.pointer none)) : Bare w (ptr p)
theorem Bare.below {w w' : World} {v : Value} (h : Bare w v) (hb : Below w.heap.size w w') : Bare w' v := by
 cases h with
 | nil => exact .nil
 | zero p h => exact .zero p ((World.cell?_of_block (hb.block p (cell_lt' (a := ⟨p, 0, none⟩) (by rw [h]; simp)))).trans h)
end Go.Proofs.YtfogkegmdgbecaaGreatDoor

/- A fuse for all drives of a set; none, checkDrives. -/
namespace Go.Proofs.YtfogkegmdgbecaaGreatDoor
open Go Go.RowKit

section
variable {w wr : World} {T : Nat → Prop} {k : Nat} {p : Nat → Nat} {d : Nat → Pd} {f : Fs} {c : Nat}
theorem FA.made (h : FA w wr T k p d f c) {i : Nat} (hi : i < k) : Calls Tryz.prog 88 #[ptr (p i)] wr fun e w' => e = .returned (.bool true) ∧ w' = wr := h.look hi fun _ _ _ _ hd _ => made_any hd
set_option maxRecDepth 100000 in
theorem fuse_neg (h : FA w wr T k p d f c) {v : Value} (hl : LsAt wr T v k p) (hk : k ≤ 1000) : Calls Tryz.prog 29 #[v, .int .i64 (-1)] wr fun e w' => e = .returned (.int .i64 2) ∧ w' = wr := by
 have H := hid (fun i (hi : i < k) => h.made hi)
 have HK := hid hk
 rcases hl.ex with ⟨rfl, rfl⟩ | ⟨h0, b, cc, rfl, _, hb⟩
 ·clear h hl
  go_enter Tryz.func29, Tryz.ntmps29
  go_wp2
  refine wp_loop_rounds 1 ?_
  rw [rounds_succ]
  go_wp2
  go_ret
  exact ⟨rfl, by first | rfl | trivial⟩
 ·have HB := hid hb
  clear h hl hb hk
  go_enter Tryz.func29, Tryz.ntmps29
  go_wp2
  go_loopw [12] (fun x wx => ∃ i : Nat, i ≤ k ∧ x = .int .i64 (i : Int) ∧ wr = wx) (fun x _ => (1000 - intOf x).toNat)
  case atStart => exact ⟨0, by omega, rfl, rfl⟩
  case round =>
   obtain ⟨i, hi, rfl, hw⟩ := hrel
   subst hw
   by_cases hlt : i < k
   ·have hx := HB.out i hlt
    have hm := H.out i hlt
    have hlt' : (i : Int) < (k : Int) := by omega
    have hi2 : (i : Int) < 1000 := by have := HK.out; omega
    go_wp2_with (go_at_call 88; refine hm.mono ?_; rintro e w' ⟨rfl, hw'⟩; have hw2 := hw'.symm; subst hw2)
    go_roundw
    case rel => exact ⟨i + 1, by omega, by go_num, by trivial⟩
    case measure => simp [intOf]; omega
   ·have hlt' : ¬ (i : Int) < (k : Int) := by omega
    go_wp2
    go_ret
    exact ⟨by first | rfl | trivial, by first | rfl | trivial⟩
theorem none_fa (h : FA w wr T k p d f c) {v : Value} (hl : LsAt wr T v k p) (hk : k ≤ 1000) : Calls Tryz.prog 93 #[v] wr fun e w' => e = .returned (.bool false) ∧ w' = wr := by
 have HF := hid (fuse_neg h hl hk)
 obtain ⟨po, cc, rfl⟩ := hl.form
 clear h hl hk
 go_enter Tryz.func93, Tryz.ntmps93
 go_wp2_with (go_at_call 29; refine HF.out.mono ?_; rintro e w' ⟨rfl, hw'⟩; have hw2 := hw'.symm; subst hw2)
 go_ret
 exact ⟨rfl, by first | rfl | trivial⟩
/-- What stands against any call of k drives. -/
def ckD (k : Nat) : Nat := if 1 ≤ k ∧ k ≤ 16 then 0 else 2
theorem checkDrives_fa (h : FA w wr T k p d f c) {v : Value} (hl : LsAt wr T v k p) (hk : k ≤ 1000) : Calls Tryz.prog 71 #[v] wr fun e w' => e = .returned (.int .i64 (ckD k : Int)) ∧ w' = wr := by
 have HF := hid (none_fa h hl hk)
 obtain ⟨po, cc, rfl⟩ := hl.form
 clear h hl
 unfold ckD
 by_cases h1 : 1 ≤ k
 ·by_cases h2 : k ≤ 16
  ·rw [if_pos ⟨h1, h2⟩]
   have h1' : ¬ (k : Int) < 1 := by omega
   have h2' : ¬ 16 < (k : Int) := by omega
   go_enter Tryz.func71, Tryz.ntmps71
   go_wp2_with (go_at_call 93; refine HF.out.mono ?_; rintro e w' ⟨rfl, hw'⟩; have hw2 := hw'.symm; subst hw2)
   go_ret
   exact ⟨rfl, by first | rfl | trivial⟩
  ·rw [if_neg (by omega)]
   have h1' : ¬ (k : Int) < 1 := by omega
   have h2' : 16 < (k : Int) := by omega
   go_enter Tryz.func71, Tryz.ntmps71
   go_wp2_with (go_at_call 93; refine HF.out.mono ?_; rintro e w' ⟨rfl, hw'⟩; have hw2 := hw'.symm; subst hw2)
   go_ret
   exact ⟨rfl, by first | rfl | trivial⟩
 ·rw [if_neg (by omega)]
  have h1' : (k : Int) < 1 := by omega
  go_enter Tryz.func71, Tryz.ntmps71
  go_wp2_with (go_at_call 93; refine HF.out.mono ?_; rintro e w' ⟨rfl, hw'⟩; have hw2 := hw'.symm; subst hw2)
  go_ret
  exact ⟨rfl, by first | rfl | trivial⟩
end
/-! ### A fuse for all -/
def litD (D : Nat → Dv) (Z : Nat → Nat × Bool) (q i : Nat) : Nat → Dv := fun j => if j < i then ⟨(D j).p, (D j).S, some q, (D j).d.lit (fsOf Z (D j))⟩ else D j
theorem litD_zero (D : Nat → Dv) (Z : Nat → Nat × Bool) (q : Nat) : litD D Z q 0 = D := by funext j; simp [litD]
theorem litD_at (D : Nat → Dv) (Z : Nat → Nat × Bool) (q i : Nat) : litD D Z q i i = D i := by simp [litD]
theorem litD_succ (D : Nat → Dv) (Z : Nat → Nat × Bool) (q i : Nat) : setD (litD D Z q i) i ⟨(D i).p, (D i).S, some q, { (D i).d with out := (D i).d.isOut (fsOf Z (D i)) }⟩ = litD D Z q (i + 1) := by
 funext j
 by_cases e : j = i
 ·subst e; rw [setD_same]; simp [litD, Pd.lit]
 ·rw [setD_ne _ _ e]; unfold litD
  by_cases h : j < i
  ·rw [if_pos h, if_pos (by omega)]
  ·rw [if_neg h, if_neg (by omega)]
theorem litD_S (D : Nat → Dv) (Z : Nat → Nat × Bool) (q i j : Nat) : (litD D Z q i j).S = (D j).S := by unfold litD; split <;> rfl
theorem litD_p (D : Nat → Dv) (Z : Nat → Nat × Bool) (q i j : Nat) : (litD D Z q i j).p = (D j).p := by unfold litD; split <;> rfl
theorem Sys.zc {w wr : World} {k : Nat} {D : Nat → Dv} {Z Z2 : Nat → Nat × Bool} (h : Sys w wr k D Z) (hz : ∀ i, i < k → ∀ q, (D i).fu = some q → Z2 q = Z q) : Sys w wr k D Z2 :=
 ⟨h.dr, fun i hi q e => by rw [hz i hi q e]; exact h.fz i hi q e, h.dj, h.ge, h.be⟩
structure LtI (w w0 wr : World) (T : Nat → Prop) (k : Nat) (D : Nat → Dv) (Z Z2 : Nat → Nat × Bool) (q b : Nat) (p : Nat → Nat) (i : Nat) : Prop where
 sy : Sys w wr k (litD D Z q i) Z2
 fq : CAt wr q #[.int .i64 ((Z2 q).1 : Int), .bool (Z2 q).2] 136
 ls : ∀ j, j < k → wr.cell? ⟨b, j, none⟩ = some (ptr (p j))
 on : Only T w0 wr
 kp : KpL 0 w0 wr
section
variable {w w0 wr : World} {T : Nat → Prop} {k : Nat} {D : Nat → Dv} {Z Z2 : Nat → Nat × Bool} {q b : Nat} {p : Nat → Nat} {i : Nat}
theorem LtI.next (h : LtI w w0 wr T k D Z Z2 q b p i) (hi : i < k) (hz : (Z2 q).1 ≤ 9223372036854775807) (hw : w.heap.size ≤ q) (hS : ∀ j, j < k → ¬ (D j).S q) (hT : ∀ x, (D i).S x → T x) (hb : ¬ T b) :
  LtI w w0 ((wr.setCell ⟨(D i).p, 7, none⟩ (.bool ((D i).d.isOut (fsOf Z (D i))))).setCell ⟨(D i).p, 8, none⟩ (ptr q)) T k D Z Z2 q b p (i + 1) := by
 obtain ⟨m, L, hr⟩ := h.sy.dr i hi
 rw [litD_at] at hr
 have hl := h.sy.lit1 hi h.fq hz hw (fun j hj => by rw [litD_S]; exact hS j hj) ((D i).d.isOut (fsOf Z (D i)))
 rw [litD_at, litD_succ] at hl
 have hk : ∀ x, x ≠ (D i).p → ((wr.setCell ⟨(D i).p, 7, none⟩ (.bool ((D i).d.isOut (fsOf Z (D i))))).setCell ⟨(D i).p, 8, none⟩ (ptr q)).heap[x]? = wr.heap[x]? := fun b hb => (heap_setCell_ne _ _ _ _ hb).trans (heap_setCell_ne _ _ _ _ hb)
 have hsz : ((wr.setCell ⟨(D i).p, 7, none⟩ (.bool ((D i).d.isOut (fsOf Z (D i))))).setCell ⟨(D i).p, 8, none⟩ (ptr q)).heap.size = wr.heap.size := (setCell_size _ _ _).trans (setCell_size _ _ _)
 have fne : q ≠ (D i).p := fun e => by have h1 := hr.c; have hx := h.fq; unfold CAt at h1 hx; rw [e, h1] at hx; simp at hx
 have hTp : T (D i).p := hT _ hr.sp
 have o1 : Only T wr ((wr.setCell ⟨(D i).p, 7, none⟩ (.bool ((D i).d.isOut (fsOf Z (D i))))).setCell ⟨(D i).p, 8, none⟩ (ptr q)) := (Only.set (S := T) wr ⟨(D i).p, 7, none⟩ _ hTp).then (Only.set (S := T) _ ⟨(D i).p, 8, none⟩ _ hTp) (fun _ _ h => h)
 refine ⟨hl, h.fq.keep (hk _ fne), fun j hj => (World.cell?_of_block (a := ⟨b, j, none⟩) (hk b fun e => hb (e ▸ hTp))).trans (h.ls j hj), h.on.then o1 (fun _ _ h => h), h.kp.trans ⟨Nat.le_of_eq hsz.symm, fun r o _ hr2 hb2 => (hk r fun e => ?_).trans hr2⟩⟩
 subst e
 exact hr.c.nbk rfl ⟨o, hr2, hb2⟩
end
section
variable {w w1 : World} {T : Nat → Prop} {k : Nat} {p : Nat → Nat} {d : Nat → Pd} {f : Fs}
set_option maxHeartbeats 1000000 in
set_option maxRecDepth 100000 in
theorem fuse_fa (h : FA w w1 T k p d f 0) {v : Value} (hl : LsAt w1 T v k p) (hk : k ≤ 64) (n : Nat) (hn : n ≤ 9223372036854775807) :
  Calls Tryz.prog 29 #[v, .int .i64 (n : Int)] w1 fun e w' => e = .returned (.int .i64 0) ∧ FStep w w1 T k p (fun i => (d i).lit f) (some (n, false)) 0 w' := by
 have H := hid (fun i (hi : i < k) => h.made hi)
 have HK := hid hk
 have hn0 : ¬ (n : Int) < 0 := by omega
 have hk0 : ¬ 64 < (k : Int) := by omega
 have HN := hid hn
 obtain ⟨D, Z, fu, hs, hdd, hf, hq⟩ := h.ex
 have hfs : ∀ i, i < k → fsOf Z (D i) = f := fun i hi => by unfold fsOf; rw [(hdd i hi).2.1, ← hf]; simp
 obtain ⟨Z2, hZ2⟩ : ∃ Z2 : Nat → Nat × Bool, (fun x => if x = w1.heap.size then (n, false) else Z x) = Z2 := ⟨_, rfl⟩
 have hz : Z2 w1.heap.size = (n, false) := by rw [← hZ2]; simp
 have hold : ∀ i, i < k → ∀ x, (D i).fu = some x → Z2 x = Z x := fun i hi x e => by
  have := (hs.fz i hi x e).1.lt; rw [← hZ2]; simp; omega
 have s0 : Sys w (w1.alloc (.cells #[.int .i64 (n : Int), .bool false] 136)) k D Z2 := (hs.below ((Below.refl _ _).alloc (Nat.le_refl _) _)).zc hold
 have fin : ∀ W, (∃ D2, D2 = litD D Z w1.heap.size k ∧ Sys w W k D2 Z2) → Only T w1 W → KpL 0 w1 W → CAt W w1.heap.size #[.int .i64 (n : Int), .bool false] 136 → FStep w w1 T k p (fun i => (d i).lit f) (some (n, false)) 0 W := fun W ⟨D2, e2, hs2⟩ ho hkp hcq => by
  subst e2
  refine ⟨fun x => T x ∨ x = w1.heap.size, ⟨fun b hb => Or.inl hb, fun b hb => hb.elim Or.inl (fun e => Or.inr (by omega))⟩, ⟨⟨_, Z2, some w1.heap.size, hs2, fun i hi => ?_, by simp [hz], fun x e => by cases e; exact Or.inr rfl⟩, fun x hx => ?_, fun x hx => ?_, hs2.be⟩, ho, hkp⟩
  ·obtain ⟨g1, g2, g3, g4⟩ := hdd i hi
   refine ⟨by rw [litD_p]; exact g1, by simp [litD, hi], ?_, fun x hx => by rw [litD_S] at hx; exact Or.inl (g4 x hx)⟩
   simp [litD, hi, hfs i hi, g3]
  ·exact hx.elim (fun h' => Nat.lt_of_lt_of_le (h.lt x h') ho.size) (fun e => by subst e; exact hcq.lt)
  ·exact hx.elim (h.ge x) (fun e => by subst e; exact h.be.size)
 have FIN := hid fin
 have CQ := hid (CAt.made w1 #[.int .i64 (n : Int), .bool false] 136)
 have hkp0 : KpL 0 w1 (w1.alloc (.cells #[.int .i64 (n : Int), .bool false] 136)) := KpL.below ((Below.refl _ _).alloc (Nat.le_refl _) _)
 rcases hl.ex with ⟨rfl, rfl⟩ | ⟨h0, b, cc, rfl, hTb, hb⟩
 ·have FZ := hid (FIN.out _ ⟨_, (litD_zero D Z w1.heap.size).symm, s0⟩ (Only.alloc _ _) hkp0 CQ.out)
  clear h hl fin s0 hkp0 hs hdd hfs hold
  go_enter Tryz.func29, Tryz.ntmps29
  go_wp2
  refine wp_loop_rounds 1 ?_
  rw [rounds_succ]
  go_wp2
  refine wp_loop_rounds 1 ?_
  rw [rounds_succ]
  go_wp2
  go_ret
  exact ⟨rfl, FZ.out⟩
 ·have HB := hid hb
  have hbl := cell_lt2 (hb 0 h0)
  have L0 : Hid (LtI w w1 (w1.alloc (.cells #[.int .i64 (n : Int), .bool false] 136)) T k D Z Z2 w1.heap.size b p 0) :=
   ⟨by rw [litD_zero]; exact s0, by rw [hz]; exact CQ.out, fun j hj => (World.cell?_of_block (a := ⟨b, j, none⟩) (heap_alloc_old w1 _ hbl)).trans (hb j hj), Only.alloc _ _, hkp0⟩
  have HZ := hid hz
  have HD := hid hdd
  have HS := hid hs
  have HF := hid hfs
  have HO := hid hold
  have HT := hid hTb
  have HG := hid h.be.size
  have HSq : Hid (∀ j, j < k → ¬ (D j).S w1.heap.size) := fun j hj hx => by have := hs.lt hj _ hx; omega
  clear h hl hb hk fin s0 hkp0 hz hdd hs hfs hold hZ2 hTb hf hq
  go_enter Tryz.func29, Tryz.ntmps29
  go_wp2
  go_loopw [12] (fun x wx => ∃ i : Nat, i ≤ k ∧ x = .int .i64 (i : Int) ∧ w1 = wx) (fun x _ => (1000 - intOf x).toNat)
  case atStart => exact ⟨0, by omega, rfl, rfl⟩
  case round =>
   obtain ⟨i, hi, rfl, hw⟩ := hrel
   subst hw
   by_cases hlt : i < k
   ·have hx := HB.out i hlt
    have hm := H.out i hlt
    have hlt' : (i : Int) < (k : Int) := by omega
    have hi2 : (i : Int) < 1000 := by have := HK.out; omega
    go_wp2_with (go_at_call 88; refine hm.mono ?_; rintro e w' ⟨rfl, hw'⟩; have hw2 := hw'.symm; subst hw2)
    go_roundw
    case rel => exact ⟨i + 1, by omega, by go_num, by trivial⟩
    case measure => simp [intOf]; omega
   ·have hlt' : ¬ (i : Int) < (k : Int) := by omega
    go_wp2
    clear hlt'
    generalize w1.alloc (.cells #[.int .i64 (n : Int), .bool false] 136) = W0 at *
    go_loopw [32] (fun x wx => ∃ j : Nat, j ≤ k ∧ x = .int .i64 (j : Int) ∧ LtI w w1 wx T k D Z Z2 w1.heap.size b p j) (fun x _ => (1000 - intOf x).toNat)
    case atStart => exact ⟨0, by omega, rfl, L0.out⟩
    case round =>
     obtain ⟨j, hj, rfl, hL⟩ := hrel
     have HL := hid hL
     clear hL
     by_cases hlj : j < k
     ·have hx := HL.out.ls j hlj
      obtain ⟨m, L, hr⟩ := HL.out.sy.dr j hlj
      have hu := HL.out.sy.fu hlj
      rw [litD_at] at hr hu
      have ef : fsOf Z2 (D j) = fsOf Z (D j) := by
       unfold fsOf
       cases e : (D j).fu with
       | none => rfl
       | some x => simp [HO.out j hlj x e]
      rw [ef] at hu
      have hpj : (D j).p = p j := (HD.out j hlj).1
      have HN1 := hid (HL.out.next hlj (by rw [HZ.out]; exact HN.out) HG.out HSq.out (HD.out j hlj).2.2.2 HT.out)
      have HIO := hid (isOut_any hr hu)
      have a7 : wr.cell? ⟨(D j).p, 7, none⟩ = some (.bool (D j).d.out) := hr.c.cell 7
      have a8 : wr.cell? ⟨(D j).p, 8, none⟩ = some (fuV (D j).fu) := hr.c.cell 8
      have y7 : wr.frozen? ⟨(D j).p, 7, none⟩ = false := hr.c.free 7
      have y8 : wr.frozen? ⟨(D j).p, 8, none⟩ = false := hr.c.free 8
      rw [hpj] at a7 a8 y7 y8 HIO HN1
      generalize (D j).d.isOut (fsOf Z (D j)) = o at HIO HN1
      generalize fuV (D j).fu = fv at a8
      generalize (D j).d.out = ov at a7
      generalize hpp : p j = pj at *
      clear hr hu ef hpj
      have hlj' : (j : Int) < (k : Int) := by omega
      have hj2 : (j : Int) < 1000 := by have := HK.out; omega
      go_wp2_with (go_at_call 91; refine HIO.out.mono ?_; rintro e w' ⟨rfl, hw'⟩; have hw2 := hw'.symm; subst hw2)
      go_roundw
      case rel => exact ⟨j + 1, by omega, by go_num, HN1.out⟩
      case measure => simp [intOf]; omega
     ·have hlj' : ¬ (j : Int) < (k : Int) := by omega
      have hjk : j = k := by omega
      have FZ := hid (FIN.out wr ⟨_, rfl, hjk ▸ HL.out.sy⟩ HL.out.on HL.out.kp (by have := HL.out.fq; rw [HZ.out] at this; exact this))
      go_wp2
      go_ret
      exact ⟨by first | rfl | trivial, FZ.out⟩
end
end Go.Proofs.YtfogkegmdgbecaaGreatDoor
