/- Texts laid into one, cut to what is needed: the remark ahead of each part says what is proved there. -/
import Derived.Test.YtfogkegmdgbecaaGreatDoorPaf
import Derived.Laws.BitsAllLaws
import Derived.Laws.Closers25b
import Derived.Stop.Asserts
import Derived.RowKitTokens
import Derived.LaidEql
import Derived.Test.YtfogkegmdgbecaaGreatDoorRows
import Derived.LaidHandle
import Derived.LaidLaws
import Derived.MakeChecks
/- Contract of Fuse of package drive, of two drives and of one. -/
namespace Go.Proofs.YtfogkegmdgbecaaGreatDoor
open Go Go.RowKit

def Pd.lit (d : Pd) (f : Fs) : Pd := { d with out := d.isOut f }
/-- What a fuse of two drives leaves. -/
def Fu2At (w : World) (S1 S2 : Nat → Prop) (p1 p2 : Nat) (d1 d2 : Pd) (n : Nat) (e : Ending) (w' : World) : Prop :=
 e = .returned (.int .i64 0) ∧ ∃ q, w.heap.size ≤ q ∧ DrAt w' S1 p1 (some q) d1 ∧ DrAt w' S2 p2 (some q) d2 ∧ CAt w' q #[.int .i64 (n : Int), .bool false] 136 ∧ Only (fun b => b = p1 ∨ b = p2) w w'
section
variable {w : World} {S1 S2 : Nat → Prop} {p1 m1 p2 m2 : Nat} {fu1 fu2 : Option Nat} {d1 d2 : Pd} {L1 L2 : List (Nm × Ent)}
/-- A fuse is no drive. -/
theorem FuAt.ne_drive {f : Fs} (hf : FuAt w S1 fu1 f) {p : Nat} {cs : Array Value} (hc : CAt w p cs 92) : ∀ q, fu1 = some q → q ≠ p := by
 intro q hq e
 match fu1, f, hf with
 | some q', some (n, g), hf =>
  cases hq
  have h1 : w.heap[q]? = _ := hf.1
  have h2 : w.heap[p]? = _ := hc
  rw [e, h2] at h1
  have ht := (Obj.cells.inj (Option.some.inj h1)).2.1
  revert ht; decide
theorem DrC.litC (h : DrC w S1 p1 m1 fu1 d1 L1) (o : Bool) (q : Nat) : DrC ((w.setCell ⟨p1, 7, none⟩ (.bool o)).setCell ⟨p1, 8, none⟩ (ptr q)) S1 p1 m1 (some q) { d1 with out := o } L1 :=
 (h.setC 7 (.bool o) (d2 := { d1 with out := o }) (fu2 := fu1) rfl rfl rfl).setC 8 (ptr q) (d2 := { d1 with out := o }) (fu2 := some q) rfl rfl rfl
set_option maxHeartbeats 1000000 in
set_option maxRecDepth 100000 in
theorem fuse2_any (h1 : DrC w S1 p1 m1 fu1 d1 L1) {f1 : Fs} (hf1 : FuAt w S1 fu1 f1) (h2 : DrC w S2 p2 m2 fu2 d2 L2) {f2 : Fs} (hf2 : FuAt w S2 fu2 f2) (hdj : ∀ b, S1 b → ¬ S2 b) (bl c : Nat) (hc : CAt w bl #[ptr p1, ptr p2] 38) (n : Nat) (hn : n ≤ 9223372036854775807) :
  Calls Tryz.prog 29 #[.slice (some ⟨bl, 0, none⟩) 2 c, .int .i64 (n : Int)] w (Fu2At w S1 S2 p1 p2 (d1.lit f1) (d2.lit f2) n) := by
 have H1 := hid h1
 have H2 := hid h2
 have HF1 := hid hf1
 have HF2 := hid hf2
 have HDJ := hid hdj
 have HM1 := hid (made_any h1)
 have HM2 := hid (made_any h2)
 have HBL := hid hc
 have b0 : w.cell? ⟨bl, 0, none⟩ = some (ptr p1) := hc.cell 0
 have b1 : w.cell? ⟨bl, 1, none⟩ = some (ptr p2) := hc.cell 1
 have hbl := hc.lt
 have hp1 := h1.c.lt
 have hp2 := h2.c.lt
 have hne : p1 ≠ p2 := fun e => hdj p1 h1.sp (e ▸ h2.sp)
 have hb1 := (h1.box_ne hc (by decide)).1
 have hb2 := (h2.box_ne hc (by decide)).1
 have HNE := hid (And.intro hne (And.intro hb1 hb2))
 have hn0 : ¬ (n : Int) < 0 := by omega
 have t1 : True := trivial
 have t2 : True := trivial
 clear h1 h2 hf1 hf2 hdj hc hne hb1 hb2
 go_enter Tryz.func29, Tryz.ntmps29
 go_wp2
 refine wp_loop_rounds 3 ?_
 rw [rounds_succ]
 go_wp2_with (go_at_call 88; refine HM1.out.mono ?_; rintro e w' ⟨rfl, hw'⟩; have hw2 := hw'.symm; subst hw2)
 rw [rounds_succ]
 go_wp2_with (go_at_call 88; refine HM2.out.mono ?_; rintro e w' ⟨rfl, hw'⟩; have hw2 := hw'.symm; subst hw2)
 rw [rounds_succ]
 go_wp2
 have HQ := hid (CAt.made w #[.int .i64 (n : Int), .bool false] 136)
 have HD1 := hid (H1.out.alloc (.cells #[.int .i64 (n : Int), .bool false] 136))
 have HD2 := hid (H2.out.alloc (.cells #[.int .i64 (n : Int), .bool false] 136))
 have HG1 := hid (HF1.out.alloc (.cells #[.int .i64 (n : Int), .bool false] 136))
 have HG2 := hid (HF2.out.alloc (.cells #[.int .i64 (n : Int), .bool false] 136))
 have HB := hid (HBL.out.old (.cells #[.int .i64 (n : Int), .bool false] 136))
 have HO := hid (Only.alloc (S := fun b => b = p1 ∨ b = p2) w (.cells #[.int .i64 (n : Int), .bool false] 136))
 clear HBL b0 b1
 generalize w.alloc (.cells #[.int .i64 (n : Int), .bool false] 136) = w0 at *
 have k0 : w0.cell? ⟨bl, 0, none⟩ = some (ptr p1) := HB.out.cell 0
 have a7 : w0.cell? ⟨p1, 7, none⟩ = some (.bool d1.out) := HD1.out.c.cell 7
 have a8 : w0.cell? ⟨p1, 8, none⟩ = some (fuV fu1) := HD1.out.c.cell 8
 have y7 : w0.frozen? ⟨p1, 7, none⟩ = false := HD1.out.c.free 7
 have y8 : w0.frozen? ⟨p1, 8, none⟩ = false := HD1.out.c.free 8
 have HIO1 := hid (isOut_any HD1.out HG1.out)
 refine wp_loop_rounds 3 ?_
 rw [rounds_succ]
 go_wp2_with (go_at_call 91; refine HIO1.out.mono ?_; rintro e w' ⟨rfl, hw'⟩; have hw2 := hw'.symm; subst hw2)
 have hk1 : ∀ b, b ≠ p1 → ((w0.setCell ⟨p1, 7, none⟩ (.bool (d1.isOut f1))).setCell ⟨p1, 8, none⟩ (ptr w.heap.size)).heap[b]? = w0.heap[b]? := fun b hb => (heap_setCell_ne _ _ _ _ hb).trans (heap_setCell_ne _ _ _ _ hb)
 have hz1 : ((w0.setCell ⟨p1, 7, none⟩ (.bool (d1.isOut f1))).setCell ⟨p1, 8, none⟩ (ptr w.heap.size)).heap.size = w0.heap.size := (setCell_size _ _ _).trans (setCell_size _ _ _)
 have HE1 := hid (HD1.out.litC (d1.isOut f1) w.heap.size)
 have HE2 := hid (HD2.out.keep (w' := (w0.setCell ⟨p1, 7, none⟩ (.bool (d1.isOut f1))).setCell ⟨p1, 8, none⟩ (ptr w.heap.size)) (Nat.le_of_eq hz1.symm) (fun b hb => hk1 b (fun e => HDJ.out p1 H1.out.sp (e ▸ hb))))
 have HH2 := hid (HG2.out.keep (w' := (w0.setCell ⟨p1, 7, none⟩ (.bool (d1.isOut f1))).setCell ⟨p1, 8, none⟩ (ptr w.heap.size)) (fun q hq => hk1 q (HG2.out.ne_drive HD1.out.c q hq)))
 have HQ1 := hid (HQ.out.keep (hk1 _ (by omega)))
 have HB1 := hid (HB.out.keep (hk1 _ HNE.out.2.1))
 have HO1 := hid ((HO.out.then (Only.set (S := fun b => b = p1 ∨ b = p2) w0 ⟨p1, 7, none⟩ (.bool (d1.isOut f1)) (Or.inl rfl)) (fun _ _ h => h)).then (Only.set (S := fun b => b = p1 ∨ b = p2) _ ⟨p1, 8, none⟩ (ptr w.heap.size) (Or.inl rfl)) (fun _ _ h => h))
 clear hk1 hz1 k0 a7 a8 y7 y8
 generalize ((w0.setCell ⟨p1, 7, none⟩ (.bool (d1.isOut f1))).setCell ⟨p1, 8, none⟩ (ptr w.heap.size)) = w1 at *
 have k1 : w1.cell? ⟨bl, 1, none⟩ = some (ptr p2) := HB1.out.cell 1
 have a7 : w1.cell? ⟨p2, 7, none⟩ = some (.bool d2.out) := HE2.out.c.cell 7
 have a8 : w1.cell? ⟨p2, 8, none⟩ = some (fuV fu2) := HE2.out.c.cell 8
 have y7 : w1.frozen? ⟨p2, 7, none⟩ = false := HE2.out.c.free 7
 have y8 : w1.frozen? ⟨p2, 8, none⟩ = false := HE2.out.c.free 8
 have HIO2 := hid (isOut_any HE2.out HH2.out)
 rw [rounds_succ]
 go_wp2_with (go_at_call 91; refine HIO2.out.mono ?_; rintro e w' ⟨rfl, hw'⟩; have hw2 := hw'.symm; subst hw2)
 have hk2 : ∀ b, b ≠ p2 → ((w1.setCell ⟨p2, 7, none⟩ (.bool (d2.isOut f2))).setCell ⟨p2, 8, none⟩ (ptr w.heap.size)).heap[b]? = w1.heap[b]? := fun b hb => (heap_setCell_ne _ _ _ _ hb).trans (heap_setCell_ne _ _ _ _ hb)
 have hz2 : ((w1.setCell ⟨p2, 7, none⟩ (.bool (d2.isOut f2))).setCell ⟨p2, 8, none⟩ (ptr w.heap.size)).heap.size = w1.heap.size := (setCell_size _ _ _).trans (setCell_size _ _ _)
 have HZ2 := hid (HE2.out.litC (d2.isOut f2) w.heap.size)
 have HZ1 := hid (HE1.out.keep (w' := (w1.setCell ⟨p2, 7, none⟩ (.bool (d2.isOut f2))).setCell ⟨p2, 8, none⟩ (ptr w.heap.size)) (Nat.le_of_eq hz2.symm) (fun b hb => hk2 b (fun e => HDJ.out b hb (e ▸ H2.out.sp))))
 have HQ2 := hid (HQ1.out.keep (hk2 _ (by omega)))
 have HO2 := hid ((HO1.out.then (Only.set (S := fun b => b = p1 ∨ b = p2) w1 ⟨p2, 7, none⟩ (.bool (d2.isOut f2)) (Or.inr rfl)) (fun _ _ h => h)).then (Only.set (S := fun b => b = p1 ∨ b = p2) _ ⟨p2, 8, none⟩ (ptr w.heap.size) (Or.inr rfl)) (fun _ _ h => h))
 clear hk2 hz2 k1 a7 a8 y7 y8
 generalize ((w1.setCell ⟨p2, 7, none⟩ (.bool (d2.isOut f2))).setCell ⟨p2, 8, none⟩ (ptr w.heap.size)) = w2 at *
 rw [rounds_succ]
 go_wp2
 go_ret
 exact ⟨rfl, w.heap.size, Nat.le_refl _, ⟨m1, L1, HZ1.out⟩, ⟨m2, L2, HZ2.out⟩, HQ2.out, HO2.out⟩
end
section
variable {w wr : World} {k : Nat} {D : Nat → Dv} {Z : Nat → Nat × Bool}
/-- Two drives have a fuse together. -/
theorem Sys.lit2 (h : Sys w wr k D Z) {i j : Nat} (hi : i < k) (hj : j < k) (hij : i ≠ j) {n : Nat} (hn : n ≤ 9223372036854775807) {w' : World} {q : Nat} {d1 d2 : Pd} (hq : wr.heap.size ≤ q) (h1 : DrAt w' (D i).S (D i).p (some q) d1) (h2 : DrAt w' (D j).S (D j).p (some q) d2) (hc : CAt w' q #[.int .i64 (n : Int), .bool false] 136)
  (ho : Only (fun b => b = (D i).p ∨ b = (D j).p) wr w') : Sys w w' k (setD (setD D i ⟨(D i).p, (D i).S, some q, d1⟩) j ⟨(D j).p, (D j).S, some q, d2⟩) (fun b => if b = q then (n, false) else Z b) := by
 have hS : ∀ a, (setD (setD D i ⟨(D i).p, (D i).S, some q, d1⟩) j ⟨(D j).p, (D j).S, some q, d2⟩ a).S = (D a).S := fun a => by
  by_cases e1 : a = j
  ·subst e1; rw [setD_same]
  ·rw [setD_ne _ _ e1]
   by_cases e2 : a = i
   ·subst e2; rw [setD_same]
   ·rw [setD_ne _ _ e2]
 have hSp : ∀ a, a < k → (D a).S (D a).p := fun a ha => by obtain ⟨m, L, hd⟩ := h.dr a ha; exact hd.sp
 have hnp : ∀ a b, a < k → b = (D i).p ∨ b = (D j).p → a ≠ i → a ≠ j → ¬ (D a).S b := fun a b ha e h1 h2 hs => by
  rcases e with rfl | rfl
  ·exact h.dj a i ha hi h1 _ hs (hSp i hi)
  ·exact h.dj a j ha hj h2 _ hs (hSp j hj)
 have hfp : ∀ a, a < k → ∀ q2, (D a).fu = some q2 → q2 ≠ (D i).p ∧ q2 ≠ (D j).p := fun a ha q2 e => ⟨fun e2 => (h.fz a ha q2 e).2.2.2 i hi (e2 ▸ hSp i hi), fun e2 => (h.fz a ha q2 e).2.2.2 j hj (e2 ▸ hSp j hj)⟩
 have hold : ∀ a, a < k → ∀ q2, (D a).fu = some q2 → CAt w' q2 #[.int .i64 (((if q2 = q then (n, false) else Z q2 : Nat × Bool)).1 : Int), .bool (if q2 = q then (n, false) else Z q2 : Nat × Bool).2] 136 ∧ (if q2 = q then (n, false) else Z q2 : Nat × Bool).1 ≤ 9223372036854775807 ∧ w.heap.size ≤ q2 ∧ ∀ b, b < k → ¬ (D b).S q2 := fun a ha q2 e => by
  obtain ⟨g1, g2, g3, g4⟩ := h.fz a ha q2 e
  have hl := g1.lt
  rw [if_neg (by omega)]
  exact ⟨g1.keep (ho.block q2 hl (fun e2 => e2.elim (hfp a ha q2 e).1 (hfp a ha q2 e).2)), g2, g3, g4⟩
 have hnew : CAt w' q #[.int .i64 (((if q = q then (n, false) else Z q : Nat × Bool)).1 : Int), .bool (if q = q then (n, false) else Z q : Nat × Bool).2] 136 ∧ (if q = q then (n, false) else Z q : Nat × Bool).1 ≤ 9223372036854775807 ∧ w.heap.size ≤ q ∧ ∀ b, b < k → ¬ (D b).S q := by
  rw [if_pos rfl]
  exact ⟨hc, hn, Nat.le_trans h.be.size hq, fun b hb hs => by have := h.lt hb q hs; omega⟩
 refine ⟨fun a ha => ?_, fun a ha q2 e => ?_, fun a b ha hb hab c hc1 hc2 => ?_, fun a ha b hb => ?_, ?_⟩
 ·by_cases e1 : a = j
  ·subst e1; rw [setD_same]; exact h2
  ·rw [setD_ne _ _ e1]
   by_cases e2 : a = i
   ·subst e2; rw [setD_same]; exact h1
   ·rw [setD_ne _ _ e2]
    exact (h.dr a ha).keep ho.size fun b hb => ho.block b (h.lt ha b hb) fun e => hnp a b ha e e2 e1 hb
 ·have hx : (∀ b, b < k → ¬ (setD (setD D i ⟨(D i).p, (D i).S, some q, d1⟩) j ⟨(D j).p, (D j).S, some q, d2⟩ b).S q2) ↔ ∀ b, b < k → ¬ (D b).S q2 := by simp only [hS]
  rw [hx]
  by_cases e1 : a = j
  ·subst e1; rw [setD_same] at e; cases e; exact hnew
  ·rw [setD_ne _ _ e1] at e
   by_cases e2 : a = i
   ·subst e2; rw [setD_same] at e; cases e; exact hnew
   ·rw [setD_ne _ _ e2] at e; exact hold a ha q2 e
 ·rw [hS] at hc1 hc2; exact h.dj a b ha hb hab c hc1 hc2
 ·rw [hS] at hb; exact h.ge a ha b hb
 ·exact ⟨ho.os.trans h.be.os, ho.tape.trans h.be.tape, ho.output.trans h.be.output, Nat.le_trans h.be.size ho.size, fun b hb => (ho.block b (Nat.lt_of_lt_of_le hb h.be.size) (fun e => by
    rcases e with rfl | rfl
    ·have := h.ge i hi _ (hSp i hi); omega
    ·have := h.ge j hj _ (hSp j hj); omega)).trans (h.be.block b hb)⟩
end
end Go.Proofs.YtfogkegmdgbecaaGreatDoor

/- Contract of Turn of package drive. -/
namespace Go.Proofs.YtfogkegmdgbecaaGreatDoor
open Go Go.RowKit

/-- A byte turned. -/
def turnB (bs : List Nat) (i : Nat) (mask : Nat) : List Nat := bs.set i (bs.getD i 0 ^^^ mask)
def gmod (F : List (Nm × Fi)) (s : Nm) (i mask : Nat) : List (Nm × Fi) := F.map fun p => if p.1 = s then (p.1, (turnB p.2.1 i mask, p.2.2)) else p
def Pd.turn (d : Pd) (s : Nm) (a : Int) (mask : Nat) : Nat × Pd :=
 match gget d.F s with
 | none => (6, d)
 | some x => if a < 0 ∨ (x.1.length : Int) ≤ a then (5, d) else (0, { d with F := gmod d.F s a.toNat mask })
def TurnAt (w : World) (S : Nat → Prop) (p : Nat) (fu : Option Nat) (r : Nat × Pd) (e : Ending) (w' : World) : Prop :=
 e = .returned (.int .i64 (r.1 : Int)) ∧ DrAt w' S p fu r.2 ∧ Only S w w'
def emod (s : Nm) (i mask : Nat) (p : Nm × Ent) : Nm × Ent := if p.1 = s then (p.1, ⟨p.2.v, turnB p.2.b i mask, p.2.l⟩) else p
section
variable {w : World} {S : Nat → Prop} {p m : Nat} {fu : Option Nat} {d : Pd} {L : List (Nm × Ent)}
theorem turnB_len (bs : List Nat) (i mask : Nat) : (turnB bs i mask).length = bs.length := by simp [turnB]
theorem emod_fst (s : Nm) (i mask : Nat) (q : Nm × Ent) : (emod s i mask q).1 = q.1 := by unfold emod; split <;> rfl
theorem emod_v (s : Nm) (i mask : Nat) (q : Nm × Ent) : (emod s i mask q).2.v = q.2.v := by unfold emod; split <;> rfl
theorem emod_l (s : Nm) (i mask : Nat) (q : Nm × Ent) : (emod s i mask q).2.l = q.2.l := by unfold emod; split <;> rfl
theorem emod_enc (s : Nm) (i mask : Nat) (L : List (Nm × Ent)) : mapD (L.map (emod s i mask)) = mapD L := by
 unfold mapD; rw [List.map_map]; congr 1
 refine List.map_congr_left fun q _ => ?_
 unfold Function.comp encE; rw [emod_fst, emod_v, emod_l]
theorem gmod_used (F : List (Nm × Fi)) (s : Nm) (i mask : Nat) : usedOf (gmod F s i mask) = usedOf F := by
 unfold usedOf gmod; rw [List.map_map]; congr 1
 refine List.map_congr_left fun q _ => ?_
 by_cases hq : q.1 = s <;> simp [hq, turnB_len]
theorem xor_lt {a b : Nat} (ha : a < 256) (hb : b < 256) : a ^^^ b < 256 := Nat.xor_lt_two_pow (n := 8) ha hb
/-- One byte of a file's row is written. -/
theorem DrC.turned1 (h : DrC w S p m fu d L) {s : Nm} {e : Ent} (hg : gget L s = some e) {g c : Nat} (hv : e.v = .slice (some ⟨g, 0, none⟩) e.b.length c) (i mask : Nat) (_hi : i < e.b.length) (hm : mask < 256) :
  DrC (w.setCell ⟨g, i, none⟩ (u8 (e.b.getD i 0 ^^^ mask))) S p m fu { d with F := gmod d.F s i mask } (L.map (emod s i mask)) := by
 have hmem := gget_mem hg
 have hgb : e.v.ownBlock = some g := by rw [hv]; rfl
 have hne := h.file_ne hmem hgb
 have hother : ∀ x ∈ L, x.1 ≠ s → x.2.v.ownBlock ≠ some g := fun x hx hxs hb => by
  have := h.apOf hg x (mem_del.2 ⟨hx, hxs⟩)
  rcases this with h1 | h1
  ·rw [h1] at hb; cases hb
  ·exact h1 (by rw [hb, hgb])
 have hk : ∀ b, b ≠ g → (w.setCell ⟨g, i, none⟩ (u8 (e.b.getD i 0 ^^^ mask))).heap[b]? = w.heap[b]? := fun b hb => heap_setCell_ne _ _ _ _ hb
 refine { c := ?_, mp := ?_, fs := ?_, ow := fun x hx => ?_, ap := ?_, by8 := fun x hx y hy => ?_, so := ?_, nm := fun x hx => ?_, sp := h.sp, sm := h.sm, sf := fun x hx b hb => ?_, lt := fun b hb => by rw [setCell_size]; exact h.lt b hb, us := ?_, sz := h.sz }
 ·have := h.c.keep (hk p hne.1.symm)
  have e1 : dcells p m fu { d with F := gmod d.F s i mask } (usedOf (gmod d.F s i mask) : Int) = dcells p m fu d (usedOf d.F : Int) := by rw [gmod_used]; rfl
  rw [e1]; exact this
 ·rw [emod_enc, List.length_map]; exact ownsMap_keep h.mp (hk m hne.2.symm)
 ·show gmod d.F s i mask = _
  rw [h.fs]; unfold gmod gmap; rw [List.map_map, List.map_map]
  refine List.map_congr_left fun q _ => ?_
  by_cases hq : q.1 = s <;> simp [emod, hq, Ent.fi]
 ·obtain ⟨y, hy, rfl⟩ := List.mem_map.1 hx
  by_cases hys : y.1 = s
  ·have hye : y.2 = e := by
     have := pw_key h.so.apart hy hmem hys
     rw [this]
   have e1 : (emod s i mask y).2 = ⟨y.2.v, turnB y.2.b i mask, y.2.l⟩ := by unfold emod; rw [if_pos hys]
   rw [e1, hye]
   have ho := h.ow y hy
   rw [hye] at ho
   simp only [turnB_len]
   rw [hv] at ho ⊢
   obtain ⟨h1, h2⟩ := ho
   refine ⟨by simp [turnB], ?_⟩
   rcases h2 with ⟨h3, _⟩ | ⟨g', cap, cur, h3, h4, h5, h6, h7, h8, h9⟩
   ·cases h3
   ·cases h3
    have hca : CAt w g cur 5 := h5
    refine Or.inr ⟨g, c, cur.setIfInBounds i (u8 (e.b.getD i 0 ^^^ mask)), rfl, h4, hca.set i _, h6, h7, by simpa using h8, ?_⟩
    rw [Array.toList_setIfInBounds, List.take_set, h9]
    unfold turnB
    rw [List.map_set]
  ·have e1 : emod s i mask y = y := by unfold emod; rw [if_neg hys]
   rw [e1]
   exact ownsRow_keep (h.ow y hy) fun b hb => hk b fun e => hother y hy hys (by rw [hb, e])
 ·refine List.pairwise_map.2 (h.ap.imp fun {a b} hab => ?_)
  rw [emod_v, emod_v]; exact hab
 ·obtain ⟨z, hz, rfl⟩ := List.mem_map.1 hx
  unfold emod at hy
  split at hy
  ·simp only [turnB] at hy
   rcases List.mem_or_eq_of_mem_set hy with h1 | h1
   ·exact h.by8 z hz y h1
   ·rw [h1]
    refine xor_lt ?_ hm
    by_cases hl : i < z.2.b.length
    ·rw [getD_in _ _ _ hl]; exact h.by8 z hz _ (List.getElem_mem hl)
    ·have : z.2.b.getD i 0 = 0 := by simp [List.getD, List.getElem?_eq_none (Nat.le_of_not_lt hl)]
     rw [this]; omega
  ·exact h.by8 z hz y hy
 ·refine List.pairwise_map.2 (h.so.imp fun {a b} hab => ?_)
  rw [emod_fst, emod_fst]; exact hab
 ·obtain ⟨z, hz, rfl⟩ := List.mem_map.1 hx
  rw [emod_fst]; exact h.nm z hz
 ·obtain ⟨z, hz, rfl⟩ := List.mem_map.1 hx
  rw [emod_v] at hb; exact h.sf z hz b hb
 ·show usedOf (gmod d.F s i mask) ≤ d.size
  rw [gmod_used]; exact h.us
set_option maxHeartbeats 1000000 in
set_option maxRecDepth 100000 in
theorem turn_any (h : DrC w S p m fu d L) (s : Nm) (hs : s.length ≤ maxLen) (a : Int) (ha : -9223372036854775808 ≤ a ∧ a ≤ 9223372036854775807) (mask : Nat) (hm : mask < 256) :
  Calls Tryz.prog 36 #[ptr p, sv s, .int .i64 a, .int .u8 (mask : Int)] w (TurnAt w S p fu (d.turn s a mask)) := by
 have H := hid h
 have hmade := made_any h
 have c2 : w.cell? ⟨p, 2, none⟩ = some (.map (some m)) := h.c.cell 2
 have hp := h.c.lt
 clear h
 cases hg : gget L s with
 | none =>
  have HE : Hid (d.turn s a mask = (6, d)) := hid (by unfold Pd.turn; rw [H.out.fs, gget_map, hg]; rfl)
  go_enter Tryz.func36, Tryz.ntmps36
  go_wp2_with (first
   | (go_at_call 88; refine hmade.mono ?_; rintro e w' ⟨rfl, hw'⟩; have hw2 := hw'.symm; subst hw2)
   | (at_lookup; refine wpList_look _ rfl _ _ true rfl H.out.mp hs rfl rfl (r := .tuple #[.agg #[.slice none 0 0, .bool false], .bool false]) (by rw [hg]; rfl) ?_))
  go_ret
  rw [HE.out]
  exact ⟨rfl, ⟨m, L, H.out.alloc _⟩, Only.alloc _ _⟩
 | some e =>
  obtain ⟨po, cc, hev⟩ := own_form (H.out.ow _ (gget_mem hg))
  simp only at hev
  have HEV := hid hev
  clear hev
  have HGF : Hid (gget d.F s = some (e.b, e.l)) := hid (by rw [H.out.fs, gget_map, hg]; rfl)
  by_cases hr : a < 0 ∨ (e.b.length : Int) ≤ a
  ·have HE : Hid (d.turn s a mask = (5, d)) := hid (by unfold Pd.turn; rw [HGF.out]; simp only; rw [if_pos hr])
   by_cases h0 : a < 0
   ·go_enter Tryz.func36, Tryz.ntmps36
    go_wp2_with (first
     | (go_at_call 88; refine hmade.mono ?_; rintro e w' ⟨rfl, hw'⟩; have hw2 := hw'.symm; subst hw2)
     | (at_lookup; refine wpList_look _ rfl _ _ true rfl H.out.mp hs rfl rfl (r := .tuple #[.agg #[.slice po e.b.length cc, .bool e.l], .bool true]) (by rw [hg, ← HEV.out]; rfl) ?_))
    go_ret
    rw [HE.out]
    exact ⟨rfl, ⟨m, L, H.out.alloc _⟩, Only.alloc _ _⟩
   ·have h1 : (e.b.length : Int) ≤ a := by omega
    go_enter Tryz.func36, Tryz.ntmps36
    go_wp2_with (first
     | (go_at_call 88; refine hmade.mono ?_; rintro e w' ⟨rfl, hw'⟩; have hw2 := hw'.symm; subst hw2)
     | (at_lookup; refine wpList_look _ rfl _ _ true rfl H.out.mp hs rfl rfl (r := .tuple #[.agg #[.slice po e.b.length cc, .bool e.l], .bool true]) (by rw [hg, ← HEV.out]; rfl) ?_))
    go_ret
    rw [HE.out]
    exact ⟨rfl, ⟨m, L, H.out.alloc _⟩, Only.alloc _ _⟩
  ·obtain ⟨i, rfl⟩ : ∃ i : Nat, a = (i : Int) := ⟨a.toNat, by omega⟩
   have hi : i < e.b.length := by omega
   have HE : Hid (d.turn s (i : Int) mask = (0, { d with F := gmod d.F s i mask })) := hid (by unfold Pd.turn; rw [HGF.out]; simp only; rw [if_neg hr]; rfl)
   have hrow : ∃ g, po = some ⟨g, 0, none⟩ := by
    rcases (H.out.ow _ (gget_mem hg)).2 with ⟨h1, h2⟩ | ⟨g, cap, cur, h1, _⟩
    ·simp only at h2; omega
    ·simp only at h1; rw [HEV.out] at h1; cases h1; exact ⟨g, rfl⟩
   obtain ⟨g, rfl⟩ := hrow
   have HD := hid (H.out.turned1 hg HEV.out i mask hi hm)
   have hgb : e.v.ownBlock = some g := by rw [HEV.out]; rfl
   have hgl : g < w.heap.size := H.out.lt g (H.out.sf _ (gget_mem hg) g hgb)
   have hcell : w.cell? ⟨g, i, none⟩ = some (.int .u8 ((e.b.getD i 0 : Nat) : Int)) := by
    have := H.out.ow _ (gget_mem hg)
    simp only at this
    rw [HEV.out] at this
    rcases own_BAt this with ⟨h1, _⟩ | ⟨a', h1, h2⟩
    ·cases h1
    ·cases h1
     have h3 := h2 i hi
     rw [add_none] at h3
     rw [Nat.zero_add] at h3; exact h3
   have hfr : w.frozen? ⟨g, i, none⟩ = false := by
    obtain ⟨cur, hc⟩ := H.out.file_at (gget_mem hg) hgb
    exact CAt.free (cs := cur) (t := 5) hc i
   have hx8 : e.b.getD i 0 < 256 := by rw [getD_in _ _ _ hi]; exact H.out.by8 _ (gget_mem hg) _ (List.getElem_mem hi)
   have hxor : bits .xor .u8 ((e.b.getD i 0 : Nat) : Int) (mask : Int) = (((e.b.getD i 0 ^^^ mask : Nat)) : Int) := u8_xor_nat _ _ hx8 hm
   have HS := hid (H.out.sf _ (gget_mem hg) g hgb)
   have h1 : ¬ (i : Int) < 0 := by omega
   have h2 : ¬ (e.b.length : Int) ≤ (i : Int) := by omega
   unfold u8 at HD
   generalize e.b.getD i 0 ^^^ mask = y at *
   generalize e.b.getD i 0 = z at *
   clear hr hgb
   go_enter Tryz.func36, Tryz.ntmps36
   go_wp2_with (first
    | (go_at_call 88; refine hmade.mono ?_; rintro e w' ⟨rfl, hw'⟩; have hw2 := hw'.symm; subst hw2)
    | (at_lookup; refine wpList_look _ rfl _ _ true rfl H.out.mp hs rfl rfl (r := .tuple #[.agg #[.slice (some ⟨g, 0, none⟩) e.b.length cc, .bool e.l], .bool true]) (by rw [hg, ← HEV.out]; rfl) ?_))
   go_ret
   rw [HE.out]
   exact ⟨rfl, ⟨m, _, HD.out.alloc _⟩, (Only.set (S := S) w ⟨g, i, none⟩ _ HS.out).then (Only.alloc (S := S) _ _) (fun _ _ h => h)⟩
end
end Go.Proofs.YtfogkegmdgbecaaGreatDoor

/- How a drive breaks a call: breaks, told (errors.As at a target of package fan's own type). -/
namespace Go.Proofs.YtfogkegmdgbecaaGreatDoor
open Go Go.RowKit Go.Extern.Stop Go.Stop Go.Extern

/-- What a call is left with that a drive answers e. -/
def brk (e : Nat) : Value := if e = 11 then .iface 160 (.agg #[.int .i64 11]) else .nilIface
theorem breaks_any (e : Nat) (w : World) (he : e ≤ 1000) : Calls Tryz.prog 113 #[.int .i64 (e : Int)] w fun r w' => r = .returned (brk e) ∧ w' = w := by
 by_cases h : e = 11
 ·subst h
  have hb : brk 11 = .iface 160 (.agg #[.int .i64 11]) := rfl
  rw [hb]
  clear hb
  go_enter Tryz.func113, Tryz.ntmps113
  go_wp2
  go_ret
  exact ⟨rfl, rfl⟩
 ·have hb : brk e = .nilIface := by unfold brk; rw [if_neg h]
  rw [hb]
  clear hb
  have h' : ((e : Int) == 11) = false := by simp; omega
  have h2 : ¬ (e : Int) = 11 := by omega
  go_enter Tryz.func113, Tryz.ntmps113
  go_wp2
  go_ret
  exact ⟨rfl, rfl⟩
/-- The type error, as package errors lays it. -/
def Erh (w : World) : Prop := w.cell? ⟨0, 0, none⟩ = some (.iface 201 (.agg #[.pointer (some ⟨1, 98, none⟩)]))
theorem Erh.lt {w : World} (h : Erh w) : 0 < w.heap.size := by
 rcases Nat.eq_zero_or_pos w.heap.size with h0 | h0
 ·simp [Erh, World.cell?, h0] at h
 ·exact h0
theorem Erh.below {w w' : World} {B : Nat} (h : Erh w) (hb : Below B w w') (hB : 0 < B) : Erh w' := (World.cell?_of_block (hb.block 0 hB)).trans h

theorem as_none (t : Value) (w : World) : Calls Tryz.prog 116 #[.nilIface, t] w fun e w' => e = .returned (.bool false) ∧ w' = w := by
 go_enter Tryz.func116, Tryz.ntmps116
 go_wp2
 go_ret
 exact ⟨rfl, rfl⟩
theorem vOfP (t : Addr) (w : World) : (ReflectliteValue.unpack (.iface 162 (.pointer (some t)))).run Tryz.prog w
  = .ok (.agg #[.pointer (some ⟨1, 162, none⟩), .pointer (some ⟨w.heap.size, 0, none⟩), .int .u64 150]) (w.alloc (.cells #[.pointer (some t)] 162)) := by kernel_rfl
theorem tOfP (a : Addr) (w : World) : (ReflectliteValue.methodAny (ReflectliteValue.valueError "reflectlite.Value.Type" 0) (fun t _ _ _ => ReflectliteType.toType t) #[.agg #[.pointer (some ⟨1, 162, none⟩), .pointer (some a), .int .u64 150]]).run Tryz.prog w
  = .ok (.iface 201 (.agg #[.pointer (some ⟨1, 162, none⟩)])) w := by kernel_rfl
theorem mKind (h : Value) (w : World) : (Go.method 351 201 (.agg #[h]) "Kind").run Tryz.prog w = .ok (181, h) w := by kernel_rfl
theorem kdP (w : World) : ((ReflectliteType.abiMethod fun t => (fun a : Nat => Value.int IntKind.u8 (a : Int)) <$> Rtype.kind t) #[.pointer (some ⟨1, 162, none⟩)]).run Tryz.prog w = .ok (.int .u8 22) w := by kernel_rfl
theorem kdB (w : World) : ((ReflectliteType.abiMethod fun t => (fun a : Nat => Value.int IntKind.u8 (a : Int)) <$> Rtype.kind t) #[.pointer (some ⟨1, 160, none⟩)]).run Tryz.prog w = .ok (.int .u8 25) w := by kernel_rfl
theorem rvM (z : Sem Value) (f : TypeId → Addr → Nat → Nat → Sem Value) (v : Value) :
  ReflectliteValue.method z f #[v] = (do match ← ReflectliteValue.parts v with | none => z | some (t, a, fl) => f t a fl (fl % 32)) := rfl
theorem ptP (a : Addr) (w : World) : (ReflectliteValue.parts (.agg #[.pointer (some ⟨1, 162, none⟩), .pointer (some a), .int .u64 150])).run Tryz.prog w = .ok (some (162, a, 150)) w := by kernel_rfl
theorem nilP (a p : Addr) (W : World) (ha : W.cell? a = some (.pointer (some p))) :
  (ReflectliteValue.method (ReflectliteValue.valueError "reflectlite.Value.IsNil" 0) ReflectliteValue.isNil #[.agg #[.pointer (some ⟨1, 162, none⟩), .pointer (some a), .int .u64 150]]).run Tryz.prog W = .ok (.bool false) W := by
 rw [rvM]
 simp only [Sem.run_bind, ptP, Result.andThen]
 simp [ReflectliteValue.isNil, loadVar, isAgg, underlying, ha, Result.andThen]
theorem mElem (h : Value) (w : World) : (Go.method 351 201 (.agg #[h]) "Elem").run Tryz.prog w = .ok (192, .agg #[h]) w := by kernel_rfl
theorem mImpl (h : Value) (w : World) : (Go.method 351 201 (.agg #[h]) "Implements").run Tryz.prog w = .ok (193, .agg #[h]) w := by kernel_rfl
theorem mAssn (h : Value) (w : World) : (Go.method 351 201 (.agg #[h]) "AssignableTo").run Tryz.prog w = .ok (190, .agg #[h]) w := by kernel_rfl
theorem elT (w : World) : (ReflectliteType.method ReflectliteType.elem #[.agg #[.pointer (some ⟨1, 162, none⟩)]]).run Tryz.prog w = .ok (.iface 201 (.agg #[.pointer (some ⟨1, 160, none⟩)])) w := by kernel_rfl
theorem imB (w : World) : (ReflectliteType.relation "Implements" ReflectliteType.implements_ #[.agg #[.pointer (some ⟨1, 160, none⟩)], .iface 201 (.agg #[.pointer (some ⟨1, 98, none⟩)])]).run Tryz.prog w = .ok (.bool true) w := by kernel_rfl
theorem tyB (v : Value) (w : World) : (ReflectliteType.typeOf #[.iface 160 v]).run Tryz.prog w = .ok (.iface 201 (.agg #[.pointer (some ⟨1, 160, none⟩)])) w := by kernel_rfl
theorem asB (w : World) : (ReflectliteType.relation "AssignableTo" ReflectliteType.assignableTo #[.agg #[.pointer (some ⟨1, 160, none⟩)], .iface 201 (.agg #[.pointer (some ⟨1, 160, none⟩)])]).run Tryz.prog w = .ok (.bool true) w := by kernel_rfl
theorem vOfB (x : Value) (w : World) (hx : ∃ k : Int, x = .int .i64 k) : (ReflectliteValue.unpack (.iface 160 (.agg #[x]))).run Tryz.prog w
  = .ok (.agg #[.pointer (some ⟨1, 160, none⟩), .pointer (some ⟨w.heap.size, 0, none⟩), .int .u64 153]) (w.alloc (.cells #[x] 160)) := by
 obtain ⟨k, rfl⟩ := hx
 kernel_rfl
theorem elPB (w : World) : (Rtype.elem? 162).run Tryz.prog w = .ok (some 160) w := by kernel_rfl
theorem mkB (p : Addr) (w : World) : (ReflectliteValue.mk 160 p ReflectliteValue.flagAddr).run Tryz.prog w = .ok (.agg #[.pointer (some ⟨1, 160, none⟩), .pointer (some p), .int .u64 409]) w := by kernel_rfl
theorem elV (a p : Addr) (W : World) (ha : W.cell? a = some (.pointer (some p))) :
  (ReflectliteValue.method (ReflectliteValue.valueError "reflectlite.Value.Elem" 0) ReflectliteValue.elem #[.agg #[.pointer (some ⟨1, 162, none⟩), .pointer (some a), .int .u64 150]]).run Tryz.prog W
   = .ok (.agg #[.pointer (some ⟨1, 160, none⟩), .pointer (some p), .int .u64 409]) W := by
 rw [rvM]
 simp only [Sem.run_bind, ptP, Result.andThen]
 simp [ReflectliteValue.elem, loadVar, isAgg, underlying, ha, Result.andThen, elPB, mkB]
theorem rvS (v x : Value) : ReflectliteValue.set #[v, x] = (do
  let (some (dst, a, fl), some (src, b, _)) := (← ReflectliteValue.parts v, ← ReflectliteValue.parts x)
   | unsupported (.noEntry "extern/(internal/reflectlite.Value).Set.zeroValue")
  if fl / ReflectliteValue.flagAddr % 2 == 0 then unsupported (.noEntry "extern/(internal/reflectlite.Value).Set.unaddressable")
  let val ← loadVar src b
  if ← Rtype.directlyAssignable dst src then storeVar dst a val
  else if ← Rtype.implements dst src then
   if (← Rtype.kind src) == 20 then
    match val with
    | .nilIface => unsupported (.noEntry "extern/reflectlite: a nil value of one interface type handed on as a value of another")
    | _ => storeVar dst a val
   else storeVar dst a (.iface src val)
  else panicString ("reflectlite.Set: value of type " ++ (← Rtype.spelt src) ++ " is not assignable to type " ++ (← Rtype.spelt dst))
  pure (.tuple #[])) := rfl
theorem ptBa (a : Addr) (w : World) : (ReflectliteValue.parts (.agg #[.pointer (some ⟨1, 160, none⟩), .pointer (some a), .int .u64 409])).run Tryz.prog w = .ok (some (160, a, 409)) w := by kernel_rfl
theorem ptB (a : Addr) (w : World) : (ReflectliteValue.parts (.agg #[.pointer (some ⟨1, 160, none⟩), .pointer (some a), .int .u64 153])).run Tryz.prog w = .ok (some (160, a, 153)) w := by kernel_rfl
theorem dirB (w : World) : (Rtype.directlyAssignable 160 160).run Tryz.prog w = .ok true w := by kernel_rfl
theorem loadB (g : Nat) (x : Value) (W : World) (hb : W.cell? ⟨g, 0, none⟩ = some x) : (loadVar 160 ⟨g, 0, none⟩).run Tryz.prog W = .ok (.agg #[x]) W := by
 simp [loadVar, Sem.run_bind, Tryz.isAgg160, Tryz.sizeOf160, loadCells, loadCellsFrom, Addr.add, hb, Result.andThen]
theorem storeB (g : Nat) (e : Int) (y : Value) (W : World) (ht : W.cell? ⟨g, 0, none⟩ = some y) (hf : W.frozen? ⟨g, 0, none⟩ = false) : (storeVar 160 ⟨g, 0, none⟩ (.agg #[.int .i64 e])).run Tryz.prog W = .ok () (W.setCell ⟨g, 0, none⟩ (.int .i64 e)) := by
 simp [storeVar, Sem.run_bind, Tryz.sizeOf160, Value.cells, storeCells, Addr.add, Result.andThen]
 rw [run_store Tryz.prog W ⟨g, 0, none⟩ _ _ (by rfl)]
 simp [ht, hf]
theorem setB (g b : Nat) (e : Int) (y : Value) (W : World) (hb : W.cell? ⟨b, 0, none⟩ = some (.int .i64 e)) (ht : W.cell? ⟨g, 0, none⟩ = some y) (hf : W.frozen? ⟨g, 0, none⟩ = false) :
  (ReflectliteValue.set #[.agg #[.pointer (some ⟨1, 160, none⟩), .pointer (some ⟨g, 0, none⟩), .int .u64 409], .agg #[.pointer (some ⟨1, 160, none⟩), .pointer (some ⟨b, 0, none⟩), .int .u64 153]]).run Tryz.prog W
   = .ok (.tuple #[]) (W.setCell ⟨g, 0, none⟩ (.int .i64 e)) := by
 rw [rvS]
 simp only [Sem.run_bind, ptBa, ptB, Result.andThen]
 simp [ReflectliteValue.flagAddr, loadB b _ W hb, Result.andThen, dirB, storeB g e y W ht hf]

set_option maxHeartbeats 4000000 in
theorem as_hit (g : Nat) (e : Int) (y : Value) (w : World) (hg : Erh w) (ht0 : w.cell? ⟨g, 0, none⟩ = some y) (hf0 : w.frozen? ⟨g, 0, none⟩ = false) :
  Calls Tryz.prog 116 #[.iface 160 (.agg #[.int .i64 e]), .iface 162 (.pointer (some ⟨g, 0, none⟩))] w fun ev w' => ev = .returned (.bool true) ∧
   w' = ((((w.alloc (.cells #[.pointer (some ⟨g, 0, none⟩)] 162)).alloc (.cells #[.pointer (some ⟨1, 162, none⟩), .pointer (some ⟨w.heap.size, 0, none⟩), .int .u64 150] 180)).alloc (.cells #[.pointer (some ⟨1, 162, none⟩), .pointer (some ⟨w.heap.size, 0, none⟩), .int .u64 150] 180)).alloc (.cells #[.int .i64 e] 160)).setCell ⟨g, 0, none⟩ (.int .i64 e) := by
 have h6 := @run_callFunc_extern Tryz.prog 137 _ (fun args => ReflectliteValue.unpack (args.getD 0 (.tuple #[]))) Tryz.func137 (by kernel_rfl) (by kernel_rfl) (by kernel_rfl) (by kernel_rfl)
 have h7 := @run_callFunc_extern Tryz.prog 138 _ (ReflectliteValue.methodAny (ReflectliteValue.valueError "reflectlite.Value.Type" 0) (fun t _ _ _ => ReflectliteType.toType t)) Tryz.func138 (by kernel_rfl) (by kernel_rfl) (by kernel_rfl) (by kernel_rfl)
 have h8 := @run_callFunc_extern Tryz.prog 139 _ (ReflectliteValue.method (ReflectliteValue.valueError "reflectlite.Value.IsNil" 0) ReflectliteValue.isNil) Tryz.func139 (by kernel_rfl) (by kernel_rfl) (by kernel_rfl) (by kernel_rfl)
 have h27 := @run_callFunc_extern Tryz.prog 181 _ (ReflectliteType.abiMethod fun t => do pure (.int .u8 (← Rtype.kind t))) Tryz.func181 (by kernel_rfl) (by kernel_rfl) (by kernel_rfl) (by kernel_rfl)
 have h37 := @run_callFunc_extern Tryz.prog 192 _ (ReflectliteType.method ReflectliteType.elem) Tryz.func192 (by kernel_rfl) (by kernel_rfl) (by kernel_rfl) (by kernel_rfl)
 have h38 := @run_callFunc_extern Tryz.prog 193 _ (ReflectliteType.relation "Implements" ReflectliteType.implements_) Tryz.func193 (by kernel_rfl) (by kernel_rfl) (by kernel_rfl) (by kernel_rfl)
 have h10 := @run_callFunc_extern Tryz.prog 157 _ ReflectliteType.typeOf Tryz.func157 (by kernel_rfl) (by kernel_rfl) (by kernel_rfl) (by kernel_rfl)
 have h35 := @run_callFunc_extern Tryz.prog 190 _ (ReflectliteType.relation "AssignableTo" ReflectliteType.assignableTo) Tryz.func190 (by kernel_rfl) (by kernel_rfl) (by kernel_rfl) (by kernel_rfl)
 have h11 := @run_callFunc_extern Tryz.prog 158 _ (ReflectliteValue.method (ReflectliteValue.valueError "reflectlite.Value.Elem" 0) ReflectliteValue.elem) Tryz.func158 (by kernel_rfl) (by kernel_rfl) (by kernel_rfl) (by kernel_rfl)
 have h12 := @run_callFunc_extern Tryz.prog 159 _ ReflectliteValue.set Tryz.func159 (by kernel_rfl) (by kernel_rfl) (by kernel_rfl) (by kernel_rfl)
 have tO := tyB
 have mA := mAssn
 have a25 := asB
 have v25 := fun w => vOfB (.int .i64 e) w ⟨e, rfl⟩
 have f6 := vOfP
 have f7 := tOfP
 have mK := mKind
 have mE := mElem
 have mI := mImpl
 have k27 := kdP
 have k25 := kdB
 have e27 := elT
 have i25 := imB
 have n8 := nilP ⟨w.heap.size, 0, none⟩ ⟨g, 0, none⟩ ((w.alloc (.cells #[.pointer (some ⟨g, 0, none⟩)] 162)).alloc (.cells #[.pointer (some ⟨1, 162, none⟩), .pointer (some ⟨w.heap.size, 0, none⟩), .int .u64 150] 180)) (by simp)
 have hlt := hg.lt
 have hg2 : ((w.alloc (.cells #[.pointer (some ⟨g, 0, none⟩)] 162)).alloc (.cells #[.pointer (some ⟨1, 162, none⟩), .pointer (some ⟨w.heap.size, 0, none⟩), .int .u64 150] 180)).cell? ⟨0, 0, none⟩ = some (.iface 201 (.agg #[.pointer (some ⟨1, 98, none⟩)])) := by
  rw [World.cell?_alloc_lt _ _ ⟨0, 0, none⟩ (by simp), World.cell?_alloc_lt _ _ ⟨0, 0, none⟩ hlt]; exact hg
 have htl : g < w.heap.size := by
  rcases Nat.lt_or_ge g w.heap.size with h | h
  ·exact h
  ·simp [World.cell?, Array.getElem?_eq_none h] at ht0
 have el := elV ⟨w.heap.size, 0, none⟩ ⟨g, 0, none⟩ (((w.alloc (.cells #[.pointer (some ⟨g, 0, none⟩)] 162)).alloc (.cells #[.pointer (some ⟨1, 162, none⟩), .pointer (some ⟨w.heap.size, 0, none⟩), .int .u64 150] 180)).alloc (.cells #[.pointer (some ⟨1, 162, none⟩), .pointer (some ⟨w.heap.size, 0, none⟩), .int .u64 150] 180)) (by rw [World.cell?_alloc_lt _ _ ⟨w.heap.size, 0, none⟩ (by simp; omega)]; simp)
 have st := setB g (w.heap.size + 1 + 1 + 1) e y ((((w.alloc (.cells #[.pointer (some ⟨g, 0, none⟩)] 162)).alloc (.cells #[.pointer (some ⟨1, 162, none⟩), .pointer (some ⟨w.heap.size, 0, none⟩), .int .u64 150] 180)).alloc (.cells #[.pointer (some ⟨1, 162, none⟩), .pointer (some ⟨w.heap.size, 0, none⟩), .int .u64 150] 180)).alloc (.cells #[.int .i64 e] 160))
  (by rw [World.cell?_alloc_at _ _ _ _ (by simp)]; rfl)
  (by rw [World.cell?_alloc_lt _ _ ⟨g, 0, none⟩ (by simp; omega), World.cell?_alloc_lt _ _ ⟨g, 0, none⟩ (by simp; omega), World.cell?_alloc_lt _ _ ⟨g, 0, none⟩ (by simp; omega), World.cell?_alloc_lt _ _ ⟨g, 0, none⟩ htl]; exact ht0)
  (by rw [World.frozen?_alloc_old _ _ ⟨g, 0, none⟩ (by simp; omega), World.frozen?_alloc_old _ _ ⟨g, 0, none⟩ (by simp; omega), World.frozen?_alloc_old _ _ ⟨g, 0, none⟩ (by simp; omega), World.frozen?_alloc_old _ _ ⟨g, 0, none⟩ (Nat.ne_of_lt htl)]; exact hf0)
 clear hg
 go_enter Tryz.func116, Tryz.ntmps116
 go_wp2
 refine wp_loop_rounds 1 ?_
 rw [rounds_succ]
 go_wp2
 go_ret
 exact ⟨rfl, rfl⟩
/-- The number of what a call is left with. -/
def tld (e : Nat) : Nat := if e = 11 then 11 else 0
theorem told_any (e : Nat) (w : World) (hg : Erh w) : Calls Tryz.prog 58 #[brk e] w fun r w' => r = .returned (.int .i64 (tld e : Int)) ∧ Below w.heap.size w w' := by
 by_cases h : e = 11
 ·subst h
  have hb : brk 11 = .iface 160 (.agg #[.int .i64 11]) := rfl
  have ht : ((tld 11 : Nat) : Int) = 11 := rfl
  rw [hb, ht]
  clear hb ht
  have HG := hid (hg.below (w' := w.alloc (.cells #[.int .i64 0] 160)) ((Below.refl w.heap.size w).alloc (Nat.le_refl _) _) hg.lt)
  have HA := hid (as_hit w.heap.size 11 (.int .i64 0) (w.alloc (.cells #[.int .i64 0] 160)) HG.out (by simp) (by simp))
  clear hg
  go_enter Tryz.func58, Tryz.ntmps58
  go_wp2_with (go_at_call 116; refine HA.out.mono ?_; rintro e w5 ⟨rfl, hw5⟩; have hb5 : Below w.heap.size w w5 := (by rw [hw5]; exact Below.setCell (p := ⟨w.heap.size, 0, none⟩) (((((((Below.refl _ _).alloc (Nat.le_refl _) _).alloc (by simp) _).alloc (by simp; omega) _).alloc (by simp; omega) _).alloc (by simp; omega) _)) (Nat.le_refl _) _); have hc5 : w5.cell? ⟨w.heap.size, 0, none⟩ = some (.int .i64 11) := (by rw [hw5]; exact World.cell?_setCell_same' _ _ _ (by rw [World.cell?_alloc_lt _ _ ⟨w.heap.size, 0, none⟩ (by simp; omega), World.cell?_alloc_lt _ _ ⟨w.heap.size, 0, none⟩ (by simp; omega), World.cell?_alloc_lt _ _ ⟨w.heap.size, 0, none⟩ (by simp; omega), World.cell?_alloc_lt _ _ ⟨w.heap.size, 0, none⟩ (by simp)]; simp)); clear hw5)
  go_ret
  exact ⟨rfl, hb5⟩
 ·have hb : brk e = .nilIface := by unfold brk; rw [if_neg h]
  have ht : ((tld e : Nat) : Int) = 0 := by unfold tld; rw [if_neg h]; rfl
  rw [hb, ht]
  clear hb ht hg
  go_enter Tryz.func58, Tryz.ntmps58
  go_wp2_with (go_at_call 116; refine (as_none _ _).mono ?_; rintro e w5 ⟨rfl, rfl⟩)
  go_ret
  exact ⟨rfl, (Below.refl _ _).alloc (Nat.le_refl _) _⟩
end Go.Proofs.YtfogkegmdgbecaaGreatDoor

/- What the row's listed variable (a type's handle) gives: Erh; a world that has it. -/
namespace Go.Proofs.YtfogkegmdgbecaaGreatDoor
open Go Go.RowKit

theorem gEt : Tryz.prog.globalNamed "errors.errorType" = some 0 := by kernel_rfl
theorem gRt : (Tryz.prog.cutTypes.find? (·.1 == "internal/reflectlite.rtype")).map (·.2) = some 201 := by kernel_rfl
theorem gSz : Tryz.prog.types.size = 251 := by kernel_rfl
theorem gOne : ((List.range 251).filter fun t => Tryz.prog.rowNamed t [101, 114, 114, 111, 114]) = [98] := by kernel_rfl
abbrev laidE : List (String × DataW Unit) := [("errors.errorType", Rows.laid_errors_errorType)]
theorem erh_laid {W : World} (h : laidMetH Tryz.prog laidE W) : Erh W := by
 have h' : laidMet Tryz.prog [] W ∧ handlesMet Tryz.prog laidE W := h
 obtain ⟨name, u, ty, e1, e2, e3, e4, e5⟩ := h'.2 _ (List.mem_singleton.2 rfl)
 have en : name = [101, 114, 114, 111, 114] := (Option.some.inj e1).symm
 subst en
 obtain rfl := Option.some.inj (gRt.symm.trans e2)
 have hm : ty ∈ (List.range 251).filter fun t => Tryz.prog.rowNamed t [101, 114, 114, 111, 114] := List.mem_filter.2 ⟨List.mem_range.2 (by rw [← gSz]; exact e3), e4⟩
 rw [gOne] at hm
 obtain rfl := List.mem_singleton.1 hm
 have hh : typeHandle Tryz.prog 98 = .pointer (some ⟨1, 98, none⟩) := by kernel_rfl
 rw [hh] at e5
 have := World.var?_cell gEt e5 0
 simp at this
 exact this
/-- A world that meets the condition: the settled one, the variable's cell laid. -/
noncomputable def laidWorld (os : Os) : World :=
 let w0 := World.holding Tryz.prog os ⟨#[], #[], []⟩
 { w0 with heap := w0.heap.modify 0 fun
   | .cells _ t frozen => .cells #[.iface 201 (.agg #[.pointer (some ⟨1, 98, none⟩)])] t frozen
   | o => o }
theorem laidWorld_met (os : Os) (args : Array Value) : laidMetH Tryz.prog laidE ((laidWorld os).forCall (fun _ _ => 0) ⟨#[], args, []⟩).memory :=
 laidMetH_of_parts (l := laidE) ⟨[], rfl, List.nodup_nil, fun _ _ h => by cases h⟩ (by kernel_rfl)
end Go.Proofs.YtfogkegmdgbecaaGreatDoor

/- Four drives, two of them with a fuse: what the statement on fuses carries. -/
namespace Go.Proofs.YtfogkegmdgbecaaGreatDoor
open Go Go.RowKit

section
variable (d : Pd) (x : AV)
end
def D4 (pa pb pc pd q : Nat) (Sa Sb Sc Sd : Nat → Prop) (da db dc dd : Pd) : Nat → Dv
 | 0 => ⟨pa, Sa, some q, da⟩
 | 1 => ⟨pb, Sb, some q, db⟩
 | 2 => ⟨pc, Sc, none, dc⟩
 | _ => ⟨pd, Sd, none, dd⟩
theorem Sys.congr {w wr : World} {k : Nat} {D D' : Nat → Dv} {Z : Nat → Nat × Bool} (h : Sys w wr k D Z) (e : ∀ i, i < k → D' i = D i) : Sys w wr k D' Z :=
 ⟨fun i hi => by rw [e i hi]; exact h.dr i hi, fun i hi q hq => by
  rw [e i hi] at hq
  obtain ⟨h1, h2, h3, h4⟩ := h.fz i hi q hq
  exact ⟨h1, h2, h3, fun j hj => by rw [e j hj]; exact h4 j hj⟩, fun i j hi hj hij => by rw [e i hi, e j hj]; exact h.dj i j hi hj hij, fun i hi => by rw [e i hi]; exact h.ge i hi, h.be⟩
/-- Four drives; the first two have the fuse at q, which stands at z. -/
def FZ (w wr : World) (pa pb pc pd q : Nat) (da db dc dd : Pd) (z : Nat × Bool) : Prop := ∃ Sa Sb Sc Sd Z, Sys w wr 4 (D4 pa pb pc pd q Sa Sb Sc Sd da db dc dd) Z ∧ Z q = z
section
variable {w wr : World} {pa pb pc pd q : Nat} {da db dc dd : Pd} {z : Nat × Bool}
theorem FZ.below (h : FZ w wr pa pb pc pd q da db dc dd z) {w' : World} (hb : Below wr.heap.size wr w') : FZ w w' pa pb pc pd q da db dc dd z := by
 obtain ⟨Sa, Sb, Sc, Sd, Z, hs, hz⟩ := h
 exact ⟨Sa, Sb, Sc, Sd, Z, hs.below hb, hz⟩
theorem FZ.be (h : FZ w wr pa pb pc pd q da db dc dd z) : Below w.heap.size w wr := by obtain ⟨_, _, _, _, _, hs, _⟩ := h; exact hs.be
end
end Go.Proofs.YtfogkegmdgbecaaGreatDoor
