/- Contract of ApartBytes of the statements' kit, over lists each of which is none of any room, or lies whole in a block of its own: it returns true, and touches no block that was there but those. -/
import Derived.Test.YtgmehiidnclgmaaFx
import Derived.Test.YtgmehiidnclgmaaFq
import Derived.Deep.RegionHeld3
namespace Go.Proofs.Ytgmehiidnclgmaa
open Go Go.RowKit

theorem u22_info : (Try.prog.info? 22).map (fun i => (i.zero, i.size, i.bytes)) = some (some (.slice none 0 0), 1, 24) := by kernel_rfl
theorem run_make_tops (n : Nat) (hn : n ≤ 70003) (w : World) :
    (Instr.makeSlice 40 (.int .i64 (n : Int)) (.int .i64 (n : Int))).run Try.prog w = .ok (.slice (some ⟨w.heap.size, 0, none⟩) n n) (w.alloc (.cells (madeCells #[.slice none 0 0] n) 22)) := by
  obtain ⟨i0, hi, hz0, hz1, hz2⟩ := info_parts u22_info
  have h := run_make (P := Try.prog) w 40 22 i0 (.slice none 0 0) Try.underlying40 hi hz0 .i64 .i64 n n (by omega) (Int.le_refl _) (by rw [hz2]; omega) (by omega)
  rw [hz1] at h
  simpa [Value.cells] using h
/-- A row of n bytes, which may be written, from the begin of block g on. -/
structure RowF (w : World) (g n : Nat) (x : Nat → Nat) : Prop where
  cells : ∀ i, i < n → w.cell? ⟨g, i, none⟩ = some (.int .u8 (x i : Nat))
  free : ∀ i, w.frozen? ⟨g, i, none⟩ = false
  byte : ∀ i, i < n → x i < 256
theorem RowL.rowF {w : World} {g : Nat} {L : List Nat} (h : RowL w g L) (hb : ∀ b ∈ L, b < 256) : RowF w g L.length (fun i => L.getD i 0) where
  cells := fun i hi => h.cellAt i hi
  free := fun i => h.free i
  byte := fun i hi => hb _ (by rw [List.getD_eq_getElem?_getD, List.getElem?_eq_getElem hi]; exact List.getElem_mem hi)
theorem NewRow.rowF {w0 w : World} {n : Nat} {x : Nat → Nat} (h : NewRow w0 w n x) (hb : ∀ i, i < n → x i < 256) : RowF w w0.heap.size n x := ⟨h.cells, h.free, hb⟩
theorem frozen_block {w w' : World} {g i : Nat} (h : w'.heap[g]? = w.heap[g]?) : w'.frozen? ⟨g, i, none⟩ = w.frozen? ⟨g, i, none⟩ := by
  unfold World.frozen?
  simp only [h]
theorem RowF.keep {w w' : World} {g n : Nat} {x : Nat → Nat} (h : RowF w g n x) (hb : w'.heap[g]? = w.heap[g]?) : RowF w' g n x :=
  ⟨fun i hi => (World.cell?_of_block (w := w) hb).trans (h.cells i hi), fun i => (frozen_block hb).trans (h.free i), h.byte⟩
theorem RowF.str {w : World} {g n : Nat} {x : Nat → Nat} (h : RowF w g n x) : StrAt w (some ⟨g, 0, none⟩) n x := .inr ⟨g, 0, rfl, fun i hi => by rw [Nat.zero_add]; exact h.cells i hi⟩
theorem RowF.set {w : World} {g n : Nat} {x : Nat → Nat} (h : RowF w g n x) (k v : Nat) (hv : v < 256) (hk : k < n) : RowF (w.setCell ⟨g, k, none⟩ (.int .u8 (v : Nat))) g n (fun i => if i = k then v else x i) where
  cells := fun i hi => by
    by_cases e : i = k
    · subst e
      rw [World.cell?_setCell_same _ _ _ (h.cells i hi)]; simp
    · rw [World.cell?_setCell_other _ _ _ _ (by intro h2; cases h2; exact e rfl), h.cells i hi]; simp [e]
  free := fun i => by rw [World.frozen?_setCell]; exact h.free i
  byte := fun i hi => by
    by_cases e : i = k
    · simp [e, hv]
    · simp [e, h.byte i hi]
set_option maxRecDepth 100000 in
set_option maxHeartbeats 1000000 in
theorem overF_any (g n c : Nat) (x : Nat → Nat) (w : World) (hn : c ≤ 100000) (h : RowF w g c x) :
    Calls Try.prog 15 #[.slice (some ⟨g, 0, none⟩) n c] w fun e w' => e = .returned (.tuple #[]) ∧ OnlyAt g w w' ∧ ∃ x', RowF w' g c x' := by
  have hs := run_capL g n c
  have H := hid h
  clear h
  go_enter Try.func15, Try.ntmps15
  go_wp2
  clear hs
  go_loopw [3] (fun i wr => ∃ k : Nat, k ≤ c ∧ i = .int .i64 k ∧ OnlyAt g w wr ∧ ∃ x', RowF wr g c x') (fun i _ => (c - intOf i).toNat)
  case atStart => exact ⟨0, by omega, rfl, OnlyAt.refl _ _, x, H.out⟩
  case round =>
    clear H
    obtain ⟨k, hk, rfl, ho, x', hr⟩ := hrel
    by_cases hlt : k < c
    · have hz : x' k < 256 := hr.byte k hlt
      have hcz := hr.cells k hlt
      have hfz := hr.free k
      have hx := u8_bits _ hz
      have HO := hid (ho.setCell k (.int .u8 ((x' k ^^^ 90 : Nat) : Int)))
      have HR := hid (hr.set k (x' k ^^^ 90) (xor_lt8 _ _ hz (by decide)) hlt)
      clear hr ho
      generalize x' k = z at *
      go_wp2
      go_roundw
      case rel => exact ⟨k + 1, by omega, by go_num, HO.out, _, HR.out⟩
      case measure => simp [intOf]; omega
    · have HO := hid ho
      have HR := hid hr
      clear hr ho
      go_wp2
      go_end0
      exact ⟨rfl, HO.out, x', HR.out⟩
/-- One list: none of any room, or a whole row of block g. -/
def OneL (w : World) (a : Option Addr) (l c g : Nat) (x : Nat → Nat) : Prop := (a = none ∧ l = 0 ∧ c = 0) ∨ (a = some ⟨g, 0, none⟩ ∧ RowF w g c x ∧ g < w.heap.size)
theorem OneL.str {w : World} {a : Option Addr} {l c g : Nat} {x : Nat → Nat} (h : OneL w a l c g x) : StrAt w a c x := by
  rcases h with ⟨_, _, rfl⟩ | ⟨rfl, h, _⟩
  · exact .inl rfl
  · exact h.str
theorem OneL.none {w : World} {a : Option Addr} {l c g : Nat} {x : Nat → Nat} (h : OneL w a l c g x) : a = Option.none → c = 0 ∧ c = 0 := by
  rcases h with ⟨_, _, rfl⟩ | ⟨rfl, h, _⟩
  · exact fun _ => ⟨rfl, rfl⟩
  · intro q; cases q
theorem OneL.keep {w w' : World} {a : Option Addr} {l c g : Nat} {x : Nat → Nat} (h : OneL w a l c g x) (hs : w.heap.size ≤ w'.heap.size) (hb : a ≠ Option.none → w'.heap[g]? = w.heap[g]?) : OneL w' a l c g x := by
  rcases h with h | ⟨rfl, h, h2⟩
  · exact .inl h
  · exact .inr ⟨rfl, h.keep (hb (by simp)), by omega⟩
theorem OneL.cap {w : World} {a : Option Addr} {l c g : Nat} {x : Nat → Nat} (h : OneL w a l c g x) (w1 : World) : (Instr.slice 22 (.slice a l c) Option.none (some (.int .i64 (c : Int))) Option.none).run Try.prog w1 = .ok (.slice a c c) w1 := by
  rcases h with ⟨rfl, rfl, rfl⟩ | ⟨rfl, h, _⟩
  · rw [run_slice_h (P := Try.prog) w1 22 _ 0 0 under41 .i64 ((0 : Nat) : Int) (by omega) (by omega), size41]
    simp [Result.andThen, sliced]
  · exact run_capL g l c w1
/-- n lists in a row, no two of one block. -/
structure Ap (w : World) (gt n : Nat) (A : Nat → Option Addr) (L C G : Nat → Nat) (X : Nat → Nat → Nat) : Prop where
  lt : gt < w.heap.size
  top : ∀ i, i < n → w.cell? ⟨gt, i, none⟩ = some (.slice (A i) (L i) (C i))
  row : ∀ i, i < n → OneL w (A i) (L i) (C i) (G i) (X i)
  far : ∀ i, i < n → A i ≠ none → G i ≠ gt
  inj : ∀ i j, i < n → j < n → A i ≠ none → A j ≠ none → G i = G j → i = j
theorem Ap.stay {w w' : World} {gt n : Nat} {A : Nat → Option Addr} {L C G : Nat → Nat} {X : Nat → Nat → Nat} (h : Ap w gt n A L C G X) (hb : Below w.heap.size w w') : Ap w' gt n A L C G X where
  lt := Nat.lt_of_lt_of_le h.lt hb.size
  top := fun i hi => (hb.cell (p := ⟨gt, i, none⟩) h.lt).trans (h.top i hi)
  row := fun i hi => (h.row i hi).keep hb.size (fun q => hb.block _ (by rcases h.row i hi with e | e; exact absurd e.1 q; exact e.2.2))
  far := h.far
  inj := h.inj
/-- From w to w' nothing that was there has turned but what the blocks of S hold. -/
structure SpareIn (S : Nat → Prop) (w w' : World) : Prop where
  os : w'.os = w.os
  tape : w'.tape = w.tape
  output : w'.output = w.output
  size : w.heap.size ≤ w'.heap.size
  block : ∀ b, b < w.heap.size → ¬ S b → w'.heap[b]? = w.heap[b]?
theorem SpareIn.refl (S : Nat → Prop) (w : World) : SpareIn S w w := ⟨rfl, rfl, rfl, Nat.le_refl _, fun _ _ _ => rfl⟩
theorem SpareIn.after {S : Nat → Prop} {w w1 w2 : World} (h : SpareIn S w w1) (h2 : Below w1.heap.size w1 w2) : SpareIn S w w2 :=
  ⟨h2.os.trans h.os, h2.tape.trans h.tape, h2.output.trans h.output, Nat.le_trans h.size h2.size, fun b hb hs => (h2.block b (Nat.lt_of_lt_of_le hb h.size)).trans (h.block b hb hs)⟩
theorem SpareIn.below {S : Nat → Prop} {B : Nat} {w0 w w' : World} (h : SpareIn S w w') (hb : Below B w0 w) (hB : B ≤ w.heap.size) (hS : ∀ b, S b → B ≤ b) : Below B w0 w' :=
  ⟨h.os.trans hb.os, h.tape.trans hb.tape, h.output.trans hb.output, Nat.le_trans hb.size h.size, fun b hlt => (h.block b (by omega) (fun q => by have := hS b q; omega)).trans (hb.block b hlt)⟩
/-- From w to w' nothing has turned but what block g holds, if a leads there. -/
def OnlyIf (a : Option Addr) (g : Nat) (w w' : World) : Prop := (a = none ∧ w' = w) ∨ (a ≠ none ∧ OnlyAt g w w')
theorem OnlyIf.size {a : Option Addr} {g : Nat} {w w' : World} (h : OnlyIf a g w w') : w'.heap.size = w.heap.size := by
  rcases h with ⟨_, rfl⟩ | ⟨_, h⟩
  · rfl
  · exact h.size
theorem OnlyIf.block {a : Option Addr} {g : Nat} {w w' : World} (h : OnlyIf a g w w') (b : Nat) (hb : a ≠ none → b ≠ g) : w'.heap[b]? = w.heap[b]? := by
  rcases h with ⟨_, rfl⟩ | ⟨q, h⟩
  · rfl
  · exact h.block b (hb q)
theorem SpareIn.onlyIf {S : Nat → Prop} {a : Option Addr} {g : Nat} {w w1 w2 : World} (h : SpareIn S w w1) (h2 : OnlyIf a g w1 w2) (hg : a ≠ none → S g) : SpareIn S w w2 := by
  rcases h2 with ⟨_, rfl⟩ | ⟨q, h2⟩
  · exact h
  · exact ⟨h2.os.trans h.os, h2.tape.trans h.tape, h2.output.trans h.output, by rw [h2.size]; exact h.size, fun b hb hs => (h2.block b (fun e => hs (by rw [e]; exact hg q))).trans (h.block b hb hs)⟩
theorem overO_any (a : Option Addr) (l c g : Nat) (x : Nat → Nat) (w : World) (hn : c ≤ 100000) (h : OneL w a l c g x) :
    Calls Try.prog 15 #[.slice a l c] w fun e w' => e = .returned (.tuple #[]) ∧ OnlyIf a g w w' ∧ ∃ x', OneL w' a l c g x' := by
  rcases h with ⟨rfl, rfl, rfl⟩ | ⟨rfl, h, h2⟩
  · refine (over_nil w).mono ?_
    rintro e w' ⟨rfl, rfl⟩
    exact ⟨rfl, .inl ⟨rfl, rfl⟩, x, .inl ⟨rfl, rfl, rfl⟩⟩
  · refine (overF_any g l c x w hn h).mono ?_
    rintro e w' ⟨rfl, ho, x', hx⟩
    exact ⟨rfl, .inr ⟨by simp, ho⟩, x', .inr ⟨rfl, hx, by rw [ho.size]; exact h2⟩⟩
theorem Ap.oneRow {w w' : World} {gt n i : Nat} {A : Nat → Option Addr} {L C G : Nat → Nat} {X : Nat → Nat → Nat} {x : Nat → Nat} (h : Ap w gt n A L C G X) (hi : i < n) (ho : OnlyIf (A i) (G i) w w') (hx : OneL w' (A i) (L i) (C i) (G i) x) :
    ∃ Y, Ap w' gt n A L C G Y ∧ ∀ r, r ≠ i → Y r = X r := by
  refine ⟨fun r => if r = i then x else X r, ⟨by rw [ho.size]; exact h.lt, fun r hr => ?_, fun r hr => ?_, h.far, h.inj⟩, fun r hr => by simp [hr]⟩
  · exact (World.cell?_of_block (w := w) (ho.block gt (fun q e => h.far i hi q e.symm))).trans (h.top r hr)
  · by_cases e : r = i
    · subst e; simp only [if_true]; exact hx
    · simp only [if_neg e]
      exact (h.row r hr).keep (by rw [ho.size]; exact Nat.le_refl _) (fun q => ho.block _ (fun q2 e2 => e (h.inj r i hr hi q q2 e2)))
/-- Values known whole, in a block. -/
def RowV (w : World) (g : Nat) (t : TypeId) (vs : List Value) : Prop := w.heap[g]? = some (.cells vs.toArray t (0, 0))
theorem RowV.lt {w : World} {g : Nat} {t : TypeId} {vs : List Value} (h : RowV w g t vs) : g < w.heap.size := (Array.getElem?_eq_some_iff.1 h).1
theorem RowV.cell {w : World} {g : Nat} {t : TypeId} {vs : List Value} (h : RowV w g t vs) (i : Nat) (hi : i < vs.length) : w.cell? ⟨g, i, none⟩ = some vs[i] := by
  unfold World.cell?
  simp [show w.heap[g]? = _ from h, hi]
theorem RowV.free {w : World} {g : Nat} {t : TypeId} {vs : List Value} (h : RowV w g t vs) (i : Nat) : w.frozen? ⟨g, i, none⟩ = false := by
  unfold World.frozen?
  simp [show w.heap[g]? = _ from h]
theorem RowV.set {w : World} {g : Nat} {t : TypeId} {vs : List Value} (h : RowV w g t vs) (i : Nat) (v : Value) : RowV (w.setCell ⟨g, i, none⟩ v) g t (vs.set i v) := by
  obtain ⟨hlt, hk⟩ := Array.getElem?_eq_some_iff.1 h
  show (w.heap.modify g _)[g]? = _
  rw [Array.getElem?_eq_getElem (by rw [Array.size_modify]; exact hlt), Array.getElem_modify_self, hk]
  simp
theorem RowV.keep {w w' : World} {g : Nat} {t : TypeId} {vs : List Value} (h : RowV w g t vs) (hb : w'.heap[g]? = w.heap[g]?) : RowV w' g t vs := hb.trans h
theorem StrAt.blocks {w w' : World} {p : Option Addr} {n : Nat} {x : Nat → Nat} (h : StrAt w p n x) (hb : ∀ a, p = some a → w'.heap[a.block]? = w.heap[a.block]?) : StrAt w' p n x := by
  rcases h with h | ⟨b, o, rfl, h⟩
  · exact .inl h
  · have hbb : w'.heap[b]? = w.heap[b]? := hb ⟨b, o, none⟩ rfl
    exact .inr ⟨b, o, rfl, fun i hi => (World.cell?_of_block (w := w) hbb).trans (h i hi)⟩
def wasV (n k : Nat) (C : Nat → Nat) (P : Nat → Option Addr) (Q : Nat → Nat) : List Value := (List.range n).map fun i => if i < k then .slice (P i) (C i) (Q i) else .slice none 0 0
theorem wasV_len (n k : Nat) (C : Nat → Nat) (P : Nat → Option Addr) (Q : Nat → Nat) : (wasV n k C P Q).length = n := by simp [wasV]
theorem wasV_get (n k : Nat) (C : Nat → Nat) (P : Nat → Option Addr) (Q : Nat → Nat) (i : Nat) (h : i < (wasV n k C P Q).length) : (wasV n k C P Q)[i] = if i < k then .slice (P i) (C i) (Q i) else .slice none 0 0 := by simp [wasV]
/-- Some of the copies are laid, the others are still nil. -/
structure WasAt (wo wr : World) (n k : Nat) (C : Nat → Nat) (X : Nat → Nat → Nat) (P : Nat → Option Addr) (Q : Nat → Nat) : Prop where
  bel : Below wo.heap.size wo wr
  top : RowV wr wo.heap.size 22 (wasV n k C P Q)
  row : ∀ q, q < k → StrAt wr (P q) (C q) (X q) ∧ ∀ a, P q = some a → wo.heap.size < a.block ∧ a.block < wr.heap.size
theorem WasAt.push {wo wr w1 : World} {n k : Nat} {C : Nat → Nat} {X : Nat → Nat → Nat} {P : Nat → Option Addr} {Q : Nat → Nat} (h : WasAt wo wr n k C X P Q) (hk : k < n) (hb : Below wr.heap.size wr w1) (p : Option Addr) (c : Nat) (hs : StrAt w1 p (C k) (X k)) (hp : ∀ a, p = some a → wr.heap.size ≤ a.block ∧ a.block < w1.heap.size) :
    WasAt wo (w1.setCell ⟨wo.heap.size, k, none⟩ (.slice p (C k) c)) n (k + 1) C X (fun i => if i = k then p else P i) (fun i => if i = k then c else Q i) where
  bel := (h.bel.trans (hb.mono h.bel.size)).setCell (p := ⟨wo.heap.size, k, none⟩) (Nat.le_refl _) _
  top := by
    have h1 := (h.top.keep (hb.block _ h.top.lt)).set k (.slice p (C k) c)
    have e : (wasV n k C P Q).set k (.slice p (C k) c) = wasV n (k + 1) C (fun i => if i = k then p else P i) (fun i => if i = k then c else Q i) := by
      apply List.ext_getElem
      · simp [wasV_len]
      · intro i h1 h2
        rw [wasV_len] at h2
        rw [List.getElem_set, wasV_get, wasV_get]
        by_cases e : k = i
        · subst e; simp
        · have e' : ¬ i = k := fun q => e q.symm
          by_cases q : i < k
          · simp [e, e', q, show i < k + 1 by omega]
          · simp [e, q, show ¬ i < k + 1 by omega]
    rw [e] at h1; exact h1
  row := fun q hq => by
    have hlt := h.top.lt
    by_cases e : q = k
    · subst e
      simp only [if_true]
      refine ⟨hs.blocks (fun a ha => Below.heap_setCell _ _ _ _ (by have := hp a ha; show a.block ≠ wo.heap.size; omega)), fun a ha => ?_⟩
      have := hp a ha
      rw [World.size_setCell]
      omega
    · simp only [if_neg e]
      obtain ⟨h1, h2⟩ := h.row q (by omega)
      refine ⟨(h1.below hb).blocks (fun a ha => Below.heap_setCell _ _ _ _ (by have := h2 a ha; show a.block ≠ wo.heap.size; omega)), fun a ha => ?_⟩
      have := h2 a ha
      have := hb.size
      rw [World.size_setCell]
      omega
def CopyC (w : World) (n : Nat) (x : Nat → Nat) (e : Ending) (w' : World) : Prop := ∃ p c, e = .returned (.slice p n c) ∧ StrAt w' p n x ∧ (∀ a, p = some a → w.heap.size ≤ a.block ∧ a.block < w'.heap.size) ∧ Below w.heap.size w w'
theorem BufL.str2 {B : Nat} {w : World} {n : Nat} {x : Nat → Nat} {v : Value} (h : BufL B w v ((List.range n).map x)) : ∃ p c, v = .slice p n c ∧ StrAt w p n x ∧ ∀ a, p = some a → B ≤ a.block ∧ a.block < w.heap.size := by
  have hl : ((List.range n).map x).length = n := by simp
  have h0 := h.ge
  obtain ⟨p, c, e, _, h2, _, h3⟩ := h.buf.str2
  rw [hl] at e h2
  refine ⟨p, c, e, h2.congr (fun j hj => by simp [hj]), fun a ha => ?_⟩
  subst ha
  subst e
  obtain ⟨_, ⟨q, _⟩ | ⟨g, cap, cur, q, _⟩⟩ := h
  · cases q
  · injection q with e1
    injection e1 with e1
    subst e1
    exact h0 g rfl
theorem copyC_any (p : Option Addr) (n : Nat) (x : Nat → Nat) (w : World) (hn : n ≤ 100000) (hp : p = none → n = 0 ∧ n = 0) (hx : StrAt w p n x) :
    Calls Try.prog 32 #[.slice p n n] w (CopyC w n x) := by
  refine (copyB_any p n n x w hn hp hx).mono ?_
  rintro e w' ⟨v, rfl, hb, hbel⟩
  obtain ⟨p2, c2, rfl, h2, h3⟩ := hb.str2
  exact ⟨p2, c2, rfl, h2, h3, hbel⟩
theorem far_top {w : World} {g k b x : Nat} {v u : Value} (h : b < g) (hc : w.cell? ⟨b, x, none⟩ = some u) : (w.setCell ⟨g, k, none⟩ v).cell? ⟨b, x, none⟩ = some u :=
  (World.cell?_setCell_other _ _ _ _ (by intro q; have := congrArg Addr.block q; simp at this; omega)).trans hc
theorem wasV_zero (n : Nat) (C : Nat → Nat) (P : Nat → Option Addr) (Q : Nat → Nat) : (wasV n 0 C P Q).toArray = madeCells #[.slice none 0 0] n := by
  apply Array.ext
  · simp [wasV_len, madeCells]
  · intro i h1 h2
    simp [wasV, madeCells, Nat.mod_one]
end Go.Proofs.Ytgmehiidnclgmaa
