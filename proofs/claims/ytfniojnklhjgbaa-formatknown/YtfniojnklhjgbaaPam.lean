/- Texts laid into one, cut to what is needed: the remark ahead of each part says what is proved there. -/
import Derived.Test.YtfniojnklhjgbaaPaj
import Derived.Test.YtfniojnklhjgbaaPab
import Derived.RangeFuncNested
import Derived.RangeFuncBound
import Derived.RangeFuncCalls
import Derived.RangeFuncLeaves
import Derived.OrdersIn
import Derived.TacticsIn
import Derived.Test.YtfniojnklhjgbaaPal
import Derived.Test.YtfniojnklhjgbaaPag
import Derived.Test.YtfniojnklhjgbaaPaf
import Derived.Deep.MidRow
import Derived.Deep.RegionHeld3
import Derived.BigRegion
/- A range over a function whose iterator may hold such ranges itself, and yields what it has just read: all that lies from the loop's beginning on lies as it lay. -/
namespace Go.Proofs.Ytfniojnklhjgbaa.Rg
open Go Go.RowKit
open Go.Proofs.Ytfniojnklhjgbaa.H (rndF calls_rnd rows_rnd noDefer noDefer_at list_rnd round_list round_any)

/-! ### A range over a function whose iterator may hold such ranges itself -/
/-- What keeps a loop's books. -/
def bkO : Obj → Bool
  | .loop _ => true
  | .deferred _ => true
  | _ => false
/-- New blocks, and at most one block from B on that keeps a loop's books has turned. -/
def Tn (B : Nat) (A C : World) : Prop := ∃ row : Option Nat, A.grownBy C row ∧ ∀ r, row = some r → B ≤ r ∧ ∃ o : Obj, A.heap[r]? = some o ∧ bkO o = true
theorem Tn.mono {B B' : Nat} {A C : World} (h : Tn B A C) (hB : B' ≤ B) : Tn B' A C := by
  obtain ⟨row, hg, hr⟩ := h
  exact ⟨row, hg, fun r e => ⟨Nat.le_trans hB (hr r e).1, (hr r e).2⟩⟩
theorem Tn.alloc (B : Nat) (A : World) (o : Obj) : Tn B A (A.alloc o) := ⟨none, World.grownBy_alloc A o none, fun _ e => by cases e⟩
theorem Tn.put {B : Nat} {A : World} {r : Nat} {o : Obj} (o' : Obj) (hB : B ≤ r) (h : A.heap[r]? = some o) (hb : bkO o = true) : Tn B A (A.putObj r o') :=
  ⟨some r, grownBy_putObj' A r o', fun q e => by cases e; exact ⟨hB, o, h, hb⟩⟩
theorem Tn.low {B : Nat} {A C : World} (h : Tn B A C) {k : Nat} (hk : k < B) (hA : k < A.heap.size) : C.heap[k]? = A.heap[k]? := by
  obtain ⟨row, hg, hr⟩ := h
  exact hg.block k hA fun e => by have := (hr k e.symm).1; omega
theorem Tn.other {B : Nat} {A C : World} (h : Tn B A C) {k : Nat} {o : Obj} (hk : A.heap[k]? = some o) (ho : bkO o = false) : C.heap[k]? = A.heap[k]? := by
  obtain ⟨row, hg, hr⟩ := h
  refine hg.block k (Array.getElem?_eq_some_iff.1 hk).1 fun e => ?_
  obtain ⟨_, o', h1, h2⟩ := hr k e.symm
  rw [hk] at h1; cases h1; rw [ho] at h2; cases h2
theorem Tn.size {B : Nat} {A C : World} (h : Tn B A C) : A.heap.size ≤ C.heap.size := by obtain ⟨_, hg, _⟩ := h; exact hg.size
theorem grown_below {A C : World} (h : Below A.heap.size A C) : A.grownBy C none := ⟨h.os, h.tape, h.output, h.size, fun i hi _ => h.block i hi⟩
theorem Tn.below {B : Nat} {A C : World} (h : Below A.heap.size A C) : Tn B A C := ⟨none, grown_below h, fun _ e => by cases e⟩
/-- I abides that. -/
def OwL (B : Nat) (I : World → Prop) : Prop := ∀ A C, I A → Tn B A C → I C
/-- All from B on lies as it lay. -/
structure KpL (B : Nat) (W W' : World) : Prop where
  size : W.heap.size ≤ W'.heap.size
  same : ∀ (r : Nat) (o : Obj), B ≤ r → W.heap[r]? = some o → W'.heap[r]? = some o
theorem KpL.refl (B : Nat) (W : World) : KpL B W W := ⟨Nat.le_refl _, fun _ _ _ h => h⟩
theorem KpL.trans {B : Nat} {X Y Z : World} (h : KpL B X Y) (k : KpL B Y Z) : KpL B X Z := ⟨Nat.le_trans h.size k.size, fun r o hB hr => k.same r o hB (h.same r o hB hr)⟩
theorem KpL.mono {B B' : Nat} {X Y : World} (h : KpL B X Y) (hB : B ≤ B') : KpL B' X Y := ⟨h.size, fun r _o hr => h.same r _o (Nat.le_trans hB hr)⟩
theorem KpL.below {B : Nat} {X Y : World} (h : Below X.heap.size X Y) : KpL B X Y := ⟨h.size, fun r _ _ hr => (h.block r (Array.getElem?_eq_some_iff.1 hr).1).trans hr⟩
def endAct (a : Act) (D : Nat) : Act := { a with defers := { target := .collected D, args := #[] } :: a.defers }
/-! ### A region in a round that calls another loop's yield -/
section
variable {P : Program} {ops : Array Oper} {Q : Exit → Act → World → Prop} {l n : Nat}
end
end Go.Proofs.Ytfniojnklhjgbaa.Rg

/- Contracts of block.Read over lists of bytes and of sound of package shard: it yields what the files that are sound are read as, by their places. -/
namespace Go.Proofs.Ytfniojnklhjgbaa
open Go Go.RowKit

/-- A cell stays where books alone are turned. -/
theorem Rg.Tn.cell {B : Nat} {A C : World} (h : Rg.Tn B A C) {a : Addr} (ha : A.cell? a ≠ none) : C.cell? a = A.cell? a := by
  refine World.cell?_of_block ?_
  obtain ⟨o, ho, hb⟩ : ∃ o, A.heap[a.block]? = some o ∧ Rg.bkO o = false := by
    unfold World.cell? at ha
    cases hq : A.heap[a.block]? with
    | none => simp [hq] at ha
    | some o =>
      refine ⟨o, rfl, ?_⟩
      cases o <;> first | rfl | (simp [hq] at ha)
  exact h.other ho hb
/-- What is yielded. -/
def ShR (W : World) (n : Nat) (po : Option Addr) (L : List Nat) : Prop := (po = none ∧ n = 0) ∨ ∃ g, po = some ⟨g, 0, none⟩ ∧ H.RowL W g L
end Go.Proofs.Ytfniojnklhjgbaa

/- What the loop of join of package shard carries from round to round. -/
namespace Go.Proofs.Ytfniojnklhjgbaa
open Go Go.RowKit

/-- Rows by their places. -/
def rowF (N : Nat) (f : Nat → Value) : Array Value := ((List.range N).map f).toArray
theorem rowF_size (N : Nat) (f : Nat → Value) : (rowF N f).size = N := by simp [rowF]
theorem rowF_get {N : Nat} {f : Nat → Value} {j : Nat} (h : j < N) : (rowF N f)[j]? = some (f j) := by simp [rowF, h]
theorem rowF_set (N i : Nat) (f : Nat → Value) (v : Value) : (rowF N f).setIfInBounds i v = rowF N (fun j => if j = i then v else f j) := by
  apply Array.ext_getElem?
  intro j
  rw [Array.getElem?_setIfInBounds]
  rcases Nat.lt_or_ge j N with h | h
  · by_cases e : i = j
    · subst e; simp [rowF, h]
    · rw [if_neg e, rowF_get h, rowF_get h, if_neg (fun q => e q.symm)]
  · have h1 : (rowF N f)[j]? = none := by simp [rowF, h]
    have h2 : (rowF N (fun j => if j = i then v else f j))[j]? = none := by simp [rowF, h]
    rw [h1, h2]
    split
    · rw [if_neg (by rw [rowF_size]; omega)]
    · rfl
theorem rowF_congr {N : Nat} {f g : Nat → Value} (h : ∀ j, j < N → f j = g j) : rowF N f = rowF N g := by
  unfold rowF; congr 1; apply List.map_congr_left; intro j hj; exact h j (List.mem_range.1 hj)
theorem rowF_made (N : Nat) (v : Value) : madeCells #[v] N = rowF N (fun _ => v) := by
  apply Array.ext_getElem?
  intro j
  rcases Nat.lt_or_ge j N with h | h
  · simp [rowF, madeCells, h, Nat.mod_one]
  · simp [rowF, madeCells, h]
def rowS (N i n k : Nat) (l : List Cp) (A : Nat → Option Addr) : Array Value := rowF N fun j => if j < i ∧ hvB n k l j = true then .slice (A j) n n else .slice none 0 0
def rowH (N i n k : Nat) (l : List Cp) : Array Value := rowF N fun j => .bool (decide (j < i) && hvB n k l j)
theorem ShR.keep {W W' : World} {n : Nat} {po : Option Addr} {L : List Nat} (h : ShR W n po L) (hk : ∀ g cs, CAt W g cs 5 → W'.heap[g]? = W.heap[g]?) : ShR W' n po L := by
  rcases h with h | ⟨g, h1, h2⟩
  · exact .inl h
  · exact .inr ⟨g, h1, (hk g _ h2).trans h2⟩
theorem ShR.bl {W : World} {n : Nat} {po : Option Addr} {L : List Nat} (h : ShR W n po L) (hL : L.length = n) : BL W po L := by
  rcases h with ⟨_, h⟩ | ⟨g, h1, h2⟩
  · left; exact List.length_eq_zero_iff.1 (by omega)
  · right
    refine ⟨g, 0, h1, fun i hi => ?_⟩
    have h3 : CAt W g (L.map H.u8).toArray 5 := h2
    rw [h3.cell]
    simp [hi, H.u8, u8]
theorem Rg.Tn.os {B : Nat} {A C : World} (h : Rg.Tn B A C) : C.os = A.os := by obtain ⟨_, hg, _⟩ := h; exact hg.os
theorem Rg.Tn.tape {B : Nat} {A C : World} (h : Rg.Tn B A C) : C.tape = A.tape := by obtain ⟨_, hg, _⟩ := h; exact hg.tape
theorem Rg.Tn.output {B : Nat} {A C : World} (h : Rg.Tn B A C) : C.output = A.output := by obtain ⟨_, hg, _⟩ := h; exact hg.output
/-- What the loop of join carries. -/
structure JI (W0 : World) (gs gh bl N n k : Nat) (l : List Cp) (i : Nat) (W : World) : Prop where
  on : Only (fun b => b = gs ∨ b = gh ∨ b = bl) W0 W
  ex : ∃ A : Nat → Option Addr, CAt W gs (rowS N i n k l A) 24 ∧ ∀ j, j < i → hvB n k l j = true → ShR W n (A j) (rdS n l j)
  hv : CAt W gh (rowH N i n k l) 4
  le : CAt W bl #[.int .i64 ((k - csN n l i : Nat) : Int)] 3
theorem cat_ne {W : World} {a b : Nat} {cs ds : Array Value} {s t : TypeId} (h : CAt W a cs s) (k : CAt W b ds t) (hst : s ≠ t) : a ≠ b := by
  rintro rfl
  unfold CAt at h k
  rw [h] at k
  cases k
  exact hst rfl
theorem JI.start {W0 : World} {gs gh bl N n k : Nat} {l : List Cp} (hs : CAt W0 gs (madeCells #[.slice none 0 0] N) 24) (hh : CAt W0 gh (madeCells #[.bool false] N) 4) (hl : CAt W0 bl #[.int .i64 (k : Int)] 3) : JI W0 gs gh bl N n k l 0 W0 where
  on := Only.refl _ _
  ex := ⟨fun _ => none, by
    rw [rowF_made] at hs
    have e : rowS N 0 n k l (fun _ => none) = rowF N (fun _ => .slice none 0 0) := by unfold rowS; apply rowF_congr; intro j _; simp
    rw [e]; exact hs, fun j hj => absurd hj (by omega)⟩
  hv := by
    rw [rowF_made] at hh
    have e : rowH N 0 n k l = rowF N (fun _ => .bool false) := by unfold rowH; apply rowF_congr; intro j _; simp
    rw [e]; exact hh
  le := hl
/-- What a round leaves. -/
theorem JI.put {W0 : World} {gs gh bl N n k i : Nat} {l : List Cp} {W W3 : World} (h : JI W0 gs gh bl N n k l i W) {c : Cp} (hc : l[i]? = some c) (hs : sdB n c = true) (hlt : csN n l i < k) {po : Option Addr} (hp : ShR W n po (rdB c.b n))
    (e3 : W3 = ((W.drew.setCell ⟨gs, i, none⟩ (.slice po n n)).setCell ⟨gh, i, none⟩ (.bool true)).setCell ⟨bl, 0, none⟩ (.int .i64 ((k - csN n l (i + 1) : Nat) : Int))) : JI W0 gs gh bl N n k l (i + 1) W3 := by
  have hv : hvB n k l i = true := by unfold hvB; rw [hc]; simp [hs, hlt]
  obtain ⟨A, h1, h2⟩ := h.ex
  have n1 : gs ≠ gh := cat_ne h1 h.hv (by decide)
  have n2 : gs ≠ bl := cat_ne h1 h.le (by decide)
  have n3 : gh ≠ bl := cat_ne h.hv h.le (by decide)
  have far : ∀ g, g ≠ gs → g ≠ gh → g ≠ bl → W3.heap[g]? = W.heap[g]? := fun g q1 q2 q3 => by
    rw [e3, heap_setCell_ne _ _ _ _ q3, heap_setCell_ne _ _ _ _ q2, heap_setCell_ne _ _ _ _ q1]; rfl
  have f5 : ∀ g cs, CAt W g cs 5 → W3.heap[g]? = W.heap[g]? := fun g cs q => far g (cat_ne q h1 (by decide)) (cat_ne q h.hv (by decide)) (cat_ne q h.le (by decide))
  have d1 : CAt W.drew gs (rowS N i n k l A) 24 := h1
  have d2 : CAt W.drew gh (rowH N i n k l) 4 := h.hv
  have d3 : CAt W.drew bl #[.int .i64 ((k - csN n l i : Nat) : Int)] 3 := h.le
  have hsz : W3.heap.size = W.heap.size := by rw [e3, setCell_size, setCell_size, setCell_size]; rfl
  refine ⟨?_, ?_, ?_, ?_⟩
  · have o1 : Only (fun b => b = gs ∨ b = gh ∨ b = bl) W W3 := by
      rw [e3]
      exact ((Only.of_below (below_drew W)).trans (Only.set _ _ _ (Or.inl rfl))).trans ((Only.set _ _ _ (Or.inr (Or.inl rfl))).trans (Only.set _ _ _ (Or.inr (Or.inr rfl))))
    exact h.on.trans o1
  · refine ⟨fun j => if j = i then po else A j, ?_, fun j hj hj2 => ?_⟩
    · have e : rowS N (i + 1) n k l (fun j => if j = i then po else A j) = (rowS N i n k l A).setIfInBounds i (.slice po n n) := by
        unfold rowS
        rw [rowF_set]
        apply rowF_congr
        intro j _
        by_cases q : j = i
        · subst q; simp [hv]
        · have : (j < i + 1) = (j < i) := propext ⟨fun _ => by omega, fun _ => by omega⟩
          simp only [this, if_neg q]
      rw [e]
      have := d1.set i (.slice po n n)
      rw [e3]
      exact (this.keep (heap_setCell_ne _ _ _ _ n1)).keep (heap_setCell_ne _ _ _ _ n2)
    · show ShR W3 n (if j = i then po else A j) _
      by_cases q : j = i
      · subst q
        rw [if_pos rfl]
        have : rdS n l j = rdB c.b n := by unfold rdS; rw [hc]
        rw [this]
        exact hp.keep f5
      · rw [if_neg q]
        exact (h2 j (by omega) hj2).keep f5
  · have e : rowH N (i + 1) n k l = (rowH N i n k l).setIfInBounds i (.bool true) := by
      unfold rowH
      rw [rowF_set]
      apply rowF_congr
      intro j _
      by_cases q : j = i
      · subst q; simp [hv]
      · have : (decide (j < i + 1)) = (decide (j < i)) := by simp; omega
        rw [this, if_neg q]
    rw [e, e3]
    exact (CAt.set (d2.keep (heap_setCell_ne _ _ _ _ n1.symm)) i (.bool true)).keep (heap_setCell_ne _ _ _ _ n3)
  · rw [e3]
    have := CAt.set ((d3.keep (heap_setCell_ne _ _ _ _ n2.symm)).keep (heap_setCell_ne (W.drew.setCell ⟨gs, i, none⟩ (.slice po n n)) ⟨gh, i, none⟩ (.bool true) bl n3.symm)) 0 (.int .i64 ((k - csN n l (i + 1) : Nat) : Int))
    simpa using this
/-- What is left behind it. -/
structure JF (W0 : World) (gs gh bl N n k : Nat) (l : List Cp) (W : World) : Prop where
  on : Only (fun b => b = gs ∨ b = gh ∨ b = bl) W0 W
  ex : ∃ A : Nat → Option Addr, CAt W gs (rowS N N n k l A) 24 ∧ ∀ j, j < N → hvB n k l j = true → ShR W n (A j) (rdS n l j)
  hv : CAt W gh (rowH N N n k l) 4
theorem JF.bools {W0 : World} {gs gh bl N n k : Nat} {l : List Cp} {W : World} (h : JF W0 gs gh bl N n k l W) : U.BoolsAt W (some ⟨gh, 0, none⟩) N (hvB n k l) := by
  right
  refine ⟨gh, 0, rfl, fun j hj => ?_⟩
  rw [Nat.zero_add, h.hv.cell, rowH, rowF_get hj]
  simp [hj]
end Go.Proofs.Ytfniojnklhjgbaa

/- Contract of join of package shard: what the first k files that are sound make, in new memory, or the error's number; what was there is as it was. -/
namespace Go.Proofs.Ytfniojnklhjgbaa
open Go Go.RowKit

def JnU (w : World) (k m s : Nat) (l : List Cp) (e : Ending) (w' : World) : Prop := Below w.heap.size w w' ∧ ((csN (U.lgt s k) l l.length < k ∧ e = .returned (.tuple #[.slice none 0 0, .int .i64 10])) ∨
  (k ≤ csN (U.lgt s k) l l.length ∧ ∃ g, e = .returned (.tuple #[.slice (some ⟨g, 0, none⟩) s s, .int .i64 0]) ∧ w'.ownsRow w.heap.size 5 1 (.slice (some ⟨g, 0, none⟩) s s) s ((jnB k m s l).map u8)))
theorem Rg.KpL.set {B : Nat} {W : World} {a : Addr} (v : Value) (h : a.block < B) : Rg.KpL B W (W.setCell a v) := ⟨by rw [setCell_size]; exact Nat.le_refl _, fun r o hr ho => (heap_setCell_ne _ _ _ _ (by omega)).trans ho⟩
theorem own_put {w : World} {B t sz n D : Nat} {v : Value} {xs : List Value} {o o2 : Obj} (h : w.ownsRow B t sz v n xs) (hD : w.heap[D]? = some o) (ho : Rg.bkO o = true) : (w.putObj D o2).ownsRow B t sz v n xs := by
  refine ownsRow_keep h fun b hb => World.putObj_heap_other ?_
  rintro rfl
  rcases h.2 with ⟨rfl, _⟩ | ⟨g, cap, cur, rfl, _, hg, _⟩
  · cases hb
  · cases hb; rw [hD] at hg; cases hg; cases ho
theorem JnU.put {w w9 : World} {k m s : Nat} {l : List Cp} {e : Ending} (h : JnU w k m s l e w9) {D : Nat} {o : Obj} (o2 : Obj) (hD : w9.heap[D]? = some o) (ho : Rg.bkO o = true) (hB : w.heap.size ≤ D) : JnU w k m s l e (w9.putObj D o2) := by
  obtain ⟨h1, h2⟩ := h
  refine ⟨below_grown h1 (grownBy_putObj' w9 D o2) (Nat.le_refl _) (fun b e => by cases e; exact hB), ?_⟩
  rcases h2 with h2 | ⟨h2, g, h3, h4⟩
  · exact .inl h2
  · exact .inr ⟨h2, g, h3, own_put h4 hD ho⟩
theorem JnU.below {w w0 w' : World} {k m s : Nat} {l : List Cp} {e : Ending} (h : JnU w k m s l e w') (hb : Below w0.heap.size w0 w) : JnU w0 k m s l e w' := by
  obtain ⟨h1, h2⟩ := h
  refine ⟨below_on hb h1, ?_⟩
  rcases h2 with h2 | ⟨h2, g, h3, h4⟩
  · exact .inl h2
  · exact .inr ⟨h2, g, h3, own_base h4 hb.size⟩
end Go.Proofs.Ytfniojnklhjgbaa

/- Contract of Lay of package shard: the shard files of bytes in new memory, or the error's number; what was there is as it was. -/
namespace Go.Proofs.Ytfniojnklhjgbaa
open Go Go.RowKit

/-- A row just as long as its bytes. -/
def ExR (w : World) (v : Value) (L : List Nat) : Prop := ∃ g, v = .slice (some ⟨g, 0, none⟩) L.length L.length ∧ CAt w g (L.map u8).toArray 5
theorem ExR.keep {w w' : World} {v : Value} {L : List Nat} (h : ExR w v L) (hk : ∀ g cs, CAt w g cs 5 → w'.heap[g]? = w.heap[g]?) : ExR w' v L := by
  obtain ⟨g, h1, h2⟩ := h
  exact ⟨g, h1, h2.keep (hk g _ h2)⟩
theorem ExR.below {w w' : World} {v : Value} {L : List Nat} (h : ExR w v L) (hb : Below w.heap.size w w') : ExR w' v L := h.keep fun g _ hc => hb.block g hc.lt
/-- Lists of bytes in memory of the call's own. -/
def LL (B : Nat) (w : World) (v : Value) (Ls : List (List Nat)) : Prop := ∃ (g : Nat) (vs : Array Value), v = .slice (some ⟨g, 0, none⟩) Ls.length Ls.length ∧ B ≤ g ∧ CAt w g vs 24 ∧ vs.size = Ls.length ∧ ∀ (i : Nat) (u : Value) (L : List Nat), vs[i]? = some u → Ls[i]? = some L → Buf B w u L ∧ ExR w u L
theorem LL.below {B : Nat} {w w' : World} {v : Value} {Ls : List (List Nat)} (h : LL B w v Ls) (hb : Below w.heap.size w w') : LL B w' v Ls := by
  obtain ⟨g, vs, h1, h2, h3, h4, h5⟩ := h
  exact ⟨g, vs, h1, h2, h3.below hb, h4, fun i u L hu hL => ⟨(h5 i u L hu hL).1.below hb, (h5 i u L hu hL).2.below hb⟩⟩
theorem LL.base {B B' : Nat} {w : World} {v : Value} {Ls : List (List Nat)} (h : LL B w v Ls) (hb : B' ≤ B) : LL B' w v Ls := by
  obtain ⟨g, vs, h1, h2, h3, h4, h5⟩ := h
  exact ⟨g, vs, h1, by omega, h3, h4, fun i u L hu hL => ⟨own_base (h5 i u L hu hL).1 hb, (h5 i u L hu hL).2⟩⟩
end Go.Proofs.Ytfniojnklhjgbaa

/- Bytes all of whose room may be written over; bytes.Clone and Part of package shard tell such. (Part is written by tools/gen_Zzd.py.) -/
namespace Go.Proofs.Ytfniojnklhjgbaa
open Go Go.RowKit

/-- A byte's value. -/
def Q11 (u : Value) : Prop := ∃ k : Nat, u = .int .u8 (k : Int) ∧ k < 256
/-- Bytes in a block from B on, all of whose cells are bytes. -/
def OvS (B : Nat) (w : World) (v : Value) : Prop := v = .slice none 0 0 ∨ ∃ (g n : Nat) (cs : Array Value), v = .slice (some ⟨g, 0, none⟩) n cs.size ∧ B ≤ g ∧ cs.size ≤ maxLen ∧ CAt w g cs 5 ∧ ∀ u ∈ cs.toList, Q11 u
theorem OvS.nil (B : Nat) (w : World) : OvS B w (.slice none 0 0) := .inl rfl
theorem OvS.base {B C : Nat} {w : World} {v : Value} (h : OvS B w v) (hC : C ≤ B) : OvS C w v := by
  rcases h with h | ⟨g, n, cs, h1, h2, h3⟩
  · exact .inl h
  · exact .inr ⟨g, n, cs, h1, by omega, h3⟩
theorem OvS.only {B : Nat} {w w' : World} {v : Value} {S : Nat → Prop} (h : OvS B w v) (ho : Only S w w') (hS : ∀ i, S i → i < B) : OvS B w' v := by
  rcases h with h | ⟨g, n, cs, h1, h2, h3, h4, h5⟩
  · exact .inl h
  · exact .inr ⟨g, n, cs, h1, h2, h3, h4.keep (ho.block g h4.lt fun k => by have := hS _ k; omega), h5⟩
theorem OvS.below {B : Nat} {w w' : World} {v : Value} (h : OvS B w v) (hb : Below w.heap.size w w') : OvS B w' v := by
  rcases h with h | ⟨g, n, cs, h1, h2, h3, h4, h5⟩
  · exact .inl h
  · exact .inr ⟨g, n, cs, h1, h2, h3, h4.below hb, h5⟩
theorem CAt.cellsU11 {w : World} {g : Nat} {cs : Array Value} (h : CAt w g cs 5) (hq : ∀ u ∈ cs.toList, Q11 u) : CellsU w g cs.size := by
  refine ⟨fun i hi => ?_, fun i => h.free i⟩
  obtain ⟨z, e, hz⟩ := hq cs[i] (by simp)
  exact ⟨z, hz, by rw [h.cell, Array.getElem?_eq_getElem hi, e]⟩
/-- What OverBytes of such turns. -/
theorem overS_any {B : Nat} {w : World} {v : Value} (h : OvS B w v) : Calls Try.prog 16 #[v] w fun e w' => e = .returned (.tuple #[]) ∧ Only (fun b => v.ownBlock = some b ∧ B ≤ b) w w' := by
  rcases h with rfl | ⟨g, n, cs, rfl, h2, h3, h4, h5⟩
  · exact (over2_nil w).mono fun e w' ⟨h1, h2⟩ => ⟨h1, by rw [h2]; exact Only.refl _ _⟩
  · exact (over2_any g n cs.size w h3 (h4.cellsU11 h5)).mono fun e w' ⟨h1, h6⟩ => ⟨h1, h6.mono fun i e => ⟨by rw [e]; rfl, by rw [e]; exact h2⟩⟩
end Go.Proofs.Ytfniojnklhjgbaa

/- What is asked of package format (its contracts, as a premise); the statements' awake over them. (Written by tools/gen_Fj14.py.) -/
namespace Go.Proofs.Ytfniojnklhjgbaa
open Go Go.RowKit

def inI (k : Int) : Prop := -9223372036854775808 ≤ k ∧ k ≤ 9223372036854775807
def FmV.wf (f : FmV) : Prop := inI f.k ∧ inI f.m ∧ inI f.s ∧ inI f.t ∧ inI f.d
theorem okFm.wf {f : FmV} (h : okFm f = true) : f.wf := by
  have := okFm_of h
  unfold FmV.wf inI
  omega
/-- What the program's Bytes answers. -/
def BfR (w : World) (f : FmV) (e : Ending) (w' : World) : Prop :=
  (okFm f = true ∧ ∃ po c, e = .returned (.tuple #[.slice po 40 c, .int .i64 0]) ∧ Buf w.heap.size w' (.slice po 40 c) (fmB f) ∧ OvS w.heap.size w' (.slice po 40 c) ∧ Below w.heap.size w w') ∨
  (okFm f = false ∧ e = .returned (.tuple #[.slice none 0 0, .int .i64 2]) ∧ Below w.heap.size w w')
/-- The five contracts that package format must meet. -/
structure FmC : Prop where
  check : ∀ (f : FmV) (w : World), f.wf → Calls Try.prog 9 #[.agg f.cs] w fun e w' => e = .returned (.int .i64 (erFm f : Int)) ∧ Below w.heap.size w w'
  bytes : ∀ (f : FmV) (w : World), f.wf → Calls Try.prog 10 #[.agg f.cs] w (BfR w f)
  read : ∀ (po : Option Addr) (c : Nat) (L : List Nat) (w : World), BL w po L → L.length ≤ c → L.length ≤ 100000 → (po = none → c = 0) → (∀ z ∈ L, z < 256) → Calls Try.prog 11 #[.slice po L.length c] w (RdFm w L)
  all : ∀ (k m s : Int) (w : World), inI k → inI m → inI s → Calls Try.prog 19 #[.int .i64 k, .int .i64 m, .int .i64 s] w (AlR w k m s)
  judge : ∀ (v : Value) (l : List Cv) (k m s : Int) (w : World), CL w v l → inI k → inI m → inI s → Calls Try.prog 21 #[v, .int .i64 k, .int .i64 m, .int .i64 s] w (JdR w l k m s)
theorem wpList_binW {ops : Array Oper} {rest : List Oper} {o : Oper} {a : Act} {w : World} {Q : Exit → Act → World → Prop} (op : BinOp) (t t2 : TypeId) (x y : Operand) (u v r : Value) (ho : o.op = .binOp op t x y t2) (hw : Region.wanted o (yielded ops a.tmps) = true) (hx : a.eval x = u) (hy : a.eval y = v) (hg : (eqGuard op t x y u v).run Try.prog w = .ok () w) (h : (binOp op t u v).run Try.prog w = .ok r w)
    (hk : wpList Try.prog ops Q rest (a.put o.dst r) w) : wpList Try.prog ops Q (o :: rest) a w := by
  refine BigFrame.wpList_want hw fun K hK => ?_
  unfold Oper.wp
  rw [exec_binF ho hx hy hg h]
  exact hK _ _ hk
theorem wpList_loadW {ops : Array Oper} {rest : List Oper} {o : Oper} {a : Act} {w : World} {Q : Exit → Act → World → Prop} (ty : TypeId) (x : Operand) (ho : o.op = .load ty x) (hw : Region.wanted o (yielded ops a.tmps) = true) (p v : Value) (hx : a.eval x = p) (h : (Instr.loadAt ty p).run Try.prog w = .ok v w)
    (hk : wpList Try.prog ops Q rest (a.put o.dst v) w) : wpList Try.prog ops Q (o :: rest) a w := by
  refine BigFrame.wpList_want hw fun K hK => ?_
  unfold Oper.wp
  rw [exec_load ho hx h]
  exact hK _ _ hk
theorem neqF (f g : FmV) (w : World) : (binOp .neq 23 (.agg f.cs) (.agg g.cs)).run Try.prog w = .ok (.bool (!decide (f = g))) w := by
  have h := eqlF f g w
  rw [run_eql_struct] at h
  rw [run_neq_struct]
  cases hq : (Op.equalIn 10000 23 (.agg f.cs) (.agg g.cs)).run Try.prog w with
  | ok b w' =>
    rw [hq] at h
    simp only [Result.andThen_ok, Result.ok.injEq, Value.bool.injEq] at h ⊢
    exact ⟨by rw [h.1], h.2⟩
  | halt x w' =>
    rw [hq] at h
    exact absurd h (by simp [Result.andThen])
/-- A format lies there. -/
def FmAt (W : World) (g off : Nat) (f : FmV) : Prop := ∀ j u, f.cs[j]? = some u → W.cell? ⟨g, off + j, none⟩ = some u
theorem FmAt.lt {W : World} {g off : Nat} {f : FmV} (h : FmAt W g off f) : g < W.heap.size := cell_lt' (a := ⟨g, off + 0, none⟩) (by rw [h 0 _ rfl]; simp)
theorem FmAt.below {W W' : World} {g off : Nat} {f : FmV} (h : FmAt W g off f) (hb : Below W.heap.size W W') : FmAt W' g off f := fun j u hu => (World.cell?_of_block (a := ⟨g, off + j, none⟩) (hb.block g h.lt)).trans (h j u hu)
theorem FmAt.only {W W' : World} {g q off : Nat} {f : FmV} (h : FmAt W g off f) (ho : Only (fun b => b = q) W W') (hq : g ≠ q) : FmAt W' g off f := fun j u hu => (World.cell?_of_block (a := ⟨g, off + j, none⟩) (ho.block g h.lt hq)).trans (h j u hu)
theorem FmAt.load {W : World} {g off : Nat} {f : FmV} (h : FmAt W g off f) : (Instr.loadAt 23 (.pointer (some ⟨g, off, none⟩))).run Try.prog W = .ok (.agg f.cs) W := load_atF h
abbrev f5 : FmV := ⟨2, 1, 2, 1, 2⟩
theorem f5_ok : okFm f5 = true := by decide
theorem f5_at : alG 2 1 2 5 = f5 := by decide
set_option linter.unusedVariables false in
set_option maxRecDepth 100000 in
set_option maxHeartbeats 8000000 in
theorem awake14_any (hF : FmC) (w : World) : Calls Try.prog 18 #[] w fun e w' => e = .returned (.bool true) ∧ Below w.heap.size w w' := by
  obtain ⟨F, hFF⟩ : ∃ F : FmV, F = f5 := ⟨_, rfl⟩
  have hok : okFm F = true := by rw [hFF]; exact f5_ok
  have HA : Hid (Calls Try.prog 19 #[.int .i64 2, .int .i64 1, .int .i64 2] w fun e w' => ∃ g c, e = .returned (.tuple #[.slice (some ⟨g, 0, none⟩) 6 c, .int .i64 0]) ∧ 6 ≤ c ∧ FmAt w' g 25 F ∧ Below w.heap.size w w') := hid ((hF.all 2 1 2 w (by unfold inI; omega) (by unfold inI; omega) (by unfold inI; omega)).mono fun e w' h => by
    rcases h with ⟨_, po, c, h1, h2, h3⟩ | ⟨h, _⟩
    · obtain ⟨g, c', e2, hc⟩ := h2.at (i := 5) (by rw [alL_len]; decide)
      rw [alL_len] at e2
      cases e2
      rw [alL_at (by decide), f5_at, ← hFF] at hc
      obtain ⟨_, _, e3, hcc, _⟩ := h2.form
      rw [alL_len] at e3 hcc
      cases e3
      exact ⟨g, c, h1, hcc, hc, h3⟩
    · exact absurd h (by decide))
  have HBY : Hid (∀ W, Calls Try.prog 10 #[.agg F.cs] W fun e w' => ∃ b o c, e = .returned (.tuple #[.slice (some ⟨b, o, none⟩) 40 c, .int .i64 0]) ∧ 40 ≤ c ∧ BL w' (some ⟨b, o, none⟩) (fmB F) ∧ Below W.heap.size W w') := hid (fun W => (hF.bytes F W (okFm.wf hok)).mono fun e w' h => by
    rcases h with ⟨_, po, c, h1, h2, _, h3⟩ | ⟨h, _⟩
    · have hbl := h2.bl
      have hcap := h2.cap
      rcases hbl with hbl | ⟨b, o, e2, hbl⟩
      · have := congrArg List.length hbl; rw [fmB_len] at this; cases this
      · exact ⟨b, o, c, by rw [h1, e2], hcap.2, .inr ⟨b, o, rfl, hbl⟩, h3⟩
    · rw [hok] at h; cases h)
  have HRD : Hid (∀ W b o c, BL W (some ⟨b, o, none⟩) (fmB F) → 40 ≤ c → Calls Try.prog 11 #[.slice (some ⟨b, o, none⟩) 40 c] W fun e w' => e = .returned (.tuple #[.agg F.cs, .int .i64 0]) ∧ Below W.heap.size W w') := hid (fun W b o c hb hc => by
    have h := hF.read (some ⟨b, o, none⟩) c (fmB F) W hb (by rw [fmB_len]; exact hc) (by rw [fmB_len]; decide) (fun e => by cases e) (fmB_lt hok)
    rw [fmB_len] at h
    refine h.mono fun e w' h => ?_
    obtain ⟨h1, h2⟩ := h
    rw [(rd_fmB hok).1, (rd_fmB hok).2] at h1
    exact ⟨h1, h2⟩)
  have HNE := hid (fun W => neqF F F W)
  have HEQ := hid (fun W => eqlF F F W)
  rw [show decide (F = F) = true by simp] at HNE HEQ
  have HBF : Hid (Try.prog.built 23 [(0, .int .i64 2), (1, .int .i64 1), (2, .int .i64 2), (3, .int .i64 1), (4, .int .i64 2)] = some F.cs) := hid (by rw [hFF]; exact builtF5 2 1 2 1 2)
  clear hF hok hFF
  have T1 : Hid True := hid trivial
  have T2 : Hid True := hid trivial
  go_enter Try.func18, Try.ntmps18
  go_upto_region 6 with (first
    | (go_at_call 19; refine HA.out.mono ?_; rintro e w2 ⟨g, c, rfl, hc6, hld, hb2⟩; have HLD := hid hld; have HB := hid hb2; have hc6' : (6 : Int) ≤ (c : Int) := (by omega); clear hld hb2)
    | ((with_reducible refine wpList_loadW 23 _ rfl ?_ (.pointer (some ⟨g, 25, none⟩)) (.agg F.cs) ?_ HLD.out.load ?_); kernel_rfl; exact rfl)
    | ((with_reducible refine wpList_build_want 23 _ rfl ?_ F.cs ?_ ?_); kernel_rfl; exact HBF.out)
    | ((with_reducible refine wpList_binW .neq 23 _ _ _ (.agg F.cs) (.agg F.cs) (.bool false) rfl ?_ ?_ ?_ ?_ (HNE.out _) ?_); kernel_rfl; exact rfl; exact rfl; simp [eqGuard])
    | (go_at_call 10; refine (HBY.out _).mono ?_; rintro e w3 ⟨b, o, cb, rfl, hcb, hbl, hb3⟩; have HRR := hid (HRD.out w3 b o cb hbl hcb); replace HLD := hid (HLD.out.below hb3); replace HB := hid (below_on HB.out hb3); clear hbl hb3)
    | (go_at_call 11; refine HRR.out.mono ?_; rintro e w4 ⟨rfl, hb4⟩; replace HLD := hid (HLD.out.below hb4); replace HB := hid (below_on HB.out hb4); clear hb4)
    | ((with_reducible refine wpList_allocF rfl rfl ?_); intro w5 g5 hz5 hb5 hg5; have HZ5 := hid hz5; have HG4 := hid HLD.out.lt; replace HLD := hid (HLD.out.below hb5); have HB5 := hid (below_on HB.out hb5); have HG5 := hid hg5; have HB45 := hid hb5; clear hz5 hb5 hg5)
    | ((with_reducible refine wpList_storeF rfl rfl _ _ rfl g5 ?_ (f := F) ?_ HZ5.out ?_); exact rfl; exact rfl; intro w6 h6 o6; have HC6 := hid h6; have HL6 := hid (HLD.out.only o6 (by have := HG4.out; have := HG5.out; omega)); have HB6 := hid (below_tr HB5.out (o6.below HB5.out.size (fun i e => by have := HB.out.size; have := HG5.out; omega))); clear h6 o6))
  have HS : Hid (∀ W, Below w6.heap.size w6 W → (fun W => (Instr.loadAt 23 (ptr g5)).run Try.prog W = .ok (.agg F.cs) W ∧ (Instr.loadAt 23 (.pointer (some ⟨g, 25, none⟩))).run Try.prog W = .ok (.agg F.cs) W) W) := hid (fun W hW => ⟨(FmAt.below (f := F) (g := g5) (off := 0) (fun j u hu => by rw [Nat.zero_add, HC6.out.cell]; exact hu) hW).load, (HL6.out.below hW).load⟩)
  have HDW := hid (below_drew w6)
  refine wp_region_held_drew (S := (fun W => (Instr.loadAt 23 (ptr g5)).run Try.prog W = .ok (.agg F.cs) W ∧ (Instr.loadAt 23 (.pointer (some ⟨g, 25, none⟩))).run Try.prog W = .ok (.agg F.cs) W)) (by kernel_rfl) (HS.out _ HDW.out) (fun hHeld => ?_)
  generalize w6.drew = w7 at *
  refine wpAnyH_take (i := 0) (oi := ⟨some 37, .move (.tmp 4), _, _, _, none⟩) (v := .int .i64 0) rfl (by kernel_rfl) (by kernel_rfl) (by kernel_rfl) (fun _ _ _ h => h) (Or.inl ⟨by kernel_rfl, by intro W hW; go_simp⟩) hHeld ?_
  refine wpAnyH_take (i := 1) (oi := ⟨some 38, .binOp .eql 26 (.tmp 37) (.const (.int .i64 0)) 26, _, _, _, none⟩) (v := .bool true) rfl (by kernel_rfl) (by kernel_rfl) (by kernel_rfl) (fun _ _ _ h => h) (Or.inl ⟨by kernel_rfl, by intro W hW; go_simp⟩) hHeld ?_
  refine wpAnyH_take (i := 2) (oi := ⟨some 39, .move (.tmp 38), _, _, _, none⟩) (v := .bool true) rfl (by kernel_rfl) (by kernel_rfl) (by kernel_rfl) (fun _ _ _ h => h) (Or.inl ⟨by kernel_rfl, by intro W hW; go_simp⟩) hHeld ?_
  refine wpAnyH_take (i := 3) (oi := ⟨some 40, .move (.tmp 3), _, _, _, some (2, true)⟩) (v := .slice (some ⟨b, o, none⟩) 40 cb) rfl (by kernel_rfl) (by kernel_rfl) (by kernel_rfl) (fun _ _ _ h => h) (Or.inl ⟨by kernel_rfl, by intro W hW; go_simp⟩) hHeld ?_
  refine wpAnyH_take (i := 4) (oi := ⟨some 41, .call { callee := .builtin .len, args := #[.tmp 40], argTypes := #[24] }, _, _, _, some (2, true)⟩) (v := .int .i64 40) rfl (by kernel_rfl) (by kernel_rfl) (by kernel_rfl) (fun _ _ _ h => h) (Or.inl ⟨by kernel_rfl, by intro W hW; go_simp⟩) hHeld ?_
  refine wpAnyH_take (i := 5) (oi := ⟨some 42, .binOp .eql 3 (.tmp 41) (.const (.int .i64 40)) 3, _, _, _, some (2, true)⟩) (v := .bool true) rfl (by kernel_rfl) (by kernel_rfl) (by kernel_rfl) (fun _ _ _ h => h) (Or.inl ⟨by kernel_rfl, by intro W hW; go_simp⟩) hHeld ?_
  refine wpAnyH_take (i := 6) (oi := ⟨some 43, .pick (.tmp 39) (.tmp 42) (.const (.bool false)), _, _, _, none⟩) (v := .bool true) rfl (by kernel_rfl) (by kernel_rfl) (by kernel_rfl) (fun _ _ _ h => h) (Or.inl ⟨by kernel_rfl, by intro W hW; go_simp⟩) hHeld ?_
  refine wpAnyH_take (i := 7) (oi := ⟨some 44, .move (.tmp 43), _, _, _, none⟩) (v := .bool true) rfl (by kernel_rfl) (by kernel_rfl) (by kernel_rfl) (fun _ _ _ h => h) (Or.inl ⟨by kernel_rfl, by intro W hW; go_simp⟩) hHeld ?_
  refine wpAnyH_take (i := 8) (oi := ⟨some 45, .move (.tmp 6), _, _, _, some (7, true)⟩) (v := .int .i64 0) rfl (by kernel_rfl) (by kernel_rfl) (by kernel_rfl) (fun _ _ _ h => h) (Or.inl ⟨by kernel_rfl, by intro W hW; go_simp⟩) hHeld ?_
  refine wpAnyH_take (i := 9) (oi := ⟨some 46, .binOp .eql 26 (.tmp 45) (.const (.int .i64 0)) 26, _, _, _, some (7, true)⟩) (v := .bool true) rfl (by kernel_rfl) (by kernel_rfl) (by kernel_rfl) (fun _ _ _ h => h) (Or.inl ⟨by kernel_rfl, by intro W hW; go_simp⟩) hHeld ?_
  refine wpAnyH_take (i := 10) (oi := ⟨some 47, .pick (.tmp 44) (.tmp 46) (.const (.bool false)), _, _, _, none⟩) (v := .bool true) rfl (by kernel_rfl) (by kernel_rfl) (by kernel_rfl) (fun _ _ _ h => h) (Or.inl ⟨by kernel_rfl, by intro W hW; go_simp⟩) hHeld ?_
  refine wpAnyH_take (i := 11) (oi := ⟨some 48, .move (.tmp 47), _, _, _, none⟩) (v := .bool true) rfl (by kernel_rfl) (by kernel_rfl) (by kernel_rfl) (fun _ _ _ h => h) (Or.inl ⟨by kernel_rfl, by intro W hW; go_simp⟩) hHeld ?_
  refine wpAnyH_take (i := 12) (oi := ⟨some 49, .load 23 (.tmp 5), _, _, _, some (11, true)⟩) (v := .agg F.cs) rfl (by kernel_rfl) (by kernel_rfl) (by kernel_rfl) (fun _ _ _ h => h) (Or.inl ⟨by kernel_rfl, fun W hW => exec_load rfl (by kernel_rfl) hW.1⟩) hHeld ?_
  refine wpAnyH_take (i := 13) (oi := ⟨some 50, .move (.tmp 1), _, _, _, some (11, true)⟩) (v := .slice (some ⟨g, 0, none⟩) 6 c) rfl (by kernel_rfl) (by kernel_rfl) (by kernel_rfl) (fun _ _ _ h => h) (Or.inl ⟨by kernel_rfl, by intro W hW; go_simp⟩) hHeld ?_
  refine wpAnyH_take (i := 14) (oi := ⟨some 51, .indexAddr 40 (.tmp 50) (.const (.int .i64 5)), _, _, _, some (11, true)⟩) (v := .pointer (some ⟨g, 25, none⟩)) rfl (by kernel_rfl) (by kernel_rfl) (by kernel_rfl) (fun _ _ _ h => h) (Or.inl ⟨by kernel_rfl, by intro W hW; go_simp⟩) hHeld ?_
  refine wpAnyH_take (i := 15) (oi := ⟨some 52, .load 23 (.tmp 51), _, _, _, some (11, true)⟩) (v := .agg F.cs) rfl (by kernel_rfl) (by kernel_rfl) (by kernel_rfl) (fun _ _ _ h => h) (Or.inl ⟨by kernel_rfl, fun W hW => exec_load rfl (by kernel_rfl) hW.2⟩) hHeld ?_
  refine wpAnyH_take (i := 16) (oi := ⟨some 53, .binOp .eql 23 (.tmp 49) (.tmp 52) 23, _, _, _, some (11, true)⟩) (v := .bool true) rfl (by kernel_rfl) (by kernel_rfl) (by kernel_rfl) (fun _ _ _ h => h) (Or.inl ⟨by kernel_rfl, fun W hW => exec_binF rfl (by kernel_rfl) (by kernel_rfl) (by simp [eqGuard]) (HEQ.out W)⟩) hHeld ?_
  refine wpAnyH_take (i := 17) (oi := ⟨some 54, .pick (.tmp 48) (.tmp 53) (.const (.bool false)), _, _, _, none⟩) (v := .bool true) rfl (by kernel_rfl) (by kernel_rfl) (by kernel_rfl) (fun _ _ _ h => h) (Or.inl ⟨by kernel_rfl, by intro W hW; go_simp⟩) hHeld ?_
  refine wpAnyH_take (i := 18) (oi := ⟨some 0, .assign (.tmp 54), _, _, _, none⟩) (v := .bool true) rfl (by kernel_rfl) (by kernel_rfl) (by kernel_rfl) (fun _ _ _ h => h) (Or.inl ⟨by kernel_rfl, by intro W hW; go_simp⟩) hHeld ?_
  refine wpAnyH_done (by kernel_rfl) ?_ _
  simp only [Act.put, List.setIfInBounds_toArray, List.set_cons_zero, List.set_cons_succ]
  go_wp2
  go_ret
  exact ⟨rfl, below_on HB6.out HDW.out⟩
end Go.Proofs.Ytfniojnklhjgbaa

/- Package format: mayBe, below, Check. -/
namespace Go.Proofs.Ytfniojnklhjgbaa
open Go Go.RowKit

theorem okAl_iff (k m s : Int) : okAl k m s = decide (1 ≤ k ∧ 1 ≤ m ∧ k ≤ 16 - m ∧ 1 ≤ s ∧ s ≤ 4) := by
  unfold okAl okFm
  rw [decide_eq_decide]
  dsimp only
  omega
set_option linter.unusedVariables false in
set_option maxRecDepth 100000 in
set_option maxHeartbeats 4000000 in
theorem fmayBe_any (k m s : Int) (w : World) (hm : inI m) : Calls Try.prog 28 #[.int .i64 k, .int .i64 m, .int .i64 s] w fun e w' => e = .returned (.bool (okAl k m s)) ∧ w' = w := by
  rw [okAl_iff]
  unfold inI at hm
  by_cases c1 : 1 ≤ k
  · by_cases c2 : 1 ≤ m
    · have hw := IntWalk.i64_in (16 - m) ⟨by omega, by omega⟩
      by_cases c3 : k ≤ 16 - m
      · by_cases c4 : 1 ≤ s
        · by_cases c5 : s ≤ 4
          · rw [decide_eq_true ⟨c1, c2, c3, c4, c5⟩]
            go_enter Try.func28, Try.ntmps28
            go_wp2
            go_ret
            exact ⟨rfl, rfl⟩
          · rw [decide_eq_false (fun h => c5 h.2.2.2.2)]
            go_enter Try.func28, Try.ntmps28
            go_wp2
            go_ret
            exact ⟨rfl, rfl⟩
        · rw [decide_eq_false (fun h => c4 h.2.2.2.1)]
          go_enter Try.func28, Try.ntmps28
          go_wp2
          go_ret
          exact ⟨rfl, rfl⟩
      · rw [decide_eq_false (fun h => c3 h.2.2.1)]
        go_enter Try.func28, Try.ntmps28
        go_wp2
        go_ret
        exact ⟨rfl, rfl⟩
    · rw [decide_eq_false (fun h => c2 h.2.1)]
      go_enter Try.func28, Try.ntmps28
      go_wp2
      go_ret
      exact ⟨rfl, rfl⟩
  · rw [decide_eq_false (fun h => c1 h.1)]
    go_enter Try.func28, Try.ntmps28
    go_wp2
    go_ret
    exact ⟨rfl, rfl⟩
theorem below_fm (n c : Int) (w : World) : Calls Try.prog 29 #[.int .i64 n, .int .i64 c] w fun e w' => e = .returned (.bool (decide (0 ≤ n ∧ n < c))) ∧ w' = w := by
  by_cases c1 : 0 ≤ n
  · by_cases c2 : n < c
    · rw [decide_eq_true ⟨c1, c2⟩]
      go_enter Try.func29, Try.ntmps29
      go_wp2
      go_ret
      exact ⟨rfl, rfl⟩
    · rw [decide_eq_false (fun h => c2 h.2)]
      go_enter Try.func29, Try.ntmps29
      go_wp2
      go_ret
      exact ⟨rfl, rfl⟩
  · rw [decide_eq_false (fun h => c1 h.1)]
    go_enter Try.func29, Try.ntmps29
    go_wp2
    go_ret
    exact ⟨rfl, rfl⟩
theorem okFm_split (f : FmV) : okFm f = (okAl f.k f.m f.s && decide (0 ≤ f.t ∧ f.t < f.s) && decide (0 ≤ f.d ∧ f.d < f.k + f.m)) := by
  rw [okAl_iff]
  unfold okFm
  rw [← Bool.decide_and, ← Bool.decide_and, decide_eq_decide]
  omega
set_option linter.unusedVariables false in
set_option maxRecDepth 100000 in
set_option maxHeartbeats 4000000 in
theorem fcheck14_any (f : FmV) (w : World) (hf : f.wf) : Calls Try.prog 9 #[.agg f.cs] w fun e w' => e = .returned (.int .i64 (erFm f : Int)) ∧ Below w.heap.size w w' := by
  have hs := okFm_split f
  obtain ⟨k, m, s, t, d⟩ := f
  obtain ⟨_, hm, _⟩ := hf
  have HB : Hid (∀ o, Below w.heap.size w (w.alloc o)) := hid (fun o => (Below.refl _ _).alloc (Nat.le_refl _) o)
  have HMB := hid (fun W => fmayBe_any k m s W hm)
  have HBT := hid (fun W => below_fm t s W)
  have HBD := hid (fun W => below_fm d (k + m) W)
  dsimp only at hs
  unfold erFm
  rw [hs]
  clear hs hm
  unfold FmV.cs
  dsimp only
  cases hA : okAl k m s with
  | false =>
    rw [hA] at HMB
    rw [Bool.false_and, Bool.false_and, if_neg (by decide)]
    clear hA HBT HBD
    go_enter Try.func9, Try.ntmps9
    go_wp2_with (go_at_call 28; refine (HMB.out _).mono ?_; rintro e w' ⟨rfl, hw'⟩; have hw2 := hw'.symm; subst hw2)
    go_ret
    exact ⟨rfl, HB.out _⟩
  | true =>
    rw [hA] at HMB
    rw [Bool.true_and]
    have ho := okFm_of (f := ⟨k, m, s, 0, 0⟩) hA
    simp only at ho
    have hw := IntWalk.i64_in (k + m) ⟨by omega, by omega⟩
    clear hA ho
    generalize decide (0 ≤ t ∧ t < s) = bt at *
    generalize decide (0 ≤ d ∧ d < k + m) = bd at *
    cases bt with
    | false =>
      rw [Bool.false_and, if_neg (by decide)]
      go_enter Try.func9, Try.ntmps9
      go_wp2_with (first
        | (go_at_call 28; refine (HMB.out _).mono ?_; rintro e w' ⟨rfl, hw'⟩; have hw2 := hw'.symm; subst hw2)
        | (go_at_call 29; refine (HBT.out _).mono ?_; rintro e w' ⟨rfl, hw'⟩; have hw2 := hw'.symm; subst hw2))
      go_ret
      exact ⟨rfl, HB.out _⟩
    | true =>
      rw [Bool.true_and]
      have T1 : Hid True := hid trivial
      have T2 : Hid True := hid trivial
      cases bd with
      | false =>
        rw [if_neg (by decide)]
        go_enter Try.func9, Try.ntmps9
        go_wp2_with (first
          | (go_at_call 28; refine (HMB.out _).mono ?_; rintro e w' ⟨rfl, hw'⟩; have hw2 := hw'.symm; subst hw2)
          | (clear T1; go_at_call 29; refine (HBT.out _).mono ?_; rintro e w' ⟨rfl, hw'⟩; have hw2 := hw'.symm; subst hw2)
          | (clear T2; go_at_call 29; refine (HBD.out _).mono ?_; rintro e w' ⟨rfl, hw'⟩; have hw2 := hw'.symm; subst hw2))
        go_ret
        exact ⟨rfl, HB.out _⟩
      | true =>
        rw [if_pos rfl]
        go_enter Try.func9, Try.ntmps9
        go_wp2_with (first
          | (go_at_call 28; refine (HMB.out _).mono ?_; rintro e w' ⟨rfl, hw'⟩; have hw2 := hw'.symm; subst hw2)
          | (clear T1; go_at_call 29; refine (HBT.out _).mono ?_; rintro e w' ⟨rfl, hw'⟩; have hw2 := hw'.symm; subst hw2)
          | (clear T2; go_at_call 29; refine (HBD.out _).mono ?_; rintro e w' ⟨rfl, hw'⟩; have hw2 := hw'.symm; subst hw2))
        go_ret
        exact ⟨rfl, HB.out _⟩
end Go.Proofs.Ytfniojnklhjgbaa
