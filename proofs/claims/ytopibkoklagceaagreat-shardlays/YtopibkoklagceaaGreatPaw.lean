/- Texts laid into one, cut to what is needed: the remark ahead of each part says what is proved there. -/
import Derived.Test.YtopibkoklagceaaGreatPav
import Derived.Test.YtopibkoklagceaaGreatPar
import Derived.Deep.MidRow
import Derived.Deep.LoopGhost
import Derived.Shelf.Abstract
import Derived.Lib.SliceRun
import Derived.Laws.IdiomCopy
import Derived.Lib.AppendZerosOnto
import Derived.Lib.Overlaps
import Derived.Shelf.RegionOpenPlain
import Derived.Great.BuildSlice
import Derived.Lib.SlBytesConst
import Derived.LaidEql
import Derived.Stop.Asserts
import Derived.RowKitTokens
import Derived.Laws.Externs
import Derived.Deep.QuietTactic
import Derived.BigQuiet
import Derived.Test.YtopibkoklagceaaGreatPas
/- Lists of records in memory. -/
namespace Go.Proofs.YtopibkoklagceaaGreat
open Go Go.RowKit

/-- A record as a value, and its parts. -/
structure Rp where
  r : Rv
  ps : Ps
def Rp.rc (x : Rp) : Rc := x.r.rc x.ps
def rcs (l : List Rp) : List Rc := l.map Rp.rc
theorem rcs_len (l : List Rp) : (rcs l).length = l.length := by simp [rcs]
/-- A record whose parts lie in memory. -/
structure RpOk (w : World) (x : Rp) : Prop where
  ok : x.r.ok
  pl : PL w x.r.pv x.ps
  nil : ∀ n c, x.r.pv = .slice none n c → c = 0
theorem RpOk.keep {w w' : World} {x : Rp} (h : RpOk w x) (hk : ∀ a, w.cell? a ≠ none → w'.cell? a = w.cell? a) : RpOk w' x := ⟨h.ok, h.pl.keep hk, h.nil⟩
theorem RpOk.below {w w' : World} {x : Rp} (h : RpOk w x) (hb : Below w.heap.size w w') : RpOk w' x := ⟨h.ok, h.pl.below hb, h.nil⟩
theorem RpOk.form {w : World} {x : Rp} (h : RpOk w x) : ∃ po c, x.r.pv = .slice po x.ps.length c ∧ (po = none → c = 0) ∧ x.ps.length ≤ c ∧ x.ps.length ≤ 100000 := by
  obtain ⟨po, c, h1, h2, h3, _⟩ := h.pl
  exact ⟨po, c, h1, fun e => h.nil _ c (by rw [h1, e]), h2, h3⟩
/-- .. in no block below B; they may be written. -/
structure RpX (B : Nat) (w : World) (x : Rp) : Prop where
  ok : x.r.ok
  pl : PLF B w x.r.pv x.ps
theorem RpX.one {B : Nat} {w : World} {x : Rp} (h : RpX B w x) : RpOk w x := ⟨h.ok, h.pl.1, h.pl.2.2⟩
theorem RpX.only {B : Nat} {w w' : World} {x : Rp} {S : Nat → Prop} (h : RpX B w x) (hO : Only S w w') (hS : ∀ i, S i → i < B) : RpX B w' x := ⟨h.ok, h.pl.only hO hS⟩
theorem RpX.below {B : Nat} {w w' : World} {x : Rp} (h : RpX B w x) (hb : Below w.heap.size w w') : RpX B w' x := h.only (S := fun _ => False) (Only.of_below hb) (fun _ h => h.elim)
theorem RpX.base {B C : Nat} {w : World} {x : Rp} (h : RpX B w x) (hC : C ≤ B) : RpX C w x := ⟨h.ok, h.pl.base hC⟩
theorem sizeR42 {x : Rp} (h : x.r.ok) : x.r.cs.toList.length = 42 := by rw [Array.length_toList, h.size]

def flatR (l : List Rp) : List Value := l.flatMap fun x => x.r.cs.toList
theorem flatR_cons (x : Rp) (l : List Rp) : flatR (x :: l) = x.r.cs.toList ++ flatR l := rfl
theorem flatR_app (l m : List Rp) : flatR (l ++ m) = flatR l ++ flatR m := by simp [flatR]
theorem flatR_len : ∀ {l : List Rp}, (∀ x ∈ l, x.r.ok) → (flatR l).length = l.length * 42
  | [], _ => rfl
  | x :: l, h => by
    rw [flatR_cons, List.length_append, sizeR42 (h x (by simp)), flatR_len (l := l) (fun y hy => h y (by simp [hy])), List.length_cons]; omega
theorem flatR_get : ∀ {l : List Rp}, (∀ x ∈ l, x.r.ok) → ∀ {i : Nat} {x : Rp}, l[i]? = some x → ∀ {j : Nat}, j < 42 → (flatR l)[i * 42 + j]? = x.r.cs[j]?
  | [], _, i, x, e, j, _ => by simp at e
  | y :: l, h, 0, x, e, j, hj => by
    simp at e
    subst e
    rw [flatR_cons, Nat.zero_mul, Nat.zero_add, List.getElem?_append_left (by rw [sizeR42 (h y (by simp))]; exact hj), Array.getElem?_toList]
  | y :: l, h, i + 1, x, e, j, hj => by
    rw [flatR_cons, List.getElem?_append_right (by rw [sizeR42 (h y (by simp))]; omega), sizeR42 (h y (by simp)), show (i + 1) * 42 + j - 42 = i * 42 + j by omega]
    exact flatR_get (l := l) (fun z hz => h z (by simp [hz])) (by simpa using e) hj
theorem Rv.cs_one (r : Rv) (hp : r.pv.oneCell' = true) : ∀ v ∈ r.cs.toList, v.oneCell' = true := by
  intro v hv
  rw [Rv.toL] at hv
  simp only [List.mem_append, List.mem_cons, List.not_mem_nil, or_false, List.mem_map] at hv
  rcases hv with (rfl | rfl | rfl | rfl | rfl | rfl | rfl | rfl) | ⟨_, _, rfl⟩ | rfl | rfl <;> first | rfl | exact hp
theorem RpOk.one {w : World} {x : Rp} (h : RpOk w x) : ∀ v ∈ x.r.cs.toList, v.oneCell' = true := by
  obtain ⟨po, c, e, _⟩ := h.form
  exact x.r.cs_one (by rw [e]; rfl)
/-- The cells of the records lie there, one behind the other. -/
def RCells (w : World) (b o : Nat) (l : List Rp) : Prop := ∀ i x, l[i]? = some x → ∀ j v, x.r.cs[j]? = some v → w.cell? ⟨b, o + i * 42 + j, none⟩ = some v
theorem RCells.range {w : World} {b o : Nat} {l : List Rp} (h : RCells w b o l) {i : Nat} {x : Rp} (e : l[i]? = some x) : w.rangeAt b (o + i * 42) x.r.cs.toList := fun j v hv => h i x e j v (by simpa using hv)
theorem RCells.keep {w w' : World} {b o : Nat} {l : List Rp} (h : RCells w b o l) (hk : ∀ a, w.cell? a ≠ none → w'.cell? a = w.cell? a) : RCells w' b o l := fun i x e j v hv => by
  have := h i x e j v hv
  rw [hk _ (by rw [this]; simp)]; exact this
/-- The slice v leads to the records l. -/
def RL (w : World) (v : Value) (l : List Rp) : Prop := ∃ po c, v = .slice po l.length c ∧ l.length ≤ c ∧ l.length ≤ 100000 ∧ (po = none → c = 0) ∧ (l = [] ∨ ∃ b o, po = some ⟨b, o, none⟩ ∧ RCells w b o l) ∧ ∀ x ∈ l, RpOk w x
theorem RL.each {w : World} {v : Value} {l : List Rp} (h : RL w v l) : ∀ x ∈ l, RpOk w x := by obtain ⟨_, _, _, _, _, _, _, h⟩ := h; exact h
theorem RL.ok {w : World} {v : Value} {l : List Rp} (h : RL w v l) : ∀ x ∈ l, x.r.ok := fun x hx => (h.each x hx).ok
theorem RL.keep {w w' : World} {v : Value} {l : List Rp} (h : RL w v l) (hk : ∀ a, w.cell? a ≠ none → w'.cell? a = w.cell? a) : RL w' v l := by
  obtain ⟨po, c, h1, h2, h3, h4, h5, h6⟩ := h
  refine ⟨po, c, h1, h2, h3, h4, ?_, fun x hx => (h6 x hx).keep hk⟩
  rcases h5 with h5 | ⟨b, o, e, h5⟩
  · exact Or.inl h5
  · exact Or.inr ⟨b, o, e, h5.keep hk⟩
theorem RL.below {w w' : World} {v : Value} {l : List Rp} (h : RL w v l) (hb : Below w.heap.size w w') : RL w' v l :=
  h.keep fun a ha => World.cell?_of_block (hb.block a.block (cell_lt' ha))
theorem RL.nil (w : World) : RL w (.slice none 0 0) [] := ⟨none, 0, rfl, Nat.le_refl _, by simp, fun _ => rfl, Or.inl rfl, fun x hx => by cases hx⟩
theorem RL.len {w : World} {v : Value} {l : List Rp} (h : RL w v l) : l.length ≤ 100000 := by obtain ⟨_, _, _, _, h, _⟩ := h; exact h
/-- Records in a row of their own. -/
def RBuf (B : Nat) (w : World) (v : Value) (l : List Rp) : Prop := w.ownsRow B 40 42 v l.length (flatR l)
theorem RBuf.nil (B : Nat) (w : World) : RBuf B w (.slice none 0 0) [] := World.ownsRow_nil w B _ 42
theorem RBuf.form {B : Nat} {w : World} {v : Value} {l : List Rp} (h : RBuf B w v l) : ∃ po c, v = .slice po l.length c ∧ l.length ≤ c ∧ (po = none → c = 0) := by
  rcases h.2 with ⟨rfl, h0⟩ | ⟨g, cap, cur, rfl, _, _, h1, _⟩
  · exact ⟨none, 0, by rw [h0], by omega, fun _ => rfl⟩
  · exact ⟨_, cap, rfl, h1, fun e => by cases e⟩
theorem RBuf.keep {B : Nat} {w w' : World} {v : Value} {l : List Rp} (h : RBuf B w v l) (hk : ∀ b, v.ownBlock = some b → w'.heap[b]? = w.heap[b]?) : RBuf B w' v l := ownsRow_keep h hk
theorem RBuf.below {B : Nat} {w w' : World} {v : Value} {l : List Rp} (h : RBuf B w v l) (hb : Below w.heap.size w w') : RBuf B w' v l := h.keep fun b hv => hb.block b (own_ge h b hv).2
theorem RBuf.base {B C : Nat} {w : World} {v : Value} {l : List Rp} (h : RBuf B w v l) (hC : C ≤ B) : RBuf C w v l := own_base h hC
/-- Records in memory of their own, their parts too. -/
structure Rs (B : Nat) (w : World) (v : Value) (l : List Rp) : Prop where
  buf : RBuf B w v l
  each : ∀ x ∈ l, RpX B w x
theorem Rs.nil (B : Nat) (w : World) : Rs B w (.slice none 0 0) [] := ⟨RBuf.nil B w, fun x hx => by cases hx⟩
theorem Rs.below {B : Nat} {w w' : World} {v : Value} {l : List Rp} (h : Rs B w v l) (hb : Below w.heap.size w w') : Rs B w' v l := ⟨h.buf.below hb, fun x hx => (h.each x hx).below hb⟩
theorem Rs.only {B : Nat} {w w' : World} {v : Value} {l : List Rp} {S : Nat → Prop} (h : Rs B w v l) (hO : Only S w w') (hS : ∀ i, S i → i < B) : Rs B w' v l :=
  ⟨h.buf.keep fun b hv => hO.block b (own_ge h.buf b hv).2 (fun k => by have := hS b k; have := (own_ge h.buf b hv).1; omega), fun x hx => (h.each x hx).only hO hS⟩
theorem Rs.base {B C : Nat} {w : World} {v : Value} {l : List Rp} (h : Rs B w v l) (hC : C ≤ B) : Rs C w v l := ⟨h.buf.base hC, fun x hx => (h.each x hx).base hC⟩
theorem setAll_splice {cs vs : List Value} {o : Nat} (h : o + vs.length ≤ cs.length) : setAll cs o vs = cs.take o ++ (vs ++ cs.drop (o + vs.length)) := by
  have e : cs = cs.take o ++ ((cs.drop o).take vs.length ++ cs.drop (o + vs.length)) := by
    rw [← List.drop_drop, List.take_append_drop, List.take_append_drop]
  have hl : (cs.take o).length = o := by rw [List.length_take]; omega
  have := setAll_app (cs.take o) vs ((cs.drop o).take vs.length) (cs.drop (o + vs.length)) (by rw [List.length_take, List.length_drop]; omega)
  rw [hl, ← e] at this
  exact this
theorem flatR_set {l : List Rp} (hk : ∀ x ∈ l, x.r.ok) {i : Nat} (hi : i < l.length) {y : Rp} : flatR (l.set i y) = (flatR l).take (i * 42) ++ (y.r.cs.toList ++ (flatR l).drop (i * 42 + 42)) := by
  have e : l = l.take i ++ l[i] :: l.drop (i + 1) := by rw [List.getElem_cons_drop, List.take_append_drop]
  have hl : (flatR (l.take i)).length = i * 42 := by
    rw [flatR_len (fun x hx => hk x (List.mem_of_mem_take hx)), List.length_take, Nat.min_eq_left (by omega)]
  have hl2 : (l[i].r.cs.toList).length = 42 := sizeR42 (hk _ (List.getElem_mem hi))
  have e2 : flatR l = flatR (l.take i) ++ (l[i].r.cs.toList ++ flatR (l.drop (i + 1))) := by
    conv => lhs; rw [e]
    rw [flatR_app, flatR_cons]
  have e3 : (flatR l).drop (i * 42 + 42) = flatR (l.drop (i + 1)) := by
    rw [e2, ← List.drop_drop, List.drop_left' hl, List.drop_left' hl2]
  rw [List.set_eq_take_append_cons_drop, if_pos hi, flatR_app, flatR_cons, e3, e2, List.take_left' hl]
/-- A record is stored at its place. -/
theorem RBuf.set {B : Nat} {w : World} {v : Value} {l : List Rp} (h : RBuf B w v l) (hk : ∀ x ∈ l, x.r.ok) {i : Nat} (hi : i < l.length) {y : Rp} (hy : y.r.ok) :
    ∃ g c, v = .slice (some ⟨g, 0, none⟩) l.length c ∧ B ≤ g ∧ w.there g (i * 42) 42 ∧ (∃ cs, CAt w g cs 40) ∧ RBuf B (w.setCells g (i * 42) y.r.cs.toList) v (l.set i y) ∧ Only (fun b => b = g) w (w.setCells g (i * 42) y.r.cs.toList) := by
  rcases h.2 with ⟨rfl, h0⟩ | ⟨g, cap, cur, rfl, hB, hg, h1, hm, h3, h4⟩
  · omega
  have hc : CAt w g cur 40 := hg
  refine ⟨g, cap, rfl, hB, fun j hj => ⟨?_, hc.free _⟩, ⟨cur, hc⟩, ⟨?_, Or.inr ⟨g, cap, _, by rw [List.length_set], hB, CAt.setCells y.r.cs.toList (i * 42) cur w hc, by rw [List.length_set]; exact h1, hm, ?_, ?_⟩⟩, only_setCells _ _ _ _ rfl⟩
  · rw [hc.cell, Array.getElem?_eq_getElem (by omega)]; rfl
  · rw [flatR_len (fun x hx => ?_)]
    rcases List.mem_or_eq_of_mem_set hx with hx | rfl
    · exact hk x hx
    · exact hy
  · have e := setAll_splice (cs := cur.toList) (vs := y.r.cs.toList) (o := i * 42) (by rw [sizeR42 hy, Array.length_toList]; omega)
    rw [List.size_toArray, e, List.length_append, List.length_append, List.length_take, List.length_drop, sizeR42 hy, Array.length_toList]; omega
  · have e := setAll_splice (cs := cur.toList) (vs := y.r.cs.toList) (o := i * 42) (by rw [sizeR42 hy, Array.length_toList]; omega)
    rw [List.toList_toArray, e, sizeR42 hy, List.length_set, flatR_set hk hi, ← h4]
    have ha : (cur.toList.take (i * 42)).length = i * 42 := by rw [List.length_take, Array.length_toList]; omega
    rw [List.take_append, ha, List.take_append, sizeR42 hy, List.take_of_length_le (l := cur.toList.take (i * 42)) (by omega), List.take_of_length_le (l := y.r.cs.toList) (by rw [sizeR42 hy]; omega), List.take_take, Nat.min_eq_left (by omega), List.drop_take, show l.length * 42 - i * 42 - 42 = l.length * 42 - (i * 42 + 42) by omega]
end Go.Proofs.YtopibkoklagceaaGreat

/- journal.Check. -/
namespace Go.Proofs.YtopibkoklagceaaGreat
open Go Go.RowKit

/-- A record's own block, behind what was there. -/
structure Own1 (w : World) (g : Nat) (r : Rv) (W : World) : Prop where
  below : Below w.heap.size w W
  box : RBox W g r
theorem Own1.on {w W W' : World} {g : Nat} {r : Rv} (h : Own1 w g r W) (hr : r.ok) (hb : Below W.heap.size W W') : Own1 w g r W' := ⟨below_on h.below hb, h.box.below hr hb⟩
end Go.Proofs.YtopibkoklagceaaGreat

/- journal.Same, by slices.EqualFunc and record.Same. -/
namespace Go.Proofs.YtopibkoklagceaaGreat
open Go Go.RowKit

/-- What the range's variable needs of a list's record. -/
theorem RL.at {w W : World} {po : Option Addr} {c : Nat} {l : List Rp} (h : RL w (.slice po l.length c) l) (hb : Below w.heap.size w W) {k : Nat} (hk : k < l.length) :
    ∃ b o x, po = some ⟨b, o, none⟩ ∧ l[k]? = some x ∧ W.rangeAt b (o + k * 42) x.r.cs.toList ∧ RpOk W x ∧ x.r.pv.oneCell' = true := by
  obtain ⟨x, hx⟩ : ∃ x, l[k]? = some x := ⟨_, List.getElem?_eq_getElem hk⟩
  obtain ⟨po', c', e, _, _, _, hcell, heach⟩ := h.below hb
  cases e
  rcases hcell with h | ⟨b, o, e, hc⟩
  · rw [h] at hk; cases hk
  · have hr := heach x (List.mem_of_getElem? hx)
    refine ⟨b, o, x, e, hx, hc.range hx, hr, ?_⟩
    obtain ⟨p0, c0, e0, _⟩ := hr.pl
    rw [e0]; rfl
end Go.Proofs.YtopibkoklagceaaGreat

/- journal.Same and begins; slices.Clone of records; clone. -/
namespace Go.Proofs.YtopibkoklagceaaGreat
open Go Go.RowKit

theorem RBuf.made0 (w : World) (B : Nat) (hB : B ≤ w.heap.size) : RBuf B (w.alloc (.cells #[] 40)) (.slice (some ⟨w.heap.size, 0, none⟩) 0 0) [] := World.ownsRow_made w #[] 0 hB (by unfold maxLen; omega) (by simp)
end Go.Proofs.YtopibkoklagceaaGreat

/- journal.clone. -/
namespace Go.Proofs.YtopibkoklagceaaGreat
open Go Go.RowKit

theorem CAt.apart {w : World} {g h : Nat} {cs ds : Array Value} {t u : TypeId} (a : CAt w g cs t) (b : CAt w h ds u) (hne : t ≠ u) : g ≠ h := fun e => by
  subst e
  have := a.symm.trans b
  simp at this
  exact hne this.2
theorem PLF.other {B : Nat} {w w' : World} {v : Value} {ps : Ps} {g : Nat} {cs : Array Value} {t : TypeId} (ht : t ≠ 69) (h : PLF B w v ps) (hc : CAt w g cs t) (ho : Only (fun b => b = g) w w') : PLF B w' v ps := by
  obtain ⟨⟨po, c, h1, h2, h3, h⟩, hB, hz⟩ := h
  refine ⟨⟨po, c, h1, h2, h3, ?_⟩, fun a n c e hne => ?_, hz⟩
  · rcases h with h | ⟨b, o, hp, h⟩
    · exact Or.inl h
    · refine Or.inr ⟨b, o, hp, fun i hi => ?_⟩
      obtain ⟨_, ds, hd⟩ := hB ⟨b, o, none⟩ _ _ (by rw [h1, hp]) (fun e => by rw [e] at hi; cases hi)
      have hk : w'.heap[b]? = w.heap[b]? := ho.block b hd.lt (fun e => hc.apart hd ht e.symm)
      exact ⟨(World.cell?_of_block (a := ⟨b, o + i * 2, none⟩) hk).trans (h i hi).1, (World.cell?_of_block (a := ⟨b, o + i * 2 + 1, none⟩) hk).trans (h i hi).2⟩
  · obtain ⟨k1, ds, k2⟩ := hB a n c e hne
    exact ⟨k1, ds, k2.keep (ho.block a.block k2.lt fun e => hc.apart k2 ht e.symm)⟩
theorem RpX.other {B : Nat} {w w' : World} {x : Rp} {g : Nat} {cs : Array Value} (h : RpX B w x) (hc : CAt w g cs 40) (ho : Only (fun b => b = g) w w') : RpX B w' x := ⟨h.ok, h.pl.other (by decide) hc ho⟩
theorem RBuf.range {B : Nat} {w : World} {v : Value} {l : List Rp} (h : RBuf B w v l) (hk : ∀ x ∈ l, x.r.ok) {i : Nat} {x : Rp} (e : l[i]? = some x) :
    ∃ g c, v = .slice (some ⟨g, 0, none⟩) l.length c ∧ w.rangeAt g (i * 42) x.r.cs.toList := by
  rcases h.2 with ⟨rfl, h0⟩ | ⟨g, cap, cur, rfl, hB, hg, h1, hm, h3, h4⟩
  · rw [List.eq_nil_of_length_eq_zero h0] at e; cases e
  refine ⟨g, cap, rfl, fun j v hv => ?_⟩
  have hc : CAt w g cur 40 := hg
  have hi := (List.getElem?_eq_some_iff.1 e).1
  have hj : j < 42 := by
    rcases Nat.lt_or_ge j 42 with q | q
    · exact q
    · rw [List.getElem?_eq_none (by rw [sizeR42 (hk x (List.mem_of_getElem? e))]; exact q)] at hv; cases hv
  rw [hc.cell]
  have := flatR_get hk e hj
  rw [← h4, List.getElem?_take, if_pos (by omega)] at this
  rw [Array.getElem?_toList] at this hv
  rw [this]; exact hv
/-- So many records have been copied. -/
structure CInv (w : World) (l : List Rp) (v : Value) (kk : Nat) (m : List Rp) (W : World) : Prop where
  len : m.length = l.length
  rc : rcs m = rcs l
  low : ∀ j x, j < kk → m[j]? = some x → RpX w.heap.size W x
  high : ∀ j, kk ≤ j → m[j]? = l[j]?
  buf : RBuf w.heap.size W v m
  below : Below w.heap.size w W
theorem CInv.ok {w W : World} {l m : List Rp} {v : Value} {kk : Nat} (h : CInv w l v kk m W) (hl : ∀ x ∈ l, x.r.ok) : ∀ x ∈ m, x.r.ok := fun x hx => by
  obtain ⟨j, hj, e⟩ := List.getElem_of_mem hx
  have e' : m[j]? = some x := by rw [List.getElem?_eq_getElem hj, e]
  by_cases hk : j < kk
  · exact (h.low j x hk e').ok
  · rw [h.high j (by omega)] at e'
    exact hl x (List.mem_of_getElem? e')
end Go.Proofs.YtopibkoklagceaaGreat

/- slices.DeleteFunc with has; without. -/
namespace Go.Proofs.YtopibkoklagceaaGreat
open Go Go.RowKit

/-- The records but the one of an ID. -/
def woutR (l : List Rp) (id : List Nat) : List Rp := l.filter fun x => decide (lst x.r.id ≠ id)
/-- So far: the first j have been looked at, i of them are kept. -/
structure DInv (B : Nat) (w : World) (l : List Rp) (v : Value) (s : ByteArray) (gf i j : Nat) (m : List Rp) (W : World) : Prop where
  len : m.length = l.length
  lt : i < j
  le : j ≤ l.length
  low : m.take i = woutR (l.take j) (lst s)
  high : ∀ k, j ≤ k → m[k]? = l[k]?
  each : ∀ x ∈ m, RpX B W x
  buf : RBuf B W v m
  below : Below B w W
  hf : CAt W gf #[.string s] 9
theorem woutR_succ {l : List Rp} {id : List Nat} {j : Nat} {x : Rp} (hx : l[j]? = some x) : woutR (l.take (j + 1)) id = woutR (l.take j) id ++ if lst x.r.id = id then [] else [x] := by
  have hj := (List.getElem?_eq_some_iff.1 hx).1
  have e : l[j] = x := (List.getElem?_eq_some_iff.1 hx).2
  rw [List.take_succ_eq_append_getElem hj, e]
  unfold woutR
  rw [List.filter_append]
  by_cases h : lst x.r.id = id <;> simp [h]
section
variable {B : Nat} {w : World} {l : List Rp} {v : Value} {s : ByteArray} {gf i j : Nat} {m : List Rp} {W W1 : World} (h : DInv B w l v s gf i j m W)
include h
theorem DInv.on (hB : B ≤ w.heap.size) (hb : Below W.heap.size W W1) : DInv B w l v s gf i j m W1 :=
  ⟨h.len, h.lt, h.le, h.low, h.high, fun x hx => (h.each x hx).below hb, h.buf.below hb, below_tr h.below (below_less hb (Nat.le_trans hB h.below.size)), h.hf.below hb⟩
theorem DInv.keep (hB : B ≤ w.heap.size) {x : Rp} (hx : l[j]? = some x) (he : lst x.r.id ≠ lst s) :
    ∃ g c, v = .slice (some ⟨g, 0, none⟩) l.length c ∧ W.there g (i * 42) 42 ∧ DInv B w l v s gf (i + 1) (j + 1) (m.set i x) (W.setCells g (i * 42) x.r.cs.toList) := by
  have hxm : m[j]? = some x := by rw [h.high j (Nat.le_refl _)]; exact hx
  have hxX := h.each x (List.mem_of_getElem? hxm)
  have hlt := h.lt
  have hle := (List.getElem?_eq_some_iff.1 hx).1
  obtain ⟨g, c, e, hg, ht, ⟨cs, hc⟩, hbuf, ho⟩ := h.buf.set (fun y hy => (h.each y hy).ok) (i := i) (by rw [h.len]; omega) hxX.ok
  refine ⟨g, c, by rw [e, h.len], ht, by rw [List.length_set, h.len], by omega, hle, ?_, fun k hk => ?_, fun y hy => ?_, hbuf, below_tr h.below (ho.below (by have := h.below.size; omega) (fun i e => by omega)), h.hf.keep (ho.block gf h.hf.lt fun e => h.hf.apart hc (by decide) e)⟩
  · rw [woutR_succ hx, if_neg he, ← h.low, List.take_succ_eq_append_getElem (by rw [List.length_set, h.len]; omega), List.getElem_set_self, List.take_set_of_le (by omega)]
  · rw [List.getElem?_set, if_neg (by omega)]
    exact h.high k (by omega)
  · rcases List.mem_or_eq_of_mem_set hy with hy | rfl
    · exact (h.each y hy).other hc ho
    · exact hxX.other hc ho
end
theorem DInv.start {B : Nat} {w W : World} {l : List Rp} {v : Value} {s : ByteArray} {gf i : Nat} (h : Rs B W v l) (hb : Below B w W) (hf : CAt W gf #[.string s] 9) (hi : atI (rcs l) (lst s) = some i) : DInv B w l v s gf i (i + 1) l W := by
  obtain ⟨h1, h2, h3⟩ := atI_some hi
  rw [rcs_len] at h1
  have hx : l[i]? = some l[i] := List.getElem?_eq_getElem h1
  have e2 : lst l[i].r.id = lst s := by have := h2; simpa [rcs, Rp.rc, Rv.rc] using this
  refine ⟨rfl, by omega, by omega, ?_, fun k _ => rfl, h.each, h.buf, hb, hf⟩
  rw [woutR_succ hx, if_pos e2, List.append_nil]
  unfold woutR
  rw [List.filter_eq_self.2]
  intro y hy
  obtain ⟨j, hj, e⟩ := List.getElem_of_mem hy
  rw [List.length_take] at hj
  have := h3 j (by omega)
  simp only [ne_eq, decide_eq_true_eq]
  intro e3
  apply this
  rw [List.getElem_take] at e
  simpa [rcs, Rp.rc, Rv.rc, e] using e3

end Go.Proofs.YtopibkoklagceaaGreat

/- A slice literal of one record. -/
namespace Go.Proofs.YtopibkoklagceaaGreat
open Go Go.RowKit

theorem fold_zip : ∀ (V : List Value) (k : Nat) (C : Array Value), ((V.zipIdx k).foldl (fun cs (p : Value × Nat) => cs.setIfInBounds p.2 p.1) C).toList = setAll C.toList k V
  | [], k, C => rfl
  | v :: r, k, C => by
    rw [List.zipIdx_cons, List.foldl_cons, fold_zip r (k + 1), setAll, Array.toList_setIfInBounds]
end Go.Proofs.YtopibkoklagceaaGreat

/- journal.Bytes. -/
namespace Go.Proofs.YtopibkoklagceaaGreat
open Go Go.RowKit

theorem CAt.bl {w : World} {g : Nat} {x : List Nat} {t : TypeId} (h : CAt w g (sumC x) t) : BL w (some ⟨g, 0, none⟩) x := Or.inr ⟨g, 0, rfl, fun i hi => by rw [Nat.zero_add, h.cell, sumC_get hi]⟩
abbrev c3 : Array Value := #[.int .u8 83, .int .u8 74, .int .u8 49]
theorem rsB_take {l : List Rc} {k : Nat} {x : Rc} (h : l[k]? = some x) : rsB (l.take (k + 1)) = rsB (l.take k) ++ rcB x := by
  have hk := (List.getElem?_eq_some_iff.1 h).1
  have e := (List.getElem?_eq_some_iff.1 h).2
  rw [List.take_succ_eq_append_getElem hk, e]
  simp [rsB]
/-- What stands ahead of the records. -/
def hdJ (s : Int) (n : Nat) : List Nat := [83, 74, 49] ++ ib s ++ nb n
end Go.Proofs.YtopibkoklagceaaGreat

/- journal.Bytes: the walks. -/
namespace Go.Proofs.YtopibkoklagceaaGreat
open Go Go.RowKit

/-- The loop: so many records have been written behind the head. -/
structure BI (w1 : World) (s : Int) (n : Nat) (rs : List Rc) (k : Nat) (v : Value) (W : World) : Prop where
  below : Below w1.heap.size w1 W
  buf : Buf w1.heap.size W v (hdJ s n ++ rsB (rs.take k))
theorem BI.app {w1 W W1 : World} {s : Int} {n : Nat} {rs : List Rc} {k : Nat} {v : Value} (h : BI w1 s n rs k v W) (hb : Below W.heap.size W W1) {x : Rc} (hx : rs[k]? = some x) {po : Option Addr} (hbl : BL W1 po (rcB x)) (hz : po = none → (rcB x).length = 0) (hn : (hdJ s n ++ rsB (rs.take k)).length + (rcB x).length ≤ 2000000) :
    ∃ v' W2, (Builtin.append_ #[22, 22] 22 #[v, .slice po (rcB x).length (rcB x).length]).run Tryz.prog W1 = .ok v' W2 ∧ BI w1 s n rs (k + 1) v' W2 := by
  obtain ⟨v', W2, hr, hb2, hg⟩ := (h.buf.below hb).app po (rcB x).length (rcB x) hbl hz hn (Nat.le_trans h.below.size hb.size)
  refine ⟨v', W2, hr, below_grown (below_on h.below hb) hg (Nat.le_refl _) (fun b e => (own_ge h.buf b e).1), ?_⟩
  rw [rsB_take hx, ← List.append_assoc]; exact hb2

end Go.Proofs.YtopibkoklagceaaGreat

/- Copies (what drives answer) and lists of them in memory; bools in memory. -/
namespace Go.Proofs.YtopibkoklagceaaGreat
open Go Go.RowKit

/-- A copy as a value, and its bytes. -/
structure Cv where
  err : Int
  v : Value
  bs : List Nat
def Cv.cp (x : Cv) : Cp := ⟨x.err, x.bs⟩
def cps (l : List Cv) : List Cp := l.map Cv.cp
theorem cps_len (l : List Cv) : (cps l).length = l.length := by simp [cps]
theorem cps_get (l : List Cv) (i : Nat) : (cps l)[i]? = l[i]?.map Cv.cp := by simp [cps]
/-- Bytes of a copy: where they lie. -/
structure CvOk (w : World) (x : Cv) : Prop where
  sl : ∃ po c, x.v = .slice po x.bs.length c ∧ BL w po x.bs ∧ x.bs.length ≤ c ∧ (po = none → c = 0)
  small : x.bs.length ≤ 100000
  byte : ∀ z ∈ x.bs, z < 256
theorem CvOk.keep {w w' : World} {x : Cv} (h : CvOk w x) (hk : ∀ a, w.cell? a ≠ none → w'.cell? a = w.cell? a) : CvOk w' x := by
  obtain ⟨⟨po, c, h1, h2, h3, h4⟩, h5, h6⟩ := h
  exact ⟨⟨po, c, h1, h2.keep hk, h3, h4⟩, h5, h6⟩
theorem CvOk.below {w w' : World} {x : Cv} (h : CvOk w x) (hb : Below w.heap.size w w') : CvOk w' x := h.keep fun a ha => World.cell?_of_block (hb.block a.block (cell_lt' ha))
/-- The copies lie there, one behind the other. -/
def CCells (w : World) (b o : Nat) (l : List Cv) : Prop := ∀ i x, l[i]? = some x → w.cell? ⟨b, o + i * 2, none⟩ = some (i64 x.err) ∧ w.cell? ⟨b, o + i * 2 + 1, none⟩ = some x.v
theorem CCells.keep {w w' : World} {b o : Nat} {l : List Cv} (h : CCells w b o l) (hk : ∀ a, w.cell? a ≠ none → w'.cell? a = w.cell? a) : CCells w' b o l := fun i x e => by
  have := h i x e
  exact ⟨(hk _ (by rw [this.1]; simp)).trans this.1, (hk _ (by rw [this.2]; simp)).trans this.2⟩
/-- The slice v leads to the copies l. -/
def CL (w : World) (v : Value) (l : List Cv) : Prop := ∃ po c, v = .slice po l.length c ∧ l.length ≤ c ∧ l.length ≤ 1000 ∧ (po = none → c = 0) ∧ (l = [] ∨ ∃ b o, po = some ⟨b, o, none⟩ ∧ CCells w b o l) ∧ ∀ x ∈ l, CvOk w x
theorem CL.each {w : World} {v : Value} {l : List Cv} (h : CL w v l) : ∀ x ∈ l, CvOk w x := by obtain ⟨_, _, _, _, _, _, _, h⟩ := h; exact h
theorem CL.keep {w w' : World} {v : Value} {l : List Cv} (h : CL w v l) (hk : ∀ a, w.cell? a ≠ none → w'.cell? a = w.cell? a) : CL w' v l := by
  obtain ⟨po, c, h1, h2, h3, h4, h5, h6⟩ := h
  refine ⟨po, c, h1, h2, h3, h4, ?_, fun x hx => (h6 x hx).keep hk⟩
  rcases h5 with h5 | ⟨b, o, e, h5⟩
  · exact Or.inl h5
  · exact Or.inr ⟨b, o, e, h5.keep hk⟩
theorem CL.below {w w' : World} {v : Value} {l : List Cv} (h : CL w v l) (hb : Below w.heap.size w w') : CL w' v l := h.keep fun a ha => World.cell?_of_block (hb.block a.block (cell_lt' ha))
theorem CL.nil (w : World) : CL w (.slice none 0 0) [] := ⟨none, 0, rfl, Nat.le_refl _, by simp, fun _ => rfl, Or.inl rfl, fun x hx => by cases hx⟩
/-- One of them, by its place. -/
theorem CL.where {w : World} {v : Value} {l : List Cv} (h : CL w v l) {i : Nat} {x : Cv} (hx : l[i]? = some x) : ∃ b o c, v = .slice (some ⟨b, o, none⟩) l.length c ∧ l.length ≤ c ∧ CCells w b o l ∧ CvOk w x := by
  obtain ⟨po, c, h1, h2, h3, h4, h5, h6⟩ := h
  rcases h5 with rfl | ⟨b, o, rfl, h5⟩
  · simp at hx
  · exact ⟨b, o, c, h1, h2, h5, h6 x (List.mem_of_getElem? hx)⟩
/-- A copy's two cells, in the world at hand, and its bytes. -/
theorem CL.at {w w' : World} {b o n c : Nat} {l : List Cv} (h : CL w (.slice (some ⟨b, o, none⟩) n c) l) (hb : Below w.heap.size w w') {i : Nat} {x : Cv} (hx : l[i]? = some x) : w'.cell? ⟨b, o + i * 2, none⟩ = some (i64 x.err) ∧ w'.cell? ⟨b, o + i * 2 + 1, none⟩ = some x.v ∧ CvOk w' x := by
  obtain ⟨b', o', c', e, _, h1, h2⟩ := (h.below hb).where hx
  cases e
  exact ⟨(h1 i x hx).1, (h1 i x hx).2, h2⟩
/-- A slice of bools. -/
def BoL (w : World) (v : Value) (hs : List Bool) : Prop := ∃ po c, v = .slice po hs.length c ∧ hs.length ≤ c ∧ (hs = [] ∨ ∃ b o, po = some ⟨b, o, none⟩ ∧ ∀ i x, hs[i]? = some x → w.cell? ⟨b, o + i, none⟩ = some (.bool x))
theorem BoL.keep {w w' : World} {v : Value} {hs : List Bool} (h : BoL w v hs) (hk : ∀ a, w.cell? a ≠ none → w'.cell? a = w.cell? a) : BoL w' v hs := by
  obtain ⟨po, c, h1, h2, h3⟩ := h
  refine ⟨po, c, h1, h2, ?_⟩
  rcases h3 with h3 | ⟨b, o, e, h3⟩
  · exact Or.inl h3
  · exact Or.inr ⟨b, o, e, fun i x hx => by have := h3 i x hx; exact (hk _ (by rw [this]; simp)).trans this⟩
theorem BoL.below {w w' : World} {v : Value} {hs : List Bool} (h : BoL w v hs) (hb : Below w.heap.size w w') : BoL w' v hs := h.keep fun a ha => World.cell?_of_block (hb.block a.block (cell_lt' ha))
theorem BoL.nil (w : World) : BoL w (.slice none 0 0) [] := ⟨none, 0, rfl, Nat.le_refl _, Or.inl rfl⟩
theorem BoL.form {w : World} {v : Value} {hs : List Bool} (h : BoL w v hs) : ∃ po n c, v = .slice po n c ∧ n = hs.length := by obtain ⟨po, c, h1, _⟩ := h; exact ⟨po, _, c, h1, rfl⟩
theorem BoL.at {w w' : World} {b o n c : Nat} {hs : List Bool} (h : BoL w (.slice (some ⟨b, o, none⟩) n c) hs) (hb : Below w.heap.size w w') {i : Nat} {x : Bool} (hx : hs[i]? = some x) : w'.cell? ⟨b, o + i, none⟩ = some (.bool x) := by
  obtain ⟨po, c', h1, _, h3⟩ := h.below hb
  rcases h3 with rfl | ⟨b', o', e, h3⟩
  · simp at hx
  · cases h1; cases e; exact h3 i x hx
theorem BoL.some {w : World} {v : Value} {hs : List Bool} (h : BoL w v hs) (hne : 0 < hs.length) : ∃ b o c, v = .slice (some ⟨b, o, none⟩) hs.length c := by
  obtain ⟨po, c, h1, _, h3⟩ := h
  rcases h3 with rfl | ⟨b, o, rfl, h3⟩
  · simp at hne
  · exact ⟨b, o, c, h1⟩
end Go.Proofs.YtopibkoklagceaaGreat

/- Contracts of block.Read over lists of bytes and of sound of package shard: it yields what the files that are sound are read as, by their places. -/
namespace Go.Proofs.YtopibkoklagceaaGreat
open Go Go.RowKit

theorem bread_any (po : Option Addr) (c : Nat) (bs : List Nat) (n : Nat) (w : World) (hb : BL w po bs) (h8 : ∀ z ∈ bs, z < 256) (hc : bs.length ≤ c) (hp : po = none → c = 0) :
    Calls Tryz.prog 110 #[.slice po bs.length c, .int .i64 (n : Int)] w (H.PartU w (rdB bs n) (rdE bs n)) :=
  H.read_any po bs.length c (fun j => bs.getD j 0) n w hc (fun e => ⟨by have := hp e; omega, hp e⟩) hb.str (fun i hi => get256 h8 i hi)
/-- A cell stays where books alone are turned. -/
theorem Rg.Tn.cell {B : Nat} {A C : World} (h : Rg.Tn B A C) {a : Addr} (ha : A.cell? a ≠ none) : C.cell? a = A.cell? a := by
  refine World.cell?_of_block ?_
  obtain ⟨o, ho, hb⟩ : ∃ o, A.heap[a.block]? = some o ∧ Rg.bkO o = false := by
    unfold World.cell? at ha
    cases hq : A.heap[a.block]? with
    | none => simp [hq] at ha
    | some o =>
      refine ⟨o, rfl, ?_⟩
      cases o <;> first | rfl | (simp [hq] at ha)
  exact h.other ho hb
theorem CAt.tn {B : Nat} {W W' : World} {b : Nat} {cs : Array Value} {t : TypeId} (h : CAt W b cs t) (ht : Rg.Tn B W W') : CAt W' b cs t := h.keep (ht.other h rfl)
/-- What is yielded. -/
def ShR (W : World) (n : Nat) (po : Option Addr) (L : List Nat) : Prop := (po = none ∧ n = 0) ∨ ∃ g, po = some ⟨g, 0, none⟩ ∧ H.RowL W g L
def En2 (n : Nat) (l : List Cv) (i : Nat) (u v : Value) (W : World) : Prop := ∃ x po, l[i]? = some x ∧ sdB n x.cp = true ∧ u = .int .i64 (i : Int) ∧ v = .slice po n n ∧ ShR W n po (rdB x.bs n)
def EnS (n : Nat) (l : List Cv) (i : Nat) (vs : Array Value) (W : World) : Prop := ∃ u v, vs = #[u, v] ∧ En2 n l i u v W
theorem sd_parts {n : Nat} {x : Cv} : sdB n x.cp = (decide (x.err = 0) && decide (rdE x.bs n = 0)) := rfl

set_option maxHeartbeats 1000000 in
theorem sound_it (B Bl Bn n : Nat) (v : Value) (l : List Cv) (I : Nat → World → Prop) (hm : ∀ i W, I i W → CAt W Bl #[v] 35 ∧ CAt W Bn #[.int .i64 (n : Int)] 3 ∧ CL W v l)
    (hskip : ∀ i x W, l[i]? = some x → sdB n x.cp = false → I i W → I (i + 1) W) : Rg.ItC Tryz.prog 109 #[ptr Bl, ptr Bn] l.length 2 (EnS n l) I B := by
  intro l2 W1 J Jx _ hJ hJx hJI hJJ hY h0
  obtain ⟨m1, m2, m3⟩ := hm 0 W1 (hJI 0 W1 h0)
  obtain ⟨po, c, rfl, _, hl1, _⟩ := m3
  obtain ⟨k, hk⟩ : ∃ k, l.length = k := ⟨_, rfl⟩
  have HK := hid hk
  rw [hk] at hm m1 hl1 hY ⊢
  have HL1 := hid hl1
  have c0 : W1.cell? ⟨Bl, 0, none⟩ = some (.slice po k c) := m1.cell 0
  refine (callsIn_wide (n := 1)).1 ?_
  refine callsIn_of_wp Tryz.func109 rfl trivial ?_ rfl
  simp only [Tryz.ntmps109, List.size_toArray, List.length_cons, List.length_nil, Nat.reduceAdd, Nat.reduceSub, Array.replicate_succ, Array.replicate_zero, List.push_toArray, List.append_toArray, List.nil_append, List.cons_append]
  clear m1 m2 hk hl1
  gi_wp2
  clear c0
  gi_loopw [10] (fun q wr => ∃ i : Nat, i ≤ k ∧ q = .int .i64 (i : Int) ∧ J i wr) (fun q _ => (1000000 - intOf q).toNat)
  case atStart => exact ⟨0, Nat.zero_le _, rfl, h0⟩
  case round =>
    obtain ⟨i, hi, rfl, hj⟩ := hrel
    have hk1 := HL1.out
    by_cases hlt : i < k
    · obtain ⟨m1, m2, m3⟩ := hm i wr (hJI i wr hj)
      obtain ⟨⟨er, xv, bs⟩, hx⟩ : ∃ x, l[i]? = some x := ⟨_, List.getElem?_eq_getElem (by rw [HK.out]; exact hlt)⟩
      obtain ⟨b, o, c', e1, _, hcc, hok⟩ := m3.where hx
      rw [HK.out] at e1
      cases e1
      obtain ⟨⟨px, cx, hxv, hbl, hlc, hnc⟩, hxs, hx8⟩ := hok
      obtain ⟨q1, q2⟩ := hcc i _ hx
      simp only at hxv hbl hlc hxs hx8 q1 q2
      subst hxv
      have cn : wr.cell? ⟨Bn, 0, none⟩ = some (.int .i64 (n : Int)) := m2.cell 0
      have HX := hid hx
      have hi' : (i : Int) < (k : Int) := by omega
      have hw : IntKind.i64.wrap ((i : Int) + 1) = (i : Int) + 1 := IntWalk.i64_in _ ⟨by omega, by omega⟩
      have hj2 := hJ i _ _ hj (Rg.Tn.alloc W1.heap.size wr (.cells #[.int .i64 er, .slice px bs.length cx] 59))
      have HJ2 := hid hj2
      have HBL := hid (hbl.below (below_al wr (.cells #[.int .i64 er, .slice px bs.length cx] 59)))
      have HCN : (wr.alloc (.cells #[.int .i64 er, .slice px bs.length cx] 59)).cell? ⟨Bn, 0, none⟩ = some (.int .i64 (n : Int)) := (m2.below (below_al _ _)).cell 0
      have HE := hid (sd_parts (n := n) (x := ⟨er, .slice px bs.length cx, bs⟩))
      have HM := hid hm
      have HSK := hid hskip
      have HY := hid hY
      have HJJ := hid hJJ
      have HJI := hid hJI
      have HJ := hid hJ
      clear m1 m2 m3 hcc hj hj2 hm hskip hY hJJ hJI hJ hJx hbl hx
      by_cases he : er = 0
      · subst he
        have hsk := HSK.out i _ (wr.alloc (.cells #[.int .i64 0, .slice px bs.length cx] 59)) HX.out
        by_cases hr : rdE bs n = 0
        · have hR0 := callsIn_wide (n := 0) |>.2 (bread_any px cx bs n (wr.alloc (.cells #[.int .i64 0, .slice px bs.length cx] 59)) HBL.out hx8 hlc hnc)
          unfold H.PartU at hR0
          rw [rdB_len hr, hr] at hR0
          have HR := hid hR0
          have HSD : Hid (sdB n (Cv.cp ⟨0, .slice px bs.length cx, bs⟩) = true) := by rw [HE.out, hr]; rfl
          have HRL := hid (rdB_len hr)
          have HEN : Hid (∀ (pr : Option Addr) (w5 : World), ((pr = none ∧ rdB bs n = []) ∨ ∃ g, pr = some ⟨g, 0, none⟩ ∧ (wr.alloc (.cells #[.int .i64 0, .slice px bs.length cx] 59)).heap.size ≤ g ∧ H.RowL w5 g (rdB bs n)) → EnS n l i #[.int .i64 (i : Int), .slice pr n n] w5) := fun pr w5 hr5 => ⟨_, _, rfl, _, pr, HX.out, HSD.out, rfl, rfl, by
            rcases hr5 with ⟨h1, h2⟩ | ⟨g, h1, _, h2⟩
            · exact .inl ⟨h1, by have h3 := HRL.out; rw [h2] at h3; exact h3.symm⟩
            · exact .inr ⟨g, h1, h2⟩⟩
          clear hR0 hr hsk
          gi_wp2_with (refine ⟨trivial, ?_⟩; gi_at_call 110; refine CallsIn.mono HR.out ?_; rintro e w5 ⟨pr, rfl, hb5, hr5⟩; have HJ5 := hid (HJ.out i _ _ HJ2.out (Rg.Tn.below hb5)); obtain ⟨fn, tmps, assign, body, hy, hR⟩ := HY.out i _ w5 hlt rfl HJ5.out (HEN.out pr w5 hr5); clear hr5 hb5)
          refine hR.mono ?_
          rintro e W3 ⟨_, (⟨rfl, hJ3⟩ | ⟨rfl, hJx3⟩)⟩
          · gi_wp2
            go_roundw
            case rel => exact ⟨i + 1, hlt, by congr 1, hJ3⟩
            case measure => simp [intOf]; omega
          · gi_wp2
            refine bodyPost_ret (results_none rfl _ _ _) rfl ?_
            exact ⟨⟨_, rfl⟩, .inr hJx3⟩
        · have HSD := hid (show sdB n (Cv.cp ⟨0, .slice px bs.length cx, bs⟩) = false from by rw [HE.out]; simp [hr])
          have hR0 := callsIn_wide (n := 0) |>.2 (bread_any px cx bs n (wr.alloc (.cells #[.int .i64 0, .slice px bs.length cx] 59)) HBL.out hx8 hlc hnc)
          generalize rdE bs n = E at hr hR0
          have HR := hid hR0
          have hE : (E == 0) = false := by simp [hr]
          have HF := hid (HJJ.out i (i + 1) _ HJ2.out (hsk HSD.out (HJI.out i _ HJ2.out)))
          clear hR0 hsk
          gi_wp2_with (refine ⟨trivial, ?_⟩; gi_at_call 110; refine CallsIn.mono HR.out ?_; rintro e w5 ⟨pr, rfl, hb5, hr5⟩; have HF5 := hid (HJ.out (i + 1) _ _ HF.out (Rg.Tn.below hb5)); clear hb5 hr5)
          refine ⟨fun _ h => (nomatch h), ?_⟩
          go_at_K
          gi_wp2
          go_roundw
          case rel => exact ⟨i + 1, hlt, by congr 1, HF5.out⟩
          case measure => simp [intOf]; omega
      · have HSD := hid (show sdB n (Cv.cp ⟨er, .slice px bs.length cx, bs⟩) = false from by rw [HE.out]; simp [he])
        have HF := hid (HJJ.out i (i + 1) _ HJ2.out (HSK.out i _ _ HX.out HSD.out (HJI.out i _ HJ2.out)))
        gi_wp2
        go_roundw
        case rel => exact ⟨i + 1, hlt, by congr 1, HF.out⟩
        case measure => simp [intOf]; omega
    · have hq : ¬ (i : Int) < (k : Int) := by omega
      have hk' : i = k := by omega
      gi_wp2
      go_end0
      exact ⟨⟨_, rfl⟩, .inl (hk' ▸ hj)⟩
theorem sound_any (v : Value) (n : Int) (w : World) (po : Option Addr) (m c : Nat) (hv : v = .slice po m c) : Calls Tryz.prog 85 #[v, .int .i64 n] w fun e w' => e = .returned (.func (.func 109) #[] #[ptr w.heap.size, ptr (w.heap.size + 1)]) ∧ w' = (w.alloc (.cells #[v] 35)).alloc (.cells #[.int .i64 n] 3) := by
  subst hv
  go_enter Tryz.func85, Tryz.ntmps85
  have hmf : ∀ (fn : Fn) (first cap : Array Value) (w : World), (Instr.makeFunc fn first cap).run Tryz.prog w = .ok (.func fn first cap) w := fun _ _ _ _ => rfl
  go_wp2
  go_ret
  exact ⟨by simp, rfl⟩
end Go.Proofs.YtopibkoklagceaaGreat
