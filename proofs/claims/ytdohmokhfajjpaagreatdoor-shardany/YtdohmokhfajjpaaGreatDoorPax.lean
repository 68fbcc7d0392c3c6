/- Texts laid into one, cut to what is needed: the remark ahead of each part says what is proved there. -/
import Derived.Test.YtdohmokhfajjpaaGreatDoorPaw
import Derived.Test.YtdohmokhfajjpaaGreatDoorPao
import Derived.Deep.MidRow
import Derived.Deep.LoopGhost
import Derived.Shelf.Abstract
import Derived.Lib.SliceRun
import Derived.Laws.IdiomCopy
import Derived.Lib.AppendZerosOnto
import Derived.Lib.Overlaps
import Derived.Shelf.RegionOpenPlain
/- Lists of records in memory. -/
namespace Go.Proofs.YtdohmokhfajjpaaGreatDoor
open Go Go.RowKit

/-- A record as a value, and its parts. -/
structure Rp where
 r : Rv
 ps : Ps
def Rp.rc (x : Rp) : Rc := x.r.rc x.ps
def rcs (l : List Rp) : List Rc := l.map Rp.rc
theorem rcs_len (l : List Rp) : (rcs l).length = l.length := by simp [rcs]
theorem rcs_get (l : List Rp) (i : Nat) : (rcs l)[i]? = l[i]?.map Rp.rc := by simp [rcs]
theorem rc_id (x : Rp) : x.rc.id = lst x.r.id := rfl
/-- A record whose parts lie in memory. -/
structure RpOk (w : World) (x : Rp) : Prop where
 ok : x.r.ok
 pl : PL w x.r.pv x.ps
 nil : ∀ n c, x.r.pv = .slice none n c → c = 0
theorem RpOk.keep {w w' : World} {x : Rp} (h : RpOk w x) (hk : ∀ a, w.cell? a ≠ none → w'.cell? a = w.cell? a) : RpOk w' x := ⟨h.ok, h.pl.keep hk, h.nil⟩
theorem RpOk.below {w w' : World} {x : Rp} (h : RpOk w x) (hb : Below w.heap.size w w') : RpOk w' x := ⟨h.ok, h.pl.below hb, h.nil⟩
theorem RpOk.form {w : World} {x : Rp} (h : RpOk w x) : ∃ po c, x.r.pv = .slice po x.ps.length c ∧ (po = none → c = 0) ∧ x.ps.length ≤ c ∧ x.ps.length ≤ 100000 := by
 obtain ⟨po, c, h1, h2, h3, _⟩ := h.pl
 exact ⟨po, c, h1, fun e => h.nil _ c (by rw [h1, e]), h2, h3⟩
/-- .. in no block below B; they may be written. -/
structure RpX (B : Nat) (w : World) (x : Rp) : Prop where
 ok : x.r.ok
 pl : PLF B w x.r.pv x.ps
theorem RpX.one {B : Nat} {w : World} {x : Rp} (h : RpX B w x) : RpOk w x := ⟨h.ok, h.pl.1, h.pl.2.2⟩
theorem RpX.only {B : Nat} {w w' : World} {x : Rp} {S : Nat → Prop} (h : RpX B w x) (hO : Only S w w') (hS : ∀ i, S i → i < B) : RpX B w' x := ⟨h.ok, h.pl.only hO hS⟩
theorem RpX.below {B : Nat} {w w' : World} {x : Rp} (h : RpX B w x) (hb : Below w.heap.size w w') : RpX B w' x := h.only (S := fun _ => False) (Only.of_below hb) (fun _ h => h.elim)
theorem RpX.base {B C : Nat} {w : World} {x : Rp} (h : RpX B w x) (hC : C ≤ B) : RpX C w x := ⟨h.ok, h.pl.base hC⟩
theorem sizeR42 {x : Rp} (h : x.r.ok) : x.r.cs.toList.length = 42 := by rw [Array.length_toList, h.size]

def flatR (l : List Rp) : List Value := l.flatMap fun x => x.r.cs.toList
theorem flatR_cons (x : Rp) (l : List Rp) : flatR (x :: l) = x.r.cs.toList ++ flatR l := rfl
theorem flatR_app (l m : List Rp) : flatR (l ++ m) = flatR l ++ flatR m := by simp [flatR]
theorem flatR_len : ∀ {l : List Rp}, (∀ x ∈ l, x.r.ok) → (flatR l).length = l.length * 42
 | [], _ => rfl
 | x :: l, h => by
  rw [flatR_cons, List.length_append, sizeR42 (h x (by simp)), flatR_len (l := l) (fun y hy => h y (by simp [hy])), List.length_cons]; omega
theorem flatR_get : ∀ {l : List Rp}, (∀ x ∈ l, x.r.ok) → ∀ {i : Nat} {x : Rp}, l[i]? = some x → ∀ {j : Nat}, j < 42 → (flatR l)[i * 42 + j]? = x.r.cs[j]?
 | [], _, i, x, e, j, _ => by simp at e
 | y :: l, h, 0, x, e, j, hj => by
  simp at e
  subst e
  rw [flatR_cons, Nat.zero_mul, Nat.zero_add, List.getElem?_append_left (by rw [sizeR42 (h y (by simp))]; exact hj), Array.getElem?_toList]
 | y :: l, h, i + 1, x, e, j, hj => by
  rw [flatR_cons, List.getElem?_append_right (by rw [sizeR42 (h y (by simp))]; omega), sizeR42 (h y (by simp)), show (i + 1) * 42 + j - 42 = i * 42 + j by omega]
  exact flatR_get (l := l) (fun z hz => h z (by simp [hz])) (by simpa using e) hj
theorem Rv.cs_one (r : Rv) (hp : r.pv.oneCell' = true) : ∀ v ∈ r.cs.toList, v.oneCell' = true := by
 intro v hv
 rw [Rv.toL] at hv
 simp only [List.mem_append, List.mem_cons, List.not_mem_nil, or_false, List.mem_map] at hv
 rcases hv with (rfl | rfl | rfl | rfl | rfl | rfl | rfl | rfl) | ⟨_, _, rfl⟩ | rfl | rfl <;> first | rfl | exact hp
theorem RpOk.one {w : World} {x : Rp} (h : RpOk w x) : ∀ v ∈ x.r.cs.toList, v.oneCell' = true := by
 obtain ⟨po, c, e, _⟩ := h.form
 exact x.r.cs_one (by rw [e]; rfl)
theorem flatR_one {w : World} {l : List Rp} (h : ∀ x ∈ l, RpOk w x) : ∀ v ∈ flatR l, v.oneCell' = true := by
 intro v hv
 obtain ⟨x, hx, hv⟩ := List.mem_flatMap.1 hv
 exact (h x hx).one v hv

/-- The cells of the records lie there, one behind the other. -/
def RCells (w : World) (b o : Nat) (l : List Rp) : Prop := ∀ i x, l[i]? = some x → ∀ j v, x.r.cs[j]? = some v → w.cell? ⟨b, o + i * 42 + j, none⟩ = some v
theorem RCells.range {w : World} {b o : Nat} {l : List Rp} (h : RCells w b o l) {i : Nat} {x : Rp} (e : l[i]? = some x) : w.rangeAt b (o + i * 42) x.r.cs.toList := fun j v hv => h i x e j v (by simpa using hv)
theorem RCells.keep {w w' : World} {b o : Nat} {l : List Rp} (h : RCells w b o l) (hk : ∀ a, w.cell? a ≠ none → w'.cell? a = w.cell? a) : RCells w' b o l := fun i x e j v hv => by
 have := h i x e j v hv
 rw [hk _ (by rw [this]; simp)]; exact this
theorem RCells.flat {w : World} {b o : Nat} {l : List Rp} (hk : ∀ x ∈ l, x.r.ok) (h : w.rangeAt b o (flatR l)) : RCells w b o l := fun i x e j v hv => by
 have hj : j < 42 := by
  rcases Nat.lt_or_ge j 42 with q | q
  ·exact q
  ·rw [Array.getElem?_eq_none (by rw [(hk x (List.mem_of_getElem? e)).size]; exact q)] at hv; cases hv
 rw [Nat.add_assoc]
 exact h (i * 42 + j) v (by rw [flatR_get hk e hj]; exact hv)
theorem RCells.unflat {w : World} {b o : Nat} {l : List Rp} (hk : ∀ x ∈ l, x.r.ok) (h : RCells w b o l) : w.rangeAt b o (flatR l) := fun j v hv => by
 have hj : j < l.length * 42 := by
  rcases Nat.lt_or_ge j (l.length * 42) with q | q
  ·exact q
  ·rw [List.getElem?_eq_none (by rw [flatR_len hk]; exact q)] at hv; cases hv
 have hi : j / 42 < l.length := by omega
 obtain ⟨x, hx⟩ : ∃ x, l[j / 42]? = some x := ⟨_, List.getElem?_eq_getElem hi⟩
 have e := flatR_get hk hx (j := j % 42) (Nat.mod_lt _ (by omega))
 rw [show j / 42 * 42 + j % 42 = j by omega, hv] at e
 have := h (j / 42) x hx (j % 42) v e.symm
 rwa [show o + j / 42 * 42 + j % 42 = o + j by omega] at this
/-- The slice v leads to the records l. -/
def RL (w : World) (v : Value) (l : List Rp) : Prop := ∃ po c, v = .slice po l.length c ∧ l.length ≤ c ∧ l.length ≤ 100000 ∧ (po = none → c = 0) ∧ (l = [] ∨ ∃ b o, po = some ⟨b, o, none⟩ ∧ RCells w b o l) ∧ ∀ x ∈ l, RpOk w x
theorem RL.each {w : World} {v : Value} {l : List Rp} (h : RL w v l) : ∀ x ∈ l, RpOk w x := by obtain ⟨_, _, _, _, _, _, _, h⟩ := h; exact h
theorem RL.ok {w : World} {v : Value} {l : List Rp} (h : RL w v l) : ∀ x ∈ l, x.r.ok := fun x hx => (h.each x hx).ok
theorem RL.keep {w w' : World} {v : Value} {l : List Rp} (h : RL w v l) (hk : ∀ a, w.cell? a ≠ none → w'.cell? a = w.cell? a) : RL w' v l := by
 obtain ⟨po, c, h1, h2, h3, h4, h5, h6⟩ := h
 refine ⟨po, c, h1, h2, h3, h4, ?_, fun x hx => (h6 x hx).keep hk⟩
 rcases h5 with h5 | ⟨b, o, e, h5⟩
 ·exact Or.inl h5
 ·exact Or.inr ⟨b, o, e, h5.keep hk⟩
theorem RL.below {w w' : World} {v : Value} {l : List Rp} (h : RL w v l) (hb : Below w.heap.size w w') : RL w' v l :=
 h.keep fun a ha => World.cell?_of_block (hb.block a.block (cell_lt' ha))
theorem RL.nil (w : World) : RL w (.slice none 0 0) [] := ⟨none, 0, rfl, Nat.le_refl _, by simp, fun _ => rfl, Or.inl rfl, fun x hx => by cases hx⟩
theorem RL.len {w : World} {v : Value} {l : List Rp} (h : RL w v l) : l.length ≤ 100000 := by obtain ⟨_, _, _, _, h, _⟩ := h; exact h
/-- Records in a row of their own. -/
def RBuf (B : Nat) (w : World) (v : Value) (l : List Rp) : Prop := w.ownsRow B 44 42 v l.length (flatR l)
theorem RBuf.nil (B : Nat) (w : World) : RBuf B w (.slice none 0 0) [] := World.ownsRow_nil w B _ 42
theorem RBuf.form {B : Nat} {w : World} {v : Value} {l : List Rp} (h : RBuf B w v l) : ∃ po c, v = .slice po l.length c ∧ l.length ≤ c ∧ (po = none → c = 0) := by
 rcases h.2 with ⟨rfl, h0⟩ | ⟨g, cap, cur, rfl, _, _, h1, _⟩
 ·exact ⟨none, 0, by rw [h0], by omega, fun _ => rfl⟩
 ·exact ⟨_, cap, rfl, h1, fun e => by cases e⟩
theorem RBuf.keep {B : Nat} {w w' : World} {v : Value} {l : List Rp} (h : RBuf B w v l) (hk : ∀ b, v.ownBlock = some b → w'.heap[b]? = w.heap[b]?) : RBuf B w' v l := ownsRow_keep h hk
theorem RBuf.below {B : Nat} {w w' : World} {v : Value} {l : List Rp} (h : RBuf B w v l) (hb : Below w.heap.size w w') : RBuf B w' v l := h.keep fun b hv => hb.block b (own_ge h b hv).2
theorem RBuf.base {B C : Nat} {w : World} {v : Value} {l : List Rp} (h : RBuf B w v l) (hC : C ≤ B) : RBuf C w v l := own_base h hC
theorem RBuf.rl {B : Nat} {w : World} {v : Value} {l : List Rp} (h : RBuf B w v l) (hx : ∀ x ∈ l, RpOk w x) (hn : l.length ≤ 100000) : RL w v l := by
 rcases h.2 with ⟨rfl, h0⟩ | ⟨g, cap, cur, rfl, hB, hg, h1, _, h3, h4⟩
 ·obtain rfl := List.eq_nil_of_length_eq_zero h0
  exact RL.nil w
 ·refine ⟨_, cap, rfl, h1, hn, (fun e => by cases e), Or.inr ⟨g, 0, rfl, RCells.flat (fun x hx' => (hx x hx').ok) fun j v hv => ?_⟩, hx⟩
  have hc : CAt w g cur 44 := hg
  have hl := flatR_len (l := l) (fun x hx' => (hx x hx').ok)
  have hj : j < l.length * 42 := by
   rcases Nat.lt_or_ge j (l.length * 42) with q | q
   ·exact q
   ·rw [List.getElem?_eq_none (by omega)] at hv; cases hv
  rw [Nat.zero_add, hc.cell]
  rw [← h4, List.getElem?_take, if_pos hj] at hv
  simpa using hv
/-- Records in memory of their own, their parts too. -/
structure Rs (B : Nat) (w : World) (v : Value) (l : List Rp) : Prop where
 buf : RBuf B w v l
 each : ∀ x ∈ l, RpX B w x
theorem Rs.nil (B : Nat) (w : World) : Rs B w (.slice none 0 0) [] := ⟨RBuf.nil B w, fun x hx => by cases hx⟩
theorem Rs.rl {B : Nat} {w : World} {v : Value} {l : List Rp} (h : Rs B w v l) (hn : l.length ≤ 100000) : RL w v l := h.buf.rl (fun x hx => (h.each x hx).one) hn
theorem Rs.below {B : Nat} {w w' : World} {v : Value} {l : List Rp} (h : Rs B w v l) (hb : Below w.heap.size w w') : Rs B w' v l := ⟨h.buf.below hb, fun x hx => (h.each x hx).below hb⟩
theorem Rs.only {B : Nat} {w w' : World} {v : Value} {l : List Rp} {S : Nat → Prop} (h : Rs B w v l) (hO : Only S w w') (hS : ∀ i, S i → i < B) : Rs B w' v l :=
 ⟨h.buf.keep fun b hv => hO.block b (own_ge h.buf b hv).2 (fun k => by have := hS b k; have := (own_ge h.buf b hv).1; omega), fun x hx => (h.each x hx).only hO hS⟩
theorem Rs.base {B C : Nat} {w : World} {v : Value} {l : List Rp} (h : Rs B w v l) (hC : C ≤ B) : Rs C w v l := ⟨h.buf.base hC, fun x hx => (h.each x hx).base hC⟩
theorem setAll_splice {cs vs : List Value} {o : Nat} (h : o + vs.length ≤ cs.length) : setAll cs o vs = cs.take o ++ (vs ++ cs.drop (o + vs.length)) := by
 have e : cs = cs.take o ++ ((cs.drop o).take vs.length ++ cs.drop (o + vs.length)) := by
  rw [← List.drop_drop, List.take_append_drop, List.take_append_drop]
 have hl : (cs.take o).length = o := by rw [List.length_take]; omega
 have := setAll_app (cs.take o) vs ((cs.drop o).take vs.length) (cs.drop (o + vs.length)) (by rw [List.length_take, List.length_drop]; omega)
 rw [hl, ← e] at this
 exact this
theorem flatR_set {l : List Rp} (hk : ∀ x ∈ l, x.r.ok) {i : Nat} (hi : i < l.length) {y : Rp} : flatR (l.set i y) = (flatR l).take (i * 42) ++ (y.r.cs.toList ++ (flatR l).drop (i * 42 + 42)) := by
 have e : l = l.take i ++ l[i] :: l.drop (i + 1) := by rw [List.getElem_cons_drop, List.take_append_drop]
 have hl : (flatR (l.take i)).length = i * 42 := by
  rw [flatR_len (fun x hx => hk x (List.mem_of_mem_take hx)), List.length_take, Nat.min_eq_left (by omega)]
 have hl2 : (l[i].r.cs.toList).length = 42 := sizeR42 (hk _ (List.getElem_mem hi))
 have e2 : flatR l = flatR (l.take i) ++ (l[i].r.cs.toList ++ flatR (l.drop (i + 1))) := by
  conv => lhs; rw [e]
  rw [flatR_app, flatR_cons]
 have e3 : (flatR l).drop (i * 42 + 42) = flatR (l.drop (i + 1)) := by
  rw [e2, ← List.drop_drop, List.drop_left' hl, List.drop_left' hl2]
 rw [List.set_eq_take_append_cons_drop, if_pos hi, flatR_app, flatR_cons, e3, e2, List.take_left' hl]
/-- A record is stored at its place. -/
theorem RBuf.set {B : Nat} {w : World} {v : Value} {l : List Rp} (h : RBuf B w v l) (hk : ∀ x ∈ l, x.r.ok) {i : Nat} (hi : i < l.length) {y : Rp} (hy : y.r.ok) :
  ∃ g c, v = .slice (some ⟨g, 0, none⟩) l.length c ∧ B ≤ g ∧ w.there g (i * 42) 42 ∧ (∃ cs, CAt w g cs 44) ∧ RBuf B (w.setCells g (i * 42) y.r.cs.toList) v (l.set i y) ∧ Only (fun b => b = g) w (w.setCells g (i * 42) y.r.cs.toList) := by
 rcases h.2 with ⟨rfl, h0⟩ | ⟨g, cap, cur, rfl, hB, hg, h1, hm, h3, h4⟩
 ·omega
 have hc : CAt w g cur 44 := hg
 refine ⟨g, cap, rfl, hB, fun j hj => ⟨?_, hc.free _⟩, ⟨cur, hc⟩, ⟨?_, Or.inr ⟨g, cap, _, by rw [List.length_set], hB, CAt.setCells y.r.cs.toList (i * 42) cur w hc, by rw [List.length_set]; exact h1, hm, ?_, ?_⟩⟩, only_setCells _ _ _ _ rfl⟩
 ·rw [hc.cell, Array.getElem?_eq_getElem (by omega)]; rfl
 ·rw [flatR_len (fun x hx => ?_)]
  rcases List.mem_or_eq_of_mem_set hx with hx | rfl
  ·exact hk x hx
  ·exact hy
 ·have e := setAll_splice (cs := cur.toList) (vs := y.r.cs.toList) (o := i * 42) (by rw [sizeR42 hy, Array.length_toList]; omega)
  rw [List.size_toArray, e, List.length_append, List.length_append, List.length_take, List.length_drop, sizeR42 hy, Array.length_toList]; omega
 ·have e := setAll_splice (cs := cur.toList) (vs := y.r.cs.toList) (o := i * 42) (by rw [sizeR42 hy, Array.length_toList]; omega)
  rw [List.toList_toArray, e, sizeR42 hy, List.length_set, flatR_set hk hi, ← h4]
  have ha : (cur.toList.take (i * 42)).length = i * 42 := by rw [List.length_take, Array.length_toList]; omega
  rw [List.take_append, ha, List.take_append, sizeR42 hy, List.take_of_length_le (l := cur.toList.take (i * 42)) (by omega), List.take_of_length_le (l := y.r.cs.toList) (by rw [sizeR42 hy]; omega), List.take_take, Nat.min_eq_left (by omega), List.drop_take, show l.length * 42 - i * 42 - 42 = l.length * 42 - (i * 42 + 42) by omega]
theorem Tryz.infoRec : (Tryz.prog.info? 44).map (fun i => (i.zero, i.size, i.bytes)) = some (some (.agg zR.cs), 42, 160) := by kernel_rfl
end Go.Proofs.YtdohmokhfajjpaaGreatDoor

/- slices.IndexFunc with has, and place. -/
namespace Go.Proofs.YtdohmokhfajjpaaGreatDoor
open Go Go.RowKit Go.Shelf

/-- A record is read at its place. -/
theorem wpList_loadM {ops : Array Oper} {rest : List Oper} {op : Oper} {a : Act} {w : World} {Q : Exit → Act → World → Prop} (hgd : op.guard = none) (x : Operand) (ho : op.op = .load 44 x)
  (b o : Nat) (hx : a.eval x = .pointer (some ⟨b, o, none⟩)) (r : Rv) (hr : r.ok) (hc : w.rangeAt b o r.cs.toList) (h : wpList Tryz.prog ops Q rest (a.put op.dst (.agg r.cs)) w) : wpList Tryz.prog ops Q (op :: rest) a w :=
 wpList_load_mid hgd 44 x ho b o hx r.cs.toList (.struct (Tryz.prog.fieldsOf 44)) hc underRec rfl (by rw [sizeR42 (x := ⟨r, []⟩) hr]; exact sizeR) h
/-- has(id): a function of one captured text. -/
def HasF (w : World) (v : Value) (s : ByteArray) : Prop := ∃ g, v = .func (.func 126) #[] #[ptr g] ∧ CAt w g #[.string s] 9
theorem HasF.below {w w' : World} {v : Value} {s : ByteArray} (h : HasF w v s) (hb : Below w.heap.size w w') : HasF w' v s := by
 obtain ⟨g, e, h⟩ := h; exact ⟨g, e, h.below hb⟩
theorem has_any (s : ByteArray) (w : World) : Calls Tryz.prog 120 #[.string s] w fun e w' => ∃ v, e = .returned v ∧ HasF w' v s ∧ Below w.heap.size w w' := by
 go_enter Tryz.func120, Tryz.ntmps120
 go_wp2
 go_ret
 exact ⟨_, rfl, ⟨_, rfl, CAt.made w _ _⟩, below_al w _⟩
theorem hasF_any (r : Rv) (hr : r.ok) (s : ByteArray) (g : Nat) (w : World) (h : CAt w g #[.string s] 9) : Calls Tryz.prog 126 #[.agg r.cs, ptr g] w fun e w' => e = .returned (.bool (decide (lst r.id = lst s))) ∧ Below w.heap.size w w' := by
 have HG := hid h
 clear h
 go_enter Tryz.func126, Tryz.ntmps126
 go_wp2_with ((with_reducible refine wpList_boxR rfl _ rfl r.cs ?_ ?_); exact rfl; intro w1 g1 hc1 hb1 hg1; have hbx := RBox.mk' hr hc1; have c0 := hbx.c0; have d0 := (HG.out.below hb1).cell 0; have HB := hid hb1; clear hbx hb1 hc1)
 go_ret
 refine ⟨?_, HB.out⟩
 rw [← lst_beq]; rfl
def plI (o : Option Nat) : Int := match o with | none => -1 | some i => (i : Int)
theorem atI_snoc_none {l : List Rc} {id : List Nat} {k : Nat} (h : ∀ j x, l[j]? = some x → j < k → x.id ≠ id) (hk : l.length ≤ k) : atI l id = none := by
 rw [atI_none]
 intro hm
 obtain ⟨x, hx, e⟩ := List.mem_map.1 hm
 obtain ⟨j, hj, e2⟩ := List.getElem_of_mem hx
 exact h j x (by rw [List.getElem?_eq_getElem hj, e2]) (by omega) e
theorem atI_hit : ∀ {l : List Rc} {id : List Nat} {k : Nat} {x : Rc}, (∀ j y, l[j]? = some y → j < k → y.id ≠ id) → l[k]? = some x → x.id = id → atI l id = some k
 | [], _, _, _, _, h, _ => by simp at h
 | r :: l, id, 0, x, _, h, e => by simp at h; subst h; simp [atI, e]
 | r :: l, id, k + 1, x, h0, h, e => by
  have h1 : r.id ≠ id := h0 0 r (by simp) (by omega)
  rw [atI, if_neg h1, atI_hit (l := l) (k := k) (x := x) (fun j y hy hj => h0 (j + 1) y (by simpa using hy) (by omega)) (by simpa using h) e]
  rfl
set_option maxRecDepth 100000 in
set_option maxHeartbeats 1000000 in
theorem index_any (v f : Value) (l : List Rp) (s : ByteArray) (w : World) (hl : RL w v l) (hf : HasF w f s) : Calls Tryz.prog 119 #[v, f] w fun e w' => e = .returned (i64 (plI (atI (rcs l) (lst s)))) ∧ Below w.heap.size w w' := by
 obtain ⟨gf, rfl, hgf⟩ := hf
 obtain ⟨po, c, rfl, hc1, hn, hz, hcell, heach⟩ := hl
 have HF := hid hgf
 have HE := hid heach
 have HC := hid hcell
 clear hgf heach hcell
 go_enter Tryz.func119, Tryz.ntmps119
 go_wp2
 go_loopg [5, 8] l.length (fun gg _ s8 wr => ∃ kk : Nat, kk ≤ l.length ∧ l.length - kk ≤ gg ∧ s8 = i64 kk ∧ Hid (Below w.heap.size w wr) ∧ Hid (∀ j x, l[j]? = some x → j < kk → lst x.r.id ≠ lst s))
 case atStart => exact ⟨0, Nat.zero_le _, by omega, rfl, Below.refl _ w, fun j x _ hj => absurd hj (Nat.not_lt_zero _)⟩
 case round =>
  obtain ⟨kk, hkk, hg, rfl, BW, A⟩ := hrel
  by_cases hlt : kk < l.length
  ·have hltz : (kk : Int) < (l.length : Int) := by omega
   obtain ⟨x, hx⟩ : ∃ x, l[kk]? = some x := ⟨_, List.getElem?_eq_getElem hlt⟩
   have hxm := List.mem_of_getElem? hx
   obtain ⟨b, o, hpo, hcells⟩ : ∃ b o, po = some ⟨b, o, none⟩ ∧ RCells w b o l := by
    rcases HC.out with h | h
    ·rw [h] at hlt; simp at hlt
    ·exact h
   subst hpo
   have hcw : RCells wr b o l := hcells.keep fun a ha => World.cell?_of_block (BW.out.block a.block (cell_lt' ha))
   have HR := hid (hcw.range hx)
   have hok := (HE.out x hxm).ok
   have HX := hid hx
   have hcall := hasF_any x.r hok s gf wr (HF.out.below BW.out)
   have HCALL := hid hcall
   clear hcells hcw hx hxm hcall
   by_cases hq : lst x.r.id = lst s
   ·rw [decide_eq_true hq] at HCALL
    go_wp2_with (first
     | ((with_reducible refine wpList_loadM rfl _ rfl b (o + kk * 42) ?_ x.r hok HR.out ?_); exact rfl)
     | (go_at_call 126; refine HCALL.out.mono ?_; rintro e w' ⟨rfl, hb'⟩))
    go_ret
    refine ⟨?_, below_on BW.out hb'⟩
    rw [atI_hit (k := kk) (x := x.rc) (fun j y hy hj => ?_) (by rw [rcs_get, HX.out]; rfl) hq]
    ·rfl
    ·rw [rcs_get] at hy
     obtain ⟨z, hz1, rfl⟩ := Option.map_eq_some_iff.1 hy
     exact A.out j z hz1 hj
   ·rw [decide_eq_false hq] at HCALL
    go_wp2_with (first
     | ((with_reducible refine wpList_loadM rfl _ rfl b (o + kk * 42) ?_ x.r hok HR.out ?_); exact rfl)
     | (go_at_call 126; refine HCALL.out.mono ?_; rintro e w' ⟨rfl, hb'⟩))
    go_roundg (l.length - (kk + 1))
    case measure => omega
    case rel =>
     refine ⟨kk + 1, by omega, by omega, by go_num, below_on BW.out hb', (show Hid _ from fun j y hy hj => ?_)⟩
     by_cases e : j = kk
     ·subst e
      rw [HX.out] at hy; cases hy; exact hq
     ·exact A.out j y hy (by omega)
  ·have hltz : ¬ (kk : Int) < (l.length : Int) := by omega
   go_wp2
   go_ret
   refine ⟨?_, BW.out⟩
   rw [atI_snoc_none (k := kk) (fun j y hy hj => ?_) (by rw [rcs_len]; omega)]
   ·rfl
   ·rw [rcs_get] at hy
    obtain ⟨z, hz1, rfl⟩ := Option.map_eq_some_iff.1 hy
    exact A.out j z hz1 hj
theorem place_any (v : Value) (l : List Rp) (s : ByteArray) (w : World) (hl : RL w v l) : Calls Tryz.prog 102 #[v, .string s] w fun e w' => e = .returned (i64 (plI (atI (rcs l) (lst s)))) ∧ Below w.heap.size w w' := by
 have HL := hid hl
 obtain ⟨po, c, rfl, _⟩ := hl
 go_enter Tryz.func102, Tryz.ntmps102
 go_wp2_with (first
  | (go_at_call 120; refine (has_any s w).mono ?_; rintro e w1 ⟨f, rfl, hf, hb1⟩; have HF := hid hf; have HB1 := hid hb1; obtain ⟨gf, hf2, _⟩ := hf; subst hf2; clear hb1)
  | (go_at_call 119; refine (index_any _ _ l s _ (HL.out.below HB1.out) HF.out).mono ?_; rintro e w2 ⟨rfl, hb2⟩))
 go_ret
 exact ⟨rfl, below_on HB1.out hb2⟩
end Go.Proofs.YtdohmokhfajjpaaGreatDoor

/- journal.Check. -/
namespace Go.Proofs.YtdohmokhfajjpaaGreatDoor
open Go Go.RowKit

theorem wpList_boxT (t : TypeId) {ops : Array Oper} {rest : List Oper} {o : Oper} {a : Act} {w : World} {Q : Exit → Act → World → Prop} (hg : o.guard = none) (x : Operand) (ho : o.op = .box t x) (cs : Array Value) (hx : a.eval x = .agg cs)
  (h : ∀ w1 g, CAt w1 g cs t → Below w.heap.size w w1 → w.heap.size ≤ g → wpList Tryz.prog ops Q rest (a.put o.dst (ptr g)) w1) : wpList Tryz.prog ops Q (o :: rest) a w := by
 refine wpList_plain hg fun K hK => ?_
 unfold Oper.wp execOp
 simp only [ho, Instr.box, newVar, newRow, hx, Value.cells, Sem.run_bind]
 simp
 exact hK _ _ (h _ _ (CAt.made _ _ _) (below_al _ _) (Nat.le_refl _))
/-- A journal's cells. -/
def jC (s : Int) (v : Value) : Array Value := #[i64 s, v]
theorem CAt.j0 {w : World} {g : Nat} {s : Int} {v : Value} {t : TypeId} (h : CAt w g (jC s v) t) : w.cell? ⟨g, 0, none⟩ = some (i64 s) := by rw [h.cell]; rfl
theorem CAt.j1 {w : World} {g : Nat} {s : Int} {v : Value} {t : TypeId} (h : CAt w g (jC s v) t) : w.cell? ⟨g, 1, none⟩ = some v := by rw [h.cell]; rfl
theorem okJ_of {s : Int} {l : List Rc} (h1 : 1 ≤ s) (h2 : s ≤ 1099511627776) (h3 : l.length ≤ 64) (h : ∀ j x, l[j]? = some x → okRc x = true ∧ atI l x.id = some j) : okJ ⟨s, l⟩ = true :=
 okJ_mk h1 h2 h3 (List.all_eq_true.2 fun x hx => by obtain ⟨j, hj, e⟩ := List.getElem_of_mem hx; exact (h j x (by rw [List.getElem?_eq_getElem hj, e])).1) (nodup_of_at fun i hi => (h i l[i] (List.getElem?_eq_getElem hi)).2)
theorem okJ_not {s : Int} {l : List Rc} {j : Nat} {x : Rc} (hx : l[j]? = some x) (h : okRc x = false ∨ atI l x.id ≠ some j) : okJ ⟨s, l⟩ = false := by
 cases e : okJ ⟨s, l⟩ with
 | false => rfl
 | true =>
  obtain ⟨_, _, _, h4, h5⟩ := okJ_parts e
  rcases h with h | h
  ·have := List.all_eq_true.1 h4 x (List.mem_of_getElem? hx)
   rw [h] at this; cases this
  ·obtain ⟨hj, e2⟩ := List.getElem?_eq_some_iff.1 hx
   subst e2
   exact absurd (atI_at h5 j hj) h
theorem okJ_out {s : Int} {l : List Rc} (h : s < 1 ∨ 1099511627776 < s ∨ 64 < l.length) : okJ ⟨s, l⟩ = false := by
 cases e : okJ ⟨s, l⟩ with
 | false => rfl
 | true => obtain ⟨h1, h2, h3, _⟩ := okJ_parts e; simp at h1 h2 h3; omega
set_option maxRecDepth 100000 in
set_option maxHeartbeats 1000000 in
theorem jcheck_out (s : Int) (v : Value) (l : List Rp) (w : World) (hl : RL w v l) (h : s < 1 ∨ 1099511627776 < s ∨ 64 < l.length) : Calls Tryz.prog 88 #[.agg (jC s v)] w fun e w' => e = .returned (i64 2) ∧ Below w.heap.size w w' := by
 obtain ⟨po, c, rfl, _⟩ := hl
 by_cases h1 : s < 1
 ·go_enter Tryz.func88, Tryz.ntmps88
  go_wp2_with ((with_reducible refine wpList_boxT 70 rfl _ rfl (jC s (.slice po l.length c)) ?_ ?_); exact rfl; intro w1 g1 hc1 hb1 hg1; have c0 := hc1.j0; have c1 := hc1.j1; have HB := hid hb1; clear hb1 hc1)
  go_ret
  exact ⟨rfl, HB.out⟩
 ·by_cases h2 : 1099511627776 < s
  ·go_enter Tryz.func88, Tryz.ntmps88
   go_wp2_with ((with_reducible refine wpList_boxT 70 rfl _ rfl (jC s (.slice po l.length c)) ?_ ?_); exact rfl; intro w1 g1 hc1 hb1 hg1; have c0 := hc1.j0; have c1 := hc1.j1; have HB := hid hb1; clear hb1 hc1)
   go_ret
   exact ⟨rfl, HB.out⟩
  ·have h3 : (64 : Int) < (l.length : Int) := by omega
   go_enter Tryz.func88, Tryz.ntmps88
   go_wp2_with ((with_reducible refine wpList_boxT 70 rfl _ rfl (jC s (.slice po l.length c)) ?_ ?_); exact rfl; intro w1 g1 hc1 hb1 hg1; have c0 := hc1.j0; have c1 := hc1.j1; have HB := hid hb1; clear hb1 hc1)
   go_ret
   exact ⟨rfl, HB.out⟩
/-- A record's own block, behind what was there. -/
structure Own1 (w : World) (g : Nat) (r : Rv) (W : World) : Prop where
 below : Below w.heap.size w W
 box : RBox W g r
theorem Own1.mk1 {w w1 w2 : World} {g : Nat} {r : Rv} (hb : Below w.heap.size w w1) (hg : w.heap.size = g) (h : RBox w2 g r) (ho : Only (fun b => b = g) w1 w2) : Own1 w g r w2 :=
 ⟨below_tr hb (ho.below hb.size (fun i e => by omega)), h⟩
theorem Own1.on {w W W' : World} {g : Nat} {r : Rv} (h : Own1 w g r W) (hr : r.ok) (hb : Below W.heap.size W W') : Own1 w g r W' := ⟨below_on h.below hb, h.box.below hr hb⟩
set_option maxRecDepth 100000 in
set_option maxHeartbeats 2000000 in
theorem jcheck_in (s : Int) (v : Value) (l : List Rp) (w : World) (hl : RL w v l) (h1 : 1 ≤ s) (h2 : s ≤ 1099511627776) (h3 : l.length ≤ 64) : Calls Tryz.prog 88 #[.agg (jC s v)] w fun e w' => e = .returned (i64 (if okJ ⟨s, rcs l⟩ = true then 0 else 2)) ∧ Below w.heap.size w w' := by
 have HL := hid hl
 obtain ⟨R, hR⟩ : ∃ R : Int, (if okJ ⟨s, rcs l⟩ = true then (0 : Int) else 2) = R := ⟨_, rfl⟩
 rw [hR]
 have HRR := hid hR
 clear hR
 obtain ⟨po, c, rfl, hc1, hn, hz, hcell, heach⟩ := hl
 have HE := hid heach
 have HC := hid hcell
 clear heach hcell
 have h3' : (l.length : Int) ≤ 64 := by omega
 go_enter Tryz.func88, Tryz.ntmps88
 go_wp2_with ((with_reducible refine wpList_boxT 70 rfl _ rfl (jC s (.slice po l.length c)) ?_ ?_); exact rfl; intro w1 g1 hc1 hb1 hg1; have c0 := hc1.j0; have c1 := hc1.j1; have HJ := hid hc1; have HB := hid hb1; clear hb1 hc1)
 go_loopg [3, 4, 22] l.length (fun gg _ _ s8 wr => ∃ kk : Nat, kk ≤ l.length ∧ l.length - kk ≤ gg ∧ s8 = i64 kk ∧ Hid (Below w1.heap.size w1 wr) ∧ Hid (∀ j x, (rcs l)[j]? = some x → j < kk → okRc x = true ∧ atI (rcs l) x.id = some j))
 case atStart => exact ⟨0, Nat.zero_le _, by omega, rfl, Below.refl _ _, fun j x _ hj => absurd hj (Nat.not_lt_zero _)⟩
 case round =>
  obtain ⟨kk, hkk, hg, rfl, BW, A⟩ := hrel
  clear c0 c1
  by_cases hlt : kk < l.length
  ·have hltz : (kk : Int) < (l.length : Int) := by omega
   obtain ⟨x, hx⟩ : ∃ x, l[kk]? = some x := ⟨_, List.getElem?_eq_getElem hlt⟩
   have hxm := List.mem_of_getElem? hx
   obtain ⟨b, o, hpo, hcells⟩ : ∃ b o, po = some ⟨b, o, none⟩ ∧ RCells w b o l := by
    rcases HC.out with h | h
    ·rw [h] at hlt; simp at hlt
    ·exact h
   subst hpo
   have BW0 := hid (below_on HB.out BW.out)
   have hcw : RCells wr b o l := hcells.keep fun a ha => World.cell?_of_block (BW0.out.block a.block (cell_lt' ha))
   have HR := hid (hcw.range hx)
   have hok := (HE.out x hxm).ok
   have HX := hid hx
   have HP := hid ((HE.out x hxm).pl)
   have hone : x.r.pv.oneCell' = true := by obtain ⟨p0, c0, e0, _⟩ := HP.out; rw [e0]; rfl
   clear hcells hcw hx hxm
   have hxr : (rcs l)[kk]? = some x.rc := by rw [rcs_get, HX.out]; rfl
   have HXR := hid hxr
   clear hxr
   have HCK : Hid (∀ W, Below w.heap.size w W → Calls Tryz.prog 33 #[.agg x.r.cs] W fun e w' => e = .returned (i64 (if okRc x.rc = true then 0 else 2)) ∧ Below W.heap.size W w') := hid fun W hW => check_any x.r hok x.ps W (HP.out.below hW)
   cases hq : okRc x.rc with
   | false =>
    rw [hq] at HCK
    simp only [Bool.false_eq_true, if_false] at HCK
    go_wp2_with (first
     | ((with_reducible refine wpList_loadM rfl _ rfl b (o + kk * 42) ?_ x.r hok HR.out ?_); exact rfl)
     | ((with_reducible refine wpList_allocR rfl rfl ?_); intro w2 g2 hz2 hb2 hg2; have HZ := hid hz2; have HB2 := hid hb2; have HG2 := hid hg2; clear hz2 hb2 hg2)
     | ((with_reducible refine wpList_storeR rfl rfl _ _ rfl g2 ?_ (r := x.r) ?_ zR_ok hok hone HZ.out ?_); exact rfl; exact rfl; intro w3 h3 o3; have HO := hid (Own1.mk1 HB2.out HG2.out h3 o3); have HW3 := hid (below_on BW0.out HO.out.below); clear h3 o3)
     | ((with_reducible refine wpList_load_at 44 _ rfl ?_ g2 0 ?_ x.r.cs (.struct (Tryz.prog.fieldsOf 44)) ?_ underRec rfl ?_ ?_); exact rfl; exact rfl; exact HO.out.box.whole; (rw [hok.size]; exact sizeR))
     | (go_at_call 33; refine (HCK.out _ HW3.out).mono ?_; rintro e w4 ⟨rfl, hb4⟩; have HO4 := hid (HO.out.on hok hb4); have HW4 := hid (below_on HW3.out hb4); have j1 := (HJ.out.below (below_on BW.out (below_on HO.out.below hb4))).j1; have x0 := HO4.out.box.c0; clear hb4))
    go_ret
    refine ⟨?_, HW4.out⟩
    rw [← HRR.out, okJ_not HXR.out (Or.inl hq)]
    rfl
   | true =>
    rw [hq] at HCK
    simp only [if_true] at HCK
    have hpl := place_any (.slice (some ⟨b, o, none⟩) l.length c) l x.r.id
    obtain ⟨q, hQ⟩ : ∃ q, plI (atI (rcs l) (lst x.r.id)) = q := ⟨_, rfl⟩
    rw [hQ] at hpl
    have HPL := hid hpl
    have HQ := hid hQ
    clear hpl hQ
    by_cases he : q = (kk : Int)
    ·subst he
     go_wp2_with (first
      | ((with_reducible refine wpList_loadM rfl _ rfl b (o + kk * 42) ?_ x.r hok HR.out ?_); exact rfl)
      | ((with_reducible refine wpList_allocR rfl rfl ?_); intro w2 g2 hz2 hb2 hg2; have HZ := hid hz2; have HB2 := hid hb2; have HG2 := hid hg2; clear hz2 hb2 hg2)
      | ((with_reducible refine wpList_storeR rfl rfl _ _ rfl g2 ?_ (r := x.r) ?_ zR_ok hok hone HZ.out ?_); exact rfl; exact rfl; intro w3 h3 o3; have HO := hid (Own1.mk1 HB2.out HG2.out h3 o3); have HW3 := hid (below_on BW0.out HO.out.below); clear h3 o3)
      | ((with_reducible refine wpList_load_at 44 _ rfl ?_ g2 0 ?_ x.r.cs (.struct (Tryz.prog.fieldsOf 44)) ?_ underRec rfl ?_ ?_); exact rfl; exact rfl; exact HO.out.box.whole; (rw [hok.size]; exact sizeR))
      | (go_at_call 33; refine (HCK.out _ HW3.out).mono ?_; rintro e w4 ⟨rfl, hb4⟩; have HO4 := hid (HO.out.on hok hb4); have HW4 := hid (below_on HW3.out hb4); have j1 := (HJ.out.below (below_on BW.out (below_on HO.out.below hb4))).j1; have x0 := HO4.out.box.c0; clear hb4)
      | (go_at_call 102; refine (HPL.out _ (HL.out.below HW4.out)).mono ?_; rintro e w5 ⟨rfl, hb5⟩; have HW5 := hid (below_on HW4.out hb5); have HB5 := hid hb5; clear hb5))
     go_roundg (l.length - (kk + 1))
     case measure => omega
     case rel =>
      refine ⟨kk + 1, by omega, by omega, by go_num, ?_, (show Hid _ from fun j y hy hj => ?_)⟩
      ·exact below_on (below_on BW.out HO4.out.below) HB5.out
      ·by_cases e : j = kk
       ·subst e
        rw [HXR.out] at hy; cases hy
        refine ⟨hq, ?_⟩
        have := HQ.out
        rw [rc_id]
        cases ha : atI (rcs l) (lst x.r.id) with
        | none => rw [ha] at this; exact absurd this (by show ¬ ((-1 : Int) = _); omega)
        | some i => rw [ha] at this; have h9 : ((i : Nat) : Int) = (j : Int) := this; rw [show i = j by omega]
       ·exact A.out j y hy (by omega)
    ·go_wp2_with (first
       | ((with_reducible refine wpList_loadM rfl _ rfl b (o + kk * 42) ?_ x.r hok HR.out ?_); exact rfl)
       | ((with_reducible refine wpList_allocR rfl rfl ?_); intro w2 g2 hz2 hb2 hg2; have HZ := hid hz2; have HB2 := hid hb2; have HG2 := hid hg2; clear hz2 hb2 hg2)
       | ((with_reducible refine wpList_storeR rfl rfl _ _ rfl g2 ?_ (r := x.r) ?_ zR_ok hok hone HZ.out ?_); exact rfl; exact rfl; intro w3 h3 o3; have HO := hid (Own1.mk1 HB2.out HG2.out h3 o3); have HW3 := hid (below_on BW0.out HO.out.below); clear h3 o3)
       | ((with_reducible refine wpList_load_at 44 _ rfl ?_ g2 0 ?_ x.r.cs (.struct (Tryz.prog.fieldsOf 44)) ?_ underRec rfl ?_ ?_); exact rfl; exact rfl; exact HO.out.box.whole; (rw [hok.size]; exact sizeR))
       | (go_at_call 33; refine (HCK.out _ HW3.out).mono ?_; rintro e w4 ⟨rfl, hb4⟩; have HO4 := hid (HO.out.on hok hb4); have HW4 := hid (below_on HW3.out hb4); have j1 := (HJ.out.below (below_on BW.out (below_on HO.out.below hb4))).j1; have x0 := HO4.out.box.c0; clear hb4)
       | (go_at_call 102; refine (HPL.out _ (HL.out.below HW4.out)).mono ?_; rintro e w5 ⟨rfl, hb5⟩; have HW5 := hid (below_on HW4.out hb5); have HB5 := hid hb5; clear hb5))
     go_ret
     refine ⟨?_, HW5.out⟩
     rw [← HRR.out, okJ_not HXR.out (Or.inr fun e => he (by rw [← HQ.out, ← rc_id, e]; rfl))]
     rfl
  ·have hltz : ¬ (kk : Int) < (l.length : Int) := by omega
   go_wp2
   go_ret
   refine ⟨?_, below_on HB.out BW.out⟩
   rw [← HRR.out, okJ_of h1 h2 (by rw [rcs_len]; exact h3) (fun j x hx => A.out j x hx (by have := (List.getElem?_eq_some_iff.1 hx).1; rw [rcs_len] at this; omega))]
   rfl
theorem jcheck_any (s : Int) (v : Value) (l : List Rp) (w : World) (hl : RL w v l) : Calls Tryz.prog 88 #[.agg (jC s v)] w fun e w' => e = .returned (i64 (if okJ ⟨s, rcs l⟩ = true then 0 else 2)) ∧ Below w.heap.size w w' := by
 by_cases h : s < 1 ∨ 1099511627776 < s ∨ 64 < l.length
 ·rw [okJ_out (by rw [rcs_len]; exact h)]
  exact jcheck_out s v l w hl h
 ·exact jcheck_in s v l w hl (by omega) (by omega) (by omega)
end Go.Proofs.YtdohmokhfajjpaaGreatDoor

/- journal.Same, by slices.EqualFunc and record.Same. -/
namespace Go.Proofs.YtdohmokhfajjpaaGreatDoor
open Go Go.RowKit

/-- What the range's variable needs of a list's record. -/
theorem RL.at {w W : World} {po : Option Addr} {c : Nat} {l : List Rp} (h : RL w (.slice po l.length c) l) (hb : Below w.heap.size w W) {k : Nat} (hk : k < l.length) :
  ∃ b o x, po = some ⟨b, o, none⟩ ∧ l[k]? = some x ∧ W.rangeAt b (o + k * 42) x.r.cs.toList ∧ RpOk W x ∧ x.r.pv.oneCell' = true := by
 obtain ⟨x, hx⟩ : ∃ x, l[k]? = some x := ⟨_, List.getElem?_eq_getElem hk⟩
 obtain ⟨po', c', e, _, _, _, hcell, heach⟩ := h.below hb
 cases e
 rcases hcell with h | ⟨b, o, e, hc⟩
 ·rw [h] at hk; cases hk
 ·have hr := heach x (List.mem_of_getElem? hx)
  refine ⟨b, o, x, e, hx, hc.range hx, hr, ?_⟩
  obtain ⟨p0, c0, e0, _⟩ := hr.pl
  rw [e0]; rfl
end Go.Proofs.YtdohmokhfajjpaaGreatDoor

/- journal.Same and begins; slices.Clone of records; clone. -/
namespace Go.Proofs.YtdohmokhfajjpaaGreatDoor
open Go Go.RowKit

/-- append(v, l...), the records anywhere. -/
theorem RBuf.app {B : Nat} {w : World} {v : Value} {m : List Rp} (hv : RBuf B w v m) (u : Value) (l : List Rp) (hl : RL w u l) (hn : m.length + l.length ≤ 1000000) (hB : B ≤ w.heap.size) :
  ∃ v' w', (Builtin.append_ #[68, 68] 68 #[v, u]).run Tryz.prog w = .ok v' w' ∧ RBuf B w' v' (m ++ l) ∧ w.grownBy w' v.ownBlock := by
 obtain ⟨i0, hi0, hz0, hz1, hz2⟩ := info_parts Tryz.infoRec
 have hok := hl.ok
 have hone := flatR_one hl.each
 obtain ⟨po, c, rfl, _, _, hz, h, _⟩ := hl
 cases po with
 | none =>
  have : l = [] := by
   rcases h with h | ⟨b, o, h, _⟩
   ·exact h
   ·cases h
  subst this
  obtain rfl := hz rfl
  refine ⟨v, w, run_append_owned_none (P := Tryz.prog) (w := w) B 68 68 44 i0 42 Tryz.underlying68 hi0 v _ _ hv, by simpa using hv, ⟨rfl, rfl, rfl, Nat.le_refl _, fun _ _ _ => rfl⟩⟩
 | some a =>
  obtain ⟨v', w', hr, h3, h4, _, _⟩ := run_append_own_at (P := Tryz.prog) w B 68 68 44 i0 _ 42 160 Tryz.underlying68 hi0 hz0 hz1 hz2 (by rw [Value.cells, zR_ok.size]) (by decide) v m.length (flatR m) hv a l.length c (flatR l) (flatR_len hok) (fun j u hj => by
   rcases h with h | ⟨b, o, e2, h⟩
   ·subst h; simp [flatR] at hj
   ·cases e2
    rw [add_none]
    exact h.unflat hok j u hj) hone (by unfold maxLen; omega) (by omega) hB
  refine ⟨v', w', hr, ?_, h4⟩
  unfold RBuf
  rw [List.length_append, flatR_app]; exact h3
end Go.Proofs.YtdohmokhfajjpaaGreatDoor

/- journal.clone. -/
namespace Go.Proofs.YtdohmokhfajjpaaGreatDoor
open Go Go.RowKit

theorem CAt.apart {w : World} {g h : Nat} {cs ds : Array Value} {t u : TypeId} (a : CAt w g cs t) (b : CAt w h ds u) (hne : t ≠ u) : g ≠ h := fun e => by
 subst e
 have := a.symm.trans b
 simp at this
 exact hne this.2
theorem PLF.other {B : Nat} {w w' : World} {v : Value} {ps : Ps} {g : Nat} {cs : Array Value} {t : TypeId} (ht : t ≠ 129) (h : PLF B w v ps) (hc : CAt w g cs t) (ho : Only (fun b => b = g) w w') : PLF B w' v ps := by
 obtain ⟨⟨po, c, h1, h2, h3, h⟩, hB, hz⟩ := h
 refine ⟨⟨po, c, h1, h2, h3, ?_⟩, fun a n c e hne => ?_, hz⟩
 ·rcases h with h | ⟨b, o, hp, h⟩
  ·exact Or.inl h
  ·refine Or.inr ⟨b, o, hp, fun i hi => ?_⟩
   obtain ⟨_, ds, hd⟩ := hB ⟨b, o, none⟩ _ _ (by rw [h1, hp]) (fun e => by rw [e] at hi; cases hi)
   have hk : w'.heap[b]? = w.heap[b]? := ho.block b hd.lt (fun e => hc.apart hd ht e.symm)
   exact ⟨(World.cell?_of_block (a := ⟨b, o + i * 2, none⟩) hk).trans (h i hi).1, (World.cell?_of_block (a := ⟨b, o + i * 2 + 1, none⟩) hk).trans (h i hi).2⟩
 ·obtain ⟨k1, ds, k2⟩ := hB a n c e hne
  exact ⟨k1, ds, k2.keep (ho.block a.block k2.lt fun e => hc.apart k2 ht e.symm)⟩
theorem RpX.other {B : Nat} {w w' : World} {x : Rp} {g : Nat} {cs : Array Value} (h : RpX B w x) (hc : CAt w g cs 44) (ho : Only (fun b => b = g) w w') : RpX B w' x := ⟨h.ok, h.pl.other (by decide) hc ho⟩
theorem RBuf.range {B : Nat} {w : World} {v : Value} {l : List Rp} (h : RBuf B w v l) (hk : ∀ x ∈ l, x.r.ok) {i : Nat} {x : Rp} (e : l[i]? = some x) :
  ∃ g c, v = .slice (some ⟨g, 0, none⟩) l.length c ∧ w.rangeAt g (i * 42) x.r.cs.toList := by
 rcases h.2 with ⟨rfl, h0⟩ | ⟨g, cap, cur, rfl, hB, hg, h1, hm, h3, h4⟩
 ·rw [List.eq_nil_of_length_eq_zero h0] at e; cases e
 refine ⟨g, cap, rfl, fun j v hv => ?_⟩
 have hc : CAt w g cur 44 := hg
 have hi := (List.getElem?_eq_some_iff.1 e).1
 have hj : j < 42 := by
  rcases Nat.lt_or_ge j 42 with q | q
  ·exact q
  ·rw [List.getElem?_eq_none (by rw [sizeR42 (hk x (List.mem_of_getElem? e))]; exact q)] at hv; cases hv
 rw [hc.cell]
 have := flatR_get hk e hj
 rw [← h4, List.getElem?_take, if_pos (by omega)] at this
 rw [Array.getElem?_toList] at this hv
 rw [this]; exact hv
/-- So many records have been copied. -/
structure CInv (w : World) (l : List Rp) (v : Value) (kk : Nat) (m : List Rp) (W : World) : Prop where
 len : m.length = l.length
 rc : rcs m = rcs l
 low : ∀ j x, j < kk → m[j]? = some x → RpX w.heap.size W x
 high : ∀ j, kk ≤ j → m[j]? = l[j]?
 buf : RBuf w.heap.size W v m
 below : Below w.heap.size w W
theorem CInv.ok {w W : World} {l m : List Rp} {v : Value} {kk : Nat} (h : CInv w l v kk m W) (hl : ∀ x ∈ l, x.r.ok) : ∀ x ∈ m, x.r.ok := fun x hx => by
 obtain ⟨j, hj, e⟩ := List.getElem_of_mem hx
 have e' : m[j]? = some x := by rw [List.getElem?_eq_getElem hj, e]
 by_cases hk : j < kk
 ·exact (h.low j x hk e').ok
 ·rw [h.high j (by omega)] at e'
  exact hl x (List.mem_of_getElem? e')
end Go.Proofs.YtdohmokhfajjpaaGreatDoor

/- slices.DeleteFunc with has; without. -/
namespace Go.Proofs.YtdohmokhfajjpaaGreatDoor
open Go Go.RowKit

/-- The records but the one of an ID. -/
def woutR (l : List Rp) (id : List Nat) : List Rp := l.filter fun x => decide (lst x.r.id ≠ id)
/-- So far: the first j have been looked at, i of them are kept. -/
structure DInv (B : Nat) (w : World) (l : List Rp) (v : Value) (s : ByteArray) (gf i j : Nat) (m : List Rp) (W : World) : Prop where
 len : m.length = l.length
 lt : i < j
 le : j ≤ l.length
 low : m.take i = woutR (l.take j) (lst s)
 high : ∀ k, j ≤ k → m[k]? = l[k]?
 each : ∀ x ∈ m, RpX B W x
 buf : RBuf B W v m
 below : Below B w W
 hf : CAt W gf #[.string s] 9
theorem woutR_succ {l : List Rp} {id : List Nat} {j : Nat} {x : Rp} (hx : l[j]? = some x) : woutR (l.take (j + 1)) id = woutR (l.take j) id ++ if lst x.r.id = id then [] else [x] := by
 have hj := (List.getElem?_eq_some_iff.1 hx).1
 have e : l[j] = x := (List.getElem?_eq_some_iff.1 hx).2
 rw [List.take_succ_eq_append_getElem hj, e]
 unfold woutR
 rw [List.filter_append]
 by_cases h : lst x.r.id = id <;> simp [h]
section
variable {B : Nat} {w : World} {l : List Rp} {v : Value} {s : ByteArray} {gf i j : Nat} {m : List Rp} {W W1 : World} (h : DInv B w l v s gf i j m W)
include h
theorem DInv.on (hB : B ≤ w.heap.size) (hb : Below W.heap.size W W1) : DInv B w l v s gf i j m W1 :=
 ⟨h.len, h.lt, h.le, h.low, h.high, fun x hx => (h.each x hx).below hb, h.buf.below hb, below_tr h.below (below_less hb (Nat.le_trans hB h.below.size)), h.hf.below hb⟩
theorem DInv.keep (hB : B ≤ w.heap.size) {x : Rp} (hx : l[j]? = some x) (he : lst x.r.id ≠ lst s) :
  ∃ g c, v = .slice (some ⟨g, 0, none⟩) l.length c ∧ W.there g (i * 42) 42 ∧ DInv B w l v s gf (i + 1) (j + 1) (m.set i x) (W.setCells g (i * 42) x.r.cs.toList) := by
 have hxm : m[j]? = some x := by rw [h.high j (Nat.le_refl _)]; exact hx
 have hxX := h.each x (List.mem_of_getElem? hxm)
 have hlt := h.lt
 have hle := (List.getElem?_eq_some_iff.1 hx).1
 obtain ⟨g, c, e, hg, ht, ⟨cs, hc⟩, hbuf, ho⟩ := h.buf.set (fun y hy => (h.each y hy).ok) (i := i) (by rw [h.len]; omega) hxX.ok
 refine ⟨g, c, by rw [e, h.len], ht, by rw [List.length_set, h.len], by omega, hle, ?_, fun k hk => ?_, fun y hy => ?_, hbuf, below_tr h.below (ho.below (by have := h.below.size; omega) (fun i e => by omega)), h.hf.keep (ho.block gf h.hf.lt fun e => h.hf.apart hc (by decide) e)⟩
 ·rw [woutR_succ hx, if_neg he, ← h.low, List.take_succ_eq_append_getElem (by rw [List.length_set, h.len]; omega), List.getElem_set_self, List.take_set_of_le (by omega)]
 ·rw [List.getElem?_set, if_neg (by omega)]
  exact h.high k (by omega)
 ·rcases List.mem_or_eq_of_mem_set hy with hy | rfl
  ·exact (h.each y hy).other hc ho
  ·exact hxX.other hc ho
end
theorem DInv.start {B : Nat} {w W : World} {l : List Rp} {v : Value} {s : ByteArray} {gf i : Nat} (h : Rs B W v l) (hb : Below B w W) (hf : CAt W gf #[.string s] 9) (hi : atI (rcs l) (lst s) = some i) : DInv B w l v s gf i (i + 1) l W := by
 obtain ⟨h1, h2, h3⟩ := atI_some hi
 rw [rcs_len] at h1
 have hx : l[i]? = some l[i] := List.getElem?_eq_getElem h1
 have e2 : lst l[i].r.id = lst s := by have := h2; simpa [rcs, Rp.rc, Rv.rc] using this
 refine ⟨rfl, by omega, by omega, ?_, fun k _ => rfl, h.each, h.buf, hb, hf⟩
 rw [woutR_succ hx, if_pos e2, List.append_nil]
 unfold woutR
 rw [List.filter_eq_self.2]
 intro y hy
 obtain ⟨j, hj, e⟩ := List.getElem_of_mem hy
 rw [List.length_take] at hj
 have := h3 j (by omega)
 simp only [ne_eq, decide_eq_true_eq]
 intro e3
 apply this
 rw [List.getElem_take] at e
 simpa [rcs, Rp.rc, Rv.rc, e] using e3

end Go.Proofs.YtdohmokhfajjpaaGreatDoor

/- slices.Insert of one record ahead of all. -/
namespace Go.Proofs.YtdohmokhfajjpaaGreatDoor
open Go Go.RowKit

theorem one_rl {w : World} {g : Nat} {y : Rp} (hc : CAt w g y.r.cs 44) (hy : RpOk w y) : RL w (.slice (some ⟨g, 0, none⟩) 1 1) [y] :=
 ⟨_, 1, rfl, Nat.le_refl _, by simp, (fun e => by cases e), Or.inr ⟨g, 0, rfl, fun i x e j v hv => by
  cases i with
  | zero => simp at e; subst e; rw [hc.cell]; simpa using hv
  | succ i => simp at e⟩, fun x hx => by simp at hx; subst hx; exact hy⟩
theorem RpX.grown {B : Nat} {w w' : World} {x : Rp} {v : Value} {l : List Rp} (h : RpX B w x) (hb : RBuf B w v l) (hg : w.grownBy w' v.ownBlock) : RpX B w' x := by
 rcases hb.2 with ⟨rfl, _⟩ | ⟨g, cap, cur, rfl, hB, hc, _⟩
 ·exact h.below ⟨hg.os, hg.tape, hg.output, hg.size, fun i hi => hg.block i hi (fun e => by cases e)⟩
 ·exact h.other (cs := cur) (g := g) hc (Only.of_grown hg fun k e _ => by cases e; rfl)
end Go.Proofs.YtdohmokhfajjpaaGreatDoor
