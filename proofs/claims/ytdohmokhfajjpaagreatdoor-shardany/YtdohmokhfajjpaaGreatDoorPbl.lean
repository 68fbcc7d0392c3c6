/- Texts laid into one, cut to what is needed: the remark ahead of each part says what is proved there. -/
import Derived.Test.YtdohmokhfajjpaaGreatDoorPbj
import Derived.Test.YtdohmokhfajjpaaGreatDoorPbf
import Derived.Lib.ConvBytes
import Derived.Test.YtdohmokhfajjpaaGreatDoorPbg
import Derived.ChangeArms
import Derived.ChangeSlices
import Derived.OpenShut
import Derived.Test.YtdohmokhfajjpaaGreatDoorPbk
/- tally: the journals that drives have. -/
namespace Go.Proofs.YtdohmokhfajjpaaGreatDoor
open Go Go.RowKit

/-- A journal that a drive has, as a value, and its text. -/
structure Hv where
 s : Int
 v : Value
 m : List Rp
 t : ByteArray
def hC (s : Int) (v : Value) (t : ByteArray) : Array Value := #[i64 s, v, .string t]
def Hv.row (x : Hv) : List Value := [i64 x.s, x.v, .string x.t]
structure HvOk (B : Nat) (w : World) (x : Hv) : Prop where
 rs : Rs B w x.v x.m
 small : x.m.length ≤ 100000
 txt : x.t.size ≤ 100000
theorem HvOk.below {B : Nat} {w w' : World} {x : Hv} (h : HvOk B w x) (hb : Below w.heap.size w w') : HvOk B w' x := ⟨h.rs.below hb, h.small, h.txt⟩
theorem HvOk.only {B : Nat} {w w' : World} {x : Hv} {S : Nat → Prop} (h : HvOk B w x) (hO : Only S w w') (hS : ∀ i, S i → i < B) : HvOk B w' x := ⟨h.rs.only hO hS, h.small, h.txt⟩
theorem Rs.one {B : Nat} {w : World} {v : Value} {l : List Rp} (h : Rs B w v l) : v.oneCell' = true := by obtain ⟨a, c, e, _⟩ := h.buf.form; rw [e]; rfl
theorem HvOk.one {B : Nat} {w : World} {x : Hv} (h : HvOk B w x) : ∀ u ∈ x.row, u.oneCell' = true := by
 intro u hu
 simp only [Hv.row, List.mem_cons, List.not_mem_nil, or_false] at hu
 rcases hu with rfl | rfl | rfl
 ·rfl
 ·exact h.rs.one
 ·rfl
end Go.Proofs.YtdohmokhfajjpaaGreatDoor

/- tally: votes in a map, the greatest one. -/
namespace Go.Proofs.YtdohmokhfajjpaaGreatDoor
open Go Go.RowKit

/-- A map from texts to counts. -/
def CntM (w : World) (m n : Nat) (f : List Nat → Nat) : Prop := ∃ D : DataW Unit, w.ownsMap Tryz.prog 9 (plainElem Tryz.prog 3) m n D ∧ ∀ s : ByteArray, D.atKey (.string s.data.toList) (.lit (.int .i64 0)) = .lit (.int .i64 (f (lst s) : Nat))
theorem CntM.lt {w : World} {m n : Nat} {f : List Nat → Nat} (h : CntM w m n f) : m < w.heap.size := by obtain ⟨D, h, _⟩ := h; exact h.lt
theorem CntM.keep {w w' : World} {m n : Nat} {f : List Nat → Nat} (h : CntM w m n f) (hk : w'.heap[m]? = w.heap[m]?) : CntM w' m n f := by
 obtain ⟨D, ⟨es, clock, hb, F, hs, hD⟩, h2⟩ := h
 exact ⟨D, ⟨es, clock, hk.trans hb, F, hs, hD⟩, h2⟩
theorem CntM.below {w w' : World} {m n : Nat} {f : List Nat → Nat} (h : CntM w m n f) (hb : Below w.heap.size w w') : CntM w' m n f := h.keep (hb.block m h.lt)
theorem CntM.congr {w : World} {m n : Nat} {f f' : List Nat → Nat} (h : CntM w m n f) (e : ∀ b, f' b = f b) : CntM w m n f' := by rw [show f' = f from funext e]; exact h
theorem CntM.made (w : World) : CntM (w.alloc (.map #[] 0)) w.heap.size 0 (fun _ => 0) := ⟨.map [], World.ownsMap_made w _ _ _, fun _ => rfl⟩
end Go.Proofs.YtdohmokhfajjpaaGreatDoor

/- slices.MaxFunc over the journals that drives have; greatest. -/
namespace Go.Proofs.YtdohmokhfajjpaaGreatDoor
open Go Go.RowKit

def Hv.cs (x : Hv) : Array Value := hC x.s x.v x.t
end Go.Proofs.YtdohmokhfajjpaaGreatDoor

/- Choices in memory; bools that are written one by one; what Elect tells. -/
namespace Go.Proofs.YtdohmokhfajjpaaGreatDoor
open Go Go.RowKit

abbrev nilS : Value := .slice none 0 0
/-- A row of bools of one's own. -/
def BoF (w : World) (g n : Nat) (F : Nat → Bool) : Prop := CAt w g (((List.range n).map fun i => Value.bool (F i)).toArray) 4
theorem BoF.cell {w : World} {g n : Nat} {F : Nat → Bool} (h : BoF w g n F) {i : Nat} (hi : i < n) : w.cell? ⟨g, i, none⟩ = some (.bool (F i)) := by
 have h2 : CAt w g _ 4 := h
 rw [h2.cell]; simp [hi]
theorem BoF.free {w : World} {g n : Nat} {F : Nat → Bool} (h : BoF w g n F) (i : Nat) : w.frozen? ⟨g, i, none⟩ = false := CAt.free (h : CAt w g _ 4) i
theorem BoF.lt {w : World} {g n : Nat} {F : Nat → Bool} (h : BoF w g n F) : g < w.heap.size := CAt.lt (h : CAt w g _ 4)
theorem BoF.keep {w w' : World} {g n : Nat} {F : Nat → Bool} (h : BoF w g n F) (e : w'.heap[g]? = w.heap[g]?) : BoF w' g n F := e.trans h
theorem BoF.below {w w' : World} {g n : Nat} {F : Nat → Bool} (h : BoF w g n F) (hb : Below w.heap.size w w') : BoF w' g n F := h.keep (hb.block g h.lt)
theorem BoF.set {w : World} {g n : Nat} {F : Nat → Bool} (h : BoF w g n F) (k : Nat) (x : Bool) : BoF (w.setCell ⟨g, k, none⟩ (.bool x)) g n (fun i => if i = k then x else F i) := by
 have h2 := CAt.set (h : CAt w g _ 4) k (.bool x)
 unfold BoF
 have e : (((List.range n).map fun i => Value.bool (F i)).toArray).setIfInBounds k (.bool x) = ((List.range n).map fun i => Value.bool (if i = k then x else F i)).toArray := by
  apply Array.toList_inj.1
  rw [Array.toList_setIfInBounds, List.toList_toArray, List.toList_toArray]
  refine List.ext_getElem? fun i => ?_
  rw [List.getElem?_set]
  by_cases hi : i < n
  ·by_cases e : k = i
   ·subst e; simp [hi]
   ·simp [e, hi, Ne.symm e]
  ·have h0 : ((List.range n).map fun i => Value.bool (F i)).length ≤ i := by simp; omega
   have h1 : ((List.range n).map fun i => Value.bool (if i = k then x else F i)).length ≤ i := by simp; omega
   rw [List.getElem?_eq_none h0, List.getElem?_eq_none h1]
   split <;> simp
   simp at h0
   omega
 rw [← e]
 exact h2
theorem BoF.congr {w : World} {g n : Nat} {F G : Nat → Bool} (h : BoF w g n F) (e : ∀ i, i < n → F i = G i) : BoF w g n G := by
 unfold BoF at *
 rw [show ((List.range n).map fun i => Value.bool (G i)) = (List.range n).map fun i => Value.bool (F i) from List.map_congr_left fun i hi => by rw [e i (List.mem_range.1 hi)]]
 exact h
theorem BoF.made (w : World) (n : Nat) : BoF (w.alloc (.cells (madeCells #[.bool false] n) 4)) w.heap.size n (fun _ => false) := by
 unfold BoF
 have e : madeCells #[.bool false] n = ((List.range n).map fun _ => Value.bool false).toArray := by
  apply Array.toList_inj.1
  rw [List.toList_toArray]
  refine List.ext_getElem? fun i => ?_
  by_cases hi : i < n
  ·rw [Array.getElem?_toList, madeCells_get _ _ _ hi]; simp [hi]
  ·rw [List.getElem?_eq_none (by simp [madeCells]; omega), List.getElem?_eq_none (by simp; omega)]
 rw [← e]
 exact CAt.made w _ _
end Go.Proofs.YtdohmokhfajjpaaGreatDoor

/- tally.Elect where a drive has a journal. -/
namespace Go.Proofs.YtdohmokhfajjpaaGreatDoor
open Go Go.RowKit

theorem CntM.apart {w : World} {m n : Nat} {f : List Nat → Nat} (h : CntM w m n f) {g : Nat} {cs : Array Value} {t : TypeId} (hc : CAt w g cs t) : m ≠ g := fun e => by
 obtain ⟨D, ⟨es, clock, hb, _⟩, _⟩ := h
 subst e
 have := hb.symm.trans hc
 simp at this
theorem str_eq {bs : List Nat} (h8 : ∀ z ∈ bs, z < 256) (t : ByteArray) : ((ba bs).toList == t.toList) = decide (bs = lst t) := by rw [lst_beq, lst_ba h8]

end Go.Proofs.YtdohmokhfajjpaaGreatDoor

/- The chapter's examples: mathematics; of; lists of three copies; awake. -/
namespace Go.Proofs.YtdohmokhfajjpaaGreatDoor
open Go Go.RowKit

theorem Tryz.infoCp : (Tryz.prog.info? 33).map (fun i => (i.zero, i.size, i.bytes)) = some (some (.agg (cC 0 (.slice none 0 0))), 2, 32) := by kernel_rfl
theorem CvOk.err (w : World) (e : Int) : CvOk w ⟨e, .slice none 0 0, []⟩ := ⟨⟨none, 0, rfl, Or.inl rfl, Nat.le_refl _, fun _ => rfl⟩, by simp, by simp⟩
theorem Buf.cv {B : Nat} {w : World} {p : Option Addr} {n c : Nat} {L : List Nat} (h : Buf B w (.slice p n c) L) (hn : n = L.length) (h1 : L.length ≤ 100000) (h8 : ∀ z ∈ L, z < 256) (e : Int) : CvOk w ⟨e, .slice p n c, L⟩ := by
 subst hn
 refine ⟨⟨p, c, rfl, h.bl, h.cap.2, fun e => ?_⟩, h1, h8⟩
 subst e
 rcases h.2 with ⟨e2, _⟩ | ⟨g, cap, cur, e2, _⟩
 ·simp at e2; exact e2.2
 ·simp at e2
end Go.Proofs.YtdohmokhfajjpaaGreatDoor

/- Copies that came in; which are large; how many have just these bytes. -/
namespace Go.Proofs.YtdohmokhfajjpaaGreatDoor
open Go Go.RowKit

/-- What is told of a copy that came in. -/
structure IsCp (w : World) (x : Cv) : Prop where
 sl : ∃ po c, x.v = .slice po x.bs.length c ∧ BL w po x.bs ∧ x.bs.length ≤ c ∧ (po = none → c = 0)
 byte : ∀ z ∈ x.bs, z < 256
def IsC (w : World) (v : Value) (l : List Cv) : Prop := ∃ po c, v = .slice po l.length c ∧ l.length ≤ c ∧ c ≤ maxLen ∧ (po = none → c = 0) ∧ (l = [] ∨ ∃ b o, po = some ⟨b, o, none⟩ ∧ CCells w b o l) ∧ ∀ x ∈ l, IsCp w x
def bigX (x : Cv) : Bool := decide (20000 < x.bs.length)
def bigC (l : List Cv) : Bool := l.any bigX || decide (20 < l.length)
theorem IsC.cl {w : World} {v : Value} {l : List Cv} (h : IsC w v l) (hb : bigC l = false) : CL w v l ∧ l.length ≤ 20 ∧ ∀ x ∈ l, x.bs.length ≤ 20000 := by
 obtain ⟨po, c, h1, h2, _, h4, h5, h6⟩ := h
 simp only [bigC, Bool.or_eq_false_iff, decide_eq_false_iff_not, List.any_eq_false, bigX, decide_eq_true_eq] at hb
 have hs : ∀ x ∈ l, x.bs.length ≤ 20000 := fun x hx => by have := hb.1 x hx; omega
 exact ⟨⟨po, c, h1, h2, by omega, h4, h5, fun x hx => ⟨(h6 x hx).sl, by have := hs x hx; omega, (h6 x hx).byte⟩⟩, by omega, hs⟩
section
variable {H : Type} {enc : TypeId × Value → H} {w : World} {held : Bool} {fuel : Nat}
end
end Go.Proofs.YtdohmokhfajjpaaGreatDoor

/- Fates that came in. -/
namespace Go.Proofs.YtdohmokhfajjpaaGreatDoor
open Go Go.RowKit

/-- A fate. -/
structure Fte where
 kd : Int
 at' : Int
 msk : Nat
 deriving Inhabited
def Fte.cs (x : Fte) : Array Value := #[.int .i64 x.kd, .int .i64 x.at', .int .u8 (x.msk : Int)]
/-- What is told of fates that came in. -/
def IsFt (w : World) (v : Value) (l : List Fte) : Prop := ∃ po c, v = .slice po l.length c ∧ l.length ≤ c ∧ l.length ≤ maxLen ∧ (l = [] ∨ ∃ b o, po = some ⟨b, o, none⟩ ∧ ∀ i, i < l.length → ∀ j, j < 3 → w.cell? ⟨b, o + i * 3 + j, none⟩ = (l.getD i default).cs[j]?) ∧ ∀ x ∈ l, x.msk < 256
section
variable {H : Type} {enc : TypeId × Value → H} {w : World} {held : Bool} {fuel : Nat}
theorem getD_in11 {α : Type} (s : List α) (i : Nat) (z : α) (hi : i < s.length) : s.getD i z = s[i] := by simp [List.getD, hi]
theorem slice_len11 {t e : TypeId} (ht : Tryz.prog.underlying t = some (.slice e)) {po : Option Addr} {n c : Nat} {x : DataW H × List MemPlace} (h : DataW.trod enc Tryz.prog w 0 (fun _ => true) held fuel t [.slice po n c] = some x) : n ≤ maxLen ∧ n ≤ c ∧ (po = none → n = 0 ∧ c = 0) := by
 rcases DataW.trod_slice ht h with ⟨hcs, _⟩ | ⟨ad, l, cc, elems, rest, m, _, hcs, _, _, hl, hm, _⟩
 ·simp at hcs; obtain ⟨e1, e2, e3⟩ := hcs; subst e1 e2 e3; exact ⟨Nat.zero_le _, Nat.le_refl _, fun _ => ⟨rfl, rfl⟩⟩
 ·simp at hcs; obtain ⟨e1, e2, e3⟩ := hcs; subst e1 e2 e3; exact ⟨Nat.le_trans hl hm, hl, fun e => by cases e⟩
theorem rows_read11 {α : Type} [Inhabited α] {t e : TypeId} {sz : Nat} (ht : Tryz.prog.underlying t = some (.slice e)) (hsz : Tryz.prog.cellsOf e = sz) (hs0 : 0 < sz) (val : α → Array Value) (hv : ∀ y, (val y).size = sz) (ok : α → Prop)
  (hr : ∀ {fuel : Nat} {cs : List Value} {x : DataW H × List MemPlace}, DataW.trod enc Tryz.prog w 0 (fun _ => true) held fuel e cs = some x → ∃ y : α, ok y ∧ cs = (val y).toList)
  {cs : List Value} {x : DataW H × List MemPlace} (h : DataW.trod enc Tryz.prog w 0 (fun _ => true) held fuel t cs = some x) :
  ∃ (po : Option Addr) (c : Nat) (l : List α), cs = [.slice po l.length c] ∧ (l = [] ∨ ∃ b o, po = some ⟨b, o, none⟩ ∧ ∀ i, i < l.length → ∀ j, j < sz → w.cell? ⟨b, o + i * sz + j, none⟩ = (val (l.getD i default))[j]?) ∧ ∀ y ∈ l, ok y := by
 rcases DataW.trod_slice ht h with ⟨hcs, _⟩ | ⟨ad, l, c, elems, rest, n, _, hcs, _, _, hl, hc, hlen, hel, _, _⟩
 ·exact ⟨none, 0, [], hcs, .inl rfl, fun y hy => by cases hy⟩
 ·rw [hsz] at hel
  have each : ∀ i, i < l → ∃ y : α, ok y ∧ ∀ j, j < sz → w.cell? ((ad.add (i * sz)).add j) = (val y)[j]? := fun i hi => by
   have h1 := hel i hi
   rw [List.getElem?_eq_getElem (by omega)] at h1
   obtain ⟨ds, hc1, hc2⟩ := Option.bind_eq_some_iff.1 h1
   obtain ⟨y, hy, rfl⟩ := hr hc2
   obtain ⟨_, _, hcell⟩ := World.cells?_some hc1
   exact ⟨y, hy, fun j hj => by rw [hcell j hj]; simp⟩
  by_cases h0 : l = 0
  ·subst h0
   exact ⟨some ad, c, [], hcs, .inl rfl, fun y hy => by cases hy⟩
  obtain ⟨y0, hy0, h00⟩ := each 0 (by omega)
  obtain ⟨b, o, rfl⟩ : ∃ b o, ad = ⟨b, o, none⟩ := by
   have h00 := h00 0 hs0
   rw [Nat.zero_mul, add_zero', add_zero'] at h00
   exact plain_at ad w (by rw [h00, Array.getElem?_eq_getElem (by rw [hv]; exact hs0)]; simp)
  have each2 : ∀ i, i < l → ∃ y : α, ok y ∧ ∀ j, j < sz → w.cell? ⟨b, o + i * sz + j, none⟩ = (val y)[j]? := fun i hi => by
   obtain ⟨y, h1, h2⟩ := each i hi
   exact ⟨y, h1, fun j hj => by have := h2 j hj; rw [add_none, add_none] at this; exact this⟩
  obtain ⟨g, hg⟩ : ∃ g : Nat → α, ∀ i, i < l → ok (g i) ∧ ∀ j, j < sz → w.cell? ⟨b, o + i * sz + j, none⟩ = (val (g i))[j]? :=
   ⟨fun i => if h : i < l then (each2 i h).choose else y0, fun i hi => by dsimp only; rw [dif_pos hi]; exact (each2 i hi).choose_spec⟩
  refine ⟨some ⟨b, o, none⟩, c, (List.range l).map g, by simpa using hcs, .inr ⟨b, o, rfl, fun i hi => ?_⟩, fun y hy => ?_⟩
  ·have hi' : i < l := by simpa using hi
   have e : ((List.range l).map g).getD i default = g i := by rw [getD_in11 _ _ _ hi]; simp
   rw [e]
   exact (hg i hi').2
  ·obtain ⟨i, hi, rfl⟩ := List.mem_map.1 hy
   exact (hg i (by simpa using hi)).1
set_option maxRecDepth 100000 in
theorem fte_read {cs : List Value} {x : DataW H × List MemPlace} (h : DataW.trod enc Tryz.prog w 0 (fun _ => true) held fuel 37 cs = some x) : ∃ y : Fte, y.msk < 256 ∧ cs = y.cs.toList := by
 obtain ⟨xs, n, _, _, hcl, hxl, hf⟩ := DataW.trod_struct Tryz.underlying37 h
 have h3 : cs.length = 3 := by rw [hcl]; kernel_rfl
 have hx3 : xs.length = 3 := by rw [hxl]; rfl
 have k3 : Tryz.prog.cellsOf 3 = 1 := by kernel_rfl
 have k5 : Tryz.prog.cellsOf 5 = 1 := by kernel_rfl
 match cs, h3, xs, hx3 with
 | [c0, c1, c2], _, [y0, y1, y2], _ =>
  have f0 : DataW.trod enc Tryz.prog w 0 (fun _ => true) held n 3 (([c0, c1, c2].drop 0).take (Tryz.prog.cellsOf 3)) = some y0 := hf 0 _ rfl
  have f1 : DataW.trod enc Tryz.prog w 0 (fun _ => true) held n 3 (([c0, c1, c2].drop 1).take (Tryz.prog.cellsOf 3)) = some y1 := hf 1 _ rfl
  have f2 : DataW.trod enc Tryz.prog w 0 (fun _ => true) held n 5 (([c0, c1, c2].drop 2).take (Tryz.prog.cellsOf 5)) = some y2 := hf 2 _ rfl
  rw [k3] at f0 f1
  rw [k5] at f2
  obtain ⟨z0, e0, _, _⟩ := DataW.trod_int Tryz.underlying3 f0
  obtain ⟨z1, e1, _, _⟩ := DataW.trod_int Tryz.underlying3 f1
  obtain ⟨z2, e2, _, w2⟩ := DataW.trod_int Tryz.underlying5 f2
  simp at e0 e1 e2
  subst e0 e1 e2
  have b2 := bounds8 w2
  obtain ⟨m, rfl⟩ : ∃ m : Nat, z2 = (m : Int) := ⟨z2.toNat, by omega⟩
  exact ⟨⟨z0, z1, m⟩, by show m < 256; omega, rfl⟩
set_option maxRecDepth 100000 in
theorem fates_read {cs : List Value} {x : DataW H × List MemPlace} (h : DataW.trod enc Tryz.prog w 0 (fun _ => true) held fuel 23 cs = some x) : ∃ v l, cs = [v] ∧ IsFt w v l := by
 obtain ⟨po, c, l, hcs, hc, hl⟩ := rows_read11 (sz := 3) Tryz.underlying23 (by kernel_rfl) (by decide) (fun y : Fte => y.cs) (fun _ => rfl) (fun y => y.msk < 256) (fun h => fte_read h) h
 have h2 := h
 rw [hcs] at h2
 obtain ⟨k1, k2, _⟩ := slice_len11 Tryz.underlying23 h2
 exact ⟨_, l, hcs, po, c, rfl, k2, k1, hc, hl⟩
end
end Go.Proofs.YtdohmokhfajjpaaGreatDoor

/- copies: copies in memory of their own. -/
namespace Go.Proofs.YtdohmokhfajjpaaGreatDoor
open Go Go.RowKit

def Cv.row (x : Cv) : List Value := [i64 x.err, x.v]
theorem crow_len (L : List Cv) : ∀ r ∈ L.map Cv.row, r.length = 2 := fun r hr => by obtain ⟨x, _, rfl⟩ := List.mem_map.1 hr; rfl
/-- Copies in a row of their own, their bytes too. -/
structure CI (B : Nat) (w : World) (v : Value) (L : List Cv) : Prop where
 buf : XB 33 2 B w v (L.map Cv.row)
 each : ∀ x ∈ L, Buf B w x.v x.bs ∧ (∀ z ∈ x.bs, z < 256) ∧ x.bs.length ≤ 100000
theorem CI.nil (B : Nat) (w : World) : CI B w nilS [] := ⟨XB.nil _ _ B w, fun x hx => by cases hx⟩
theorem CI.on {B : Nat} {w w' : World} {v : Value} {L : List Cv} (h : CI B w v L) (hb : Below w.heap.size w w') : CI B w' v L := ⟨h.buf.below hb, fun x hx => ⟨(h.each x hx).1.below hb, (h.each x hx).2⟩⟩
theorem own_blk9 {B e sz n : Nat} {w : World} {v : Value} {xs : List Value} (h : w.ownsRow B e sz v n xs) {b : Nat} (hb : v.ownBlock = some b) : ∃ cur, CAt w b cur e := by
 rcases h.2 with ⟨e2, _⟩ | ⟨g', cap, cur, e2, _, hg', _⟩
 ·rw [e2] at hb; cases hb
 ·rw [e2] at hb
  cases hb
  exact ⟨cur, hg'⟩
theorem CI.cl {B : Nat} {w : World} {v : Value} {L : List Cv} (h : CI B w v L) (hn : L.length ≤ 1000) : CL w v L := by
 obtain ⟨po, c, e, h1, h2⟩ := h.buf.form
 rw [List.length_map] at e h1
 refine ⟨po, c, e, h1, hn, h2, ?_, fun x hx => ?_⟩
 ·by_cases h0 : 0 < L.length
  ·obtain ⟨g, c2, e2, _, _, _, h3⟩ := h.buf.cells (crow_len L) (by rw [List.length_map]; exact h0)
   rw [List.length_map] at e2
   rw [e] at e2
   cases e2
   refine Or.inr ⟨g, 0, rfl, fun i x hx => ?_⟩
   have h4 := h3 i x.row (by rw [List.getElem?_map, hx]; rfl)
   exact ⟨by have := h4 0 (i64 x.err) rfl; simpa using this, h4 1 x.v rfl⟩
  ·exact Or.inl (List.eq_nil_of_length_eq_zero (by omega))
 ·obtain ⟨h3, h4, h5⟩ := h.each x hx
  obtain ⟨p, c3, e3⟩ := h3.form
  have h6 := h3
  rw [e3] at h6
  have := h6.cv rfl h5 h4 x.err
  rw [← e3] at this
  exact this
theorem exec_bsC {a : Act} {o : Oper} {x : Operand} {e : Int} {v : Value} {W : World} (ho : o.op = .buildSlice 29 1 #[(0, x)]) (hx : a.eval x = .agg (cC e v)) : (execOp a.eval o).run Tryz.prog W = .ok (.value (.slice (some ⟨W.heap.size, 0, none⟩) 1 1)) (W.alloc (.cells (cC e v) 33)) := by
 have h := run_buildX (T := 29) Tryz.underlying29 Tryz.infoCp (by decide) (by decide) W (cC e v) rfl
 unfold execOp
 simp only [ho, List.map_toArray, List.map_cons, List.map_nil, hx, Sem.run_bind, h, Result.andThen_ok, Sem.run_pure]
end Go.Proofs.YtdohmokhfajjpaaGreatDoor

/- copies of the statements on shard: copies in memory of their own (as stage 9's). -/
namespace Go.Proofs.YtdohmokhfajjpaaGreatDoor
open Go Go.RowKit

theorem own_otherO11 {BA e1 z1 n1 BB e2 z2 n2 : Nat} {w w' : World} {u v : Value} {xs ys : List Value} (h1 : w.ownsRow BA e1 z1 u n1 xs) (h2 : w.ownsRow BB e2 z2 v n2 ys) (ht : e1 ≠ e2) (hO : Only (fun b => v.ownBlock = some b) w w') : w'.ownsRow BA e1 z1 u n1 xs :=
 ownsRow_keep h1 fun b hb => hO.block b (own_ge h1 b hb).2 (fun k => by
  obtain ⟨c1, k1⟩ := own_blk9 h1 hb
  obtain ⟨c2, k2⟩ := own_blk9 h2 k
  exact k1.apart k2 ht rfl)
end Go.Proofs.YtdohmokhfajjpaaGreatDoor

/- What becomes of a file: befalls. (Written by tools/gen_Bd15.py.) -/
namespace Go.Proofs.YtdohmokhfajjpaaGreatDoor
open Go Go.RowKit

theorem ret_rowC2 {fn : Func} {q u : Tmp} (h : fn.results = #[.cell q 33, .tmp u]) {R : Ending → World → Prop} {a : Act} {w : World} (g : Nat) {E : Int} {v x : Value}
  (hd0 : a.defers = []) (hp : a.tmps.getD q undef = .pointer (some ⟨g, 0, none⟩)) (hx : a.tmps.getD u undef = x) (hb : CAt w g (cC E v) 33) (hR : R (.returned (.tuple #[.agg (cC E v), x])) w) : bodyPost Tryz.prog fn R .ret a w := by
 refine ⟨hd0, .tuple #[.agg (cC E v), x], ?_, hR⟩
 have hl := run_loadVar_row (P := Tryz.prog) w g 33 33 (cC E v) (0, 0) _ hb underCp rfl sizeCp
 simp only [results, h]
 simp only [Array.getD_eq_getD_getElem?] at hp hx
 simp [Result.andThen, hp, hx, asAddr, hl]
theorem step_storeG (ty : TypeId) {w : World} {ops : Array Oper} {o : Oper} {a : Act} {K : Act → World → Prop} {Q : Exit → Act → World → Prop} {E : Prop} (hgd : o.guard = none) (hdst : o.dst = none) (x y : Operand) (ho : o.op = .store ty x y) (g off : Nat) (hx : a.eval x = .pointer (some ⟨g, off, none⟩)) (v : Value) (hy : a.eval y = v) (hv : v.cells = #[v])
  (hi : (Tryz.prog.info? ty).map (·.size) = some 1) (h1 : v.oneCell' = true) {u : Value} (hc : w.cell? ⟨g, off, none⟩ = some u) (hf : w.frozen? ⟨g, off, none⟩ = false) (h : K a (w.setCell ⟨g, off, none⟩ v)) : if Region.wanted o (yielded ops a.tmps) = true then Oper.wp Tryz.prog o a w K Q else E := by
 have e1 : (Instr.storeAt ty (.pointer (some ⟨g, off, none⟩)) v).run Tryz.prog w = .ok () (w.setCells g off [v]) := by
  have := run_storeCells_cells (P := Tryz.prog) g off [v] 0 w (fun j hj => by simp at hj; subst hj; exact hc ▸ rfl) (fun j hj => by simp at hj; subst hj; exact hf)
   (fun z hz => by simp at hz; subst hz; exact h1)
  cases hq : Tryz.prog.info? ty with
  | none => simp [hq] at hi
  | some i =>
   have hs : 1 = i.size := by simp [hq] at hi; omega
   simp only [Nat.add_zero] at this
   simp [Instr.storeAt, Instr.sureAddr, storeVar, sizeOf, typeInfo, hq, hv, ← hs, this]
 rw [if_pos (by simp [Region.wanted, hgd])]
 unfold Oper.wp execOp
 simp only [ho, hx, hy, Sem.run_bind, e1, Result.andThen_ok, Sem.run_pure]
 show K (a.put o.dst undef) _
 rw [hdst]
 exact h
/-- What befalls answers. -/
def BfA (B : Nat) (xv : Value) (w : World) (k : Nat) (b : List Nat) (i : Nat) (e : Ending) (w' : World) : Prop := ∃ (y : Cv) (s : Nat), e = .returned (.tuple #[.agg (cC y.err y.v), .int .i64 (s : Int)]) ∧ Buf B w' y.v y.bs ∧ (∀ z ∈ y.bs, z < 256) ∧ y.bs.length ≤ 5000 ∧ (s = 0 ∨ OkE k b i y.cp (s : Int)) ∧ Only (fun q => xv.ownBlock = some q) w w'
theorem builtK0 (e : Int) : Tryz.prog.built 33 [(0, .int .i64 e)] = some (cC e (.slice none 0 0)) := by kernel_rfl
theorem BfA.gone {B : Nat} {xv : Value} {w w' : World} {k : Nat} {b : List Nat} {i : Nat} (hb : Only (fun q => xv.ownBlock = some q) w w') : BfA B xv w k b i (.returned (.tuple #[.agg (cC 6 (.slice none 0 0)), .int .i64 2])) w' := ⟨⟨6, .slice none 0 0, []⟩, 2, rfl, Buf.nil _ _, by simp, by simp, .inr (oke_gone []), hb⟩
theorem BfA.away {B : Nat} {xv : Value} {w w' : World} {k : Nat} {b : List Nat} {i : Nat} (hb : Only (fun q => xv.ownBlock = some q) w w') : BfA B xv w k b i (.returned (.tuple #[.agg (cC 12 (.slice none 0 0)), .int .i64 4])) w' := ⟨⟨12, .slice none 0 0, []⟩, 4, rfl, Buf.nil _ _, by simp, by simp, .inr (oke_away []), hb⟩
theorem BfA.well {B : Nat} {xv : Value} {w w' : World} {k : Nat} {b : List Nat} {i : Nat} {v : Value} (hv : Buf B w' v (shF k b i)) (h8 : ∀ z ∈ shF k b i, z < 256) (hl : (shF k b i).length ≤ 4000) (hb : Only (fun q => xv.ownBlock = some q) w w') : BfA B xv w k b i (.returned (.tuple #[.agg (cC 0 v), .int .i64 1])) w' := ⟨⟨0, v, shF k b i⟩, 1, rfl, hv, h8, by show (shF k b i).length ≤ 5000; omega, .inr oke_well, hb⟩
theorem BfA.bad {B : Nat} {xv : Value} {w w' : World} {k : Nat} {b : List Nat} {i : Nat} {v : Value} {L : List Nat} (hv : Buf B w' v L) (h8 : ∀ z ∈ L, z < 256) (hl : L.length ≤ 4001) (ho : OkE k b i ⟨0, L⟩ 3) (hb : Only (fun q => xv.ownBlock = some q) w w') : BfA B xv w k b i (.returned (.tuple #[.agg (cC 0 v), .int .i64 3])) w' := ⟨⟨0, v, L⟩, 3, rfl, hv, h8, by show L.length ≤ 5000; omega, .inr ho, hb⟩
theorem BfA.any {B : Nat} {xv : Value} {w w' : World} {k : Nat} {b : List Nat} {i : Nat} {v : Value} {L : List Nat} (hv : Buf B w' v L) (h8 : ∀ z ∈ L, z < 256) (hl : L.length ≤ 4001) (hb : Only (fun q => xv.ownBlock = some q) w w') : BfA B xv w k b i (.returned (.tuple #[.agg (cC 0 v), .int .i64 0])) w' := ⟨⟨0, v, L⟩, 0, rfl, hv, h8, by show L.length ≤ 5000; omega, .inl rfl, hb⟩
set_option linter.unusedVariables false in
set_option maxRecDepth 100000 in
set_option maxHeartbeats 8000000 in
theorem befalls_plain {B : Nat} (po : Option Addr) (n c : Nat) (f : Fte) (k : Nat) (b : List Nat) (i : Nat) (w : World) (hx : Buf B w (.slice po n c) (shF k b i)) (hn : n = (shF k b i).length) (h8 : ∀ z ∈ shF k b i, z < 256) (hl : (shF k b i).length ≤ 4000)
  (hf : f.kd = 1 ∨ f.kd = 2 ∨ (f.kd = 3 ∧ (n = 0 ∨ f.msk = 0)) ∨ (f.kd = 4 ∧ n = 0) ∨ (f.kd ≠ 1 ∧ f.kd ≠ 2 ∧ f.kd ≠ 3 ∧ f.kd ≠ 4 ∧ f.kd ≠ 5)) : Calls Tryz.prog 7 #[.agg (cC 0 (.slice po n c)), .agg f.cs] w (BfA B (.slice po n c) w k b i) := by
 have HG : Hid (∀ w', Below w.heap.size w w' → BfA B (.slice po n c) w k b i (.returned (.tuple #[.agg (cC 6 (.slice none 0 0)), .int .i64 2])) w') := hid (fun w' hb => BfA.gone (.of_below hb))
 have HA : Hid (∀ w', Below w.heap.size w w' → BfA B (.slice po n c) w k b i (.returned (.tuple #[.agg (cC 12 (.slice none 0 0)), .int .i64 4])) w') := hid (fun w' hb => BfA.away (.of_below hb))
 have HW : Hid (∀ w', Below w.heap.size w w' → BfA B (.slice po n c) w k b i (.returned (.tuple #[.agg (cC 0 (.slice po n c)), .int .i64 1])) w') := hid (fun w' hb => BfA.well (hx.below hb) h8 hl (.of_below hb))
 have HB6 := hid (builtK0 6)
 have HB12 := hid (builtK0 12)
 generalize BfA B (.slice po n c) w k b i = PP at *
 clear hx hn h8 hl
 obtain ⟨kd, at_, mk⟩ := f
 simp only at hf
 obtain ⟨F, hF⟩ : ∃ F : Array Value, Fte.cs ⟨kd, at_, mk⟩ = F := ⟨_, rfl⟩
 have HF0 : Hid (F[0]? = some (.int .i64 kd)) := hid (by rw [← hF]; rfl)
 have HF2 : Hid (F[2]? = some (.int .u8 (mk : Int))) := hid (by rw [← hF]; rfl)
 rw [hF]
 clear hF
 rcases hf with hk | hk | ⟨hk, hq⟩ | ⟨hk, hq⟩ | ⟨k1, k2, k3, k4, k5⟩
 ·skip
  have d1 : (kd == 1) = true := by rw [hk]; rfl
  go_enter Tryz.func7, Tryz.ntmps7
  go_wp2_with (first
   | ((with_reducible refine wpList_boxT 33 rfl _ rfl (cC 0 (.slice po n c)) ?_ ?_); exact rfl; intro w1 g2 hc1 hb1 hg1; have HC2 := hid hc1; have HB := hid hb1; clear hc1 hb1 hg1)
   | ((with_reducible refine wpList_boxT 37 rfl _ rfl F ?_ ?_); exact rfl; intro w2 g3 hc2 hb2 hg2; have z0 : w2.cell? ⟨g3, 0, none⟩ = some (.int .i64 kd) := (by rw [hc2.cell]; exact HF0.out); have z2 : w2.cell? ⟨g3, 2, none⟩ = some (.int .u8 (mk : Int)) := (by rw [hc2.cell]; exact HF2.out); have HC3 := hid hc2; replace HC2 := hid (HC2.out.below hb2); replace HB := hid (below_on HB.out hb2); clear hc2 hb2 hg2)
   | ((with_reducible refine wpList_allocX 33 _ zeroCp rfl rfl ?_); intro w3 g4 hz3 hb3 hg3; replace z0 : w3.cell? ⟨g3, 0, none⟩ = some (.int .i64 kd) := (by rw [(HC3.out.below hb3).cell]; exact HF0.out); replace z2 : w3.cell? ⟨g3, 2, none⟩ = some (.int .u8 (mk : Int)) := (by rw [(HC3.out.below hb3).cell]; exact HF2.out); have y1 : w3.cell? ⟨g2, 1, none⟩ = some (.slice po n c) := (HC2.out.below hb3).c1; have HZ3 := hid hz3; replace HC2 := hid (HC2.out.below hb3); replace HC3 := hid (HC3.out.below hb3); have HG4 := hid (show w.heap.size ≤ g4 by have := HB.out.size; omega); replace HB := hid (below_on HB.out hb3); clear hz3 hb3 hg3)
   | ((with_reducible refine wpList_build_want 33 _ rfl ?_ (cC 6 (.slice none 0 0)) ?_ ?_); kernel_rfl; exact HB6.out)
   | ((with_reducible refine wpList_storeX 33 2 sizeCp rfl rfl _ _ rfl g4 ?_ (D := cC 6 (.slice none 0 0)) ?_ ?_ ?_ ?_ HZ3.out ?_); exact rfl; exact rfl; exact rfl; exact rfl; exact cC_one _ _ _ _; intro w5 h5 o5; have HC5 := hid h5; have HB5 := hid (below_tr HB.out (o5.below HB.out.size (fun j e => by have := HG4.out; have e9 : j = g4 := e; omega))); clear h5 o5))
  refine ret_rowC2 rfl g4 rfl rfl rfl HC5.out ?_
  exact HG.out _ HB5.out
 ·skip
  have d1 : (kd == 1) = false := beq_eq_false_iff_ne.2 (by omega)
  have d2 : (kd == 2) = true := by rw [hk]; rfl
  go_enter Tryz.func7, Tryz.ntmps7
  go_wp2_with (first
   | ((with_reducible refine wpList_boxT 33 rfl _ rfl (cC 0 (.slice po n c)) ?_ ?_); exact rfl; intro w1 g2 hc1 hb1 hg1; have HC2 := hid hc1; have HB := hid hb1; clear hc1 hb1 hg1)
   | ((with_reducible refine wpList_boxT 37 rfl _ rfl F ?_ ?_); exact rfl; intro w2 g3 hc2 hb2 hg2; have z0 : w2.cell? ⟨g3, 0, none⟩ = some (.int .i64 kd) := (by rw [hc2.cell]; exact HF0.out); have z2 : w2.cell? ⟨g3, 2, none⟩ = some (.int .u8 (mk : Int)) := (by rw [hc2.cell]; exact HF2.out); have HC3 := hid hc2; replace HC2 := hid (HC2.out.below hb2); replace HB := hid (below_on HB.out hb2); clear hc2 hb2 hg2)
   | ((with_reducible refine wpList_allocX 33 _ zeroCp rfl rfl ?_); intro w3 g4 hz3 hb3 hg3; replace z0 : w3.cell? ⟨g3, 0, none⟩ = some (.int .i64 kd) := (by rw [(HC3.out.below hb3).cell]; exact HF0.out); replace z2 : w3.cell? ⟨g3, 2, none⟩ = some (.int .u8 (mk : Int)) := (by rw [(HC3.out.below hb3).cell]; exact HF2.out); have y1 : w3.cell? ⟨g2, 1, none⟩ = some (.slice po n c) := (HC2.out.below hb3).c1; have HZ3 := hid hz3; replace HC2 := hid (HC2.out.below hb3); replace HC3 := hid (HC3.out.below hb3); have HG4 := hid (show w.heap.size ≤ g4 by have := HB.out.size; omega); replace HB := hid (below_on HB.out hb3); clear hz3 hb3 hg3)
   | ((with_reducible refine wpList_build_want 33 _ rfl ?_ (cC 12 (.slice none 0 0)) ?_ ?_); kernel_rfl; exact HB12.out)
   | ((with_reducible refine wpList_storeX 33 2 sizeCp rfl rfl _ _ rfl g4 ?_ (D := cC 12 (.slice none 0 0)) ?_ ?_ ?_ ?_ HZ3.out ?_); exact rfl; exact rfl; exact rfl; exact rfl; exact cC_one _ _ _ _; intro w5 h5 o5; have HC5 := hid h5; have HB5 := hid (below_tr HB.out (o5.below HB.out.size (fun j e => by have := HG4.out; have e9 : j = g4 := e; omega))); clear h5 o5))
  refine ret_rowC2 rfl g4 rfl rfl rfl HC5.out ?_
  exact HA.out _ HB5.out
 ·skip
  have d1 : (kd == 1) = false := beq_eq_false_iff_ne.2 (by omega)
  have d2 : (kd == 2) = false := beq_eq_false_iff_ne.2 (by omega)
  have d3 : (kd == 3) = true := by rw [hk]; rfl
  rcases (show n = 0 ∨ (0 < n ∧ mk = 0) by omega) with hn0 | ⟨hn0, hm0⟩
  ·have hnz : ¬ (0 : Int) < (n : Int) := by omega
   have hnz2 : ¬ 0 < n := by omega
   clear hn0
   go_enter Tryz.func7, Tryz.ntmps7
   go_wp2_with (first
    | ((with_reducible refine wpList_boxT 33 rfl _ rfl (cC 0 (.slice po n c)) ?_ ?_); exact rfl; intro w1 g2 hc1 hb1 hg1; have HC2 := hid hc1; have HB := hid hb1; clear hc1 hb1 hg1)
    | ((with_reducible refine wpList_boxT 37 rfl _ rfl F ?_ ?_); exact rfl; intro w2 g3 hc2 hb2 hg2; have z0 : w2.cell? ⟨g3, 0, none⟩ = some (.int .i64 kd) := (by rw [hc2.cell]; exact HF0.out); have z2 : w2.cell? ⟨g3, 2, none⟩ = some (.int .u8 (mk : Int)) := (by rw [hc2.cell]; exact HF2.out); have HC3 := hid hc2; replace HC2 := hid (HC2.out.below hb2); replace HB := hid (below_on HB.out hb2); clear hc2 hb2 hg2)
    | ((with_reducible refine wpList_allocX 33 _ zeroCp rfl rfl ?_); intro w3 g4 hz3 hb3 hg3; replace z0 : w3.cell? ⟨g3, 0, none⟩ = some (.int .i64 kd) := (by rw [(HC3.out.below hb3).cell]; exact HF0.out); replace z2 : w3.cell? ⟨g3, 2, none⟩ = some (.int .u8 (mk : Int)) := (by rw [(HC3.out.below hb3).cell]; exact HF2.out); have y1 : w3.cell? ⟨g2, 1, none⟩ = some (.slice po n c) := (HC2.out.below hb3).c1; have HZ3 := hid hz3; replace HC2 := hid (HC2.out.below hb3); replace HC3 := hid (HC3.out.below hb3); have HG4 := hid (show w.heap.size ≤ g4 by have := HB.out.size; omega); replace HB := hid (below_on HB.out hb3); clear hz3 hb3 hg3)
    | ((with_reducible refine wpList_load_at 33 _ rfl ?_ g2 0 ?_ (cC 0 (.slice po n c)) _ ?_ underCp rfl ?_ ?_); exact rfl; exact rfl; exact HC2.out.whole; exact sizeCp)
    | ((with_reducible refine wpList_storeX 33 2 sizeCp rfl rfl _ _ rfl g4 ?_ (D := cC 0 (.slice po n c)) ?_ ?_ ?_ ?_ HZ3.out ?_); exact rfl; exact rfl; exact rfl; exact rfl; exact cC_one _ _ _ _; intro w5 h5 o5; have HC5 := hid h5; have HB5 := hid (below_tr HB.out (o5.below HB.out.size (fun j e => by have := HG4.out; have e9 : j = g4 := e; omega))); clear h5 o5))
   refine ret_rowC2 rfl g4 rfl rfl rfl HC5.out ?_
   exact HW.out _ HB5.out
  ·have hnz : (0 : Int) < (n : Int) := by omega
   have hmz : ((mk : Int) != 0) = false := by rw [hm0]; rfl
   go_enter Tryz.func7, Tryz.ntmps7
   go_wp2_with (first
    | ((with_reducible refine wpList_boxT 33 rfl _ rfl (cC 0 (.slice po n c)) ?_ ?_); exact rfl; intro w1 g2 hc1 hb1 hg1; have HC2 := hid hc1; have HB := hid hb1; clear hc1 hb1 hg1)
    | ((with_reducible refine wpList_boxT 37 rfl _ rfl F ?_ ?_); exact rfl; intro w2 g3 hc2 hb2 hg2; have z0 : w2.cell? ⟨g3, 0, none⟩ = some (.int .i64 kd) := (by rw [hc2.cell]; exact HF0.out); have z2 : w2.cell? ⟨g3, 2, none⟩ = some (.int .u8 (mk : Int)) := (by rw [hc2.cell]; exact HF2.out); have HC3 := hid hc2; replace HC2 := hid (HC2.out.below hb2); replace HB := hid (below_on HB.out hb2); clear hc2 hb2 hg2)
    | ((with_reducible refine wpList_allocX 33 _ zeroCp rfl rfl ?_); intro w3 g4 hz3 hb3 hg3; replace z0 : w3.cell? ⟨g3, 0, none⟩ = some (.int .i64 kd) := (by rw [(HC3.out.below hb3).cell]; exact HF0.out); replace z2 : w3.cell? ⟨g3, 2, none⟩ = some (.int .u8 (mk : Int)) := (by rw [(HC3.out.below hb3).cell]; exact HF2.out); have y1 : w3.cell? ⟨g2, 1, none⟩ = some (.slice po n c) := (HC2.out.below hb3).c1; have HZ3 := hid hz3; replace HC2 := hid (HC2.out.below hb3); replace HC3 := hid (HC3.out.below hb3); have HG4 := hid (show w.heap.size ≤ g4 by have := HB.out.size; omega); replace HB := hid (below_on HB.out hb3); clear hz3 hb3 hg3)
    | ((with_reducible refine wpList_load_at 33 _ rfl ?_ g2 0 ?_ (cC 0 (.slice po n c)) _ ?_ underCp rfl ?_ ?_); exact rfl; exact rfl; exact HC2.out.whole; exact sizeCp)
    | ((with_reducible refine wpList_storeX 33 2 sizeCp rfl rfl _ _ rfl g4 ?_ (D := cC 0 (.slice po n c)) ?_ ?_ ?_ ?_ HZ3.out ?_); exact rfl; exact rfl; exact rfl; exact rfl; exact cC_one _ _ _ _; intro w5 h5 o5; have HC5 := hid h5; have HB5 := hid (below_tr HB.out (o5.below HB.out.size (fun j e => by have := HG4.out; have e9 : j = g4 := e; omega))); clear h5 o5))
   refine ret_rowC2 rfl g4 rfl rfl rfl HC5.out ?_
   exact HW.out _ HB5.out
 ·skip
  have d1 : (kd == 1) = false := beq_eq_false_iff_ne.2 (by omega)
  have d2 : (kd == 2) = false := beq_eq_false_iff_ne.2 (by omega)
  have d3 : (kd == 3) = false := beq_eq_false_iff_ne.2 (by omega)
  have d4 : (kd == 4) = true := by rw [hk]; rfl
  have hnz : ¬ (0 : Int) < (n : Int) := by omega
  have hnz2 : ¬ 0 < n := by omega
  clear hq
  go_enter Tryz.func7, Tryz.ntmps7
  go_wp2_with (first
   | ((with_reducible refine wpList_boxT 33 rfl _ rfl (cC 0 (.slice po n c)) ?_ ?_); exact rfl; intro w1 g2 hc1 hb1 hg1; have HC2 := hid hc1; have HB := hid hb1; clear hc1 hb1 hg1)
   | ((with_reducible refine wpList_boxT 37 rfl _ rfl F ?_ ?_); exact rfl; intro w2 g3 hc2 hb2 hg2; have z0 : w2.cell? ⟨g3, 0, none⟩ = some (.int .i64 kd) := (by rw [hc2.cell]; exact HF0.out); have z2 : w2.cell? ⟨g3, 2, none⟩ = some (.int .u8 (mk : Int)) := (by rw [hc2.cell]; exact HF2.out); have HC3 := hid hc2; replace HC2 := hid (HC2.out.below hb2); replace HB := hid (below_on HB.out hb2); clear hc2 hb2 hg2)
   | ((with_reducible refine wpList_allocX 33 _ zeroCp rfl rfl ?_); intro w3 g4 hz3 hb3 hg3; replace z0 : w3.cell? ⟨g3, 0, none⟩ = some (.int .i64 kd) := (by rw [(HC3.out.below hb3).cell]; exact HF0.out); replace z2 : w3.cell? ⟨g3, 2, none⟩ = some (.int .u8 (mk : Int)) := (by rw [(HC3.out.below hb3).cell]; exact HF2.out); have y1 : w3.cell? ⟨g2, 1, none⟩ = some (.slice po n c) := (HC2.out.below hb3).c1; have HZ3 := hid hz3; replace HC2 := hid (HC2.out.below hb3); replace HC3 := hid (HC3.out.below hb3); have HG4 := hid (show w.heap.size ≤ g4 by have := HB.out.size; omega); replace HB := hid (below_on HB.out hb3); clear hz3 hb3 hg3)
   | ((with_reducible refine wpList_load_at 33 _ rfl ?_ g2 0 ?_ (cC 0 (.slice po n c)) _ ?_ underCp rfl ?_ ?_); exact rfl; exact rfl; exact HC2.out.whole; exact sizeCp)
   | ((with_reducible refine wpList_storeX 33 2 sizeCp rfl rfl _ _ rfl g4 ?_ (D := cC 0 (.slice po n c)) ?_ ?_ ?_ ?_ HZ3.out ?_); exact rfl; exact rfl; exact rfl; exact rfl; exact cC_one _ _ _ _; intro w5 h5 o5; have HC5 := hid h5; have HB5 := hid (below_tr HB.out (o5.below HB.out.size (fun j e => by have := HG4.out; have e9 : j = g4 := e; omega))); clear h5 o5))
  refine ret_rowC2 rfl g4 rfl rfl rfl HC5.out ?_
  exact HW.out _ HB5.out
 ·skip
  have d1 : (kd == 1) = false := beq_eq_false_iff_ne.2 (by omega)
  have d2 : (kd == 2) = false := beq_eq_false_iff_ne.2 (by omega)
  have d3 : (kd == 3) = false := beq_eq_false_iff_ne.2 (by omega)
  have d4 : (kd == 4) = false := beq_eq_false_iff_ne.2 (by omega)
  have d5 : (kd == 5) = false := beq_eq_false_iff_ne.2 (by omega)
  go_enter Tryz.func7, Tryz.ntmps7
  go_wp2_with (first
   | ((with_reducible refine wpList_boxT 33 rfl _ rfl (cC 0 (.slice po n c)) ?_ ?_); exact rfl; intro w1 g2 hc1 hb1 hg1; have HC2 := hid hc1; have HB := hid hb1; clear hc1 hb1 hg1)
   | ((with_reducible refine wpList_boxT 37 rfl _ rfl F ?_ ?_); exact rfl; intro w2 g3 hc2 hb2 hg2; have z0 : w2.cell? ⟨g3, 0, none⟩ = some (.int .i64 kd) := (by rw [hc2.cell]; exact HF0.out); have z2 : w2.cell? ⟨g3, 2, none⟩ = some (.int .u8 (mk : Int)) := (by rw [hc2.cell]; exact HF2.out); have HC3 := hid hc2; replace HC2 := hid (HC2.out.below hb2); replace HB := hid (below_on HB.out hb2); clear hc2 hb2 hg2)
   | ((with_reducible refine wpList_allocX 33 _ zeroCp rfl rfl ?_); intro w3 g4 hz3 hb3 hg3; replace z0 : w3.cell? ⟨g3, 0, none⟩ = some (.int .i64 kd) := (by rw [(HC3.out.below hb3).cell]; exact HF0.out); replace z2 : w3.cell? ⟨g3, 2, none⟩ = some (.int .u8 (mk : Int)) := (by rw [(HC3.out.below hb3).cell]; exact HF2.out); have y1 : w3.cell? ⟨g2, 1, none⟩ = some (.slice po n c) := (HC2.out.below hb3).c1; have HZ3 := hid hz3; replace HC2 := hid (HC2.out.below hb3); replace HC3 := hid (HC3.out.below hb3); have HG4 := hid (show w.heap.size ≤ g4 by have := HB.out.size; omega); replace HB := hid (below_on HB.out hb3); clear hz3 hb3 hg3)
   | ((with_reducible refine wpList_load_at 33 _ rfl ?_ g2 0 ?_ (cC 0 (.slice po n c)) _ ?_ underCp rfl ?_ ?_); exact rfl; exact rfl; exact HC2.out.whole; exact sizeCp)
   | ((with_reducible refine wpList_storeX 33 2 sizeCp rfl rfl _ _ rfl g4 ?_ (D := cC 0 (.slice po n c)) ?_ ?_ ?_ ?_ HZ3.out ?_); exact rfl; exact rfl; exact rfl; exact rfl; exact cC_one _ _ _ _; intro w5 h5 o5; have HC5 := hid h5; have HB5 := hid (below_tr HB.out (o5.below HB.out.size (fun j e => by have := HG4.out; have e9 : j = g4 := e; omega))); clear h5 o5))
  refine ret_rowC2 rfl g4 rfl rfl rfl HC5.out ?_
  exact HW.out _ HB5.out
end Go.Proofs.YtdohmokhfajjpaaGreatDoor
