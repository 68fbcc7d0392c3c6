/- Texts laid into one: the remark ahead of each part says what is proved there. -/
import Derived.Test.YtcbmimjjpkkoeaaDoorQal
import Derived.Test.YtcbmimjjpkkoeaaDoorQaj
import Derived.Laws.IdiomCopy
/- Journals that came in. -/
namespace Go.Proofs.YtcbmimjjpkkoeaaDoor
open Go Go.RowKit

/-- What is told of a record that came in. -/
structure IsP (w : World) (x : Rp) : Prop where
  sl : x.r.sum.length = 32
  s8 : ∀ z ∈ x.r.sum, z < 256
  parts : ∃ (po : Option Addr) (c : Nat), x.r.pv = .slice po x.ps.length c ∧ x.ps.length ≤ c ∧ (po = none → c = 0) ∧ (x.ps = [] ∨ ∃ b o, po = some ⟨b, o, none⟩ ∧ PCells w b o x.ps)
/-- The slice v, which came in, leads to the records l. -/
def IsJ (w : World) (v : Value) (l : List Rp) : Prop := ∃ po c, v = .slice po l.length c ∧ l.length ≤ c ∧ c ≤ maxLen ∧ (po = none → c = 0) ∧ (l = [] ∨ ∃ b o, po = some ⟨b, o, none⟩ ∧ RCells w b o l) ∧ ∀ x ∈ l, IsP w x
theorem IsP.keep {w w' : World} {x : Rp} (h : IsP w x) (hk : ∀ a, w.cell? a ≠ none → w'.cell? a = w.cell? a) : IsP w' x := by
  refine ⟨h.sl, h.s8, ?_⟩
  obtain ⟨po, c, h1, h2, h3, h⟩ := h.parts
  refine ⟨po, c, h1, h2, h3, ?_⟩
  rcases h with h | ⟨b, o, hp, h⟩
  · exact Or.inl h
  · exact Or.inr ⟨b, o, hp, fun i hi => ⟨(hk _ (by rw [(h i hi).1]; simp)).trans (h i hi).1, (hk _ (by rw [(h i hi).2]; simp)).trans (h i hi).2⟩⟩
theorem IsJ.keep {w w' : World} {v : Value} {l : List Rp} (h : IsJ w v l) (hk : ∀ a, w.cell? a ≠ none → w'.cell? a = w.cell? a) : IsJ w' v l := by
  obtain ⟨po, c, h1, h2, h3, h4, h5, h6⟩ := h
  refine ⟨po, c, h1, h2, h3, h4, ?_, fun x hx => (h6 x hx).keep hk⟩
  rcases h5 with h | ⟨b, o, hp, h⟩
  · exact Or.inl h
  · exact Or.inr ⟨b, o, hp, h.keep hk⟩
theorem IsJ.below {w w' : World} {v : Value} {l : List Rp} (h : IsJ w v l) (hb : Below w.heap.size w w') : IsJ w' v l :=
  h.keep fun a ha => World.cell?_of_block (hb.block a.block (cell_lt' ha))
/-- Is a record more than is gone through? -/
def bigP (x : Rp) : Bool := decide (100 < x.ps.length) || decide (1000 < x.r.id.size) || decide (1000 < x.r.etag.size) || decide (1000 < x.r.data.size) || decide (1000 < x.r.up.size)
def bigJ (l : List Rp) : Bool := l.any bigP || decide (70 < l.length)
theorem IsP.ok {w : World} {x : Rp} (h : IsP w x) (hb : bigP x = false) : RpOk w x := by
  simp only [bigP, Bool.or_eq_false_iff, decide_eq_false_iff_not] at hb
  obtain ⟨⟨⟨⟨b1, b2⟩, b3⟩, b4⟩, b5⟩ := hb
  obtain ⟨po, c, h1, h2, h3, h4⟩ := h.parts
  exact ⟨⟨h.sl, h.s8, by omega, by omega, by omega, by omega⟩, ⟨po, c, h1, h2, by omega, h4⟩, fun n k e => by rw [h1] at e; cases e; exact h3 rfl⟩
theorem IsJ.rl {w : World} {v : Value} {l : List Rp} (h : IsJ w v l) (hb : bigJ l = false) : RL w v l := by
  simp only [bigJ, Bool.or_eq_false_iff, decide_eq_false_iff_not] at hb
  obtain ⟨po, c, h1, h2, h3, h4, h5, h6⟩ := h
  refine ⟨po, c, h1, h2, by omega, h4, h5, fun x hx => (h6 x hx).ok ?_⟩
  have := List.any_eq_false.1 hb.1 x hx
  simpa using this
section
variable {H : Type} {enc : TypeId × Value → H} {w : World} {held : Bool} {fuel : Nat}
set_option maxRecDepth 100000 in
theorem rec_nil8 {cs : List Value} {x : DataW H × List MemPlace} (h : DataW.trod enc Tryd.prog w 0 (fun _ => true) held fuel 44 cs = some x) (n c : Nat) (e : cs[40]? = some (.slice none n c)) : c = 0 := by
  obtain ⟨xs, m, _, _, hcl, hxl, hf⟩ := DataW.trod_struct Tryd.underlying44 h
  have hx : xs.length = 11 := by rw [hxl]; rfl
  have kP : Tryd.prog.cellsOf 42 = 1 := by kernel_rfl
  match xs, hx with
  | [y0, y1, y2, y3, y4, y5, y6, y7, y8, y9, y10], _ =>
    have f9 : DataW.trod enc Tryd.prog w 0 (fun _ => true) held m 42 ((cs.drop 40).take (Tryd.prog.cellsOf 42)) = some y9 := hf 9 _ rfl
    rw [kP] at f9
    rcases DataW.trod_slice Tryd.underlying42 f9 with ⟨hcs, _⟩ | ⟨ad, l, c', elems, rest, n', _, hcs, _⟩
    · have e2 := congrArg (·[0]?) hcs
      simp only [List.getElem?_take, List.getElem?_drop] at e2
      rw [show 40 + 0 = 40 from rfl, e] at e2
      simp at e2
      exact e2.2
    · have e2 := congrArg (·[0]?) hcs
      simp only [List.getElem?_take, List.getElem?_drop] at e2
      rw [show 40 + 0 = 40 from rfl, e] at e2
      simp at e2
theorem pv_at8 {r : Rv} (hs : r.sum.length = 32) : r.cs[40]? = some r.pv := by
  unfold Rv.cs
  rw [Array.getElem?_append_right (by simp), Array.getElem?_append_right (by simp [sumC_size, hs])]
  simp [sumC_size, hs]
theorem cs_size8 {r : Rv} (hs : r.sum.length = 32) : r.cs.size = 42 := by simp [Rv.cs, sumC_size, hs]
theorem rec_read8 {cs : List Value} {x : DataW H × List MemPlace} (h : DataW.trod enc Tryd.prog w 0 (fun _ => true) held fuel 44 cs = some x) : ∃ y : Rp, IsP w y ∧ cs = y.r.cs.toList := by
  obtain ⟨r, hr, e⟩ := rec_read h
  obtain ⟨po, c, ps, h1, h2, h3⟩ := hr.parts
  refine ⟨⟨r, ps⟩, ⟨hr.sl, hr.s8, po, c, h1, h2, fun hp => ?_, h3⟩, e⟩
  exact rec_nil8 h ps.length c (by rw [e, Array.getElem?_toList, pv_at8 hr.sl, h1, hp])
set_option maxRecDepth 100000 in
theorem recs_read8 {cs : List Value} {x : DataW H × List MemPlace} (h : DataW.trod enc Tryd.prog w 0 (fun _ => true) held fuel 22 cs = some x) : ∃ v l, cs = [v] ∧ IsJ w v l := by
  have k42 : Tryd.prog.cellsOf 44 = 42 := by kernel_rfl
  rcases DataW.trod_slice Tryd.underlying22 h with ⟨hcs, _⟩ | ⟨ad, l, c, elems, rest, n, _, hcs, _, _, hl, hc, hlen, hel, _, _⟩
  · exact ⟨_, [], hcs, none, 0, rfl, Nat.le_refl _, Nat.zero_le _, fun _ => rfl, Or.inl rfl, fun x hx => by cases hx⟩
  · rw [k42] at hel
    have each : ∀ i, i < l → ∃ y : Rp, IsP w y ∧ ∀ j v, y.r.cs[j]? = some v → w.cell? ((ad.add (i * 42)).add j) = some v := fun i hi => by
      have h1 := hel i hi
      rw [List.getElem?_eq_getElem (by omega)] at h1
      obtain ⟨ds, hc1, hc2⟩ := Option.bind_eq_some_iff.1 h1
      obtain ⟨y, hy, rfl⟩ := rec_read8 hc2
      obtain ⟨_, _, hcell⟩ := World.cells?_some hc1
      refine ⟨y, hy, fun j v hv => ?_⟩
      have hj : j < 42 := by
        rcases Nat.lt_or_ge j 42 with q | q
        · exact q
        · rw [Array.getElem?_eq_none (by rw [cs_size8 hy.sl]; exact q)] at hv; cases hv
      rw [hcell j hj, Array.getElem?_toList, hv]
    by_cases h0 : l = 0
    · subst h0
      exact ⟨_, [], hcs, some ad, c, rfl, hl, hc, (fun h => by cases h), Or.inl rfl, fun x hx => by cases hx⟩
    obtain ⟨y0, hy0, h00⟩ := each 0 (by omega)
    obtain ⟨b, o, rfl⟩ : ∃ b o, ad = ⟨b, o, none⟩ := by
      have h02 := h00 0 (.string y0.r.id) (by rw [y0.r.get8 0 (by omega)]; rfl)
      rw [Nat.zero_mul, add_zero', add_zero'] at h02
      exact plain_at ad w (by rw [h02]; simp)
    refine ⟨_, (List.range l).map fun i => if h : i < l then (each i h).choose else y0, hcs, some ⟨b, o, none⟩, c, by simp, by simpa using hl, hc, (fun h => by cases h), Or.inr ⟨b, o, rfl, fun i x hx j v hv => ?_⟩, fun x hx => ?_⟩
    · have hi : i < l := by
        rcases Nat.lt_or_ge i l with q | q
        · exact q
        · rw [List.getElem?_eq_none (by simpa using q)] at hx; cases hx
      simp [hi] at hx
      subst hx
      have := (each i hi).choose_spec.2 j v hv
      rw [add_none, add_none] at this
      exact this
    · obtain ⟨i, hi, rfl⟩ := List.mem_map.1 hx
      have hi' : i < l := by simpa using hi
      simp only [hi', dite_true]
      exact (each i hi').choose_spec.1
set_option maxRecDepth 100000 in
theorem jrn_read8 {cs : List Value} {x : DataW H × List MemPlace} (h : DataW.trod enc Tryd.prog w 0 (fun _ => true) held fuel 24 cs = some x) : ∃ s v l, IsJ w v l ∧ cs = (jC s v).toList := by
  obtain ⟨xs, n, _, _, hcl, hxl, hf⟩ := DataW.trod_struct Tryd.underlying24 h
  have h2 : cs.length = 2 := by rw [hcl]; kernel_rfl
  have hx2 : xs.length = 2 := by rw [hxl]; rfl
  have k3 : Tryd.prog.cellsOf 3 = 1 := by kernel_rfl
  have kR : Tryd.prog.cellsOf 22 = 1 := by kernel_rfl
  match cs, h2, xs, hx2 with
  | [c0, c1], _, [y0, y1], _ =>
    have f0 : DataW.trod enc Tryd.prog w 0 (fun _ => true) held n 3 (([c0, c1].drop 0).take (Tryd.prog.cellsOf 3)) = some y0 := hf 0 _ rfl
    rw [k3] at f0
    have f1 : DataW.trod enc Tryd.prog w 0 (fun _ => true) held n 22 (([c0, c1].drop 1).take (Tryd.prog.cellsOf 22)) = some y1 := hf 1 _ rfl
    rw [kR] at f1
    obtain ⟨z0, e0, _, _⟩ := DataW.trod_int Tryd.underlying3 f0
    obtain ⟨v, l, e1, hl⟩ := recs_read8 f1
    simp at e0 e1
    subst e0
    subst e1
    exact ⟨z0, _, l, hl, rfl⟩
end
#print axioms jrn_read8
end Go.Proofs.YtcbmimjjpkkoeaaDoor

/- journal.clone. -/
namespace Go.Proofs.YtcbmimjjpkkoeaaDoor
open Go Go.RowKit

theorem CAt.apart {w : World} {g h : Nat} {cs ds : Array Value} {t u : TypeId} (a : CAt w g cs t) (b : CAt w h ds u) (hne : t ≠ u) : g ≠ h := fun e => by
  subst e
  have := a.symm.trans b
  simp at this
  exact hne this.2
theorem PLF.other {B : Nat} {w w' : World} {v : Value} {ps : Ps} {g : Nat} {cs : Array Value} {t : TypeId} (ht : t ≠ 79) (h : PLF B w v ps) (hc : CAt w g cs t) (ho : Only (fun b => b = g) w w') : PLF B w' v ps := by
  obtain ⟨⟨po, c, h1, h2, h3, h⟩, hB, hz⟩ := h
  refine ⟨⟨po, c, h1, h2, h3, ?_⟩, fun a n c e hne => ?_, hz⟩
  · rcases h with h | ⟨b, o, hp, h⟩
    · exact Or.inl h
    · refine Or.inr ⟨b, o, hp, fun i hi => ?_⟩
      obtain ⟨_, ds, hd⟩ := hB ⟨b, o, none⟩ _ _ (by rw [h1, hp]) (fun e => by rw [e] at hi; cases hi)
      have hk : w'.heap[b]? = w.heap[b]? := ho.block b hd.lt (fun e => hc.apart hd ht e.symm)
      exact ⟨(World.cell?_of_block (a := ⟨b, o + i * 2, none⟩) hk).trans (h i hi).1, (World.cell?_of_block (a := ⟨b, o + i * 2 + 1, none⟩) hk).trans (h i hi).2⟩
  · obtain ⟨k1, ds, k2⟩ := hB a n c e hne
    exact ⟨k1, ds, k2.keep (ho.block a.block k2.lt fun e => hc.apart k2 ht e.symm)⟩
theorem RpX.other {B : Nat} {w w' : World} {x : Rp} {g : Nat} {cs : Array Value} (h : RpX B w x) (hc : CAt w g cs 44) (ho : Only (fun b => b = g) w w') : RpX B w' x := ⟨h.ok, h.pl.other (by decide) hc ho⟩
theorem RBuf.range {B : Nat} {w : World} {v : Value} {l : List Rp} (h : RBuf B w v l) (hk : ∀ x ∈ l, x.r.ok) {i : Nat} {x : Rp} (e : l[i]? = some x) :
    ∃ g c, v = .slice (some ⟨g, 0, none⟩) l.length c ∧ w.rangeAt g (i * 42) x.r.cs.toList := by
  rcases h.2 with ⟨rfl, h0⟩ | ⟨g, cap, cur, rfl, hB, hg, h1, hm, h3, h4⟩
  · rw [List.eq_nil_of_length_eq_zero h0] at e; cases e
  refine ⟨g, cap, rfl, fun j v hv => ?_⟩
  have hc : CAt w g cur 44 := hg
  have hi := (List.getElem?_eq_some_iff.1 e).1
  have hj : j < 42 := by
    rcases Nat.lt_or_ge j 42 with q | q
    · exact q
    · rw [List.getElem?_eq_none (by rw [sizeR42 (hk x (List.mem_of_getElem? e))]; exact q)] at hv; cases hv
  rw [hc.cell]
  have := flatR_get hk e hj
  rw [← h4, List.getElem?_take, if_pos (by omega)] at this
  rw [Array.getElem?_toList] at this hv
  rw [this]; exact hv
/-- So many records have been copied. -/
structure CInv (w : World) (l : List Rp) (v : Value) (kk : Nat) (m : List Rp) (W : World) : Prop where
  len : m.length = l.length
  rc : rcs m = rcs l
  low : ∀ j x, j < kk → m[j]? = some x → RpX w.heap.size W x
  high : ∀ j, kk ≤ j → m[j]? = l[j]?
  buf : RBuf w.heap.size W v m
  below : Below w.heap.size w W
theorem CInv.ok {w W : World} {l m : List Rp} {v : Value} {kk : Nat} (h : CInv w l v kk m W) (hl : ∀ x ∈ l, x.r.ok) : ∀ x ∈ m, x.r.ok := fun x hx => by
  obtain ⟨j, hj, e⟩ := List.getElem_of_mem hx
  have e' : m[j]? = some x := by rw [List.getElem?_eq_getElem hj, e]
  by_cases hk : j < kk
  · exact (h.low j x hk e').ok
  · rw [h.high j (by omega)] at e'
    exact hl x (List.mem_of_getElem? e')
theorem CInv.next {w W W1 : World} {l m : List Rp} {v : Value} {kk : Nat} (h : CInv w l v kk m W) (hl : ∀ x ∈ l, x.r.ok) (hk : kk < l.length) (hb : Below W.heap.size W W1) {x y : Rp} (hx : l[kk]? = some x) (hy : RpX w.heap.size W1 y) (hxy : y.rc = x.rc) :
    ∃ g c, v = .slice (some ⟨g, 0, none⟩) l.length c ∧ W1.there g (kk * 42) 42 ∧ CInv w l v (kk + 1) (m.set kk y) (W1.setCells g (kk * 42) y.r.cs.toList) := by
  obtain ⟨g, c, e, hB, ht, ⟨cs, hc⟩, hbuf, ho⟩ := (h.buf.below hb).set (h.ok hl) (i := kk) (by rw [h.len]; exact hk) hy.ok
  refine ⟨g, c, by rw [e, h.len], ht, by rw [List.length_set, h.len], ?_, fun j z hj hz => ?_, fun j hj => ?_, hbuf, below_tr (below_on h.below hb) (ho.below (below_on h.below hb).size (fun i e => by omega))⟩
  · rw [← h.rc]
    apply List.ext_getElem?
    intro j
    rw [rcs_get, rcs_get, List.getElem?_set]
    by_cases hj : kk = j
    · subst hj
      rw [if_pos rfl, if_pos (by rw [h.len]; exact hk), h.high kk (Nat.le_refl _), hx]
      exact congrArg some hxy
    · rw [if_neg hj]
  · rw [List.getElem?_set] at hz
    by_cases hj' : kk = j
    · subst hj'
      rw [if_pos rfl, if_pos (by rw [h.len]; exact hk)] at hz
      cases hz
      exact hy.other hc ho
    · rw [if_neg hj'] at hz
      exact ((h.low j z (by omega) hz).below hb).other hc ho
  · rw [List.getElem?_set, if_neg (by omega)]
    exact h.high j (by omega)
def ClonS (w : World) (rs : List Rc) (e : Ending) (w' : World) : Prop := ∃ v m, e = .returned v ∧ Rs w.heap.size w' v m ∧ rcs m = rs ∧ Below w.heap.size w w'
theorem pvR {r : Rv} (hk : r.ok) (v : Value) : ({ r with pv := v } : Rv).ok := ⟨hk.sl, hk.s8, hk.i, hk.e, hk.d, hk.u⟩
/-- record.Copy, of a record in memory. -/
theorem copyR_any (x : Rp) (w : World) (h : RpOk w x) : Calls Tryd.prog 34 #[.agg x.r.cs] w fun e w' => ∃ y : Rp, e = .returned (.agg y.r.cs) ∧ y.rc = x.rc ∧ RpX w.heap.size w' y ∧ y.r.pv.oneCell' = true ∧ Below w.heap.size w w' := by
  obtain ⟨po, c, e, hz, _, hn⟩ := h.form
  refine (copy_any x.r h.ok po c x.ps w e h.pl hz hn).mono fun e w' ⟨v, he, hp, hb⟩ => ⟨⟨{ x.r with pv := v }, x.ps⟩, he, rfl, ⟨pvR h.ok v, hp⟩, ?_, hb⟩
  obtain ⟨p3, n3, c3, hv3⟩ := hp.form
  show v.oneCell' = true
  rw [hv3]; rfl
set_option maxRecDepth 100000 in
set_option maxHeartbeats 2000000 in
theorem jclone_any (v : Value) (l : List Rp) (w : World) (hl : RL w v l) : Calls Tryd.prog 56 #[v] w (ClonS w (rcs l)) := by
  have HL := hid hl
  have hn := hl.len
  obtain ⟨po, c, rfl, _⟩ := hl
  have HOK := hid HL.out.ok
  go_enter Tryd.func56, Tryd.ntmps56
  go_wp2_with (go_at_call 75; refine (cloneS_any _ l w HL.out).mono ?_; rintro e w1 ⟨v1, rfl, hb1, hw1⟩; obtain ⟨p1, c1, hv1, hc1, hz1⟩ := hb1.form; have HI : Hid (CInv w l v1 0 l w1) := hid ⟨rfl, rfl, fun j x hj => absurd hj (Nat.not_lt_zero _), fun _ _ => rfl, hb1, hw1⟩; subst hv1; clear hb1 hw1)
  go_loopg [3, 4, 9] l.length (fun gg _ _ s9 wr => ∃ (kk : Nat) (m : List Rp), kk ≤ l.length ∧ l.length - kk ≤ gg ∧ s9 = i64 kk ∧ Hid (CInv w l (.slice p1 l.length c1) kk m wr))
  case atStart => exact ⟨0, l, Nat.zero_le _, by omega, rfl, HI.out⟩
  case round =>
    obtain ⟨kk, m, hkk, hg, rfl, I⟩ := hrel
    clear HI
    by_cases hlt : kk < l.length
    · have hltz : (kk : Int) < (l.length : Int) := by omega
      obtain ⟨x, hx⟩ : ∃ x, l[kk]? = some x := ⟨_, List.getElem?_eq_getElem hlt⟩
      have hxm : m[kk]? = some x := by rw [I.out.high kk (Nat.le_refl _)]; exact hx
      obtain ⟨g, c2, he, hr⟩ := I.out.buf.range (I.out.ok HOK.out) hxm
      rw [I.out.len] at he
      cases he
      have HX := hid hx
      have HR := hid hr
      have hxo := HL.out.each x (List.mem_of_getElem? hx)
      have hok := hxo.ok
      have HXO := hid (fun W (hW : Below wr.heap.size wr W) => copyR_any x W (hxo.below (below_on I.out.below hW)))
      have hone : x.r.pv.oneCell' = true := by obtain ⟨p0, c0, e0, _⟩ := hxo.pl; rw [e0]; rfl
      clear hx hxm hr hxo
      have T1 : Hid True := hid trivial
      go_wp2_with (first
        | (clear T1; (with_reducible refine wpList_loadM rfl _ rfl g (kk * 42) ?_ x.r hok HR.out ?_); exact rfl)
        | ((with_reducible refine wpList_allocR rfl rfl ?_); intro w2 g2 hz2 hb2 hg2; have HZ2 := hid hz2; have HB2 := hid hb2; have HG2 := hid hg2; clear hz2 hb2 hg2)
        | ((with_reducible refine wpList_storeR rfl rfl _ _ rfl g2 ?_ (r := x.r) ?_ zR_ok hok hone HZ2.out ?_); exact rfl; exact rfl; intro w3 h3 o3; have HO3 := hid (Own1.mk1 HB2.out HG2.out h3 o3); clear h3 o3 HZ2)
        | ((with_reducible refine wpList_load_at 44 _ rfl ?_ g2 0 ?_ x.r.cs (.struct (Tryd.prog.fieldsOf 44)) ?_ underRec rfl ?_ ?_); exact rfl; exact rfl; exact HO3.out.box.whole; (rw [hok.size]; exact sizeR))
        | (go_at_call 34; refine (HXO.out _ HO3.out.below).mono ?_; rintro e w4 ⟨y, rfl, hyx, hy, hyo, hb4⟩; obtain ⟨g9, c9, he9, ht9, hi9⟩ := I.out.next HOK.out hlt (below_on HO3.out.below hb4) HX.out (hy.base (by have := I.out.below.size; have := HO3.out.below.size; omega)) hyx; cases he9; have HT := hid ht9; have HI9 := hid hi9; have hyk := hy.ok; clear hyx hy hb4 ht9 hi9)
        | ((with_reducible refine wpList_store_mid rfl 44 _ _ rfl g (kk * 42) y.r.cs ?_ ?_ ?_ ?_ (Rv.one hyo) ?_); exact rfl; exact rfl; (rw [hyk.size]; exact HT.out); (rw [hyk.size]; exact sizeR)))
      go_roundg (l.length - (kk + 1))
      case measure => omega
      case rel => exact ⟨kk + 1, _, by omega, by omega, by go_num, HI9.out⟩
    · have hltz : ¬ (kk : Int) < (l.length : Int) := by omega
      go_wp2
      go_ret
      refine ⟨_, m, rfl, ⟨I.out.buf, fun x hx => ?_⟩, I.out.rc, I.out.below⟩
      obtain ⟨j, hj, e⟩ := List.getElem_of_mem hx
      exact I.out.low j x (by have := I.out.len; omega) (by rw [List.getElem?_eq_getElem hj, e])
#print axioms jclone_any
end Go.Proofs.YtcbmimjjpkkoeaaDoor

/- slices.DeleteFunc with has; without. -/
namespace Go.Proofs.YtcbmimjjpkkoeaaDoor
open Go Go.RowKit

theorem elemRc (w : World) : (sizeOf (Tryd.prog.elem 22)).run Tryd.prog w = .ok 42 w := by
  have hi : (Tryd.prog.info? (Tryd.prog.elem 22)).map (·.size) = some 42 := by kernel_rfl
  obtain ⟨i, h1, h2⟩ := Option.map_eq_some_iff.1 hi
  simp [sizeOf, typeInfo, h1, h2]
theorem underERc : Tryd.prog.underlying 22 = some (.slice (Tryd.prog.elem 22)) := by kernel_rfl
/-- s[l:] -/
theorem run_fromR (g n c l : Nat) (hl : l ≤ n) (hlt : l < c) (w : World) : (Instr.slice 22 (.slice (some ⟨g, 0, none⟩) n c) (some (.int .i64 (l : Int))) none none).run Tryd.prog w = .ok (.slice (some ⟨g, l * 42, none⟩) (n - l) (c - l)) w := by
  rw [run_slice_l (P := Tryd.prog) w 22 _ n c underERc .i64 (l : Int) (by omega) (by omega), elemRc]
  have e : ¬ c = l := by omega
  simp [Result.andThen, sliced, e, add_none]
/-- s[:h] -/
theorem run_headR (po : Option Addr) (n c h : Nat) (hh : h ≤ c) (w : World) : (Instr.slice 22 (.slice po n c) none (some (.int .i64 (h : Int))) none).run Tryd.prog w = .ok (.slice po h c) w := by
  rw [run_slice_h (P := Tryd.prog) w 22 po n c underERc .i64 (h : Int) (by omega) (by omega), elemRc]
  cases po with
  | none => simp [Result.andThen, sliced]
  | some a =>
    by_cases h0 : c = 0
    · simp [Result.andThen, sliced, h0]
    · simp [Result.andThen, sliced, h0, add_zero']
theorem zeroVR (w : World) : (zeroValue 44).run Tryd.prog w = .ok (.agg zR.cs) w := by
  obtain ⟨i, hq, hz'⟩ := Option.map_eq_some_iff.1 zeroR
  simp [zeroValue, typeInfo, hq, hz']
theorem zeroC_len (n : Nat) : (Builtin.zeroCells zR.cs n).toList.length = n * 42 := by simp [Builtin.zeroCells, zR_ok.size]
theorem zeroC_one (n : Nat) : ∀ v ∈ (Builtin.zeroCells zR.cs n).toList, v.oneCell' = true := by
  intro v hv
  rw [Array.mem_toList_iff] at hv
  unfold Builtin.zeroCells at hv
  obtain ⟨i, hi, rfl⟩ := Array.mem_map.1 hv
  have h42 : i % zR.cs.size < zR.cs.size := Nat.mod_lt _ (by rw [zR_ok.size]; decide)
  rw [getElem!_pos zR.cs _ h42]
  exact Rv.cs_one zR rfl _ (by rw [Array.mem_toList_iff]; exact Array.getElem_mem h42)
/-- clear -/
theorem run_clearR (w : World) (g o n c : Nat) (hn : 0 < n) (ht : w.there g o (n * 42)) (ty : TypeId) : (Builtin.clear_ #[22] ty #[.slice (some ⟨g, o, none⟩) n c]).run Tryd.prog w = .ok (.tuple #[]) (w.setCells g o (Builtin.zeroCells zR.cs n).toList) := by
  have hst := run_storeCells_cells (P := Tryd.prog) g o (Builtin.zeroCells zR.cs n).toList 0 w (fun j hj => by rw [zeroC_len] at hj; exact (ht j hj).1) (fun j hj => by rw [zeroC_len] at hj; exact (ht j hj).2) (zeroC_one n)
  simp only [Nat.add_zero] at hst
  obtain ⟨m, rfl⟩ : ∃ m, n = m + 1 := ⟨n - 1, by omega⟩
  have hv := zeroVR
  generalize zR.cs = C at hst hv ⊢
  simp [Builtin.clear_, run_underlying Tryd.underlying22, hv, Value.cells, hst]
/-- The records but the one of an ID. -/
def woutR (l : List Rp) (id : List Nat) : List Rp := l.filter fun x => decide (lst x.r.id ≠ id)
theorem rcs_wout (l : List Rp) (id : List Nat) : rcs (woutR l id) = wout (rcs l) id := by
  induction l with
  | nil => rfl
  | cons x l ih =>
    unfold woutR wout rcs at ih ⊢
    rw [List.map_cons, List.filter_cons, List.filter_cons, rc_id]
    split
    · rw [List.map_cons, ih]
    · exact ih
theorem flatR_take {l : List Rp} (hk : ∀ x ∈ l, x.r.ok) {i : Nat} (hi : i ≤ l.length) : flatR (l.take i) = (flatR l).take (i * 42) := by
  have hl : (flatR (l.take i)).length = i * 42 := by
    rw [flatR_len (fun x hx => hk x (List.mem_of_mem_take hx)), List.length_take, Nat.min_eq_left hi]
  have e : flatR l = flatR (l.take i) ++ flatR (l.drop i) := by rw [← flatR_app, List.take_append_drop]
  rw [e, List.take_left' hl]
/-- The last ones are cleared, and cut off. -/
theorem RBuf.cut {B : Nat} {w : World} {g n c : Nat} {l : List Rp} (h : RBuf B w (.slice (some ⟨g, 0, none⟩) n c) l) (hk : ∀ x ∈ l, x.r.ok) {i : Nat} (hi : i ≤ l.length) (zs : List Value) (hz : i * 42 + zs.length ≤ l.length * 42) :
    RBuf B (w.setCells g (i * 42) zs) (.slice (some ⟨g, 0, none⟩) i c) (l.take i) := by
  rcases h.2 with ⟨e, _⟩ | ⟨g', cap, cur, e, hB, hg, h1, hm, h3, h4⟩
  · cases e
  cases e
  have hc : CAt w g cur 44 := hg
  have hlen : (l.take i).length = i := by rw [List.length_take]; omega
  have hcl : cur.toList.length = c * 42 := by rw [Array.length_toList, h3]
  have e := setAll_splice (cs := cur.toList) (vs := zs) (o := i * 42) (by have := Nat.mul_le_mul_right 42 h1; omega)
  refine ⟨by rw [flatR_len (fun x hx => hk x (List.mem_of_mem_take hx))], Or.inr ⟨g, c, _, by rw [hlen], hB, CAt.setCells zs (i * 42) cur w hc, by omega, hm, ?_, ?_⟩⟩
  · rw [List.size_toArray, e, List.length_append, List.length_append, List.length_take, List.length_drop, Array.length_toList, h3]; have := Nat.mul_le_mul_right 42 h1; omega
  · have ha : (cur.toList.take (i * 42)).length = i * 42 := by rw [List.length_take, Array.length_toList, h3]; have := Nat.mul_le_mul_right 42 h1; omega
    rw [List.toList_toArray, e, hlen, List.take_left' ha, flatR_take hk hi, ← h4, List.take_take, Nat.min_eq_left (Nat.mul_le_mul_right 42 hi)]
theorem RBuf.thereAll {B : Nat} {w : World} {g n c : Nat} {l : List Rp} (h : RBuf B w (.slice (some ⟨g, 0, none⟩) n c) l) {i : Nat} (hi : i ≤ l.length) : w.there g (i * 42) ((l.length - i) * 42) := by
  rcases h.2 with ⟨e, _⟩ | ⟨g', cap, cur, e, hB, hg, h1, hm, h3, h4⟩
  · cases e
  cases e
  have hc : CAt w g cur 44 := hg
  intro j hj
  have := Nat.mul_le_mul_right 42 h1
  exact ⟨by rw [hc.cell, Array.getElem?_eq_getElem (by omega)]; rfl, hc.free _⟩
/-- So far: the first j have been looked at, i of them are kept. -/
structure DInv (B : Nat) (w : World) (l : List Rp) (v : Value) (s : ByteArray) (gf i j : Nat) (m : List Rp) (W : World) : Prop where
  len : m.length = l.length
  lt : i < j
  le : j ≤ l.length
  low : m.take i = woutR (l.take j) (lst s)
  high : ∀ k, j ≤ k → m[k]? = l[k]?
  each : ∀ x ∈ m, RpX B W x
  buf : RBuf B W v m
  below : Below B w W
  hf : CAt W gf #[.string s] 9
theorem woutR_succ {l : List Rp} {id : List Nat} {j : Nat} {x : Rp} (hx : l[j]? = some x) : woutR (l.take (j + 1)) id = woutR (l.take j) id ++ if lst x.r.id = id then [] else [x] := by
  have hj := (List.getElem?_eq_some_iff.1 hx).1
  have e : l[j] = x := (List.getElem?_eq_some_iff.1 hx).2
  rw [List.take_succ_eq_append_getElem hj, e]
  unfold woutR
  rw [List.filter_append]
  by_cases h : lst x.r.id = id <;> simp [h]
section
variable {B : Nat} {w : World} {l : List Rp} {v : Value} {s : ByteArray} {gf i j : Nat} {m : List Rp} {W W1 : World} (h : DInv B w l v s gf i j m W)
include h
theorem DInv.on (hB : B ≤ w.heap.size) (hb : Below W.heap.size W W1) : DInv B w l v s gf i j m W1 :=
  ⟨h.len, h.lt, h.le, h.low, h.high, fun x hx => (h.each x hx).below hb, h.buf.below hb, below_tr h.below (below_less hb (Nat.le_trans hB h.below.size)), h.hf.below hb⟩
theorem DInv.skip {x : Rp} (hx : l[j]? = some x) (he : lst x.r.id = lst s) : DInv B w l v s gf i (j + 1) m W :=
  ⟨h.len, by have := h.lt; omega, (List.getElem?_eq_some_iff.1 hx).1, by rw [woutR_succ hx, if_pos he, List.append_nil]; exact h.low, fun k hk => h.high k (by omega), h.each, h.buf, h.below, h.hf⟩
theorem DInv.keep (hB : B ≤ w.heap.size) {x : Rp} (hx : l[j]? = some x) (he : lst x.r.id ≠ lst s) :
    ∃ g c, v = .slice (some ⟨g, 0, none⟩) l.length c ∧ W.there g (i * 42) 42 ∧ DInv B w l v s gf (i + 1) (j + 1) (m.set i x) (W.setCells g (i * 42) x.r.cs.toList) := by
  have hxm : m[j]? = some x := by rw [h.high j (Nat.le_refl _)]; exact hx
  have hxX := h.each x (List.mem_of_getElem? hxm)
  have hlt := h.lt
  have hle := (List.getElem?_eq_some_iff.1 hx).1
  obtain ⟨g, c, e, hg, ht, ⟨cs, hc⟩, hbuf, ho⟩ := h.buf.set (fun y hy => (h.each y hy).ok) (i := i) (by rw [h.len]; omega) hxX.ok
  refine ⟨g, c, by rw [e, h.len], ht, by rw [List.length_set, h.len], by omega, hle, ?_, fun k hk => ?_, fun y hy => ?_, hbuf, below_tr h.below (ho.below (by have := h.below.size; omega) (fun i e => by omega)), h.hf.keep (ho.block gf h.hf.lt fun e => h.hf.apart hc (by decide) e)⟩
  · rw [woutR_succ hx, if_neg he, ← h.low, List.take_succ_eq_append_getElem (by rw [List.length_set, h.len]; omega), List.getElem_set_self, List.take_set_of_le (by omega)]
  · rw [List.getElem?_set, if_neg (by omega)]
    exact h.high k (by omega)
  · rcases List.mem_or_eq_of_mem_set hy with hy | rfl
    · exact (h.each y hy).other hc ho
    · exact hxX.other hc ho
end
def DelS (B : Nat) (w : World) (rs : List Rc) (e : Ending) (w' : World) : Prop := ∃ v m, e = .returned v ∧ Rs B w' v m ∧ rcs m = rs ∧ Below B w w'
theorem woutR_none {l : List Rp} {id : List Nat} (h : atI (rcs l) id = none) : woutR l id = l := by
  unfold woutR
  rw [List.filter_eq_self]
  intro x hx
  rw [atI_none] at h
  simp only [ne_eq, decide_eq_true_eq]
  exact fun e => h (List.mem_map.2 ⟨x.rc, List.mem_map.2 ⟨x, hx, rfl⟩, e⟩)
theorem DInv.start {B : Nat} {w W : World} {l : List Rp} {v : Value} {s : ByteArray} {gf i : Nat} (h : Rs B W v l) (hb : Below B w W) (hf : CAt W gf #[.string s] 9) (hi : atI (rcs l) (lst s) = some i) : DInv B w l v s gf i (i + 1) l W := by
  obtain ⟨h1, h2, h3⟩ := atI_some hi
  rw [rcs_len] at h1
  have hx : l[i]? = some l[i] := List.getElem?_eq_getElem h1
  have e2 : lst l[i].r.id = lst s := by have := h2; simpa [rcs, Rp.rc, Rv.rc] using this
  refine ⟨rfl, by omega, by omega, ?_, fun k _ => rfl, h.each, h.buf, hb, hf⟩
  rw [woutR_succ hx, if_pos e2, List.append_nil]
  unfold woutR
  rw [List.filter_eq_self.2]
  intro y hy
  obtain ⟨j, hj, e⟩ := List.getElem_of_mem hy
  rw [List.length_take] at hj
  have := h3 j (by omega)
  simp only [ne_eq, decide_eq_true_eq]
  intro e3
  apply this
  rw [List.getElem_take] at e
  simpa [rcs, Rp.rc, Rv.rc, e] using e3
set_option maxRecDepth 100000 in
set_option maxHeartbeats 2000000 in
theorem delete_any (B : Nat) (v f : Value) (l : List Rp) (s : ByteArray) (w : World) (hl : Rs B w v l) (hn : l.length ≤ 100000) (hf : HasF w f s) (hB : B ≤ w.heap.size) : Calls Tryd.prog 55 #[v, f] w (DelS B w (wout (rcs l) (lst s))) := by
  have HI := hid (fun W (hW : Below w.heap.size w W) => index_any v f l s W ((hl.rl hn).below hW) (hf.below hW))
  obtain ⟨gf, rfl, hgf⟩ := hf
  obtain ⟨po, c, rfl, hc1, hz1⟩ := hl.buf.form
  have HL := hid hl
  have HF := hid hgf
  clear hl hgf
  cases ha : atI (rcs l) (lst s) with
  | none =>
    rw [ha] at HI
    have HA := hid ha
    clear ha
    go_enter Tryd.func55, Tryd.ntmps55
    go_wp2_with (go_at_call 65; refine (HI.out _ (Below.refl _ _)).mono ?_; rintro e w1 ⟨rfl, hb1⟩; rw [show plI none = -1 from rfl]; have HB1 := hid hb1; clear hb1)
    go_ret
    refine ⟨_, l, rfl, HL.out.below HB1.out, ?_, below_less HB1.out hB⟩
    rw [← rcs_wout, woutR_none HA.out]
  | some i0 =>
    rw [ha] at HI
    have HA := hid ha
    have hi0 := (atI_some ha).1
    rw [rcs_len] at hi0
    clear ha
    obtain ⟨q0, hq0⟩ : ∃ q : Int, plI (some i0) = q := ⟨_, rfl⟩
    have hq1 : q0 = (i0 : Int) := hq0.symm
    rw [hq0, hq1] at HI
    clear hq0 hq1
    have hne : ¬ ((i0 : Int) = -1) := by omega
    go_enter Tryd.func55, Tryd.ntmps55
    go_wp2_with (go_at_call 65; refine (HI.out _ (Below.refl _ _)).mono ?_; rintro e w1 ⟨rfl, hb1⟩; have HS := hid (DInv.start (HL.out.below hb1) (below_less hb1 hB) (HF.out.below hb1) HA.out); clear hb1)
    go_loopg [5, 6, 7] l.length (fun gg s5 s6 _ wr => ∃ (i j : Nat) (m : List Rp), s5 = i64 i ∧ s6 = i64 j ∧ j ≤ l.length ∧ i < j ∧ l.length - j ≤ gg ∧ Hid (DInv B w l (.slice po l.length c) s gf i j m wr))
    case atStart => exact ⟨i0, i0 + 1, l, rfl, by go_num, by omega, by omega, by omega, HS.out⟩
    case round =>
      obtain ⟨i, j, m, rfl, rfl, hj, hij, hg, I⟩ := hrel
      clear HS
      by_cases hlt : j < l.length
      · have hltz : (j : Int) < (l.length : Int) := by omega
        obtain ⟨x, hx⟩ : ∃ x, l[j]? = some x := ⟨_, List.getElem?_eq_getElem hlt⟩
        have hxm : m[j]? = some x := by rw [I.out.high j (Nat.le_refl _)]; exact hx
        have hxX := I.out.each x (List.mem_of_getElem? hxm)
        obtain ⟨g, c2, he, hr⟩ := I.out.buf.range (fun y hy => (I.out.each y hy).ok) hxm
        rw [I.out.len] at he
        cases he
        have HX := hid hx
        have HR := hid hr
        have hok := hxX.ok
        have HC := hid (fun W (hW : Below wr.heap.size wr W) => hasF_any x.r hok s gf W (I.out.hf.below hW))
        have hone : x.r.pv.oneCell' = true := by obtain ⟨p0, c0, e0, _⟩ := hxX.pl.1; rw [e0]; rfl
        clear hx hxm hr hxX
        have T1 : Hid True := hid trivial
        by_cases hq : lst x.r.id = lst s
        · rw [decide_eq_true hq] at HC
          go_wp2_with (first
            | (clear T1; (with_reducible refine wpList_loadM rfl _ rfl g (j * 42) ?_ x.r hok HR.out ?_); exact rfl)
            | ((with_reducible refine wpList_allocR rfl rfl ?_); intro w2 g2 hz2 hb2 hg2; have HZ2 := hid hz2; have HB2 := hid hb2; have HG2 := hid hg2; clear hz2 hb2 hg2)
            | ((with_reducible refine wpList_storeR rfl rfl _ _ rfl g2 ?_ (r := x.r) ?_ zR_ok hok hone HZ2.out ?_); exact rfl; exact rfl; intro w3 h3 o3; have HO3 := hid (Own1.mk1 HB2.out HG2.out h3 o3); clear h3 o3 HZ2)
            | ((with_reducible refine wpList_load_at 44 _ rfl ?_ g2 0 ?_ x.r.cs (.struct (Tryd.prog.fieldsOf 44)) ?_ underRec rfl ?_ ?_); exact rfl; exact rfl; exact HO3.out.box.whole; (rw [hok.size]; exact sizeR))
            | (go_at_call 76; refine (HC.out _ HO3.out.below).mono ?_; rintro e w4 ⟨rfl, hb4⟩; have HB4 := hid (below_on HO3.out.below hb4); clear hb4))
          go_roundg (l.length - (j + 1))
          case measure => omega
          case rel => exact ⟨i, j + 1, m, rfl, by go_num, by omega, by omega, by omega, (I.out.on hB HB4.out).skip HX.out hq⟩
        · rw [decide_eq_false hq] at HC
          go_wp2_with (first
            | (clear T1; (with_reducible refine wpList_loadM rfl _ rfl g (j * 42) ?_ x.r hok HR.out ?_); exact rfl)
            | ((with_reducible refine wpList_allocR rfl rfl ?_); intro w2 g2 hz2 hb2 hg2; have HZ2 := hid hz2; have HB2 := hid hb2; have HG2 := hid hg2; clear hz2 hb2 hg2)
            | ((with_reducible refine wpList_storeR rfl rfl _ _ rfl g2 ?_ (r := x.r) ?_ zR_ok hok hone HZ2.out ?_); exact rfl; exact rfl; intro w3 h3 o3; have HO3 := hid (Own1.mk1 HB2.out HG2.out h3 o3); clear h3 o3 HZ2)
            | ((with_reducible refine wpList_load_at 44 _ rfl ?_ g2 0 ?_ x.r.cs (.struct (Tryd.prog.fieldsOf 44)) ?_ underRec rfl ?_ ?_); exact rfl; exact rfl; (first | exact HO4.out.box.whole | exact HO3.out.box.whole); (rw [hok.size]; exact sizeR))
            | (go_at_call 76; refine (HC.out _ HO3.out.below).mono ?_; rintro e w4 ⟨rfl, hb4⟩; have HO4 := hid (HO3.out.on hok hb4); obtain ⟨g9, c9, he9, ht9, hi9⟩ := (I.out.on hB HO4.out.below).keep hB HX.out hq; cases he9; have HT := hid ht9; have HI9 := hid hi9; clear hb4 ht9 hi9)
            | ((with_reducible refine wpList_store_mid rfl 44 _ _ rfl g (i * 42) x.r.cs ?_ ?_ ?_ ?_ (Rv.one hone) ?_); exact rfl; exact rfl; (rw [hok.size]; exact HT.out); (rw [hok.size]; exact sizeR)))
          go_roundg (l.length - (j + 1))
          case measure => omega
          case rel => exact ⟨i + 1, j + 1, _, by go_num, by go_num, by omega, by omega, by omega, HI9.out⟩
      · obtain rfl : j = l.length := by omega
        have hltz : ¬ (l.length : Int) < (l.length : Int) := by omega
        have hpo : ∃ g, po = some ⟨g, 0, none⟩ := by
          obtain ⟨x, hx⟩ : ∃ x, m[0]? = some x := ⟨_, List.getElem?_eq_getElem (by rw [I.out.len]; omega)⟩
          obtain ⟨g, c2, he, hr⟩ := I.out.buf.range (fun y hy => (I.out.each y hy).ok) hx
          rw [I.out.len] at he
          cases he; exact ⟨g, rfl⟩
        obtain ⟨g, rfl⟩ := hpo
        have hbuf := I.out.buf
        have hmok : ∀ y ∈ m, y.r.ok := fun y hy => (I.out.each y hy).ok
        have hth := hbuf.thereAll (i := i) (by rw [I.out.len]; omega)
        rw [I.out.len] at hth
        have hcl := run_clearR wr g (i * 42) (l.length - i) (c - i) (by omega) hth
        have hs1 := run_fromR g l.length c i (by omega) (by omega)
        have hs2 := run_headR (some ⟨g, 0, none⟩) l.length c i (by omega)
        have hcut := hbuf.cut hmok (i := i) (by rw [I.out.len]; omega) (Builtin.zeroCells zR.cs (l.length - i)).toList (by rw [zeroC_len, I.out.len]; omega)
        have hon := only_setCells (S := fun b => b = g) wr g (i * 42) (Builtin.zeroCells zR.cs (l.length - i)).toList rfl
        obtain ⟨cs, hcs, hgB⟩ : ∃ cs, CAt wr g cs 44 ∧ B ≤ g := by
          rcases hbuf.2 with ⟨e, _⟩ | ⟨g', cap, cur, e, hB', hg, _⟩
          · cases e
          · rw [I.out.len] at e; cases e; exact ⟨cur, hg, hB'⟩
        obtain ⟨W', hW'⟩ : ∃ W', wr.setCells g (i * 42) (Builtin.zeroCells zR.cs (l.length - i)).toList = W' := ⟨_, rfl⟩
        rw [hW'] at hcl hcut hon
        have HCUT := hid hcut
        have HON := hid hon
        have HCS := hid hcs
        clear hW' hcut hon hcs hbuf hmok hth
        go_wp2
        go_ret
        refine ⟨_, m.take i, rfl, ⟨HCUT.out, fun x hx => (I.out.each x (List.mem_of_mem_take hx)).other HCS.out HON.out⟩, ?_, below_tr I.out.below (HON.out.below (by have := I.out.below.size; omega) (fun k e => by omega))⟩
        rw [I.out.low, List.take_of_length_le (Nat.le_refl _), rcs_wout]
set_option maxRecDepth 100000 in
theorem without_any (v : Value) (l : List Rp) (s : ByteArray) (w : World) (hl : RL w v l) : Calls Tryd.prog 32 #[v, .string s] w (ClonS w (wout (rcs l) (lst s))) := by
  have HL := hid hl
  have hn := hl.len
  obtain ⟨po, c, rfl, _⟩ := hl
  go_enter Tryd.func32, Tryd.ntmps32
  go_wp2_with (first
    | (go_at_call 56; refine (jclone_any _ l w HL.out).mono ?_; rintro e w1 ⟨v1, m, rfl, hr1, he1, hb1⟩; obtain ⟨p1, c1, hv1, _⟩ := hr1.buf.form; subst hv1; have HR1 := hid hr1; have HE1 := hid he1; have HB1 := hid hb1; have hml : m.length = l.length := (by have := congrArg List.length he1; rwa [rcs_len, rcs_len] at this); have HML := hid hml; clear hr1 he1 hb1 hml)
    | (go_at_call 57; refine (has_any s _).mono ?_; rintro e w2 ⟨f, rfl, hf, hb2⟩; have HF := hid hf; have HB2 := hid hb2; obtain ⟨gf, hf2, _⟩ := hf; subst hf2; clear hb2)
    | (go_at_call 55; refine (delete_any w.heap.size _ _ m s _ (HR1.out.below HB2.out) (by have := HML.out; omega) HF.out (by have := HB1.out.size; have := HB2.out.size; omega)).mono ?_; rintro e w3 ⟨v3, m3, rfl, hr3, he3, hb3⟩; rw [HE1.out] at he3))
  go_ret
  exact ⟨v3, m3, rfl, hr3, he3, below_tr (below_on HB1.out HB2.out) hb3⟩
#print axioms without_any
end Go.Proofs.YtcbmimjjpkkoeaaDoor
