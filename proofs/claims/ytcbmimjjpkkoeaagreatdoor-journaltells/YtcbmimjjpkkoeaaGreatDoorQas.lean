/- Texts laid into one: the remark ahead of each part says what is proved there. -/
import Derived.Test.YtcbmimjjpkkoeaaGreatDoorQar
import Derived.Test.YtcbmimjjpkkoeaaGreatDoorQam
import Derived.Test.YtcbmimjjpkkoeaaGreatDoorQak
/- The document's Check, some cases. (Written by tools/gen_Vu.py.) -/
namespace Go.Proofs.YtcbmimjjpkkoeaaGreatDoor
open Go Go.RowKit

theorem rcheck_any (r : Rv) (hr : r.ok) (ps : Ps) (w : World) (hp : PL w r.pv ps) : Calls Tryz.prog 26 #[.agg r.cs] w fun e w' => e = .returned (i64 (if okRc (r.rc ps) = true then 0 else 2)) ∧ Below w.heap.size w w' := by
  cases h0 : okId (lst r.id)
  · have e : okRc (r.rc ps) = false := by unfold okRc Rv.rc; simp [h0]
    rw [e]; exact rcheck_0 r hr ps w hp h0
  cases h1 : inR r.time 0 1048576
  · have e : okRc (r.rc ps) = false := by unfold okRc Rv.rc; simp [h1]
    rw [e]; exact rcheck_1 r hr ps w hp h0 h1
  cases hm : r.mark
  · have e : okRc (r.rc ps) = (inR r.size 0 65536 && (okTag (lst r.etag) && (inR r.k 1 15 && (inR r.m 1 15 && (decide (r.k + r.m ≤ 16) && (okData (lst r.data) && (okParts ps r.size && (r.up.toList.isEmpty || okId (lst r.up))))))))) := by
      unfold okRc Rv.rc
      simp only [hm, h0, h1, Bool.false_eq_true, if_false, hr.sl, decide_true, Bool.and_true, isEmpty_lst, Bool.true_and, Bool.and_assoc]
    rw [e]
    cases h10 : inR r.size 0 65536
    · exact rcheck_v0 r hr ps w hp h0 h1 hm h10
    cases h11 : okTag (lst r.etag)
    · exact rcheck_v1 r hr ps w hp h0 h1 hm h10 h11
    cases h12 : inR r.k 1 15
    · exact rcheck_v2 r hr ps w hp h0 h1 hm h10 h11 h12
    cases h13 : inR r.m 1 15
    · exact rcheck_v3 r hr ps w hp h0 h1 hm h10 h11 h12 h13
    by_cases v4 : r.k + r.m ≤ 16
    rotate_left
    · rw [decide_eq_false v4]; exact rcheck_v4 r hr ps w hp h0 h1 hm h10 h11 h12 h13 v4
    rw [decide_eq_true v4]
    cases h15 : okData (lst r.data)
    · exact rcheck_v5 r hr ps w hp h0 h1 hm h10 h11 h12 h13 v4 h15
    cases h16 : okParts ps r.size
    · exact rcheck_v6 r hr ps w hp h0 h1 hm h10 h11 h12 h13 v4 h15 h16
    cases u0 : r.up.toList.isEmpty
    · cases h20 : okId (lst r.up)
      · exact rcheck_v7c r hr ps w hp h0 h1 hm h10 h11 h12 h13 v4 h15 h16 u0 h20
      · exact rcheck_v7b r hr ps w hp h0 h1 hm h10 h11 h12 h13 v4 h15 h16 u0 h20
    · exact rcheck_v7a r hr ps w hp h0 h1 hm h10 h11 h12 h13 v4 h15 h16 u0
  · have e : okRc (r.rc ps) = ((r.size == 0) && (r.etag.toList.isEmpty && ((r.k == 0) && ((r.m == 0) && (r.data.toList.isEmpty && (decide (r.sum = zeroD) && (ps.isEmpty && r.up.toList.isEmpty))))))) := by
      unfold okRc Rv.rc
      have hb : ∀ x : Int, decide (x = 0) = (x == 0) := fun x => by rw [Bool.eq_iff_iff]; simp
      simp only [hm, h0, h1, if_true, isEmpty_lst, Bool.true_and, Bool.and_assoc, hb]
    rw [e]
    cases m0 : (r.size == 0)
    · exact rcheck_m0 r hr ps w hp h0 h1 hm m0
    cases m1 : r.etag.toList.isEmpty
    · exact rcheck_m1 r hr ps w hp h0 h1 hm m0 m1
    cases m2 : (r.k == 0)
    · exact rcheck_m2 r hr ps w hp h0 h1 hm m0 m1 m2
    cases m3 : (r.m == 0)
    · exact rcheck_m3 r hr ps w hp h0 h1 hm m0 m1 m2 m3
    cases m4 : r.data.toList.isEmpty
    · exact rcheck_m4 r hr ps w hp h0 h1 hm m0 m1 m2 m3 m4
    cases m5 : decide (r.sum = zeroD)
    · exact rcheck_m5 r hr ps w hp h0 h1 hm m0 m1 m2 m3 m4 m5
    cases m6 : ps.isEmpty
    · exact rcheck_m6 r hr ps w hp h0 h1 hm m0 m1 m2 m3 m4 m5 m6
    cases m7 : r.up.toList.isEmpty
    · exact rcheck_m7 r hr ps w hp h0 h1 hm m0 m1 m2 m3 m4 m5 m6 m7
    exact rcheck_m8 r hr ps w hp h0 h1 hm m0 m1 m2 m3 m4 m5 m6 m7
#print axioms rcheck_any
end Go.Proofs.YtcbmimjjpkkoeaaGreatDoor

/- Journals that came in. -/
namespace Go.Proofs.YtcbmimjjpkkoeaaGreatDoor
open Go Go.RowKit

/-- What is told of a record that came in. -/
structure IsP (w : World) (x : Rp) : Prop where
  sl : x.r.sum.length = 32
  s8 : ∀ z ∈ x.r.sum, z < 256
  parts : ∃ (po : Option Addr) (c : Nat), x.r.pv = .slice po x.ps.length c ∧ x.ps.length ≤ c ∧ (po = none → c = 0) ∧ (x.ps = [] ∨ ∃ b o, po = some ⟨b, o, none⟩ ∧ PCells w b o x.ps)
/-- The slice v, which came in, leads to the records l. -/
def IsJ (w : World) (v : Value) (l : List Rp) : Prop := ∃ po c, v = .slice po l.length c ∧ l.length ≤ c ∧ c ≤ maxLen ∧ (po = none → c = 0) ∧ (l = [] ∨ ∃ b o, po = some ⟨b, o, none⟩ ∧ RCells w b o l) ∧ ∀ x ∈ l, IsP w x
theorem IsP.keep {w w' : World} {x : Rp} (h : IsP w x) (hk : ∀ a, w.cell? a ≠ none → w'.cell? a = w.cell? a) : IsP w' x := by
  refine ⟨h.sl, h.s8, ?_⟩
  obtain ⟨po, c, h1, h2, h3, h⟩ := h.parts
  refine ⟨po, c, h1, h2, h3, ?_⟩
  rcases h with h | ⟨b, o, hp, h⟩
  · exact Or.inl h
  · exact Or.inr ⟨b, o, hp, fun i hi => ⟨(hk _ (by rw [(h i hi).1]; simp)).trans (h i hi).1, (hk _ (by rw [(h i hi).2]; simp)).trans (h i hi).2⟩⟩
theorem IsJ.keep {w w' : World} {v : Value} {l : List Rp} (h : IsJ w v l) (hk : ∀ a, w.cell? a ≠ none → w'.cell? a = w.cell? a) : IsJ w' v l := by
  obtain ⟨po, c, h1, h2, h3, h4, h5, h6⟩ := h
  refine ⟨po, c, h1, h2, h3, h4, ?_, fun x hx => (h6 x hx).keep hk⟩
  rcases h5 with h | ⟨b, o, hp, h⟩
  · exact Or.inl h
  · exact Or.inr ⟨b, o, hp, h.keep hk⟩
theorem IsJ.below {w w' : World} {v : Value} {l : List Rp} (h : IsJ w v l) (hb : Below w.heap.size w w') : IsJ w' v l :=
  h.keep fun a ha => World.cell?_of_block (hb.block a.block (cell_lt' ha))
/-- Is a record more than is gone through? -/
def bigP (x : Rp) : Bool := decide (100 < x.ps.length) || decide (1000 < x.r.id.size) || decide (1000 < x.r.etag.size) || decide (1000 < x.r.data.size) || decide (1000 < x.r.up.size)
def bigJ (l : List Rp) : Bool := l.any bigP || decide (70 < l.length)
theorem IsP.ok {w : World} {x : Rp} (h : IsP w x) (hb : bigP x = false) : RpOk w x := by
  simp only [bigP, Bool.or_eq_false_iff, decide_eq_false_iff_not] at hb
  obtain ⟨⟨⟨⟨b1, b2⟩, b3⟩, b4⟩, b5⟩ := hb
  obtain ⟨po, c, h1, h2, h3, h4⟩ := h.parts
  exact ⟨⟨h.sl, h.s8, by omega, by omega, by omega, by omega⟩, ⟨po, c, h1, h2, by omega, h4⟩, fun n k e => by rw [h1] at e; cases e; exact h3 rfl⟩
theorem IsJ.rl {w : World} {v : Value} {l : List Rp} (h : IsJ w v l) (hb : bigJ l = false) : RL w v l := by
  simp only [bigJ, Bool.or_eq_false_iff, decide_eq_false_iff_not] at hb
  obtain ⟨po, c, h1, h2, h3, h4, h5, h6⟩ := h
  refine ⟨po, c, h1, h2, by omega, h4, h5, fun x hx => (h6 x hx).ok ?_⟩
  have := List.any_eq_false.1 hb.1 x hx
  simpa using this
section
variable {H : Type} {enc : TypeId × Value → H} {w : World} {held : Bool} {fuel : Nat}
set_option maxRecDepth 100000 in
theorem rec_nil8 {cs : List Value} {x : DataW H × List MemPlace} (h : DataW.trod enc Tryz.prog w 0 (fun _ => true) held fuel 45 cs = some x) (n c : Nat) (e : cs[40]? = some (.slice none n c)) : c = 0 := by
  obtain ⟨xs, m, _, _, hcl, hxl, hf⟩ := DataW.trod_struct Tryz.underlying45 h
  have hx : xs.length = 11 := by rw [hxl]; rfl
  have kP : Tryz.prog.cellsOf 43 = 1 := by kernel_rfl
  match xs, hx with
  | [y0, y1, y2, y3, y4, y5, y6, y7, y8, y9, y10], _ =>
    have f9 : DataW.trod enc Tryz.prog w 0 (fun _ => true) held m 43 ((cs.drop 40).take (Tryz.prog.cellsOf 43)) = some y9 := hf 9 _ rfl
    rw [kP] at f9
    rcases DataW.trod_slice Tryz.underlying43 f9 with ⟨hcs, _⟩ | ⟨ad, l, c', elems, rest, n', _, hcs, _⟩
    · have e2 := congrArg (·[0]?) hcs
      simp only [List.getElem?_take, List.getElem?_drop] at e2
      rw [show 40 + 0 = 40 from rfl, e] at e2
      simp at e2
      exact e2.2
    · have e2 := congrArg (·[0]?) hcs
      simp only [List.getElem?_take, List.getElem?_drop] at e2
      rw [show 40 + 0 = 40 from rfl, e] at e2
      simp at e2
theorem pv_at8 {r : Rv} (hs : r.sum.length = 32) : r.cs[40]? = some r.pv := by
  unfold Rv.cs
  rw [Array.getElem?_append_right (by simp), Array.getElem?_append_right (by simp [sumC_size, hs])]
  simp [sumC_size, hs]
theorem cs_size8 {r : Rv} (hs : r.sum.length = 32) : r.cs.size = 42 := by simp [Rv.cs, sumC_size, hs]
theorem rec_read8 {cs : List Value} {x : DataW H × List MemPlace} (h : DataW.trod enc Tryz.prog w 0 (fun _ => true) held fuel 45 cs = some x) : ∃ y : Rp, IsP w y ∧ cs = y.r.cs.toList := by
  obtain ⟨r, hr, e⟩ := rec_read h
  obtain ⟨po, c, ps, h1, h2, h3⟩ := hr.parts
  refine ⟨⟨r, ps⟩, ⟨hr.sl, hr.s8, po, c, h1, h2, fun hp => ?_, h3⟩, e⟩
  exact rec_nil8 h ps.length c (by rw [e, Array.getElem?_toList, pv_at8 hr.sl, h1, hp])
set_option maxRecDepth 100000 in
theorem recs_read8 {cs : List Value} {x : DataW H × List MemPlace} (h : DataW.trod enc Tryz.prog w 0 (fun _ => true) held fuel 22 cs = some x) : ∃ v l, cs = [v] ∧ IsJ w v l := by
  have k42 : Tryz.prog.cellsOf 45 = 42 := by kernel_rfl
  rcases DataW.trod_slice Tryz.underlying22 h with ⟨hcs, _⟩ | ⟨ad, l, c, elems, rest, n, _, hcs, _, _, hl, hc, hlen, hel, _, _⟩
  · exact ⟨_, [], hcs, none, 0, rfl, Nat.le_refl _, Nat.zero_le _, fun _ => rfl, Or.inl rfl, fun x hx => by cases hx⟩
  · rw [k42] at hel
    have each : ∀ i, i < l → ∃ y : Rp, IsP w y ∧ ∀ j v, y.r.cs[j]? = some v → w.cell? ((ad.add (i * 42)).add j) = some v := fun i hi => by
      have h1 := hel i hi
      rw [List.getElem?_eq_getElem (by omega)] at h1
      obtain ⟨ds, hc1, hc2⟩ := Option.bind_eq_some_iff.1 h1
      obtain ⟨y, hy, rfl⟩ := rec_read8 hc2
      obtain ⟨_, _, hcell⟩ := World.cells?_some hc1
      refine ⟨y, hy, fun j v hv => ?_⟩
      have hj : j < 42 := by
        rcases Nat.lt_or_ge j 42 with q | q
        · exact q
        · rw [Array.getElem?_eq_none (by rw [cs_size8 hy.sl]; exact q)] at hv; cases hv
      rw [hcell j hj, Array.getElem?_toList, hv]
    by_cases h0 : l = 0
    · subst h0
      exact ⟨_, [], hcs, some ad, c, rfl, hl, hc, (fun h => by cases h), Or.inl rfl, fun x hx => by cases hx⟩
    obtain ⟨y0, hy0, h00⟩ := each 0 (by omega)
    obtain ⟨b, o, rfl⟩ : ∃ b o, ad = ⟨b, o, none⟩ := by
      have h02 := h00 0 (.string y0.r.id) (by rw [y0.r.get8 0 (by omega)]; rfl)
      rw [Nat.zero_mul, add_zero', add_zero'] at h02
      exact plain_at ad w (by rw [h02]; simp)
    refine ⟨_, (List.range l).map fun i => if h : i < l then (each i h).choose else y0, hcs, some ⟨b, o, none⟩, c, by simp, by simpa using hl, hc, (fun h => by cases h), Or.inr ⟨b, o, rfl, fun i x hx j v hv => ?_⟩, fun x hx => ?_⟩
    · have hi : i < l := by
        rcases Nat.lt_or_ge i l with q | q
        · exact q
        · rw [List.getElem?_eq_none (by simpa using q)] at hx; cases hx
      simp [hi] at hx
      subst hx
      have := (each i hi).choose_spec.2 j v hv
      rw [add_none, add_none] at this
      exact this
    · obtain ⟨i, hi, rfl⟩ := List.mem_map.1 hx
      have hi' : i < l := by simpa using hi
      simp only [hi', dite_true]
      exact (each i hi').choose_spec.1
set_option maxRecDepth 100000 in
theorem jrn_read8 {cs : List Value} {x : DataW H × List MemPlace} (h : DataW.trod enc Tryz.prog w 0 (fun _ => true) held fuel 24 cs = some x) : ∃ s v l, IsJ w v l ∧ cs = (jC s v).toList := by
  obtain ⟨xs, n, _, _, hcl, hxl, hf⟩ := DataW.trod_struct Tryz.underlying24 h
  have h2 : cs.length = 2 := by rw [hcl]; kernel_rfl
  have hx2 : xs.length = 2 := by rw [hxl]; rfl
  have k3 : Tryz.prog.cellsOf 3 = 1 := by kernel_rfl
  have kR : Tryz.prog.cellsOf 22 = 1 := by kernel_rfl
  match cs, h2, xs, hx2 with
  | [c0, c1], _, [y0, y1], _ =>
    have f0 : DataW.trod enc Tryz.prog w 0 (fun _ => true) held n 3 (([c0, c1].drop 0).take (Tryz.prog.cellsOf 3)) = some y0 := hf 0 _ rfl
    rw [k3] at f0
    have f1 : DataW.trod enc Tryz.prog w 0 (fun _ => true) held n 22 (([c0, c1].drop 1).take (Tryz.prog.cellsOf 22)) = some y1 := hf 1 _ rfl
    rw [kR] at f1
    obtain ⟨z0, e0, _, _⟩ := DataW.trod_int Tryz.underlying3 f0
    obtain ⟨v, l, e1, hl⟩ := recs_read8 f1
    simp at e0 e1
    subst e0
    subst e1
    exact ⟨z0, _, l, hl, rfl⟩
end
#print axioms jrn_read8
end Go.Proofs.YtcbmimjjpkkoeaaGreatDoor
