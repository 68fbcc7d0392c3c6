/- Texts laid into one: the remark ahead of each part says what is proved there. -/
import Derived.Test.YtelkijiphhoacaaDoorLaa
import Derived.Test.YtelkijiphhoacaaDoorLab
import Derived.Test.YtelkijiphhoacaaDoorLac
import Derived.Test.YtelkijiphhoacaaDoorLad
import Derived.Test.YtelkijiphhoacaaDoorLae
import Derived.Test.YtelkijiphhoacaaDoorLaf
import Derived.Test.YtelkijiphhoacaaDoorLag
import Derived.Test.YtelkijiphhoacaaDoorLah
import Derived.Test.YtelkijiphhoacaaDoorLai
import Derived.Test.YtelkijiphhoacaaDoorLaj
import Derived.Test.YtelkijiphhoacaaDoorLak
import Derived.Test.YtelkijiphhoacaaDoorLal
import Derived.Test.YtelkijiphhoacaaDoorLam
import Derived.Test.YtelkijiphhoacaaDoorLan
import Derived.Test.YtelkijiphhoacaaDoorLao
import Derived.Test.YtelkijiphhoacaaDoorLap
import Derived.Test.YtelkijiphhoacaaDoorLaq
import Derived.Test.YtelkijiphhoacaaDoorLar
import Derived.Test.YtelkijiphhoacaaDoorLas
import Derived.Test.YtelkijiphhoacaaDoorLat
import Derived.Test.YtelkijiphhoacaaDoorLau
import Derived.Test.YtelkijiphhoacaaDoorLav
import Derived.Deep.MidRow
import Derived.Lib.SliceRun
/- Contracts of the document's ReadText; of SameBytes and CopyBytes of the statements' kit. -/
namespace Go.Proofs.YtelkijiphhoacaaDoor
open Go Go.RowKit

theorem Buf.made0 (w : World) (B : Nat) (hB : B ≤ w.heap.size) : Buf B (w.alloc (.cells #[] 5)) (.slice (some ⟨w.heap.size, 0, none⟩) 0 0) [] := World.ownsRow_made w #[] 0 hB (by unfold maxLen; omega) (by simp)
theorem copyB_any {w : World} {v : Value} {x : List Nat} (hv : SL w v x) (hn : x.length ≤ 1000000) (hnil : ∀ n c, v = .slice none n c → c = 0) : Calls Tryd.prog 24 #[v] w (BufS w.heap.size w x) := by
  obtain ⟨p, c, rfl, hp, _⟩ := hv
  obtain ⟨v', w', hr, hb, hg⟩ := (Buf.made0 w w.heap.size (Nat.le_refl _)).app p c x (hp.below (below_al _ _)) (fun e => by subst e; exact hnil _ _ rfl) (by simp; omega) (by rw [size_al]; omega)
  have HRUN := hid hr
  clear hr
  go_enter Tryd.func24, Tryd.ntmps24
  go_wp2_with (at_builtin; refine wpList_append_run _ _ 29 29 rfl rfl _ _ _ rfl rfl HRUN.out ?_)
  go_ret
  exact ⟨v', rfl, by simpa using hb, below_grown (below_al _ _) hg (Nat.le_refl _) (fun b hb => by cases hb; exact Nat.le_refl _)⟩

end Go.Proofs.YtelkijiphhoacaaDoor

/- Records that came in. -/
namespace Go.Proofs.YtelkijiphhoacaaDoor
open Go Go.RowKit

/-- What is told of a record that came in. -/
structure IsR (w : World) (r : Rv) : Prop where
  sl : r.sum.length = 32
  s8 : ∀ x ∈ r.sum, x < 256
  parts : ∃ (po : Option Addr) (c : Nat) (ps : Ps), r.pv = .slice po ps.length c ∧ ps.length ≤ c ∧ (ps = [] ∨ ∃ b o, po = some ⟨b, o, none⟩ ∧ PCells w b o ps)
set_option maxRecDepth 100000 in
theorem take1 {cs : List Value} {k : Nat} {v : Value} (h : (cs.drop k).take 1 = [v]) : cs.drop k = v :: cs.drop (k + 1) := by
  cases hd : cs.drop k with
  | nil => rw [hd] at h; cases h
  | cons a t =>
    rw [hd] at h
    have e : a = v := by simpa using h
    subst e
    have : cs.drop (k + 1) = t := by rw [← List.drop_drop, hd]; rfl
    rw [this]
section
variable {H : Type} {enc : TypeId × Value → H} {w : World} {held : Bool} {fuel : Nat}
set_option maxRecDepth 100000 in
theorem sum_read {cs : List Value} {x : DataW H × List MemPlace} (h : DataW.trod enc Tryd.prog w 0 (fun _ => true) held fuel 57 cs = some x) : ∃ l : List Nat, l.length = 32 ∧ (∀ z ∈ l, z < 256) ∧ cs = l.map u8 := by
  obtain ⟨xs, m, _, _, hcl, hxl, hf⟩ := DataW.trod_array Tryd.underlying57 h
  have h32 : cs.length = 32 := by rw [hcl]; kernel_rfl
  have k5 : Tryd.prog.cellsOf 5 = 1 := by kernel_rfl
  have each : ∀ i, i < 32 → ∃ z : Nat, z < 256 ∧ cs[i]? = some (u8 z) := fun i hi => by
    have h1 := hf i hi
    rw [k5, Nat.mul_one, List.getElem?_eq_getElem (by omega)] at h1
    obtain ⟨z, e, _, wz⟩ := DataW.trod_int Tryd.underlying5 h1
    have hb := bounds8 wz
    refine ⟨z.toNat, by omega, ?_⟩
    have e2 := congrArg (·[0]?) e
    simp only [List.getElem?_take, List.getElem?_drop] at e2
    simp at e2
    rw [e2]; unfold u8; rw [Int.toNat_of_nonneg hb.1]
  refine ⟨(List.range 32).map fun i => if h : i < 32 then (each i h).choose else 0, by simp, fun z hz => ?_, ?_⟩
  · obtain ⟨i, hi, rfl⟩ := List.mem_map.1 hz
    have hi' : i < 32 := by simpa using hi
    simp only [hi', dite_true]
    exact (each i hi').choose_spec.1
  · apply List.ext_getElem?
    intro i
    by_cases hi : i < 32
    · rw [(each i hi).choose_spec.2]
      simp [hi]
    · rw [List.getElem?_eq_none (by omega), List.getElem?_eq_none (by simp; omega)]
set_option maxRecDepth 100000 in
theorem part_read {cs : List Value} {x : DataW H × List MemPlace} (h : DataW.trod enc Tryd.prog w 0 (fun _ => true) held fuel 105 cs = some x) : ∃ a b : Int, cs = [i64 a, i64 b] := by
  obtain ⟨xs, n, _, _, hcl, hxl, hf⟩ := DataW.trod_struct Tryd.underlying105 h
  have h2 : cs.length = 2 := by rw [hcl]; kernel_rfl
  have hx2 : xs.length = 2 := by rw [hxl]; rfl
  have k3 : Tryd.prog.cellsOf 3 = 1 := by kernel_rfl
  match cs, h2, xs, hx2 with
  | [c0, c1], _, [y0, y1], _ =>
    have f0 : DataW.trod enc Tryd.prog w 0 (fun _ => true) held n 3 (([c0, c1].drop 0).take (Tryd.prog.cellsOf 3)) = some y0 := hf 0 _ rfl
    rw [k3] at f0
    have f1 : DataW.trod enc Tryd.prog w 0 (fun _ => true) held n 3 (([c0, c1].drop 1).take (Tryd.prog.cellsOf 3)) = some y1 := hf 1 _ rfl
    rw [k3] at f1
    obtain ⟨z0, e0, _, _⟩ := DataW.trod_int Tryd.underlying3 f0
    obtain ⟨z1, e1, _, _⟩ := DataW.trod_int Tryd.underlying3 f1
    simp at e0 e1
    subst e0 e1
    exact ⟨z0, z1, rfl⟩
set_option maxRecDepth 100000 in
theorem parts_read {cs : List Value} {x : DataW H × List MemPlace} (h : DataW.trod enc Tryd.prog w 0 (fun _ => true) held fuel 58 cs = some x) :
    ∃ (po : Option Addr) (c : Nat) (ps : Ps), cs = [.slice po ps.length c] ∧ ps.length ≤ c ∧ (ps = [] ∨ ∃ b o, po = some ⟨b, o, none⟩ ∧ PCells w b o ps) := by
  have k2 : Tryd.prog.cellsOf 105 = 2 := by kernel_rfl
  rcases DataW.trod_slice Tryd.underlying58 h with ⟨hcs, _⟩ | ⟨ad, l, c, elems, rest, n, _, hcs, _, _, hl, _, hlen, hel, _, _⟩
  · exact ⟨none, 0, [], hcs, Nat.le_refl _, Or.inl rfl⟩
  · rw [k2] at hel
    have each : ∀ i, i < l → ∃ a b : Int, w.cell? ((ad.add (i * 2)).add 0) = some (i64 a) ∧ w.cell? ((ad.add (i * 2)).add 1) = some (i64 b) := fun i hi => by
      have h1 := hel i hi
      rw [List.getElem?_eq_getElem (by omega)] at h1
      obtain ⟨ds, hc1, hc2⟩ := Option.bind_eq_some_iff.1 h1
      obtain ⟨a, b, rfl⟩ := part_read hc2
      obtain ⟨_, _, hcell⟩ := World.cells?_some hc1
      exact ⟨a, b, by rw [hcell 0 (by decide)]; rfl, by rw [hcell 1 (by decide)]; rfl⟩
    by_cases h0 : l = 0
    · subst h0; exact ⟨some ad, c, [], hcs, hl, Or.inl rfl⟩
    obtain ⟨a0, b0, h00, _⟩ := each 0 (by omega)
    rw [Nat.zero_mul, add_zero', add_zero'] at h00
    obtain ⟨b, o, rfl⟩ := plain_at ad w (by rw [h00]; simp)
    have each2 : ∀ i, i < l → ∃ q : Int × Int, w.cell? ⟨b, o + i * 2, none⟩ = some (i64 q.1) ∧ w.cell? ⟨b, o + i * 2 + 1, none⟩ = some (i64 q.2) := fun i hi => by
      obtain ⟨u, v, h1, h2⟩ := each i hi
      rw [add_none, add_none] at h1 h2
      exact ⟨(u, v), h1, h2⟩
    clear each
    refine ⟨_, c, (List.range l).map fun i => if h : i < l then (each2 i h).choose else (0, 0), by rw [hcs]; simp, by simpa using hl, Or.inr ⟨b, o, rfl, fun i hi => ?_⟩⟩
    have hi' : i < l := by simpa using hi
    have e := (each2 i hi').choose_spec
    have eg : ((List.range l).map fun i => if h : i < l then (each2 i h).choose else (0, 0)).getD i (0, 0) = (each2 i hi').choose := by simp [List.getD, hi']
    rw [eg]
    exact e
set_option maxRecDepth 100000 in
theorem rec_read {cs : List Value} {x : DataW H × List MemPlace} (h : DataW.trod enc Tryd.prog w 0 (fun _ => true) held fuel 60 cs = some x) : ∃ r : Rv, IsR w r ∧ cs = r.cs.toList := by
  obtain ⟨xs, n, _, _, hcl, hxl, hf⟩ := DataW.trod_struct Tryd.underlying60 h
  have h42 : cs.length = 42 := by rw [hcl]; kernel_rfl
  have hx : xs.length = 11 := by rw [hxl]; rfl
  have k3 : Tryd.prog.cellsOf 3 = 1 := by kernel_rfl
  have k9 : Tryd.prog.cellsOf 9 = 1 := by kernel_rfl
  have k4 : Tryd.prog.cellsOf 4 = 1 := by kernel_rfl
  have kD : Tryd.prog.cellsOf 57 = 32 := by kernel_rfl
  have kP : Tryd.prog.cellsOf 58 = 1 := by kernel_rfl
  match xs, hx with
  | [y0, y1, y2, y3, y4, y5, y6, y7, y8, y9, y10], _ =>
    have f0 : DataW.trod enc Tryd.prog w 0 (fun _ => true) held n 9 ((cs.drop 0).take (Tryd.prog.cellsOf 9)) = some y0 := hf 0 _ rfl
    have f1 : DataW.trod enc Tryd.prog w 0 (fun _ => true) held n 3 ((cs.drop 1).take (Tryd.prog.cellsOf 3)) = some y1 := hf 1 _ rfl
    have f2 : DataW.trod enc Tryd.prog w 0 (fun _ => true) held n 4 ((cs.drop 2).take (Tryd.prog.cellsOf 4)) = some y2 := hf 2 _ rfl
    have f3 : DataW.trod enc Tryd.prog w 0 (fun _ => true) held n 3 ((cs.drop 3).take (Tryd.prog.cellsOf 3)) = some y3 := hf 3 _ rfl
    have f4 : DataW.trod enc Tryd.prog w 0 (fun _ => true) held n 9 ((cs.drop 4).take (Tryd.prog.cellsOf 9)) = some y4 := hf 4 _ rfl
    have f5 : DataW.trod enc Tryd.prog w 0 (fun _ => true) held n 3 ((cs.drop 5).take (Tryd.prog.cellsOf 3)) = some y5 := hf 5 _ rfl
    have f6 : DataW.trod enc Tryd.prog w 0 (fun _ => true) held n 3 ((cs.drop 6).take (Tryd.prog.cellsOf 3)) = some y6 := hf 6 _ rfl
    have f7 : DataW.trod enc Tryd.prog w 0 (fun _ => true) held n 9 ((cs.drop 7).take (Tryd.prog.cellsOf 9)) = some y7 := hf 7 _ rfl
    have f8 : DataW.trod enc Tryd.prog w 0 (fun _ => true) held n 57 ((cs.drop 8).take (Tryd.prog.cellsOf 57)) = some y8 := hf 8 _ rfl
    have f9 : DataW.trod enc Tryd.prog w 0 (fun _ => true) held n 58 ((cs.drop 40).take (Tryd.prog.cellsOf 58)) = some y9 := hf 9 _ rfl
    have f10 : DataW.trod enc Tryd.prog w 0 (fun _ => true) held n 9 ((cs.drop 41).take (Tryd.prog.cellsOf 9)) = some y10 := hf 10 _ rfl
    rw [k9] at f0 f4 f7 f10
    rw [k3] at f1 f3 f5 f6
    rw [k4] at f2
    rw [kD] at f8
    rw [kP] at f9
    obtain ⟨s0, e0, _, _⟩ := DataW.trod_string Tryd.underlying9 f0
    obtain ⟨z1, e1, _, _⟩ := DataW.trod_int Tryd.underlying3 f1
    obtain ⟨b2, e2, _⟩ := DataW.trod_bool Tryd.underlying4 f2
    obtain ⟨z3, e3, _, _⟩ := DataW.trod_int Tryd.underlying3 f3
    obtain ⟨s4, e4, _, _⟩ := DataW.trod_string Tryd.underlying9 f4
    obtain ⟨z5, e5, _, _⟩ := DataW.trod_int Tryd.underlying3 f5
    obtain ⟨z6, e6, _, _⟩ := DataW.trod_int Tryd.underlying3 f6
    obtain ⟨s7, e7, _, _⟩ := DataW.trod_string Tryd.underlying9 f7
    obtain ⟨l8, hl8, h8, e8⟩ := sum_read f8
    obtain ⟨po, c, ps, e9, hc, hp⟩ := parts_read f9
    obtain ⟨s10, e10, _, _⟩ := DataW.trod_string Tryd.underlying9 f10
    refine ⟨⟨s0, z1, b2, z3, s4, z5, z6, s7, l8, .slice po ps.length c, s10⟩, ⟨hl8, h8, po, c, ps, rfl, hc, hp⟩, ?_⟩
    have d8 : cs.drop 8 = l8.map u8 ++ cs.drop 40 := by
      have := (List.take_append_drop 32 (cs.drop 8)).symm
      rw [e8, List.drop_drop] at this
      exact this
    have d42 : cs.drop 42 = [] := List.drop_of_length_le (by omega)
    rw [Rv.toL]
    have := take1 e0
    rw [List.drop_zero] at this
    rw [this, take1 e1, take1 e2, take1 e3, take1 e4, take1 e5, take1 e6, take1 e7, d8, take1 e9, take1 e10, d42]
    rfl
end
end Go.Proofs.YtelkijiphhoacaaDoor

/- Lists of records in memory. -/
namespace Go.Proofs.YtelkijiphhoacaaDoor
open Go Go.RowKit

theorem RL.len {w : World} {v : Value} {l : List Rp} (h : RL w v l) : l.length ≤ 100000 := by obtain ⟨_, _, _, _, h, _⟩ := h; exact h
end Go.Proofs.YtelkijiphhoacaaDoor

/- journal.Check. -/
namespace Go.Proofs.YtelkijiphhoacaaDoor
open Go Go.RowKit

theorem rangeAt_below {w W : World} {b o : Nat} {cs : List Value} (h : w.rangeAt b o cs) (hb : Below w.heap.size w W) : W.rangeAt b o cs := fun j v hv => by
  have := h j v hv
  rw [World.cell?_of_block (a := ⟨b, o + j, none⟩) (hb.block b (cell_lt' (a := ⟨b, o + j, none⟩) (by rw [this]; simp)))]; exact this
end Go.Proofs.YtelkijiphhoacaaDoor

/- Journals that came in. -/
namespace Go.Proofs.YtelkijiphhoacaaDoor
open Go Go.RowKit

/-- What is told of a record that came in. -/
structure IsP (w : World) (x : Rp) : Prop where
  sl : x.r.sum.length = 32
  s8 : ∀ z ∈ x.r.sum, z < 256
  parts : ∃ (po : Option Addr) (c : Nat), x.r.pv = .slice po x.ps.length c ∧ x.ps.length ≤ c ∧ (po = none → c = 0) ∧ (x.ps = [] ∨ ∃ b o, po = some ⟨b, o, none⟩ ∧ PCells w b o x.ps)
/-- The slice v, which came in, leads to the records l. -/
def IsJ (w : World) (v : Value) (l : List Rp) : Prop := ∃ po c, v = .slice po l.length c ∧ l.length ≤ c ∧ c ≤ maxLen ∧ (po = none → c = 0) ∧ (l = [] ∨ ∃ b o, po = some ⟨b, o, none⟩ ∧ RCells w b o l) ∧ ∀ x ∈ l, IsP w x
theorem IsP.keep {w w' : World} {x : Rp} (h : IsP w x) (hk : ∀ a, w.cell? a ≠ none → w'.cell? a = w.cell? a) : IsP w' x := by
  refine ⟨h.sl, h.s8, ?_⟩
  obtain ⟨po, c, h1, h2, h3, h⟩ := h.parts
  refine ⟨po, c, h1, h2, h3, ?_⟩
  rcases h with h | ⟨b, o, hp, h⟩
  · exact Or.inl h
  · exact Or.inr ⟨b, o, hp, fun i hi => ⟨(hk _ (by rw [(h i hi).1]; simp)).trans (h i hi).1, (hk _ (by rw [(h i hi).2]; simp)).trans (h i hi).2⟩⟩
theorem IsJ.keep {w w' : World} {v : Value} {l : List Rp} (h : IsJ w v l) (hk : ∀ a, w.cell? a ≠ none → w'.cell? a = w.cell? a) : IsJ w' v l := by
  obtain ⟨po, c, h1, h2, h3, h4, h5, h6⟩ := h
  refine ⟨po, c, h1, h2, h3, h4, ?_, fun x hx => (h6 x hx).keep hk⟩
  rcases h5 with h | ⟨b, o, hp, h⟩
  · exact Or.inl h
  · exact Or.inr ⟨b, o, hp, h.keep hk⟩
theorem IsJ.below {w w' : World} {v : Value} {l : List Rp} (h : IsJ w v l) (hb : Below w.heap.size w w') : IsJ w' v l :=
  h.keep fun a ha => World.cell?_of_block (hb.block a.block (cell_lt' ha))
section
variable {H : Type} {enc : TypeId × Value → H} {w : World} {held : Bool} {fuel : Nat}
set_option maxRecDepth 100000 in
theorem rec_nil8 {cs : List Value} {x : DataW H × List MemPlace} (h : DataW.trod enc Tryd.prog w 0 (fun _ => true) held fuel 60 cs = some x) (n c : Nat) (e : cs[40]? = some (.slice none n c)) : c = 0 := by
  obtain ⟨xs, m, _, _, hcl, hxl, hf⟩ := DataW.trod_struct Tryd.underlying60 h
  have hx : xs.length = 11 := by rw [hxl]; rfl
  have kP : Tryd.prog.cellsOf 58 = 1 := by kernel_rfl
  match xs, hx with
  | [y0, y1, y2, y3, y4, y5, y6, y7, y8, y9, y10], _ =>
    have f9 : DataW.trod enc Tryd.prog w 0 (fun _ => true) held m 58 ((cs.drop 40).take (Tryd.prog.cellsOf 58)) = some y9 := hf 9 _ rfl
    rw [kP] at f9
    rcases DataW.trod_slice Tryd.underlying58 f9 with ⟨hcs, _⟩ | ⟨ad, l, c', elems, rest, n', _, hcs, _⟩
    · have e2 := congrArg (·[0]?) hcs
      simp only [List.getElem?_take, List.getElem?_drop] at e2
      rw [show 40 + 0 = 40 from rfl, e] at e2
      simp at e2
      exact e2.2
    · have e2 := congrArg (·[0]?) hcs
      simp only [List.getElem?_take, List.getElem?_drop] at e2
      rw [show 40 + 0 = 40 from rfl, e] at e2
      simp at e2
theorem pv_at8 {r : Rv} (hs : r.sum.length = 32) : r.cs[40]? = some r.pv := by
  unfold Rv.cs
  rw [Array.getElem?_append_right (by simp), Array.getElem?_append_right (by simp [sumC_size, hs])]
  simp [sumC_size, hs]
theorem cs_size8 {r : Rv} (hs : r.sum.length = 32) : r.cs.size = 42 := by simp [Rv.cs, sumC_size, hs]
theorem rec_read8 {cs : List Value} {x : DataW H × List MemPlace} (h : DataW.trod enc Tryd.prog w 0 (fun _ => true) held fuel 60 cs = some x) : ∃ y : Rp, IsP w y ∧ cs = y.r.cs.toList := by
  obtain ⟨r, hr, e⟩ := rec_read h
  obtain ⟨po, c, ps, h1, h2, h3⟩ := hr.parts
  refine ⟨⟨r, ps⟩, ⟨hr.sl, hr.s8, po, c, h1, h2, fun hp => ?_, h3⟩, e⟩
  exact rec_nil8 h ps.length c (by rw [e, Array.getElem?_toList, pv_at8 hr.sl, h1, hp])
end
end Go.Proofs.YtelkijiphhoacaaDoor

/- journal.Same, by slices.EqualFunc and record.Same. -/
namespace Go.Proofs.YtelkijiphhoacaaDoor
open Go Go.RowKit

theorem take_eq_of {α : Type} {l m : List α} {k : Nat} (hl : l.length = m.length) (h : ∀ j, j < k → l[j]? = m[j]?) (hk : l.length ≤ k) : l = m := by
  apply List.ext_getElem?
  intro j
  by_cases hj : j < k
  · exact h j hj
  · rw [List.getElem?_eq_none (by omega), List.getElem?_eq_none (by omega)]
set_option maxRecDepth 100000 in
set_option maxHeartbeats 2000000 in
theorem equalF_any (u v : Value) (l m : List Rp) (w : World) (hl : RL w u l) (hm : RL w v m) : Calls Tryd.prog 29 #[u, v, .func (.func 30) #[] #[]] w fun e w' => e = .returned (.bool (decide (rcs l = rcs m))) ∧ Below w.heap.size w w' := by
  have HL := hid hl
  have HM := hid hm
  have hnl := hl.len
  have hnm := hm.len
  obtain ⟨po, c, rfl, _⟩ := hl
  obtain ⟨qo, d, rfl, _⟩ := hm
  obtain ⟨R, hR⟩ : ∃ R : Bool, decide (rcs l = rcs m) = R := ⟨_, rfl⟩
  rw [hR]
  have HRR := hid hR
  clear hR
  by_cases hlen : l.length = m.length
  · have HLEN := hid hlen
    have hlen' : (l.length : Int) = (m.length : Int) := by omega
    rw [← hlen]
    go_enter Tryd.func29, Tryd.ntmps29
    clear hlen hlen'
    go_wp2
    go_loopg [7, 8, 9, 17] l.length (fun gg _ _ _ s8 wr => ∃ kk : Nat, kk ≤ l.length ∧ l.length - kk ≤ gg ∧ s8 = i64 kk ∧ Hid (Below w.heap.size w wr) ∧ Hid (∀ j, j < kk → (rcs l)[j]? = (rcs m)[j]?))
    case atStart => exact ⟨0, Nat.zero_le _, by omega, rfl, Below.refl _ _, fun j hj => absurd hj (Nat.not_lt_zero _)⟩
    case round =>
      obtain ⟨kk, hkk, hg, rfl, BW, A⟩ := hrel
      by_cases hlt : kk < l.length
      · have hltz : (kk : Int) < (l.length : Int) := by omega
        obtain ⟨b, o, x, e1, hx, hrx, hkx, hox⟩ := HL.out.at BW.out hlt
        have hm2 := HM.out
        obtain ⟨b2, o2, y, e2, hy, hry, hky, hoy⟩ := hm2.at BW.out (k := kk) (by have := HLEN.out; omega)
        subst e1 e2
        have hokx := hkx.ok
        have hoky := hky.ok
        have HRX := hid hrx
        have HRY := hid hry
        have HKX := hid hkx
        have HKY := hid hky
        have HX := hid hx
        have HY := hid hy
        have hsame := fun W (hW : Below wr.heap.size wr W) => same_any x.r y.r hokx hoky x.ps y.ps W (HKX.out.pl.below hW) (HKY.out.pl.below hW)
        obtain ⟨q, hq⟩ : ∃ q : Bool, decide (x.r.rc x.ps = y.r.rc y.ps) = q := ⟨_, rfl⟩
        rw [hq] at hsame
        have HS := hid hsame
        have HQ := hid hq
        clear hrx hry hkx hky hx hy hm2 hsame hq
        have T1 : Hid True := hid trivial
        cases q with
        | true =>
          go_wp2_with (first
            | (clear T1; (with_reducible refine wpList_loadM rfl _ rfl b (o + kk * 42) ?_ x.r hokx HRX.out ?_); exact rfl; have T2 : Hid True := hid trivial)
            | (clear T2; (with_reducible refine wpList_allocR rfl rfl ?_); intro w2 g2 hz2 hb2 hg2; have HZ2 := hid hz2; have HB2 := hid hb2; have HG2 := hid hg2; clear hz2 hb2 hg2)
            | ((with_reducible refine wpList_storeR rfl rfl _ _ rfl g2 ?_ (r := x.r) ?_ zR_ok hokx hox HZ2.out ?_); exact rfl; exact rfl; intro w3 h3 o3; have HO3 := hid (Own1.mk1 HB2.out HG2.out h3 o3); clear h3 o3 HZ2; have HRY3 := hid (rangeAt_below HRY.out HO3.out.below))
            | ((with_reducible refine wpList_loadM rfl _ rfl b2 (o2 + kk * 42) ?_ y.r hoky HRY3.out ?_); exact rfl; have T3 : Hid True := hid trivial)
            | (clear T3; (with_reducible refine wpList_allocR rfl rfl ?_); intro w4 g4 hz4 hb4 hg4; have HZ4 := hid hz4; have HB4 := hid hb4; have HG4 := hid hg4; clear hz4 hb4 hg4)
            | ((with_reducible refine wpList_storeR rfl rfl _ _ rfl g4 ?_ (r := y.r) ?_ zR_ok hoky hoy HZ4.out ?_); exact rfl; exact rfl; intro w5 h5 o5; have HO5 := hid (Own1.mk1 HB4.out HG4.out h5 o5); clear h5 o5 HZ4; have HO6 := hid (HO3.out.on hokx HO5.out.below))
            | ((with_reducible refine wpList_load_at 60 _ rfl ?_ g2 0 ?_ x.r.cs (.struct (Tryd.prog.fieldsOf 60)) ?_ underRec rfl ?_ ?_); exact rfl; exact rfl; exact HO6.out.box.whole; (rw [hokx.size]; exact sizeR))
            | ((with_reducible refine wpList_load_at 60 _ rfl ?_ g4 0 ?_ y.r.cs (.struct (Tryd.prog.fieldsOf 60)) ?_ underRec rfl ?_ ?_); exact rfl; exact rfl; exact HO5.out.box.whole; (rw [hoky.size]; exact sizeR))
            | (go_at_call 30; refine (HS.out _ HO6.out.below).mono ?_; rintro e w7 ⟨rfl, hb7⟩; have HB7 := hid (below_on HO6.out.below hb7); clear hb7))
          go_roundg (l.length - (kk + 1))
          case measure => omega
          case rel =>
            refine ⟨kk + 1, by omega, by omega, by go_num, below_on BW.out HB7.out, (show Hid _ from fun j hj => ?_)⟩
            by_cases e : j = kk
            · subst e
              rw [rcs_get, rcs_get, HX.out, HY.out]
              exact congrArg some (of_decide_eq_true HQ.out)
            · exact A.out j (by omega)
        | false =>
          go_wp2_with (first
            | (clear T1; (with_reducible refine wpList_loadM rfl _ rfl b (o + kk * 42) ?_ x.r hokx HRX.out ?_); exact rfl; have T2 : Hid True := hid trivial)
            | (clear T2; (with_reducible refine wpList_allocR rfl rfl ?_); intro w2 g2 hz2 hb2 hg2; have HZ2 := hid hz2; have HB2 := hid hb2; have HG2 := hid hg2; clear hz2 hb2 hg2)
            | ((with_reducible refine wpList_storeR rfl rfl _ _ rfl g2 ?_ (r := x.r) ?_ zR_ok hokx hox HZ2.out ?_); exact rfl; exact rfl; intro w3 h3 o3; have HO3 := hid (Own1.mk1 HB2.out HG2.out h3 o3); clear h3 o3 HZ2; have HRY3 := hid (rangeAt_below HRY.out HO3.out.below))
            | ((with_reducible refine wpList_loadM rfl _ rfl b2 (o2 + kk * 42) ?_ y.r hoky HRY3.out ?_); exact rfl; have T3 : Hid True := hid trivial)
            | (clear T3; (with_reducible refine wpList_allocR rfl rfl ?_); intro w4 g4 hz4 hb4 hg4; have HZ4 := hid hz4; have HB4 := hid hb4; have HG4 := hid hg4; clear hz4 hb4 hg4)
            | ((with_reducible refine wpList_storeR rfl rfl _ _ rfl g4 ?_ (r := y.r) ?_ zR_ok hoky hoy HZ4.out ?_); exact rfl; exact rfl; intro w5 h5 o5; have HO5 := hid (Own1.mk1 HB4.out HG4.out h5 o5); clear h5 o5 HZ4; have HO6 := hid (HO3.out.on hokx HO5.out.below))
            | ((with_reducible refine wpList_load_at 60 _ rfl ?_ g2 0 ?_ x.r.cs (.struct (Tryd.prog.fieldsOf 60)) ?_ underRec rfl ?_ ?_); exact rfl; exact rfl; exact HO6.out.box.whole; (rw [hokx.size]; exact sizeR))
            | ((with_reducible refine wpList_load_at 60 _ rfl ?_ g4 0 ?_ y.r.cs (.struct (Tryd.prog.fieldsOf 60)) ?_ underRec rfl ?_ ?_); exact rfl; exact rfl; exact HO5.out.box.whole; (rw [hoky.size]; exact sizeR))
            | (go_at_call 30; refine (HS.out _ HO6.out.below).mono ?_; rintro e w7 ⟨rfl, hb7⟩; have HB7 := hid (below_on HO6.out.below hb7); clear hb7))
          go_ret
          refine ⟨?_, below_on BW.out HB7.out⟩
          rw [← HRR.out, decide_eq_false fun e => ?_]
          · rfl
          · have h1 := congrArg (·[kk]?) e
            simp only [rcs_get, HX.out, HY.out, Option.map_some, Option.some.injEq] at h1
            have h2 := of_decide_eq_false HQ.out
            exact h2 h1
      · have hltz : ¬ (kk : Int) < (l.length : Int) := by omega
        go_wp2
        go_ret
        refine ⟨?_, BW.out⟩
        rw [← HRR.out, decide_eq_true (take_eq_of (k := kk) (by rw [rcs_len, rcs_len]; exact HLEN.out) A.out (by rw [rcs_len]; omega))]
        rfl
  · have hlen' : ¬ (l.length : Int) = (m.length : Int) := by omega
    go_enter Tryd.func29, Tryd.ntmps29
    go_wp2
    go_ret
    refine ⟨?_, Below.refl _ _⟩
    rw [← HRR.out, decide_eq_false fun e => hlen (by have := congrArg List.length e; rwa [rcs_len, rcs_len] at this)]
    rfl
end Go.Proofs.YtelkijiphhoacaaDoor

/- journal.Same and begins; slices.Clone of records; clone. -/
namespace Go.Proofs.YtelkijiphhoacaaDoor
open Go Go.RowKit

set_option maxRecDepth 100000 in
set_option maxHeartbeats 1000000 in
theorem jsame_any (s t : Int) (u v : Value) (l m : List Rp) (w : World) (hl : RL w u l) (hm : RL w v m) : Calls Tryd.prog 13 #[.agg (jC s u), .agg (jC t v)] w fun e w' => e = .returned (.bool (decide ((⟨s, rcs l⟩ : Jr) = ⟨t, rcs m⟩))) ∧ Below w.heap.size w w' := by
  have HL := hid hl
  have HM := hid hm
  obtain ⟨po, c, rfl, _⟩ := hl
  obtain ⟨qo, d, rfl, _⟩ := hm
  have hE := fun W (hW : Below w.heap.size w W) => equalF_any _ _ l m W (HL.out.below hW) (HM.out.below hW)
  obtain ⟨R, hR⟩ : ∃ R : Bool, decide ((⟨s, rcs l⟩ : Jr) = ⟨t, rcs m⟩) = R := ⟨_, rfl⟩
  rw [hR]
  obtain ⟨q, hq⟩ : ∃ q : Bool, decide (rcs l = rcs m) = q := ⟨_, rfl⟩
  rw [hq] at hE
  have HE := hid hE
  have HQ := hid hq
  have HRR := hid hR
  clear hR hq hE
  have T1 : Hid True := hid trivial
  have T2 : Hid True := hid trivial
  by_cases hst : s = t
  · subst hst
    go_enter Tryd.func13, Tryd.ntmps13
    go_wp2_with (first
      | (clear T1; (with_reducible refine wpList_boxT 24 rfl _ rfl (jC s (.slice po l.length c)) ?_ ?_); exact rfl; intro w1 g1 hc1 hb1 hg1; have HC1 := hid hc1; have HB1 := hid hb1; clear hb1 hc1)
      | (clear T2; (with_reducible refine wpList_boxT 24 rfl _ rfl (jC s (.slice qo m.length d)) ?_ ?_); exact rfl; intro w2 g2 hc2 hb2 hg2; have d0 := hc2.j0; have d1 := hc2.j1; have c0 := (HC1.out.below hb2).j0; have c1 := (HC1.out.below hb2).j1; have HB2 := hid (below_on HB1.out hb2); clear hb2 hc2)
      | (go_at_call 29; refine (HE.out _ HB2.out).mono ?_; rintro e w3 ⟨rfl, hb3⟩; have HB3 := hid (below_on HB2.out hb3); clear hb3))
    go_ret
    refine ⟨?_, HB3.out⟩
    rw [← HRR.out, ← HQ.out]
    simp
  · go_enter Tryd.func13, Tryd.ntmps13
    go_wp2_with (first
      | (clear T1; (with_reducible refine wpList_boxT 24 rfl _ rfl (jC s (.slice po l.length c)) ?_ ?_); exact rfl; intro w1 g1 hc1 hb1 hg1; have HC1 := hid hc1; have HB1 := hid hb1; clear hb1 hc1)
      | (clear T2; (with_reducible refine wpList_boxT 24 rfl _ rfl (jC t (.slice qo m.length d)) ?_ ?_); exact rfl; intro w2 g2 hc2 hb2 hg2; have d0 := hc2.j0; have d1 := hc2.j1; have c0 := (HC1.out.below hb2).j0; have c1 := (HC1.out.below hb2).j1; have HB2 := hid (below_on HB1.out hb2); clear hb2 hc2))
    go_ret
    refine ⟨?_, HB2.out⟩
    rw [← HRR.out]
    simp [hst]
end Go.Proofs.YtelkijiphhoacaaDoor

/- Which of the drives' journals counts. Mathematics alone. -/
namespace Go.Proofs.YtelkijiphhoacaaDoor

section
variable (D : List Nat → List Nat)
variable {D}
/-- A journal that leads counts. -/
theorem el_leads {l : List Cp} {c0 : Cp} (h0 : c0 ∈ l) {j0 : Jr} (hj : hasJ D c0 = some j0) (hl : ∀ c ∈ l, c.b ≠ c0.b → ∀ j, hasJ D c = some j → j.seq < j0.seq ∨ j.seq = j0.seq ∧ votC l c.b < votC l c0.b) : elC D l = some (j0, c0.b, votC l c0.b) := by
  obtain ⟨j, b, n, e, hm⟩ := el_max h0 hj
  obtain ⟨hn, c, hc, hcj, hcb⟩ := el_mem e
  by_cases hb : c.b = c0.b
  · have ej : j = j0 := by
      have h1 := (has_err hcj).2
      have h2 := (has_err hj).2
      rw [hb, h2] at h1
      cases h1; rfl
    rw [e, hn, ← hcb, hb, ej]
  · have := hl c hc hb j hcj
    rw [hn, ← hcb] at hm
    unfold leC at hm
    simp only at hm
    omega
end
end Go.Proofs.YtelkijiphhoacaaDoor

/- Which of the drives' journals counts, by the list of those that drives have, as the program goes; and what Elect and Behind tell. Mathematics alone. -/
namespace Go.Proofs.YtelkijiphhoacaaDoor

section
variable (D : List Nat → List Nat)
variable {D}
end

/-- What Behind tells: the error, and of each drive whether it is. -/
def behE (l : List Cp) (f : Bool) (h : List Bool) : Nat × List Bool :=
  if 16 < l.length ∨ h.length ≠ l.length then (2, []) else
  (0, (List.range l.length).map fun i => f && (match l[i]? with | some c => ansC c | none => false) && !(h.getD i false))
end Go.Proofs.YtelkijiphhoacaaDoor

/- tally.Elect, whatever way it goes; tally.Behind. -/
namespace Go.Proofs.YtelkijiphhoacaaDoor
open Go Go.RowKit

/-- What is carried through Behind. -/
structure B7 (w : World) (g3 gb n : Nat) (D : Array Value) (F : Nat → Bool) (W : World) : Prop where
  below : Below w.heap.size w W
  c3 : CAt W g3 D 40
  bh : BoF W gb n F
  lb : w.heap.size ≤ gb
theorem B7.on {w W W' : World} {g3 gb n : Nat} {D : Array Value} {F : Nat → Bool} (h : B7 w g3 gb n D F W) (hb : Below W.heap.size W W') : B7 w g3 gb n D F W' := ⟨below_on h.below hb, h.c3.below hb, h.bh.below hb, h.lb⟩
theorem B7.next {w W : World} {g3 gb n kk : Nat} {D : Array Value} {G : Nat → Bool} (h : B7 w g3 gb n D (fun i => if i < kk then G i else false) W) {x : Bool} (hx : G kk = x) : B7 w g3 gb n D (fun i => if i < kk + 1 then G i else false) (W.setCell ⟨gb, kk, none⟩ (.bool x)) := by
  refine ⟨below_tr h.below ((Only.set (S := fun b => b = gb) W ⟨gb, kk, none⟩ (.bool x) rfl).below h.below.size (fun i e => by have := h.lb; omega)), h.c3.keep (heap_setCell_ne _ _ _ _ (CAt.apart h.c3 (h.bh : CAt W gb _ 4) (by decide))), (h.bh.set kk x).congr (fun i _ => ?_), h.lb⟩
  show (if i = kk then x else if i < kk then G i else false) = if i < kk + 1 then G i else false
  by_cases e : i = kk
  · subst e; rw [if_pos rfl, if_pos (by omega), hx]
  · rw [if_neg e]
    by_cases h2 : i < kk
    · rw [if_pos h2, if_pos (by omega)]
    · rw [if_neg h2, if_neg (by omega)]
def behF (l : List Cp) (f : Bool) (hs : List Bool) (i : Nat) : Bool := f && (match l[i]? with | some c => ansC c | none => false) && !(hs.getD i false)
theorem behF_at {l : List Cp} {f : Bool} {hs : List Bool} {i : Nat} {c : Cp} {x : Bool} (h : l[i]? = some c) (hx : hs[i]? = some x) : behF l f hs i = (f && ansC c && !x) := by unfold behF; rw [h, List.getD_eq_getElem?_getD, hx]; rfl
/-- What Behind tells. -/
def BeS (w : World) (r : Nat × List Bool) (e : Ending) (w' : World) : Prop := ∃ b, e = .returned (.tuple #[b, i64 r.1]) ∧ BoL w' b r.2 ∧ Below w.heap.size w w'
set_option maxRecDepth 100000 in
set_option maxHeartbeats 4000000 in
theorem behind_any (v : Value) (l : List Cv) (f : Bool) (s : Int) (rv bv hv : Value) (an vo : Int) (hs : List Bool) (w : World) (hl : CL w v l) (hh : BoL w hv hs) (hhn : hs.length ≤ 100000) : Calls Tryd.prog 15 #[v, .agg (eC f s rv bv hv an vo)] w (BeS w (behE (cps l) f hs)) := by
  have HL := hid hl
  have HH := hid hh
  obtain ⟨po, c, rfl, hc1, hn, -⟩ := hl
  obtain ⟨ph, ch, rfl, -, -⟩ := hh
  obtain ⟨n, hN⟩ : ∃ n, l.length = n := ⟨_, rfl⟩
  have HN := hid hN
  unfold behE
  rw [cps_len, hN]
  rw [hN] at hn HL
  obtain ⟨N2, hN2⟩ : ∃ N2, hs.length = N2 := ⟨_, rfl⟩
  have HN2 := hid hN2
  rw [hN2] at hhn HH ⊢
  obtain ⟨CC, hCC⟩ : ∃ CC, eC f s rv bv (.slice ph N2 ch) an vo = CC := ⟨_, rfl⟩
  have hCb : ∀ W g, CAt W g CC 40 → W.cell? ⟨g, 0, none⟩ = some (.bool f) ∧ W.cell? ⟨g, 4, none⟩ = some (.slice ph N2 ch) := fun W g h => by subst hCC; exact ⟨h.cell 0, h.cell 4⟩
  have HCB := hid hCb
  rw [hCC]
  clear hN hc1 hN2 hCC hCb
  by_cases h16 : (16 : Int) < (n : Int)
  · rw [if_pos (Or.inl (by omega))]
    go_enter Tryd.func15, Tryd.ntmps15
    go_wp2_with ((with_reducible refine wpList_boxT 40 rfl _ rfl CC ?_ ?_); exact rfl; intro w1 g3 hc1 hb1 hg1; have HB1 := hid hb1; clear hb1 hc1 hg1)
    go_ret2
    exact ⟨_, rfl, BoL.nil _, HB1.out⟩
  · by_cases hne : N2 = n
    · rw [if_neg (by rintro (e | e); · omega
                     · exact e hne)]
      subst hne
      have hnn : ((N2 : Int) != (N2 : Int)) = false := by simp
      have hmk := run_make_b N2 (by omega)
      go_enter Tryd.func15, Tryd.ntmps15
      go_wp2_with ((with_reducible refine wpList_boxT 40 rfl _ rfl CC ?_ ?_); exact rfl; intro w1 g3 hc1 hb1 hg1; have k0 := (HCB.out _ _ hc1).1; have k4 := (HCB.out _ _ hc1).2; have HF : Hid (B7 w g3 w1.heap.size N2 CC (fun _ => false) (w1.alloc (.cells (madeCells #[.bool false] N2) 4))) := hid ⟨below_on hb1 (below_al w1 _), hc1.below (below_al w1 _), BoF.made w1 N2, hb1.size⟩; clear hb1 hc1 hg1)
      go_loopg [25] N2 (fun gg s25 wr => ∃ kk : Nat, kk ≤ N2 ∧ N2 - kk ≤ gg ∧ s25 = i64 kk ∧ Hid (B7 w g3 w1.heap.size N2 CC (fun i => if i < kk then behF (cps l) f hs i else false) wr))
      case atStart => exact ⟨0, Nat.zero_le _, by omega, rfl, hid ⟨HF.out.below, HF.out.c3, HF.out.bh.congr (fun i _ => by simp), HF.out.lb⟩⟩
      case round =>
        obtain ⟨kk, hkk, hg, rfl, HW⟩ := hrel
        clear k0 k4
        by_cases hlt : kk < N2
        · have hltz : (kk : Int) < (N2 : Int) := by omega
          obtain ⟨x, hx⟩ : ∃ x, l[kk]? = some x := ⟨_, List.getElem?_eq_getElem (by have := HN.out; omega)⟩
          obtain ⟨b, o, c', e, -⟩ := HL.out.where hx
          rw [HN.out] at e
          cases e
          obtain ⟨p1, m1, c1, -, -, hcl, -⟩ := HL.out.load HW.out.below hx
          obtain ⟨h0, hh0⟩ : ∃ h0, hs[kk]? = some h0 := ⟨_, List.getElem?_eq_getElem (by have := HN2.out; omega)⟩
          have HHS := HH.out
          rw [← HN2.out] at HHS
          obtain ⟨bh, oh, ch', eh⟩ := HHS.some (by have := HN2.out; omega)
          cases eh
          have HHK : Hid (∀ W, Below wr.heap.size wr W → W.cell? ⟨bh, oh + kk, none⟩ = some (.bool h0)) := hid (fun W hW => HHS.at (below_on HW.out.below hW) hh0)
          have HX : Hid (behF (cps l) f hs kk = (f && ansC x.cp && !h0)) := hid (behF_at (by rw [cps_get, hx]; rfl) hh0)
          have HCL := hid hcl
          have HAN := hid (answers_any x.err (.slice p1 m1 c1))
          rw [← ansC_eq] at HAN
          generalize x.err = E at HCL HAN
          clear hcl hx hh0 HHS
          have T1 : Hid True := hid trivial
          cases f with
          | false =>
            have HX : Hid (behF (cps l) false hs kk = false) := hid (by rw [HX.out]; rfl)
            go_wp2_with (first
              | (clear T1; (with_reducible refine wpList_load_at 36 _ rfl ?_ b (o + kk * 2) ?_ (cC E (.slice p1 m1 c1)) _ ?_ underCp rfl ?_ ?_); exact rfl; exact rfl; exact HCL.out; exact sizeCp)
              | ((with_reducible refine wpList_allocX 36 _ zeroCp rfl rfl ?_); intro w10 g12 hz2 hb2 hg2; have HZ2 := hid hz2; have HB2 := hid hb2; have HG2 := hid hg2; clear hz2 hb2 hg2)
              | ((with_reducible refine wpList_storeX 36 2 sizeCp rfl rfl _ _ rfl g12 ?_ (D := cC E (.slice p1 m1 c1)) ?_ ?_ ?_ ?_ HZ2.out ?_); exact rfl; exact rfl; exact rfl; exact rfl; exact cC_one _ _ _ _; intro w11 h11 o11; have hb11 := ownX HB2.out HG2.out o11; have HC11 := hid h11; have HW11 := hid (HW.out.on hb11); have k0 := (HCB.out _ _ HW11.out.c3).1; have k4 := (HCB.out _ _ HW11.out.c3).2; have k5 := HW11.out.bh.cell hlt; have k6 := HW11.out.bh.free kk; have k7 := HHK.out _ hb11; rw [if_neg (Nat.lt_irrefl _)] at k5; have HB11 := hid hb11; clear h11 o11 HZ2 HB2 HG2 hb11)
              | ((with_reducible refine wpList_load_at 36 _ rfl ?_ g12 0 ?_ (cC E (.slice p1 m1 c1)) _ ?_ underCp rfl ?_ ?_); exact rfl; exact rfl; exact HC11.out.whole; exact sizeCp)
              | (go_at_call 31; refine (HAN.out _).mono ?_; rintro e w12 ⟨rfl, hb12⟩; replace HB11 := hid (below_on HB11.out hb12); replace HW11 := hid (HW11.out.on hb12); clear k0 k4 k5 k6 k7; have k0 := (HCB.out _ _ HW11.out.c3).1; have k4 := (HCB.out _ _ HW11.out.c3).2; have k5 := HW11.out.bh.cell hlt; have k6 := HW11.out.bh.free kk; have k7 := HHK.out _ HB11.out; rw [if_neg (Nat.lt_irrefl _)] at k5; clear hb12))
            go_roundg (N2 - (kk + 1))
            case measure => omega
            case rel => exact ⟨kk + 1, by omega, by omega, by go_num, hid (HW11.out.next HX.out)⟩
          | true =>
            cases ha : ansC x.cp with
            | false =>
              have HX : Hid (behF (cps l) true hs kk = false) := hid (by rw [HX.out, ha]; rfl)
              rw [ha] at HAN
              go_wp2_with (first
                | (clear T1; (with_reducible refine wpList_load_at 36 _ rfl ?_ b (o + kk * 2) ?_ (cC E (.slice p1 m1 c1)) _ ?_ underCp rfl ?_ ?_); exact rfl; exact rfl; exact HCL.out; exact sizeCp)
                | ((with_reducible refine wpList_allocX 36 _ zeroCp rfl rfl ?_); intro w10 g12 hz2 hb2 hg2; have HZ2 := hid hz2; have HB2 := hid hb2; have HG2 := hid hg2; clear hz2 hb2 hg2)
                | ((with_reducible refine wpList_storeX 36 2 sizeCp rfl rfl _ _ rfl g12 ?_ (D := cC E (.slice p1 m1 c1)) ?_ ?_ ?_ ?_ HZ2.out ?_); exact rfl; exact rfl; exact rfl; exact rfl; exact cC_one _ _ _ _; intro w11 h11 o11; have hb11 := ownX HB2.out HG2.out o11; have HC11 := hid h11; have HW11 := hid (HW.out.on hb11); have k0 := (HCB.out _ _ HW11.out.c3).1; have k4 := (HCB.out _ _ HW11.out.c3).2; have k5 := HW11.out.bh.cell hlt; have k6 := HW11.out.bh.free kk; have k7 := HHK.out _ hb11; rw [if_neg (Nat.lt_irrefl _)] at k5; have HB11 := hid hb11; clear h11 o11 HZ2 HB2 HG2 hb11)
                | ((with_reducible refine wpList_load_at 36 _ rfl ?_ g12 0 ?_ (cC E (.slice p1 m1 c1)) _ ?_ underCp rfl ?_ ?_); exact rfl; exact rfl; exact HC11.out.whole; exact sizeCp)
                | (go_at_call 31; refine (HAN.out _).mono ?_; rintro e w12 ⟨rfl, hb12⟩; replace HB11 := hid (below_on HB11.out hb12); replace HW11 := hid (HW11.out.on hb12); clear k0 k4 k5 k6 k7; have k0 := (HCB.out _ _ HW11.out.c3).1; have k4 := (HCB.out _ _ HW11.out.c3).2; have k5 := HW11.out.bh.cell hlt; have k6 := HW11.out.bh.free kk; have k7 := HHK.out _ HB11.out; rw [if_neg (Nat.lt_irrefl _)] at k5; clear hb12))
              go_roundg (N2 - (kk + 1))
              case measure => omega
              case rel => exact ⟨kk + 1, by omega, by omega, by go_num, hid (HW11.out.next HX.out)⟩
            | true =>
              rw [ha] at HAN
              cases h0 with
              | false =>
                have HX : Hid (behF (cps l) true hs kk = true) := hid (by rw [HX.out, ha]; rfl)
                go_wp2_with (first
                  | (clear T1; (with_reducible refine wpList_load_at 36 _ rfl ?_ b (o + kk * 2) ?_ (cC E (.slice p1 m1 c1)) _ ?_ underCp rfl ?_ ?_); exact rfl; exact rfl; exact HCL.out; exact sizeCp)
                  | ((with_reducible refine wpList_allocX 36 _ zeroCp rfl rfl ?_); intro w10 g12 hz2 hb2 hg2; have HZ2 := hid hz2; have HB2 := hid hb2; have HG2 := hid hg2; clear hz2 hb2 hg2)
                  | ((with_reducible refine wpList_storeX 36 2 sizeCp rfl rfl _ _ rfl g12 ?_ (D := cC E (.slice p1 m1 c1)) ?_ ?_ ?_ ?_ HZ2.out ?_); exact rfl; exact rfl; exact rfl; exact rfl; exact cC_one _ _ _ _; intro w11 h11 o11; have hb11 := ownX HB2.out HG2.out o11; have HC11 := hid h11; have HW11 := hid (HW.out.on hb11); have k0 := (HCB.out _ _ HW11.out.c3).1; have k4 := (HCB.out _ _ HW11.out.c3).2; have k5 := HW11.out.bh.cell hlt; have k6 := HW11.out.bh.free kk; have k7 := HHK.out _ hb11; rw [if_neg (Nat.lt_irrefl _)] at k5; have HB11 := hid hb11; clear h11 o11 HZ2 HB2 HG2 hb11)
                  | ((with_reducible refine wpList_load_at 36 _ rfl ?_ g12 0 ?_ (cC E (.slice p1 m1 c1)) _ ?_ underCp rfl ?_ ?_); exact rfl; exact rfl; exact HC11.out.whole; exact sizeCp)
                  | (go_at_call 31; refine (HAN.out _).mono ?_; rintro e w12 ⟨rfl, hb12⟩; replace HB11 := hid (below_on HB11.out hb12); replace HW11 := hid (HW11.out.on hb12); clear k0 k4 k5 k6 k7; have k0 := (HCB.out _ _ HW11.out.c3).1; have k4 := (HCB.out _ _ HW11.out.c3).2; have k5 := HW11.out.bh.cell hlt; have k6 := HW11.out.bh.free kk; have k7 := HHK.out _ HB11.out; rw [if_neg (Nat.lt_irrefl _)] at k5; clear hb12))
                go_roundg (N2 - (kk + 1))
                case measure => omega
                case rel => exact ⟨kk + 1, by omega, by omega, by go_num, hid (HW11.out.next HX.out)⟩
              | true =>
                have HX : Hid (behF (cps l) true hs kk = false) := hid (by rw [HX.out, ha]; rfl)
                go_wp2_with (first
                  | (clear T1; (with_reducible refine wpList_load_at 36 _ rfl ?_ b (o + kk * 2) ?_ (cC E (.slice p1 m1 c1)) _ ?_ underCp rfl ?_ ?_); exact rfl; exact rfl; exact HCL.out; exact sizeCp)
                  | ((with_reducible refine wpList_allocX 36 _ zeroCp rfl rfl ?_); intro w10 g12 hz2 hb2 hg2; have HZ2 := hid hz2; have HB2 := hid hb2; have HG2 := hid hg2; clear hz2 hb2 hg2)
                  | ((with_reducible refine wpList_storeX 36 2 sizeCp rfl rfl _ _ rfl g12 ?_ (D := cC E (.slice p1 m1 c1)) ?_ ?_ ?_ ?_ HZ2.out ?_); exact rfl; exact rfl; exact rfl; exact rfl; exact cC_one _ _ _ _; intro w11 h11 o11; have hb11 := ownX HB2.out HG2.out o11; have HC11 := hid h11; have HW11 := hid (HW.out.on hb11); have k0 := (HCB.out _ _ HW11.out.c3).1; have k4 := (HCB.out _ _ HW11.out.c3).2; have k5 := HW11.out.bh.cell hlt; have k6 := HW11.out.bh.free kk; have k7 := HHK.out _ hb11; rw [if_neg (Nat.lt_irrefl _)] at k5; have HB11 := hid hb11; clear h11 o11 HZ2 HB2 HG2 hb11)
                  | ((with_reducible refine wpList_load_at 36 _ rfl ?_ g12 0 ?_ (cC E (.slice p1 m1 c1)) _ ?_ underCp rfl ?_ ?_); exact rfl; exact rfl; exact HC11.out.whole; exact sizeCp)
                  | (go_at_call 31; refine (HAN.out _).mono ?_; rintro e w12 ⟨rfl, hb12⟩; replace HB11 := hid (below_on HB11.out hb12); replace HW11 := hid (HW11.out.on hb12); clear k0 k4 k5 k6 k7; have k0 := (HCB.out _ _ HW11.out.c3).1; have k4 := (HCB.out _ _ HW11.out.c3).2; have k5 := HW11.out.bh.cell hlt; have k6 := HW11.out.bh.free kk; have k7 := HHK.out _ HB11.out; rw [if_neg (Nat.lt_irrefl _)] at k5; clear hb12))
                go_roundg (N2 - (kk + 1))
                case measure => omega
                case rel => exact ⟨kk + 1, by omega, by omega, by go_num, hid (HW11.out.next HX.out)⟩
        · have hltz : ¬ (kk : Int) < (N2 : Int) := by omega
          have HKN : Hid (kk = N2) := hid (by omega)
          go_wp2
          go_ret2
          refine ⟨_, rfl, HW.out.bh.bol (by simp) (fun i x hx => ?_), HW.out.below⟩
          simp only [List.getElem?_map] at hx
          obtain ⟨i', hi', rfl⟩ := Option.map_eq_some_iff.1 hx
          obtain ⟨h1, h2⟩ := List.getElem?_eq_some_iff.1 hi'
          simp at h1 h2
          subst h2
          show (if i < kk then _ else _) = _
          rw [if_pos (by rw [HKN.out]; exact h1)]
          rfl
    · rw [if_pos (Or.inr hne)]
      have hnn : ((N2 : Int) != (n : Int)) = true := by simp; omega
      go_enter Tryd.func15, Tryd.ntmps15
      go_wp2_with ((with_reducible refine wpList_boxT 40 rfl _ rfl CC ?_ ?_); exact rfl; intro w1 g3 hc1 hb1 hg1; have k4 := (HCB.out _ _ hc1).2; have HB1 := hid hb1; clear hb1 hc1 hg1)
      go_ret2
      exact ⟨_, rfl, BoL.nil _, HB1.out⟩
end Go.Proofs.YtelkijiphhoacaaDoor

/- The chapter's examples: mathematics; of; lists of three copies; awake. -/
namespace Go.Proofs.YtelkijiphhoacaaDoor
open Go Go.RowKit

theorem Tryd.infoCp : (Tryd.prog.info? 36).map (fun i => (i.zero, i.size, i.bytes)) = some (some (.agg (cC 0 (.slice none 0 0))), 2, 32) := by kernel_rfl
end Go.Proofs.YtelkijiphhoacaaDoor
