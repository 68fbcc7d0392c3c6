/- Records that came in. -/
import Derived.Test.YtepkpkbgmchioaaWt
namespace Go.Proofs.Ytepkpkbgmchioaa
open Go Go.RowKit

/-- What is told of a record that came in. -/
structure IsR (w : World) (r : Rv) : Prop where
  sl : r.sum.length = 32
  s8 : ∀ x ∈ r.sum, x < 256
  parts : ∃ (po : Option Addr) (c : Nat) (ps : Ps), r.pv = .slice po ps.length c ∧ ps.length ≤ c ∧ (ps = [] ∨ ∃ b o, po = some ⟨b, o, none⟩ ∧ PCells w b o ps)
theorem take1 {cs : List Value} {k : Nat} {v : Value} (h : (cs.drop k).take 1 = [v]) : cs.drop k = v :: cs.drop (k + 1) := by
  cases hd : cs.drop k with
  | nil => rw [hd] at h; cases h
  | cons a t =>
    rw [hd] at h
    have e : a = v := by simpa using h
    subst e
    have : cs.drop (k + 1) = t := by rw [← List.drop_drop, hd]; rfl
    rw [this]
section
variable {H : Type} {enc : TypeId × Value → H} {w : World} {held : Bool} {fuel : Nat}
theorem sum_read {cs : List Value} {x : DataW H × List MemPlace} (h : DataW.trod enc Try.prog w 0 (fun _ => true) held fuel 42 cs = some x) : ∃ l : List Nat, l.length = 32 ∧ (∀ z ∈ l, z < 256) ∧ cs = l.map u8 := by
  obtain ⟨xs, m, _, _, hcl, hxl, hf⟩ := DataW.trod_array Try.underlying42 h
  have h32 : cs.length = 32 := by rw [hcl]; kernel_rfl
  have k5 : Try.prog.cellsOf 5 = 1 := by kernel_rfl
  have each : ∀ i, i < 32 → ∃ z : Nat, z < 256 ∧ cs[i]? = some (u8 z) := fun i hi => by
    have h1 := hf i hi
    rw [k5, Nat.mul_one, List.getElem?_eq_getElem (by omega)] at h1
    obtain ⟨z, e, _, wz⟩ := DataW.trod_int Try.underlying5 h1
    have hb := bounds8 wz
    refine ⟨z.toNat, by omega, ?_⟩
    have e2 := congrArg (·[0]?) e
    simp only [List.getElem?_take, List.getElem?_drop] at e2
    simp at e2
    rw [e2]; unfold u8; rw [Int.toNat_of_nonneg hb.1]
  refine ⟨(List.range 32).map fun i => if h : i < 32 then (each i h).choose else 0, by simp, fun z hz => ?_, ?_⟩
  · obtain ⟨i, hi, rfl⟩ := List.mem_map.1 hz
    have hi' : i < 32 := by simpa using hi
    simp only [hi', dite_true]
    exact (each i hi').choose_spec.1
  · apply List.ext_getElem?
    intro i
    by_cases hi : i < 32
    · rw [(each i hi).choose_spec.2]
      simp [hi]
    · rw [List.getElem?_eq_none (by omega), List.getElem?_eq_none (by simp; omega)]
theorem part_read {cs : List Value} {x : DataW H × List MemPlace} (h : DataW.trod enc Try.prog w 0 (fun _ => true) held fuel 53 cs = some x) : ∃ a b : Int, cs = [i64 a, i64 b] := by
  obtain ⟨xs, n, _, _, hcl, hxl, hf⟩ := DataW.trod_struct Try.underlying53 h
  have h2 : cs.length = 2 := by rw [hcl]; kernel_rfl
  have hx2 : xs.length = 2 := by rw [hxl]; rfl
  have k3 : Try.prog.cellsOf 3 = 1 := by kernel_rfl
  match cs, h2, xs, hx2 with
  | [c0, c1], _, [y0, y1], _ =>
    have f0 : DataW.trod enc Try.prog w 0 (fun _ => true) held n 3 (([c0, c1].drop 0).take (Try.prog.cellsOf 3)) = some y0 := hf 0 _ rfl
    rw [k3] at f0
    have f1 : DataW.trod enc Try.prog w 0 (fun _ => true) held n 3 (([c0, c1].drop 1).take (Try.prog.cellsOf 3)) = some y1 := hf 1 _ rfl
    rw [k3] at f1
    obtain ⟨z0, e0, _, _⟩ := DataW.trod_int Try.underlying3 f0
    obtain ⟨z1, e1, _, _⟩ := DataW.trod_int Try.underlying3 f1
    simp at e0 e1
    subst e0 e1
    exact ⟨z0, z1, rfl⟩
theorem parts_read {cs : List Value} {x : DataW H × List MemPlace} (h : DataW.trod enc Try.prog w 0 (fun _ => true) held fuel 43 cs = some x) :
    ∃ (po : Option Addr) (c : Nat) (ps : Ps), cs = [.slice po ps.length c] ∧ ps.length ≤ c ∧ (ps = [] ∨ ∃ b o, po = some ⟨b, o, none⟩ ∧ PCells w b o ps) := by
  have k2 : Try.prog.cellsOf 53 = 2 := by kernel_rfl
  rcases DataW.trod_slice Try.underlying43 h with ⟨hcs, _⟩ | ⟨ad, l, c, elems, rest, n, _, hcs, _, _, hl, _, hlen, hel, _, _⟩
  · exact ⟨none, 0, [], hcs, Nat.le_refl _, Or.inl rfl⟩
  · rw [k2] at hel
    have each : ∀ i, i < l → ∃ a b : Int, w.cell? ((ad.add (i * 2)).add 0) = some (i64 a) ∧ w.cell? ((ad.add (i * 2)).add 1) = some (i64 b) := fun i hi => by
      have h1 := hel i hi
      rw [List.getElem?_eq_getElem (by omega)] at h1
      obtain ⟨ds, hc1, hc2⟩ := Option.bind_eq_some_iff.1 h1
      obtain ⟨a, b, rfl⟩ := part_read hc2
      obtain ⟨_, _, hcell⟩ := World.cells?_some hc1
      exact ⟨a, b, by rw [hcell 0 (by decide)]; rfl, by rw [hcell 1 (by decide)]; rfl⟩
    by_cases h0 : l = 0
    · subst h0; exact ⟨some ad, c, [], hcs, hl, Or.inl rfl⟩
    obtain ⟨a0, b0, h00, _⟩ := each 0 (by omega)
    rw [Nat.zero_mul, add_zero', add_zero'] at h00
    obtain ⟨b, o, rfl⟩ := plain_at ad w (by rw [h00]; simp)
    have each2 : ∀ i, i < l → ∃ q : Int × Int, w.cell? ⟨b, o + i * 2, none⟩ = some (i64 q.1) ∧ w.cell? ⟨b, o + i * 2 + 1, none⟩ = some (i64 q.2) := fun i hi => by
      obtain ⟨u, v, h1, h2⟩ := each i hi
      rw [add_none, add_none] at h1 h2
      exact ⟨(u, v), h1, h2⟩
    clear each
    refine ⟨_, c, (List.range l).map fun i => if h : i < l then (each2 i h).choose else (0, 0), by rw [hcs]; simp, by simpa using hl, Or.inr ⟨b, o, rfl, fun i hi => ?_⟩⟩
    have hi' : i < l := by simpa using hi
    have e := (each2 i hi').choose_spec
    have eg : ((List.range l).map fun i => if h : i < l then (each2 i h).choose else (0, 0)).getD i (0, 0) = (each2 i hi').choose := by simp [List.getD, hi']
    rw [eg]
    exact e
set_option maxRecDepth 100000 in
theorem rec_read {cs : List Value} {x : DataW H × List MemPlace} (h : DataW.trod enc Try.prog w 0 (fun _ => true) held fuel 45 cs = some x) : ∃ r : Rv, IsR w r ∧ cs = r.cs.toList := by
  obtain ⟨xs, n, _, _, hcl, hxl, hf⟩ := DataW.trod_struct Try.underlying45 h
  have h42 : cs.length = 42 := by rw [hcl]; kernel_rfl
  have hx : xs.length = 11 := by rw [hxl]; rfl
  have k3 : Try.prog.cellsOf 3 = 1 := by kernel_rfl
  have k9 : Try.prog.cellsOf 9 = 1 := by kernel_rfl
  have k4 : Try.prog.cellsOf 4 = 1 := by kernel_rfl
  have kD : Try.prog.cellsOf 42 = 32 := by kernel_rfl
  have kP : Try.prog.cellsOf 43 = 1 := by kernel_rfl
  match xs, hx with
  | [y0, y1, y2, y3, y4, y5, y6, y7, y8, y9, y10], _ =>
    have f0 : DataW.trod enc Try.prog w 0 (fun _ => true) held n 9 ((cs.drop 0).take (Try.prog.cellsOf 9)) = some y0 := hf 0 _ rfl
    have f1 : DataW.trod enc Try.prog w 0 (fun _ => true) held n 3 ((cs.drop 1).take (Try.prog.cellsOf 3)) = some y1 := hf 1 _ rfl
    have f2 : DataW.trod enc Try.prog w 0 (fun _ => true) held n 4 ((cs.drop 2).take (Try.prog.cellsOf 4)) = some y2 := hf 2 _ rfl
    have f3 : DataW.trod enc Try.prog w 0 (fun _ => true) held n 3 ((cs.drop 3).take (Try.prog.cellsOf 3)) = some y3 := hf 3 _ rfl
    have f4 : DataW.trod enc Try.prog w 0 (fun _ => true) held n 9 ((cs.drop 4).take (Try.prog.cellsOf 9)) = some y4 := hf 4 _ rfl
    have f5 : DataW.trod enc Try.prog w 0 (fun _ => true) held n 3 ((cs.drop 5).take (Try.prog.cellsOf 3)) = some y5 := hf 5 _ rfl
    have f6 : DataW.trod enc Try.prog w 0 (fun _ => true) held n 3 ((cs.drop 6).take (Try.prog.cellsOf 3)) = some y6 := hf 6 _ rfl
    have f7 : DataW.trod enc Try.prog w 0 (fun _ => true) held n 9 ((cs.drop 7).take (Try.prog.cellsOf 9)) = some y7 := hf 7 _ rfl
    have f8 : DataW.trod enc Try.prog w 0 (fun _ => true) held n 42 ((cs.drop 8).take (Try.prog.cellsOf 42)) = some y8 := hf 8 _ rfl
    have f9 : DataW.trod enc Try.prog w 0 (fun _ => true) held n 43 ((cs.drop 40).take (Try.prog.cellsOf 43)) = some y9 := hf 9 _ rfl
    have f10 : DataW.trod enc Try.prog w 0 (fun _ => true) held n 9 ((cs.drop 41).take (Try.prog.cellsOf 9)) = some y10 := hf 10 _ rfl
    rw [k9] at f0 f4 f7 f10
    rw [k3] at f1 f3 f5 f6
    rw [k4] at f2
    rw [kD] at f8
    rw [kP] at f9
    obtain ⟨s0, e0, _, _⟩ := DataW.trod_string Try.underlying9 f0
    obtain ⟨z1, e1, _, _⟩ := DataW.trod_int Try.underlying3 f1
    obtain ⟨b2, e2, _⟩ := DataW.trod_bool Try.underlying4 f2
    obtain ⟨z3, e3, _, _⟩ := DataW.trod_int Try.underlying3 f3
    obtain ⟨s4, e4, _, _⟩ := DataW.trod_string Try.underlying9 f4
    obtain ⟨z5, e5, _, _⟩ := DataW.trod_int Try.underlying3 f5
    obtain ⟨z6, e6, _, _⟩ := DataW.trod_int Try.underlying3 f6
    obtain ⟨s7, e7, _, _⟩ := DataW.trod_string Try.underlying9 f7
    obtain ⟨l8, hl8, h8, e8⟩ := sum_read f8
    obtain ⟨po, c, ps, e9, hc, hp⟩ := parts_read f9
    obtain ⟨s10, e10, _, _⟩ := DataW.trod_string Try.underlying9 f10
    refine ⟨⟨s0, z1, b2, z3, s4, z5, z6, s7, l8, .slice po ps.length c, s10⟩, ⟨hl8, h8, po, c, ps, rfl, hc, hp⟩, ?_⟩
    have d8 : cs.drop 8 = l8.map u8 ++ cs.drop 40 := by
      have := (List.take_append_drop 32 (cs.drop 8)).symm
      rw [e8, List.drop_drop] at this
      exact this
    have d42 : cs.drop 42 = [] := List.drop_of_length_le (by omega)
    rw [Rv.toL]
    have := take1 e0
    rw [List.drop_zero] at this
    rw [this, take1 e1, take1 e2, take1 e3, take1 e4, take1 e5, take1 e6, take1 e7, d8, take1 e9, take1 e10, d42]
    rfl
end
#print axioms rec_read
end Go.Proofs.Ytepkpkbgmchioaa
