/- Acts and bools that came in. -/
import Derived.Test.YtfppmpfmafnfmaaEb
namespace Go.Proofs.Ytfppmpfmafnfmaa
open Go Go.RowKit

def IsActs (w : World) (a : Option Addr) (len : Nat) : Prop := len = 0 ∨ ∃ b o, a = some ⟨b, o, none⟩ ∧ ∀ i, i < len → ∃ x : AV, x.ok w ∧ ∀ j, j < 9 → w.cell? ⟨b, o + i * 9 + j, none⟩ = x.val[j]?
def IsBools (w : World) (a : Option Addr) (len : Nat) : Prop := ∃ ks : List Bool, ks.length = len ∧ KAt w (fun _ => False) a ks
theorem add_zero' (a : Addr) : a.add 0 = a := by simp [Addr.add]
theorem plain_at (a : Addr) (w : World) (h : w.cell? a ≠ none) : ∃ b o, a = ⟨b, o, none⟩ := by
  obtain ⟨b, o, sp⟩ := a
  cases sp with
  | none => exact ⟨b, o, rfl⟩
  | some s =>
    exfalso; apply h
    unfold World.cell?
    split <;> simp
theorem bounds_u8 {k : Int} (h : (Lit.int .u8 k).wf = true) : 0 ≤ k ∧ k ≤ 255 := by
  simp [Lit.wf, IntKind.min, IntKind.max, IntKind.signed, IntKind.bits] at h; omega
theorem add_none (b o n : Nat) : (⟨b, o, none⟩ : Addr).add n = ⟨b, o + n, none⟩ := by unfold Addr.add; split <;> simp_all
section
variable {H : Type} {enc : TypeId × Value → H} {w : World} {held : Bool} {fuel : Nat}
theorem bools_read {cs : List Value} {x : DataW H × List MemPlace} (h : DataW.trod enc Try.prog w 0 (fun _ => true) held fuel 34 cs = some x) :
    ∃ (po : Option Addr) (c : Nat) (ks : List Bool), cs = [.slice po ks.length c] ∧ KAt w (fun _ => False) po ks := by
  rcases Go.Deep.open_bools Try.underlying34 Try.underlying4 (by kernel_rfl) h with ⟨hcs, _⟩ | ⟨a, len, cap, B, hcs, _, hl, _, _, hcell⟩
  · exact ⟨none, 0, [], hcs, Or.inl rfl⟩
  · refine ⟨some a, cap, (List.range len).map B, by simpa using hcs, ?_⟩
    by_cases h0 : len = 0
    · subst h0; exact Or.inl rfl
    · obtain ⟨b, o, rfl⟩ := plain_at a w (by have := hcell 0 (by omega); rw [add_zero'] at this; rw [this]; simp)
      refine Or.inr ⟨b, o, rfl, fun h => h, fun i hi => ?_⟩
      have hi' : i < len := by simpa using hi
      have := hcell i (by omega)
      rw [add_none] at this
      rw [this]; simp [List.getD, hi']
theorem bools_open {a : Option Addr} {len cap : Nat} {x : DataW H × List MemPlace} (h : DataW.trod enc Try.prog w 0 (fun _ => true) held fuel 34 (Value.slice a len cap).cells.toList = some x) : IsBools w a len := by
  obtain ⟨po, c, ks, hcs, hk⟩ := bools_read h
  simp [Value.cells] at hcs
  obtain ⟨rfl, rfl, rfl⟩ := hcs
  exact ⟨ks, rfl, hk⟩
theorem bytes_read {cs : List Value} {x : DataW H × List MemPlace} (h : DataW.trod enc Try.prog w 0 (fun _ => true) held fuel 33 cs = some x) :
    ∃ (po : Option Addr) (c : Nat) (bs : List Nat), cs = [.slice po bs.length c] ∧ BAt w po bs ∧ ∀ y ∈ bs, y < 256 := by
  rcases Go.ChangeShapes.open_ints Try.underlying33 Try.underlying5 (by kernel_rfl) h with ⟨hcs, _⟩ | ⟨a, l, c, zs, hcs, _, hl, hm, hz, _, hcell, hwz⟩
  · exact ⟨none, 0, [], hcs, Or.inl ⟨rfl, rfl⟩, by simp⟩
  · have hz' : zs.length = c := by simpa using hz
    have hbd : ∀ i, i < l → 0 ≤ zs.getD i 0 ∧ zs.getD i 0 ≤ 255 := fun i hi => by
      have hlt : i < zs.length := by omega
      have e : zs.getD i 0 = zs[i] := by simp [List.getD, hlt]
      rw [e]; exact bounds_u8 (hwz _ (List.getElem_mem hlt))
    refine ⟨some a, c, (List.range l).map fun i => (zs.getD i 0).toNat, by simpa using hcs, Or.inr ⟨a, rfl, fun i hi => ?_⟩, fun y hy => ?_⟩
    · have hi' : i < l := by simpa using hi
      rw [hcell i (by omega)]
      have e1 : ((List.range l).map fun i => (zs.getD i 0).toNat).getD i 0 = (zs.getD i 0).toNat := by rw [getD_in _ _ _ (by simpa using hi')]; simp
      rw [e1, Int.toNat_of_nonneg (hbd i hi').1]
    · obtain ⟨i, hi, rfl⟩ := List.mem_map.1 hy
      have := hbd i (by simpa using hi)
      omega
theorem wf64 {k : Int} (h : (Lit.int .i64 k).wf = true) : -9223372036854775808 ≤ k ∧ k ≤ 9223372036854775807 := by
  simp [Lit.wf, IntKind.min, IntKind.max, IntKind.signed, IntKind.bits] at h; omega
set_option maxRecDepth 100000 in
theorem act_read {cs : List Value} {x : DataW H × List MemPlace} (h : DataW.trod enc Try.prog w 0 (fun _ => true) held fuel 36 cs = some x) : ∃ v : AV, v.ok w ∧ cs = v.val.toList := by
  obtain ⟨xs, n, _, _, hcl, hxl, hf⟩ := DataW.trod_struct Try.underlying36 h
  have hc9 : cs.length = 9 := by rw [hcl]; kernel_rfl
  have hx9 : xs.length = 9 := by rw [hxl]; rfl
  have k3 : Try.prog.cellsOf 3 = 1 := by kernel_rfl
  have k9 : Try.prog.cellsOf 9 = 1 := by kernel_rfl
  have k33 : Try.prog.cellsOf 33 = 1 := by kernel_rfl
  have k34 : Try.prog.cellsOf 34 = 1 := by kernel_rfl
  have k4 : Try.prog.cellsOf 4 = 1 := by kernel_rfl
  have k5 : Try.prog.cellsOf 5 = 1 := by kernel_rfl
  match cs, hc9, xs, hx9 with
  | [c0, c1, c2, c3, c4, c5, c6, c7, c8], _, [y0, y1, y2, y3, y4, y5, y6, y7, y8], _ =>
    have f0 : DataW.trod enc Try.prog w 0 (fun _ => true) held n 3 (([c0, c1, c2, c3, c4, c5, c6, c7, c8].drop 0).take (Try.prog.cellsOf 3)) = some y0 := hf 0 _ rfl
    rw [k3] at f0
    have f1 : DataW.trod enc Try.prog w 0 (fun _ => true) held n 3 (([c0, c1, c2, c3, c4, c5, c6, c7, c8].drop 1).take (Try.prog.cellsOf 3)) = some y1 := hf 1 _ rfl
    rw [k3] at f1
    have f2 : DataW.trod enc Try.prog w 0 (fun _ => true) held n 3 (([c0, c1, c2, c3, c4, c5, c6, c7, c8].drop 2).take (Try.prog.cellsOf 3)) = some y2 := hf 2 _ rfl
    rw [k3] at f2
    have f3 : DataW.trod enc Try.prog w 0 (fun _ => true) held n 9 (([c0, c1, c2, c3, c4, c5, c6, c7, c8].drop 3).take (Try.prog.cellsOf 9)) = some y3 := hf 3 _ rfl
    rw [k9] at f3
    have f4 : DataW.trod enc Try.prog w 0 (fun _ => true) held n 9 (([c0, c1, c2, c3, c4, c5, c6, c7, c8].drop 4).take (Try.prog.cellsOf 9)) = some y4 := hf 4 _ rfl
    rw [k9] at f4
    have f5 : DataW.trod enc Try.prog w 0 (fun _ => true) held n 33 (([c0, c1, c2, c3, c4, c5, c6, c7, c8].drop 5).take (Try.prog.cellsOf 33)) = some y5 := hf 5 _ rfl
    rw [k33] at f5
    have f6 : DataW.trod enc Try.prog w 0 (fun _ => true) held n 4 (([c0, c1, c2, c3, c4, c5, c6, c7, c8].drop 6).take (Try.prog.cellsOf 4)) = some y6 := hf 6 _ rfl
    rw [k4] at f6
    have f7 : DataW.trod enc Try.prog w 0 (fun _ => true) held n 5 (([c0, c1, c2, c3, c4, c5, c6, c7, c8].drop 7).take (Try.prog.cellsOf 5)) = some y7 := hf 7 _ rfl
    rw [k5] at f7
    have f8 : DataW.trod enc Try.prog w 0 (fun _ => true) held n 34 (([c0, c1, c2, c3, c4, c5, c6, c7, c8].drop 8).take (Try.prog.cellsOf 34)) = some y8 := hf 8 _ rfl
    rw [k34] at f8
    obtain ⟨z0, e0, _, w0⟩ := DataW.trod_int Try.underlying3 f0
    obtain ⟨z1, e1, _, w1⟩ := DataW.trod_int Try.underlying3 f1
    obtain ⟨z2, e2, _, w2⟩ := DataW.trod_int Try.underlying3 f2
    obtain ⟨s3, e3, _, w3⟩ := DataW.trod_string Try.underlying9 f3
    obtain ⟨s4, e4, _, w4⟩ := DataW.trod_string Try.underlying9 f4
    obtain ⟨p5, q5, b5, e5, w5, v5⟩ := bytes_read f5
    obtain ⟨b6, e6, _⟩ := DataW.trod_bool Try.underlying4 f6
    obtain ⟨z7, e7, _, w7⟩ := DataW.trod_int Try.underlying5 f7
    obtain ⟨p8, q8, b8, e8, w8⟩ := bools_read f8
    simp at e0 e1 e2 e3 e4 e5 e6 e7 e8
    subst e0 e1 e2 e3 e4 e5 e6 e7 e8
    exact ⟨⟨z0, z1, z2, s3.data.toList, s4.data.toList, p5, q5, b5, b6, z7, p8, q8, b8⟩, ⟨by rw [Array.length_toList]; exact w3, by rw [Array.length_toList]; exact w4, w5, v5, w8, wf64 w0, wf64 w1, wf64 w2, bounds_u8 w7⟩, rfl⟩
theorem acts_open {a : Option Addr} {len cap : Nat} {x : DataW H × List MemPlace} (h : DataW.trod enc Try.prog w 0 (fun _ => true) held fuel 22 (Value.slice a len cap).cells.toList = some x) : IsActs w a len := by
  have k36 : Try.prog.cellsOf 36 = 9 := by kernel_rfl
  rcases DataW.trod_slice Try.underlying22 h with ⟨hcs, _⟩ | ⟨ad, l, c, elems, rest, n, _, hcs, _, _, hl, _, hlen, hel, _, _⟩
  · simp [Value.cells] at hcs; exact Or.inl hcs.2.1
  · simp [Value.cells] at hcs
    obtain ⟨rfl, rfl, rfl⟩ := hcs
    rw [k36] at hel
    by_cases h0 : len = 0
    · exact Or.inl h0
    have each : ∀ i, i < len → ∃ v : AV, v.ok w ∧ ∀ j, j < 9 → w.cell? ((ad.add (i * 9)).add j) = v.val[j]? := fun i hi => by
      have h1 := hel i hi
      rw [List.getElem?_eq_getElem (by omega)] at h1
      obtain ⟨cs, hc1, hc2⟩ := Option.bind_eq_some_iff.1 h1
      obtain ⟨v, hv, rfl⟩ := act_read hc2
      obtain ⟨_, _, hcell⟩ := World.cells?_some hc1
      exact ⟨v, hv, fun j hj => by rw [hcell j hj]; simp⟩
    obtain ⟨v0, _, hc0⟩ := each 0 (by omega)
    have h00 := hc0 0 (by omega)
    rw [Nat.zero_mul, add_zero', add_zero'] at h00
    obtain ⟨b, o, rfl⟩ := plain_at ad w (by rw [h00]; unfold AV.val; simp)
    refine Or.inr ⟨b, o, rfl, fun i hi => ?_⟩
    obtain ⟨v, hv, hc⟩ := each i hi
    exact ⟨v, hv, fun j hj => by have := hc j hj; rw [add_none, add_none] at this; exact this⟩
end
#print axioms acts_open
end Go.Proofs.Ytfppmpfmafnfmaa
