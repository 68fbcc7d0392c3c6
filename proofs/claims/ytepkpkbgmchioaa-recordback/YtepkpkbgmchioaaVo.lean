/- Bytes that came in. -/
import Derived.Test.YtepkpkbgmchioaaVj
import Derived.ChangeArms
import Derived.ChangeSlices
import Derived.OpenShut
namespace Go.Proofs.Ytepkpkbgmchioaa
open Go Go.RowKit

theorem plain_at (a : Addr) (w : World) (h : w.cell? a ≠ none) : ∃ b o, a = ⟨b, o, none⟩ := by
  obtain ⟨b, o, sp⟩ := a
  cases sp with
  | none => exact ⟨b, o, rfl⟩
  | some s =>
    exfalso; apply h
    unfold World.cell?
    split <;> simp
theorem bounds8 {k : Int} (h : (Lit.int .u8 k).wf = true) : 0 ≤ k ∧ k ≤ 255 := by
  simp [Lit.wf, IntKind.min, IntKind.max, IntKind.signed, IntKind.bits] at h; omega
theorem wf64 {k : Int} (h : (Lit.int .i64 k).wf = true) : -9223372036854775808 ≤ k ∧ k ≤ 9223372036854775807 := by
  simp [Lit.wf, IntKind.min, IntKind.max, IntKind.signed, IntKind.bits] at h; omega
/-- What is told of bytes that came in. -/
def IsB (w : World) (a : Option Addr) (len cap : Nat) : Prop := ∃ bs : List Nat, bs.length = len ∧ len ≤ cap ∧ BL w a bs ∧ (∀ x ∈ bs, x < 256) ∧ (a = none → cap = 0)
theorem bytes_open {H : Type} {enc : TypeId × Value → H} {w : World} {held : Bool} {fuel : Nat} {a : Option Addr} {len cap : Nat} {x : DataW H × List MemPlace}
    (h : DataW.trod enc Try.prog w 0 (fun _ => true) held fuel 22 (Value.slice a len cap).cells.toList = some x) : IsB w a len cap := by
  rcases Go.ChangeShapes.open_ints Try.underlying22 Try.underlying5 (by kernel_rfl) h with ⟨hcs, _⟩ | ⟨ad, l, c, zs, hcs, _, hl, hm, hz, _, hcell, hwz⟩
  · simp [Value.cells] at hcs
    obtain ⟨rfl, rfl, rfl⟩ := hcs
    exact ⟨[], rfl, Nat.le_refl _, Or.inl rfl, by simp, fun _ => rfl⟩
  · simp [Value.cells] at hcs
    obtain ⟨rfl, rfl, rfl⟩ := hcs
    have hz' : zs.length = cap := by simpa using hz
    have hbd : ∀ i, i < len → 0 ≤ zs.getD i 0 ∧ zs.getD i 0 ≤ 255 := fun i hi => by
      have hlt : i < zs.length := by omega
      have e : zs.getD i 0 = zs[i] := by simp [List.getD, hlt]
      rw [e]; exact bounds8 (hwz _ (List.getElem_mem hlt))
    refine ⟨(List.range len).map fun i => (zs.getD i 0).toNat, by simp, hl, ?_, fun y hy => ?_, fun e => by cases e⟩
    · by_cases h0 : len = 0
      · subst h0; exact Or.inl rfl
      · obtain ⟨b, o, rfl⟩ := plain_at ad w (by have := hcell 0 (by omega); rw [add_zero'] at this; rw [this]; simp)
        refine Or.inr ⟨b, o, rfl, fun i hi => ?_⟩
        have hi' : i < len := by simpa using hi
        have hc := hcell i (by omega)
        rw [add_none] at hc
        rw [hc]
        have e1 : ((List.range len).map fun i => (zs.getD i 0).toNat).getD i 0 = (zs.getD i 0).toNat := by simp [List.getD, hi']
        rw [e1]; unfold u8; rw [Int.toNat_of_nonneg (hbd i hi').1]
    · obtain ⟨i, hi, rfl⟩ := List.mem_map.1 hy
      have := hbd i (by simpa using hi)
      omega
#print axioms bytes_open
end Go.Proofs.Ytepkpkbgmchioaa
