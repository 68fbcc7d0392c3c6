/- From what a row of the statement reads of its arguments (lists of bytes) to what the walks ask of the memory. No conditions. -/
import Derived.Test.YtapgdenodhcliaaSj
import Derived.Test.YtapgdenodhcliaaYc
namespace Go.Proofs.Ytapgdenodhcliaa
open Go.ChangeShapes Go.WideShapes Go.ChangeAt Go.RowKit

/-- What is told of a list of bytes that came in. -/
def IsBytes (w : World) (a : Option Addr) (len cap : Nat) : Prop := len ≤ cap ∧ ∃ x : Nat → K, StrAt w a len fun j => (x j).val
theorem bytes_open {H : Type} {enc : TypeId × Value → H} {w : World} {held : Bool} {fuel : Nat} {a : Option Addr} {len cap : Nat} {x : DataW H × List MemPlace}
    (h : DataW.trod enc Try.prog w 0 (fun _ => true) held fuel 22 (Value.slice a len cap).cells.toList = some x) : IsBytes w a len cap := by
  rcases open_ints Try.underlying22 Try.underlying5 (by kernel_rfl) h with ⟨hcs, _⟩ | ⟨b, l, c, zs, hcs, _, hl, hm, hz, _, hcell, hwz⟩
  · simp [Value.cells] at hcs
    obtain ⟨rfl, rfl, rfl⟩ := hcs
    exact ⟨Nat.le_refl _, fun _ => 0, .inl rfl⟩
  · simp [Value.cells] at hcs
    obtain ⟨rfl, rfl, rfl⟩ := hcs
    have hz' : zs.length = cap := by simpa using hz
    refine ⟨hl, fun i => kb (zs.getD i 0).toNat, ?_⟩
    by_cases h0 : len = 0
    · exact .inl h0
    · obtain ⟨b', o', rfl, hc⟩ := ints_at hcell (by omega)
      refine .inr ⟨b', o', rfl, fun i hi => ?_⟩
      have hlt : i < zs.length := by omega
      have e : zs.getD i 0 = zs[i] := by simp [List.getD, hlt]
      have hb : 0 ≤ zs.getD i 0 ∧ zs.getD i 0 ≤ 255 := by rw [e]; exact bounds_u8 (hwz _ (List.getElem_mem hlt))
      rw [hc i (by omega)]
      show _ = some (Value.int .u8 (((kb (zs.getD i 0).toNat).val : Nat) : Int))
      rw [kb_val _ (by omega), Int.toNat_of_nonneg hb.1]
end Go.Proofs.Ytapgdenodhcliaa
