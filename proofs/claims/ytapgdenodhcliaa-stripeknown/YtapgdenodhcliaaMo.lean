/- From what a row of the statement reads of its arguments (lists of lists of bytes; lists of whole numbers) to what the walks ask of the memory. No conditions. -/
import Derived.Test.YtapgdenodhcliaaMn
import Derived.Deep.Matrix
import Derived.ProofKit
import Derived.OpenShut
namespace Go.Proofs.Ytapgdenodhcliaa
open Go.ChangeShapes Go.WideShapes Go.ChangeAt Go.RowKit

theorem plain_addr {w : World} {a : Addr} {v : Value} (h : w.cell? (a.add 0) = some v) : ∃ b o, a = ⟨b, o, none⟩ := by
  obtain ⟨b, off, spot⟩ := a
  have hspot : spot = none := by simpa [Addr.add] using World.cell?_spot h
  exact ⟨b, off, by rw [hspot]⟩

theorem mat_of_rows {w : World} {a : Addr} {len cap : Nat} {A : Nat → Option Addr} {L C : Nat → Nat} {Z : Nat → List Int} (hl : len ≤ cap)
    (hx : ∀ r, r < cap → w.cell? (a.add r) = some (.slice (A r) (L r) (C r)) ∧ L r ≤ C r ∧ C r ≤ maxLen ∧ (Z r).length = C r ∧ (∀ n ∈ Z r, (Lit.int .u8 n).wf = true) ∧ (A r = none → C r = 0) ∧
      ∀ a', A r = some a' → 0 ≤ a'.block ∧ ∀ c, c < C r → w.cell? (a'.add c) = some (.int .u8 ((Z r).getD c 0))) :
    MatAt w (some a) len A L C (fun i j => kb ((Z i).getD j 0).toNat) where
  top := by
    by_cases h0 : len = 0
    · exact .inl h0
    · obtain ⟨b, o, rfl⟩ := plain_addr (hx 0 (by omega)).1
      exact .inr ⟨b, o, rfl, fun i hi => by rw [← add_plain]; exact (hx i (by omega)).1⟩
  row := fun i hi => by
    obtain ⟨_, h1, h2, h3, h4, h5, h6⟩ := hx i (by omega)
    by_cases h0 : L i = 0
    · exact .inl h0
    · cases hA : A i with
      | none => have := h5 hA; omega
      | some a' =>
        have h7 := (h6 a' hA).2
        obtain ⟨b, o, rfl⟩ := plain_addr (h7 0 (by omega))
        refine .inr ⟨b, o, rfl, fun j hj => ?_⟩
        rw [← add_plain, h7 j (by omega)]
        have hlt : j < (Z i).length := by omega
        have hb : 0 ≤ (Z i).getD j 0 ∧ (Z i).getD j 0 ≤ 255 := by
          have e : (Z i).getD j 0 = (Z i)[j] := by simp [List.getD, hlt]
          rw [e]; exact bounds_u8 (h4 _ (List.getElem_mem hlt))
        show some (Value.int .u8 ((Z i).getD j 0)) = some (Value.int .u8 (((kb ((Z i).getD j 0).toNat).val : Nat) : Int))
        rw [kb_val _ (by omega), Int.toNat_of_nonneg hb.1]
  le := fun i hi => (hx i (by omega)).2.1

/-- What is told of a list of lists of bytes that came in. -/
def IsMat (w : World) (a : Option Addr) (len : Nat) : Prop := ∃ (A : Nat → Option Addr) (L C : Nat → Nat) (X : Nat → Nat → K), MatAt w a len A L C X
theorem mat_open {H : Type} {enc : TypeId × Value → H} {w : World} {held : Bool} {fuel : Nat} {a : Option Addr} {len cap : Nat} {x : DataW H × List MemPlace}
    (h : DataW.trod enc Try.prog w 0 (fun _ => true) held fuel 24 (Value.slice a len cap).cells.toList = some x) : IsMat w a len := by
  rcases Go.Deep.open_int_rows Try.underlying24 Try.underlying22 Try.underlying5 (by kernel_rfl) (by kernel_rfl) h with ⟨hcs, _⟩ | ⟨b, l, c, A, L, C, Z, hcs, _, hl, _, _, hx⟩
  · simp [Value.cells] at hcs
    obtain ⟨rfl, rfl, rfl⟩ := hcs
    exact ⟨fun _ => none, fun _ => 0, fun _ => 0, fun _ _ => 0, .inl rfl, fun i hi => absurd hi (by omega), fun i hi => absurd hi (by omega)⟩
  · simp [Value.cells] at hcs
    obtain ⟨rfl, rfl, rfl⟩ := hcs
    exact ⟨A, L, C, _, mat_of_rows hl hx⟩
/-- What is told of a list of whole numbers that came in. -/
def IsInts (w : World) (a : Option Addr) (len : Nat) : Prop := ∃ R : Nat → Int, (∀ i, i < len → -9223372036854775808 ≤ R i ∧ R i ≤ 9223372036854775807) ∧ IntsAt w a len R
theorem ints_open {H : Type} {enc : TypeId × Value → H} {w : World} {held : Bool} {fuel : Nat} {a : Option Addr} {len cap : Nat} {x : DataW H × List MemPlace}
    (h : DataW.trod enc Try.prog w 0 (fun _ => true) held fuel 46 (Value.slice a len cap).cells.toList = some x) : IsInts w a len := by
  rcases open_ints Try.underlying46 Try.underlying3 (by kernel_rfl) h with ⟨hcs, _⟩ | ⟨b, l, c, zs, hcs, _, hl, hm, hz, _, hcell, hwz⟩
  · simp [Value.cells] at hcs
    obtain ⟨rfl, rfl, rfl⟩ := hcs
    exact ⟨fun _ => 0, fun i hi => absurd hi (by omega), .inl rfl⟩
  · simp [Value.cells] at hcs
    obtain ⟨rfl, rfl, rfl⟩ := hcs
    have hz' : zs.length = cap := by simpa using hz
    refine ⟨fun i => zs.getD i 0, fun i hi => ?_, ?_⟩
    · have hlt : i < zs.length := by omega
      have e : zs.getD i 0 = zs[i] := by simp [List.getD, hlt]
      show _ ≤ zs.getD i 0 ∧ zs.getD i 0 ≤ _
      rw [e]; exact bounds_i64 (hwz _ (List.getElem_mem hlt))
    · by_cases h0 : len = 0
      · exact .inl h0
      · obtain ⟨b', o', rfl, hc⟩ := ints_at hcell (by omega)
        exact .inr ⟨b', o', rfl, fun i hi => hc i (by omega)⟩
end Go.Proofs.Ytapgdenodhcliaa
