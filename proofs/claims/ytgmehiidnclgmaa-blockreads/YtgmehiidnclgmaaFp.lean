/- Contract of OverBytes of the statements' kit; what is told of bytes that came in; walk of BlockLays. -/
import Derived.Test.YtgmehiidnclgmaaFo
import Derived.ChangeSlices
import Derived.OpenShut
namespace Go.Proofs.Ytgmehiidnclgmaa
open Go Go.RowKit

/-- From w to w' nothing has turned but what block g holds. -/
structure OnlyAt (g : Nat) (w w' : World) : Prop where
  os : w'.os = w.os
  tape : w'.tape = w.tape
  output : w'.output = w.output
  size : w'.heap.size = w.heap.size
  block : ∀ k, k ≠ g → w'.heap[k]? = w.heap[k]?
theorem OnlyAt.refl (g : Nat) (w : World) : OnlyAt g w w := ⟨rfl, rfl, rfl, rfl, fun _ _ => rfl⟩
theorem OnlyAt.setCell {g : Nat} {w w' : World} (h : OnlyAt g w w') (i : Nat) (v : Value) : OnlyAt g w (w'.setCell ⟨g, i, none⟩ v) :=
  ⟨h.os, h.tape, h.output, by rw [World.size_setCell]; exact h.size, fun k hk => (Below.heap_setCell _ _ _ k hk).trans (h.block k hk)⟩
theorem OnlyAt.below {g B : Nat} {w0 w w' : World} (h : OnlyAt g w w') (hb : Below B w0 w) (hB : B ≤ g) : Below B w0 w' :=
  ⟨h.os.trans hb.os, h.tape.trans hb.tape, h.output.trans hb.output, by rw [h.size]; exact hb.size, fun k hk => (h.block k (by omega)).trans (hb.block k hk)⟩
theorem OnlyAt.row {g : Nat} {w w' : World} (h : OnlyAt g w w') {b o n : Nat} {x : Nat → Nat} (hr : RowAt w b o n x) (hb : b ≠ g) : RowAt w' b o n x :=
  fun i hi => (World.cell?_of_block (w := w) (h.block b hb)).trans (hr i hi)
theorem u8_bits (z : Nat) (h : z < 256) : bits BinOp.xor IntKind.u8 (z : Int) 90 = ((z ^^^ 90 : Nat) : Int) := u8_xor_nat z 90 h (by decide)
theorem xor_lt8 (a b : Nat) (ha : a < 256) (hb : b < 256) : a ^^^ b < 256 := Nat.xor_lt_two_pow (n := 8) ha hb
def RowB (w : World) (g : Nat) (L : List Nat) : Prop := RowL w g L ∧ ∀ b ∈ L, b < 256
theorem RowL.cellAt {w : World} {g : Nat} {L : List Nat} (h : RowL w g L) (i : Nat) (hi : i < L.length) : w.cell? ⟨g, i, none⟩ = some (.int .u8 (L.getD i 0 : Nat)) := by
  unfold World.cell?
  simp [show w.heap[g]? = _ from h, hi, u8]
theorem RowL.free {w : World} {g : Nat} {L : List Nat} (h : RowL w g L) (i : Nat) : w.frozen? ⟨g, i, none⟩ = false := by
  unfold World.frozen?
  simp [show w.heap[g]? = _ from h]
theorem RowL.set {w : World} {g : Nat} {L : List Nat} (h : RowL w g L) (i v : Nat) : RowL (w.setCell ⟨g, i, none⟩ (.int .u8 (v : Int))) g (L.set i v) := by
  obtain ⟨hlt, hk⟩ := Array.getElem?_eq_some_iff.1 h
  show (w.heap.modify g _)[g]? = _
  rw [Array.getElem?_eq_getElem (by rw [Array.size_modify]; exact hlt), Array.getElem_modify_self, hk]
  simp [u8, List.map_set]
theorem run_capL (g n c : Nat) (w : World) : (Instr.slice 22 (.slice (some ⟨g, 0, none⟩) n c) none (some (.int .i64 (c : Int))) none).run Try.prog w = .ok (.slice (some ⟨g, 0, none⟩) c c) w := by
  rw [run_slice_h (P := Try.prog) w 22 _ n c under41 .i64 (c : Int) (by omega) (by omega), size41]
  by_cases h0 : c = 0
  · simp [Result.andThen, sliced, h0]
  · simp [Result.andThen, sliced, h0, Addr.add]
set_option maxRecDepth 100000 in
set_option maxHeartbeats 1000000 in
theorem over_any (g n c : Nat) (L : List Nat) (w : World) (hc : L.length = c) (hn : c ≤ 100000) (h : RowB w g L) :
    Calls Try.prog 15 #[.slice (some ⟨g, 0, none⟩) n c] w fun e w' => e = .returned (.tuple #[]) ∧ OnlyAt g w w' ∧ ∃ L', L'.length = c ∧ RowB w' g L' := by
  have hs := run_capL g n c
  have H := hid h
  have HC := hid hc
  clear h hc
  go_enter Try.func15, Try.ntmps15
  go_wp2
  clear hs
  go_loopw [3] (fun i wr => ∃ k : Nat, k ≤ c ∧ i = .int .i64 k ∧ OnlyAt g w wr ∧ ∃ L', L'.length = c ∧ RowB wr g L') (fun i _ => (c - intOf i).toNat)
  case atStart => exact ⟨0, by omega, rfl, OnlyAt.refl _ _, L, HC.out, H.out⟩
  case round =>
    clear H HC
    obtain ⟨k, hk, rfl, ho, L', hl, hr⟩ := hrel
    by_cases hlt : k < c
    · have hz : L'.getD k 0 < 256 := hr.2 _ (by rw [List.getD_eq_getElem?_getD, List.getElem?_eq_getElem (by omega)]; exact List.getElem_mem (by omega))
      have hcz := hr.1.cellAt k (by omega)
      have hfz := hr.1.free k
      have hx := u8_bits _ hz
      have HO := hid (ho.setCell k (.int .u8 ((L'.getD k 0 ^^^ 90 : Nat) : Int)))
      have HR : Hid (RowB (wr.setCell ⟨g, k, none⟩ (.int .u8 ((L'.getD k 0 ^^^ 90 : Nat) : Int))) g (L'.set k (L'.getD k 0 ^^^ 90))) := ⟨hr.1.set k _, fun b hb => by
        rcases List.mem_or_eq_of_mem_set hb with h | h
        · exact hr.2 b h
        · rw [h]; exact xor_lt8 _ _ hz (by decide)⟩
      have HLE := hid (show (L'.set k (L'.getD k 0 ^^^ 90)).length = c by rw [List.length_set]; exact hl)
      generalize L'.set k (L'.getD k 0 ^^^ 90) = L2 at *
      generalize L'.getD k 0 = z at *
      clear hr ho
      go_wp2
      go_roundw
      case rel => exact ⟨k + 1, by omega, by go_num, HO.out, L2, HLE.out, HR.out⟩
      case measure => simp [intOf]; omega
    · have HO := hid ho
      have HR := hid hr
      clear hr ho
      go_wp2
      go_end0
      exact ⟨rfl, HO.out, L', hl, HR.out⟩
theorem over_nil (w : World) : Calls Try.prog 15 #[.slice none 0 0] w fun e w' => e = .returned (.tuple #[]) ∧ w' = w := by
  go_enter Try.func15, Try.ntmps15
  go_wp2
  refine wp_loop_rounds 1 ?_
  rw [rounds_succ]
  go_wp2
  go_end0
  exact ⟨rfl, rfl⟩
/-- What is told of a list of bytes that came in. -/
def IsBytes (w : World) (a : Option Addr) (len cap : Nat) : Prop := len ≤ cap ∧ (a = none → len = 0 ∧ cap = 0) ∧ ∃ x : Nat → Nat, StrAt w a len x ∧ ∀ i, i < len → x i < 256
theorem bytes_open {H : Type} {enc : TypeId × Value → H} {w : World} {held : Bool} {fuel : Nat} {a : Option Addr} {len cap : Nat} {x : DataW H × List MemPlace}
    (h : DataW.trod enc Try.prog w 0 (fun _ => true) held fuel 22 (Value.slice a len cap).cells.toList = some x) : IsBytes w a len cap := by
  rcases Go.ChangeShapes.open_ints Try.underlying22 Try.underlying5 (by kernel_rfl) h with ⟨hcs, _⟩ | ⟨b, l, c, zs, hcs, _, hl, hm, hz, _, hcell, hwz⟩
  · simp [Value.cells] at hcs
    obtain ⟨rfl, rfl, rfl⟩ := hcs
    exact ⟨Nat.le_refl _, fun _ => ⟨rfl, rfl⟩, fun _ => 0, .inl rfl, fun i hi => by omega⟩
  · simp [Value.cells] at hcs
    obtain ⟨rfl, rfl, rfl⟩ := hcs
    have hz' : zs.length = cap := by simpa using hz
    have hbd : ∀ i, i < len → 0 ≤ zs.getD i 0 ∧ zs.getD i 0 ≤ 255 := fun i hi => by
      have hlt : i < zs.length := by omega
      have e : zs.getD i 0 = zs[i] := by simp [List.getD, hlt]
      rw [e]; exact bounds_u8 (hwz _ (List.getElem_mem hlt))
    refine ⟨hl, fun e => (by cases e), fun i => (zs.getD i 0).toNat, ?_, fun i hi => (by have h := hbd i hi; show (zs.getD i 0).toNat < 256; omega)⟩
    by_cases h0 : len = 0
    · exact .inl h0
    · obtain ⟨b', o', rfl, hc⟩ := ints_at hcell (by omega)
      refine .inr ⟨b', o', rfl, fun i hi => ?_⟩
      rw [hc i (by omega)]
      show _ = some (Value.int .u8 (((zs.getD i 0).toNat : Nat) : Int))
      rw [Int.toNat_of_nonneg (hbd i hi).1]
theorem fileL_lt (n : Nat) (x : Nat → Nat) (hx : ∀ i, i < n → x i < 256) : ∀ b ∈ fileL n x, b < 256 := by
  intro b hb
  unfold fileL at hb
  rw [List.mem_flatMap] at hb
  obtain ⟨i, hi, hb⟩ := hb
  unfold blkL at hb
  rcases List.mem_append.1 hb with h | h
  · obtain ⟨j, _, rfl⟩ := List.mem_map.1 h
    exact sha_lt _ _ _
  · obtain ⟨j, hj, rfl⟩ := List.mem_map.1 h
    refine hx _ ?_
    have := List.mem_range.1 hj
    have := List.mem_range.1 hi
    unfold bend at *
    omega
end Go.Proofs.Ytgmehiidnclgmaa
