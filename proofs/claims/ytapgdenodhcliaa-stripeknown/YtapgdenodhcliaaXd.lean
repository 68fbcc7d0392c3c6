/- Contracts of OverBytes and KeptBytes of the statements' kit: the first turns the bytes of the one block that it is handed, and no other; the second returns true of a lent list that reads as it was lent. -/
import Derived.Test.YtapgdenodhcliaaXc
import Derived.Deep.RegionHeld3
namespace Go.Proofs.Ytapgdenodhcliaa
open Go.RowKit

/-- From w to w' nothing has turned but what block g holds. -/
structure OnlyAt (g : Nat) (w w' : World) : Prop where
  os : w'.os = w.os
  tape : w'.tape = w.tape
  output : w'.output = w.output
  size : w'.heap.size = w.heap.size
  block : ∀ k, k ≠ g → w'.heap[k]? = w.heap[k]?
theorem OnlyAt.refl (g : Nat) (w : World) : OnlyAt g w w := ⟨rfl, rfl, rfl, rfl, fun _ _ => rfl⟩
theorem OnlyAt.setCell {g : Nat} {w w' : World} (h : OnlyAt g w w') (i : Nat) (v : Value) : OnlyAt g w (w'.setCell ⟨g, i, none⟩ v) :=
  ⟨h.os, h.tape, h.output, by rw [World.size_setCell]; exact h.size, fun k hk => (Below.heap_setCell _ _ _ k hk).trans (h.block k hk)⟩
theorem OnlyAt.below {g B : Nat} {w0 w w' : World} (h : OnlyAt g w w') (hb : Below B w0 w) (hB : B ≤ g) : Below B w0 w' :=
  ⟨h.os.trans hb.os, h.tape.trans hb.tape, h.output.trans hb.output, by rw [h.size]; exact hb.size, fun k hk => (h.block k (by omega)).trans (hb.block k hk)⟩
theorem OnlyAt.row {g : Nat} {w w' : World} (h : OnlyAt g w w') {b o n : Nat} {x : Nat → Nat} (hr : RowAt w b o n x) (hb : b ≠ g) : RowAt w' b o n x :=
  fun i hi => (World.cell?_of_block (w := w) (h.block b hb)).trans (hr i hi)

theorem u8_bits (z : Nat) (h : z < 256) : bits BinOp.xor IntKind.u8 (z : Int) 90 = ((z ^^^ 90 : Nat) : Int) := u8_xor_nat z 90 h (by decide)

set_option maxRecDepth 100000 in
set_option maxHeartbeats 1000000 in
theorem over_any (g n : Nat) (w : World) (hn : n ≤ 70000) (hc : ∀ i, i < n → ∃ z : Nat, z < 256 ∧ w.cell? ⟨g, i, none⟩ = some (.int .u8 z)) (hf : ∀ i, w.frozen? ⟨g, i, none⟩ = false) :
    Calls Try.prog 42 #[.slice (some ⟨g, 0, none⟩) n n] w fun e w' => e = .returned (.tuple #[]) ∧ OnlyAt g w w' := by
  go_enter Try.func42, Try.ntmps42
  go_wp2
  go_loopw [3] (fun i wr => ∃ k : Nat, k ≤ n ∧ i = .int .i64 k ∧ OnlyAt g w wr ∧ (∀ i, i < n → ∃ z : Nat, z < 256 ∧ wr.cell? ⟨g, i, none⟩ = some (.int .u8 z)) ∧ (∀ i, wr.frozen? ⟨g, i, none⟩ = false)) (fun i _ => (n - intOf i).toNat)
  case atStart => exact ⟨0, by omega, rfl, OnlyAt.refl _ _, hc, hf⟩
  case round =>
    clear hc hf
    obtain ⟨k, hk, rfl, ho, hc, hf⟩ := hrel
    by_cases hlt : k < n
    · obtain ⟨z, hz, hcz⟩ := hc k hlt
      have hfz := hf k
      have hx := u8_bits z hz
      have HO := hid (ho.setCell k (.int .u8 ((z ^^^ 90 : Nat) : Int)))
      have HC : Hid (∀ i, i < n → ∃ y : Nat, y < 256 ∧ (wr.setCell ⟨g, k, none⟩ (.int .u8 ((z ^^^ 90 : Nat) : Int))).cell? ⟨g, i, none⟩ = some (.int .u8 y)) := by
        intro i hi
        by_cases e : i = k
        · subst e
          exact ⟨z ^^^ 90, Gf.xor_lt _ _ hz (by decide), World.cell?_setCell_same _ _ _ hcz⟩
        · obtain ⟨y, hy, hcy⟩ := hc i hi
          exact ⟨y, hy, (World.cell?_setCell_other _ _ _ _ (by intro h2; cases h2; exact e rfl)).trans hcy⟩
      have HF : Hid (∀ i, (wr.setCell ⟨g, k, none⟩ (.int .u8 ((z ^^^ 90 : Nat) : Int))).frozen? ⟨g, i, none⟩ = false) := by
        intro i; rw [World.frozen?_setCell]; exact hf i
      clear hc hf ho
      go_wp2
      go_roundw
      case rel => exact ⟨k + 1, by omega, by go_num, HO.out, HC.out, HF.out⟩
      case measure => simp [intOf]; omega
    · have HO := hid ho
      clear hc hf ho
      go_wp2
      go_end0
      exact ⟨rfl, HO.out⟩

set_option maxRecDepth 100000 in
set_option maxHeartbeats 400000 in
theorem over_nil (w : World) :
    Calls Try.prog 42 #[.slice none 0 0] w fun e w' => e = .returned (.tuple #[]) ∧ w' = w := by
  go_enter Try.func42, Try.ntmps42
  go_wp2
  refine wp_loop_rounds 1 ?_
  rw [rounds_succ]
  go_wp2
  go_end0
  exact ⟨rfl, rfl⟩

theorem RowAt.below {B : Nat} {w w' : World} {b o n : Nat} {x : Nat → Nat} (h : RowAt w b o n x) (hb : Below B w w') (hlt : b < B) : RowAt w' b o n x :=
  fun i hi => (hb.cell (p := ⟨b, o + i, none⟩) hlt).trans (h i hi)
theorem NewRow.row {w0 w : World} {n : Nat} {x : Nat → Nat} (h : NewRow w0 w n x) : RowAt w w0.heap.size 0 n x :=
  fun i hi => by rw [Nat.zero_add]; exact h.cells i hi

set_option maxRecDepth 100000 in
set_option maxHeartbeats 1000000 in
theorem kept_any (g n c : Nat) (p : Option Addr) (x : Nat → Nat) (w : World) (hn : n ≤ 70000) (hg : g < w.heap.size) (hr : RowAt w g 0 (n + 3) (lentN n x)) (hx : StrAt w p n x) :
    Calls Try.prog 15 #[.slice (some ⟨g, 0, none⟩) n (n + 3), .slice p n c] w fun e w' => e = .returned (.bool true) ∧ Below w.heap.size w w' := by
  have hrd : RowAt w.drew g 0 (n + 3) (lentN n x) := hr
  have h3 : (0 : Int) ≤ (n : Int) + 3 := by omega
  have hw3 : IntKind.i64.wrap ((n : Int) + 3) = (n : Int) + 3 := by rw [IntKind.wrap_i64]; omega
  go_enter Try.func15, Try.ntmps15
  go_wp2_with fail
  go_region_held3 (fun w' => True) (trivial) (first | (go_at_call 9; refine (lent_any p n c x _ hn (by exact hx)).mono ?_; rintro e w1 ⟨rfl, hnew⟩) | (go_at_call 27; refine (same_true _ _ (n + 3) _ _ (lentN n x) _ (.inr ⟨_, _, rfl, by exact hrd.below hnew.below hg⟩) (.inr ⟨_, _, rfl, by exact hnew.row⟩)).mono ?_; rintro e w2 ⟨rfl, rfl⟩))
  go_wp2
  go_ret
  exact ⟨rfl, (Below.refl _ _).drew.trans hnew.below⟩
end Go.Proofs.Ytapgdenodhcliaa
