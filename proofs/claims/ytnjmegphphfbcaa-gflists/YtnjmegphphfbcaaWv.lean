/- Contract of Axpy of package gf, over slices of bytes as they lie in memory: the sums lie in a new block, what was there is as it was; or the error's number by the lengths. -/
import Derived.Test.YtnjmegphphfbcaaWu
namespace Go.Proofs.Ytnjmegphphfbcaa
open Go.RowKit

theorem Try.info5 : (Try.prog.info? 5).map (fun i => (i.zero, i.size, i.bytes)) = some (some (.int .u8 0), 1, 1) := by kernel_rfl

/-- A row of n bytes lies at block b from o on. -/
def RowAt (w : World) (b o n : Nat) (x : Nat → Nat) : Prop := ∀ i, i < n → w.cell? ⟨b, o + i, none⟩ = some (.int .u8 (x i : Nat))
/-- The world w has one block more than w0 has: n bytes, x, which may be written; what was there is as it was. -/
structure NewRow (w0 w : World) (n : Nat) (x : Nat → Nat) : Prop where
  size : w.heap.size = w0.heap.size + 1
  below : Below w0.heap.size w0 w
  cells : ∀ i, i < n → w.cell? ⟨w0.heap.size, i, none⟩ = some (.int .u8 (x i : Nat))
  free : ∀ i, w.frozen? ⟨w0.heap.size, i, none⟩ = false

theorem madeCells_get (z : Value) (n i : Nat) (h : i < n) : (madeCells #[z] n)[i]? = some z := by
  simp [madeCells, h, Nat.mod_one]
theorem run_make_u8 (n : Nat) (hn : n ≤ 70003) (w : World) :
    (Instr.makeSlice 32 (.int .i64 (n : Int)) (.int .i64 (n : Int))).run Try.prog w = .ok (.slice (some ⟨w.heap.size, 0, none⟩) n n) (w.alloc (.cells (madeCells #[.int .u8 0] n) 5)) := by
  obtain ⟨i0, hi, hz0, hz1, hz2⟩ := info_parts Try.info5
  have h := run_make (P := Try.prog) w 32 5 i0 (.int .u8 0) Try.underlying32 hi hz0 .i64 .i64 n n (by omega) (Int.le_refl _) (by rw [hz2]; omega) (by omega)
  rw [hz1] at h
  simpa [Value.cells] using h

theorem NewRow.made (w : World) (n : Nat) : NewRow w (w.alloc (.cells (madeCells #[.int .u8 0] n) 5)) n (fun _ => 0) where
  size := by simp
  below := (Below.refl _ _).alloc (Nat.le_refl _) _
  cells := fun i h => by rw [World.cell?_alloc_new, madeCells_get _ _ _ h]; rfl
  free := fun i => World.frozen?_alloc_new _ _ _ _
theorem NewRow.set {w0 w : World} {n : Nat} {x : Nat → Nat} (h : NewRow w0 w n x) (k : Nat) (v : Nat) (hk : k < n) :
    NewRow w0 (w.setCell ⟨w0.heap.size, k, none⟩ (.int .u8 (v : Nat))) n (fun i => if i = k then v else x i) where
  size := by simp [h.size]
  below := h.below.setCell (Nat.le_refl _) _
  cells := fun i hi => by
    by_cases e : i = k
    · subst e
      rw [World.cell?_setCell_same _ _ _ (h.cells i hi)]; simp
    · rw [World.cell?_setCell_other _ _ _ _ (by intro h2; cases h2; exact e rfl), h.cells i hi]; simp [e]
  free := fun i => by rw [World.frozen?_setCell]; exact h.free i
theorem NewRow.congr {w0 w : World} {n : Nat} {x y : Nat → Nat} (h : NewRow w0 w n x) (e : ∀ i, i < n → x i = y i) : NewRow w0 w n y where
  size := h.size
  below := h.below
  cells := fun i hi => by rw [h.cells i hi, e i hi]
  free := h.free

theorem upto_step (f : Nat → Nat) (k i : Nat) : (if i = k then f k else if i < k then f i else 0) = if i < k + 1 then f i else 0 := by
  by_cases e : i = k
  · subst e; rw [if_pos rfl, if_pos (by omega)]
  · rw [if_neg e]
    by_cases h : i < k
    · rw [if_pos h, if_pos (by omega)]
    · rw [if_neg h, if_neg (by omega)]

/-- One number of a list and a multiple of another one's, added. -/
def axN (a : Nat) (y x : Nat → Nat) (i : Nat) : Nat := y i ^^^ Gf.gm a (x i)
theorem axN_lt (a : Nat) (y x : Nat → Nat) (i : Nat) (ha : a < 256) (hy : y i < 256) : axN a y x i < 256 := Gf.xor_lt _ _ hy (Gf.gm_lt _ _ ha)

set_option maxRecDepth 100000 in
set_option maxHeartbeats 1000000 in
theorem axpy_some (by_ oy n cy bx ox cx a : Nat) (y x : Nat → Nat) (w : World) (hn : n ≤ 65536) (hcx : n ≤ cx) (ha : a < 256)
    (hy : ∀ i, i < n → y i < 256) (hx : ∀ i, i < n → x i < 256) (hby : by_ < w.heap.size) (hbx : bx < w.heap.size)
    (celly : RowAt w by_ oy n y) (cellx : RowAt w bx ox n x) :
    Calls Try.prog 21 #[.slice (some ⟨by_, oy, none⟩) n cy, .slice (some ⟨bx, ox, none⟩) n cx, .int .u8 a] w fun e w' =>
      e = .returned (.tuple #[.slice (some ⟨w.heap.size, 0, none⟩) n n, .int .i64 0]) ∧ NewRow w w' n (axN a y x) := by
  have HE : Hid (errM n n = 0) := by unfold errM; rw [if_neg (by omega), if_pos rfl]; trivial
  have hmk := run_make_u8 n (by omega)
  go_enter Try.func21, Try.ntmps21
  go_wp2_with (go_at_call 33; refine (match_any _ _ _ _ _ _ _).mono ?_; rintro e w' ⟨rfl, hw⟩; have hw2 := hw.symm; subst hw2; clear hw; rw [HE.out])
  clear hmk
  go_loopw [27] (fun i wr => ∃ k : Nat, k ≤ n ∧ i = .int .i64 k ∧ NewRow w wr n (fun i => if i < k then axN a y x i else 0)) (fun i _ => (n - intOf i).toNat)
  case atStart => exact ⟨0, by omega, rfl, (NewRow.made w n).congr (fun i _ => by simp)⟩
  case round =>
    obtain ⟨k, hk, rfl, hrow⟩ := hrel
    by_cases hlt : k < n
    · have c1 : wr.cell? ⟨by_, oy + k, none⟩ = some (.int .u8 (y k : Nat)) := (hrow.below.cell (p := ⟨by_, oy + k, none⟩) hby).trans (celly k hlt)
      have c2 : wr.cell? ⟨bx, ox + k, none⟩ = some (.int .u8 (x k : Nat)) := (hrow.below.cell (p := ⟨bx, ox + k, none⟩) hbx).trans (cellx k hlt)
      have c3 : wr.cell? ⟨w.heap.size, k, none⟩ = some (.int .u8 0) := by rw [hrow.cells k hlt]; simp
      have c4 := hrow.free k
      have hy' := hy k hlt
      have hx' := hx k hlt
      have hg := Gf.gm_lt a (x k) ha
      have HR := hid (hrow.set k (axN a y x k) hlt)
      clear hrow hx hy celly cellx
      go_wp2_with (first | (go_at_call 17; refine (mul_any _ _ _ (by omega) (by omega) (by omega) (by omega)).mono ?_; rintro e w' ⟨rfl, rfl⟩) | (go_at_call 16; refine (add_any _ _ _ (by omega) (by omega) (by omega) (by omega)).mono ?_; rintro e w' ⟨rfl, rfl⟩))
      go_roundw
      case rel => exact ⟨k + 1, by omega, by go_num, HR.out.congr (fun i _ => upto_step _ k i)⟩
      case measure => simp [intOf]; omega
    · have e : k = n := by omega
      have E := hid (hrow.congr (y := axN a y x) (fun i hi => by rw [if_pos (by omega)]))
      clear e hrow celly cellx
      go_wp2
      go_ret2
      exact ⟨rfl, E.out⟩

set_option maxRecDepth 100000 in
set_option maxHeartbeats 400000 in
theorem axpy_err (a b : Option Addr) (x y cx cy : Nat) (m : Int) (w : World) (h : errM x y ≠ 0) :
    Calls Try.prog 21 #[.slice a x cx, .slice b y cy, .int .u8 m] w fun e w' => e = .returned (.tuple #[.slice none 0 0, .int .i64 (errM x y)]) ∧ w' = w := by
  have h' : (errM x y != 0) = true := by simpa using h
  clear h
  go_enter Try.func21, Try.ntmps21
  go_wp2_with (go_at_call 33; refine (match_any _ _ _ _ _ _ _).mono ?_; rintro e w' ⟨rfl, rfl⟩)
  go_ret2
  exact ⟨rfl, rfl⟩
end Go.Proofs.Ytnjmegphphfbcaa
