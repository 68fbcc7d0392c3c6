/- Lent lists of texts; contracts of LentTexts, SameTexts and KeptTexts of the statements' kit. -/
import Derived.Test.YtfhjioedelpgiaaDoorSt
namespace Go.Proofs.YtfhjioedelpgiaaDoor
open Go Go.RowKit
theorem Tryd.infoS : (Tryd.prog.info? 9).map (fun i => (i.zero, i.size, i.bytes)) = some (some (.string ⟨#[]⟩), 1, 16) := by kernel_rfl
structure NewTxt (w0 w : World) (n : Nat) (S : Nat → ByteArray) : Prop where
  size : w.heap.size = w0.heap.size + 1
  below : Below w0.heap.size w0 w
  cells : ∀ i, i < n → w.cell? ⟨w0.heap.size, i, none⟩ = some (.string (S i))
  free : ∀ i, w.frozen? ⟨w0.heap.size, i, none⟩ = false
theorem run_make_str (n : Nat) (hn : n ≤ 70003) (w : World) :
    (Instr.makeSlice 25 (.int .i64 (n : Int)) (.int .i64 (n : Int))).run Tryd.prog w = .ok (.slice (some ⟨w.heap.size, 0, none⟩) n n) (w.alloc (.cells (madeCells #[.string ⟨#[]⟩] n) 9)) := by
  obtain ⟨i0, hi, hz0, hz1, hz2⟩ := info_parts Tryd.infoS
  have h := run_make (P := Tryd.prog) w 25 9 i0 (.string ⟨#[]⟩) Tryd.underlying25 hi hz0 .i64 .i64 n n (by omega) (Int.le_refl _) (by rw [hz2]; omega) (by omega)
  rw [hz1] at h
  simpa [Value.cells] using h
theorem NewTxt.made (w : World) (n : Nat) : NewTxt w (w.alloc (.cells (madeCells #[.string ⟨#[]⟩] n) 9)) n (fun _ => ⟨#[]⟩) where
  size := by simp
  below := (Below.refl _ _).alloc (Nat.le_refl _) _
  cells := fun i h => by rw [World.cell?_alloc_new, madeCells_get _ _ _ h]
  free := fun i => World.frozen?_alloc_new _ _ _ _
theorem NewTxt.set {w0 w : World} {n : Nat} {S : Nat → ByteArray} (h : NewTxt w0 w n S) (k : Nat) (v : ByteArray) (hk : k < n) :
    NewTxt w0 (w.setCell ⟨w0.heap.size, k, none⟩ (.string v)) n (fun i => if i = k then v else S i) where
  size := by simp [h.size]
  below := h.below.setCell (Nat.le_refl _) _
  cells := fun i hi => by
    by_cases e : i = k
    · subst e
      rw [World.cell?_setCell_same _ _ _ (h.cells i hi)]; simp
    · rw [World.cell?_setCell_other _ _ _ _ (by intro h2; cases h2; exact e rfl), h.cells i hi]; simp [e]
  free := fun i => by rw [World.frozen?_setCell]; exact h.free i
theorem NewTxt.congr {w0 w : World} {n : Nat} {S T : Nat → ByteArray} (h : NewTxt w0 w n S) (e : ∀ i, i < n → S i = T i) : NewTxt w0 w n T where
  size := h.size
  below := h.below
  cells := fun i hi => by rw [h.cells i hi, e i hi]
  free := h.free
theorem NewTxt.at {w0 w : World} {n : Nat} {S : Nat → ByteArray} (h : NewTxt w0 w n S) : TxtAt w (some ⟨w0.heap.size, 0, none⟩) n S := .inr ⟨_, _, rfl, fun i hi => by rw [Nat.zero_add]; exact h.cells i hi⟩
def valS (n : Nat) (S : Nat → ByteArray) : List Value := (List.range n).map fun i => .string (S i)
theorem valS_len (n : Nat) (S : Nat → ByteArray) : (valS n S).length = n := by simp [valS]
theorem valS_get (n : Nat) (S : Nat → ByteArray) (i : Nat) (h : i < n) : (valS n S)[i]? = some (.string (S i)) := by simp [valS, h]
theorem NewTxt.copied {w0 w : World} {n : Nat} {S : Nat → ByteArray} (h : NewTxt w0 w n S) (m : Nat) (T : Nat → ByteArray) (hm : m ≤ n) :
    NewTxt w0 (w.setCells w0.heap.size 0 (valS m T)) n (fun i => if i < m then T i else S i) where
  size := by rw [size_setCells, h.size]
  below := below_setCells _ _ (Nat.le_refl _) _ _ _ _ h.below
  cells := fun i hi => by
    by_cases e : i < m
    · have hin := World.cell?_setCells_in w0.heap.size (valS m T) 0 w (fun j hj => by
        rw [valS_len] at hj
        rw [Nat.zero_add, h.cells j (by omega)]; rfl) i (by rw [valS_len]; exact e)
      rw [Nat.zero_add] at hin
      rw [hin, if_pos e]
      have g := valS_get m T i e
      rw [List.getElem?_eq_getElem (by rw [valS_len]; exact e)] at g
      exact g
    · rw [World.cell?_setCells_out _ _ _ _ _ (fun _ _ => by rw [valS_len]; right; simp; omega), if_neg e, h.cells i hi]
  free := fun i => by rw [World.frozen?_setCells]; exact h.free i
theorem run_copy_str (w : World) (b o n c g dl dc : Nat) (S T : Nat → ByteArray) (w0 : World) (hg : g = w0.heap.size) (h : NewTxt w0 w dl T) (hx : ∀ i, i < n → w.cell? ⟨b, o + i, none⟩ = some (.string (S i))) (hn : n ≤ dl) (ty : TypeId) :
    (Builtin.copy_ #[25, 25] ty #[.slice (some ⟨g, 0, none⟩) dl dc, .slice (some ⟨b, o, none⟩) n c]).run Tryd.prog w = .ok (goInt n) (w.setCells g 0 (valS n S)) := by
  subst hg
  have := run_copy_cells (P := Tryd.prog) w 25 25 ty 9 w0.heap.size 0 dl dc ⟨b, o, none⟩ n c (valS n S) Tryd.underlying25 (by kernel_rfl) (by rw [valS_len]; exact (Nat.min_eq_left hn).symm)
    (fun j v hj => by
      have hjn : j < n := by
        rcases Nat.lt_or_ge j n with q | q
        · exact q
        · rw [List.getElem?_eq_none (by rw [valS_len]; exact q)] at hj; cases hj
      rw [valS_get n S j hjn] at hj
      cases hj
      rw [add_plain']; exact hx j hjn)
    (fun j hj => by rw [valS_len] at hj; rw [Nat.zero_add, h.cells j (by omega)]; rfl)
    (fun j _ => by rw [Nat.zero_add]; exact h.free j)
    (fun v hv => by unfold valS at hv; obtain ⟨i, _, rfl⟩ := List.mem_map.1 hv; rfl)
  rw [valS_len] at this
  exact this
def markS : ByteArray := ⟨#[108, 101, 110, 116]⟩
def lentS (n : Nat) (S : Nat → ByteArray) (i : Nat) : ByteArray := if i < n then S i else markS
theorem uptoS_step (f : Nat → ByteArray) (z : ByteArray) (k i : Nat) : (if i = k then f k else if i < k then f i else z) = if i < k + 1 then f i else z := by
  by_cases e : i = k
  · subst e; rw [if_pos rfl, if_pos (by omega)]
  · rw [if_neg e]
    by_cases h : i < k
    · rw [if_pos h, if_pos (by omega)]
    · rw [if_neg h, if_neg (by omega)]
theorem sizeS (w : World) : (sizeOf (Tryd.prog.elem 25)).run Tryd.prog w = .ok 1 w := by
  obtain ⟨i0, hi0, hz0, hz1, hz2⟩ := info_parts Tryd.infoS
  rw [show Tryd.prog.elem 25 = 9 by kernel_rfl]
  simp [sizeOf, typeInfo, hi0, hz1]
theorem underS : Tryd.prog.underlying 25 = some (.slice (Tryd.prog.elem 25)) := by kernel_rfl
theorem run_hiS (g n c k : Nat) (hk : k ≤ c) (w : World) : (Instr.slice 25 (.slice (some ⟨g, 0, none⟩) n c) none (some (.int .i64 (k : Int))) none).run Tryd.prog w = .ok (.slice (some ⟨g, 0, none⟩) k c) w := by
  rw [run_slice_h (P := Tryd.prog) w 25 (some ⟨g, 0, none⟩) n c underS .i64 (k : Int) (by omega) (by omega), sizeS]
  simp [Result.andThen, sliced, Addr.add]
def LentTx (w : World) (n : Nat) (S : Nat → ByteArray) (e : Ending) (w' : World) : Prop := e = .returned (.slice (some ⟨w.heap.size, 0, none⟩) n (n + 3)) ∧ NewTxt w w' (n + 3) (lentS n S)
set_option maxRecDepth 100000 in
set_option maxHeartbeats 1000000 in
theorem lentTx_core (p : Option Addr) (n c : Nat) (S : Nat → ByteArray) (w w1 : World) (hn : n ≤ 70000)
    (hcp : ∀ ty, (Builtin.copy_ #[25, 25] ty #[.slice (some ⟨w.heap.size, 0, none⟩) (n + 3) (n + 3), .slice p n c]).run Tryd.prog (w.alloc (.cells (madeCells #[.string ⟨#[]⟩] (n + 3)) 9)) = .ok (goInt n) w1)
    (hrow : NewTxt w w1 (n + 3) (fun i => if i < n then S i else ⟨#[]⟩)) :
    Calls Tryd.prog 7 #[.slice p n c] w fun e w' => LentTx w n S e w' := by
  have hmk := run_make_str (n + 3) (by omega) w
  rw [show ((n + 3 : Nat) : Int) = (n : Int) + 3 from by omega] at hmk
  have hsl := run_hiS w.heap.size (n + 3) (n + 3) n (by omega)
  have HR := hid hrow
  clear hrow
  go_enter Tryd.func7, Tryd.ntmps7
  go_wp2
  clear hmk hcp
  go_loopw [4] (fun i wr => ∃ k : Nat, n ≤ k ∧ k ≤ n + 3 ∧ i = .int .i64 k ∧ NewTxt w wr (n + 3) (fun i => if i < k then lentS n S i else ⟨#[]⟩)) (fun i _ => (n + 3 - intOf i).toNat)
  case atStart => exact ⟨n, by omega, by omega, rfl, HR.out.congr (fun i _ => by by_cases e : i < n <;> simp [lentS, e])⟩
  case round =>
    obtain ⟨k, hk1, hk2, rfl, hrow⟩ := hrel
    clear HR
    by_cases hlt : k < n + 3
    · have c3 : wr.cell? ⟨w.heap.size, k, none⟩ = some (.string ⟨#[]⟩) := by rw [hrow.cells k hlt]; simp
      have c4 := hrow.free k
      have HR := hid (hrow.set k (lentS n S k) hlt)
      have HL : Hid (lentS n S k = ⟨#[108, 101, 110, 116]⟩) := if_neg (by omega)
      clear hrow
      go_wp2
      go_roundw
      case rel =>
        refine ⟨k + 1, by omega, by omega, by go_num, ?_⟩
        have := HR.out.congr (T := fun i => if i < k + 1 then lentS n S i else ⟨#[]⟩) (fun i _ => uptoS_step (lentS n S) _ k i)
        rw [HL.out] at this
        exact this
      case measure => simp [intOf]; omega
    · have e : k = n + 3 := by omega
      have E := hid (hrow.congr (T := lentS n S) (fun i hi => by rw [if_pos (by omega)]))
      clear e hrow
      go_wp2
      go_ret
      exact ⟨rfl, E.out⟩
theorem lentTx_any (p : Option Addr) (n c : Nat) (S : Nat → ByteArray) (w : World) (hn : n ≤ 70000) (hx : TxtAt w p n S) :
    Calls Tryd.prog 7 #[.slice p n c] w fun e w' => LentTx w n S e w' := by
  have hrow := NewTxt.made w (n + 3)
  by_cases h0 : n = 0
  · subst h0
    refine lentTx_core p 0 c S w _ hn (fun ty => ?_) (hrow.congr (fun i _ => by simp))
    exact run_copy_none (P := Tryd.prog) _ 25 25 ty 9 _ _ _ _ _ _ Tryd.underlying25 (by kernel_rfl) (by simp)
  · rcases hx with e | ⟨b, o, rfl, hx⟩
    · exact absurd e h0
    · have hb : b < w.heap.size := cell_lt (hx 0 (by omega))
      have hx1 : ∀ i, i < n → (w.alloc (.cells (madeCells #[.string ⟨#[]⟩] (n + 3)) 9)).cell? ⟨b, o + i, none⟩ = some (.string (S i)) := fun i hi => by rw [World.cell?_alloc_lt _ _ _ hb]; exact hx i hi
      exact lentTx_core _ n c S w _ hn (fun ty => run_copy_str _ b o n c w.heap.size (n + 3) (n + 3) S (fun _ => ⟨#[]⟩) w rfl hrow hx1 (by omega) ty) (hrow.copied n S (by omega))
set_option maxRecDepth 100000 in
set_option maxHeartbeats 1000000 in
theorem sameTx_any (p q : Option Addr) (n c d : Nat) (S : Nat → ByteArray) (w : World) (hn : n ≤ 80000) (h : TxtAt w p n S) (h' : TxtAt w q n S) :
    Calls Tryd.prog 31 #[.slice p n c, .slice q n d] w fun e w' => e = .returned (.bool true) ∧ Below w.heap.size w w' := by
  have hne : ((n : Int) != (n : Int)) = false := by simp
  have HH := hid h
  have HH' := hid h'
  clear h h'
  go_enter Tryd.func31, Tryd.ntmps31
  go_wp2
  go_loopw [5] (fun i wr => ∃ k : Nat, k ≤ n ∧ i = .int .i64 k ∧ Below w.heap.size w wr) (fun i _ => (n - intOf i).toNat)
  case atStart => exact ⟨0, by omega, rfl, Below.refl _ _⟩
  case round =>
    obtain ⟨k, hk, rfl, hb⟩ := hrel
    have HB := hid hb
    by_cases hlt : k < n
    · obtain ⟨b, o, rfl, c1⟩ := str_new (HH.out.below hb) k hlt
      obtain ⟨b', o', rfl, c2⟩ := str_new (HH'.out.below hb) k hlt
      have hlt' : (k : Int) < (n : Int) := by omega
      generalize S k = s at c1 c2
      clear HH HH' hb
      go_wp2_with fail
      go_quiet (fail)
      go_wp2
      go_roundw
      case rel => exact ⟨k + 1, by omega, by go_num, Below.drewN' HB.out nq⟩
      case measure => simp [intOf]; omega
    · have hge : ¬ (k : Int) < (n : Int) := by omega
      clear HH HH' hb
      go_wp2
      go_ret
      exact ⟨rfl, HB.out⟩
set_option maxRecDepth 100000 in
set_option maxHeartbeats 1000000 in
theorem keptTx_any (g n c : Nat) (p : Option Addr) (S : Nat → ByteArray) (w : World) (hn : n ≤ 70000) (hT : TxtAt w (some ⟨g, 0, none⟩) (n + 3) (lentS n S)) (hS : TxtAt w p n S) :
    Calls Tryd.prog 17 #[.slice (some ⟨g, 0, none⟩) n (n + 3), .slice p n c] w fun e w' => e = .returned (.bool true) ∧ Below w.heap.size w w' := by
  have O1 : Hid (TxtAt w.drew (some ⟨g, 0, none⟩) (n + 3) (lentS n S)) := hT.below (Below.refl _ _).drew
  have S1 : Hid (TxtAt w.drew p n S) := hS.below (Below.refl _ _).drew
  have h3 : (0 : Int) ≤ (n : Int) + 3 := by omega
  have hw3 : IntKind.i64.wrap ((n : Int) + 3) = (n : Int) + 3 := by rw [IntKind.wrap_i64]; omega
  have hs2 : ∀ (z : Nat) (w : World), (Instr.slice 25 (.slice (some ⟨z, 0, none⟩) n (n + 3)) none (some (.int .i64 ((n : Int) + 3))) none).run Tryd.prog w = .ok (.slice (some ⟨z, 0, none⟩) (n + 3) (n + 3)) w := fun z w => run_hiS z n (n + 3) (n + 3) (Nat.le_refl _) w
  have hs1 := hs2 g
  have HN := hid hn
  clear hT hS
  go_enter Tryd.func17, Tryd.ntmps17
  go_wp2_with fail
  go_region_held3 (fun w' => True) (trivial) (first | (go_at_call 7; refine (lentTx_any p n c S _ HN.out (by exact S1.out)).mono ?_; rintro e w1 ⟨rfl, hnew⟩) | (go_at_call 31; refine (sameTx_any _ _ (n + 3) _ _ (lentS n S) _ (by have := HN.out; omega) (by exact O1.out.below hnew.below) (by exact hnew.at)).mono ?_; rintro e w2 ⟨rfl, hb2⟩))
  have hb1 : Below w.heap.size w w1 := (Below.refl _ _).drew.trans hnew.below
  have HB := hid (hb1.trans (hb2.mono hb1.size))
  clear hnew hb1 hb2
  go_wp2
  go_ret
  exact ⟨rfl, HB.out⟩
end Go.Proofs.YtfhjioedelpgiaaDoor
