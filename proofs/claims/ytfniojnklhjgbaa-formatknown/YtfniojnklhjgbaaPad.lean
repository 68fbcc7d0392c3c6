/- Texts laid into one, cut to what is needed: the remark ahead of each part says what is proved there. -/
import Derived.Test.YtfniojnklhjgbaaPab
import Derived.Test.YtfniojnklhjgbaaPac
import Derived.Deep.CutRange
/- Bytes in memory; contracts of SameBytes, LentBytes and KeptBytes of the statements' kit. -/
namespace Go.Proofs.Ytfniojnklhjgbaa.H
open Go.RowKit

theorem Try.info5 : (Try.prog.info? 5).map (fun i => (i.zero, i.size, i.bytes)) = some (some (.int .u8 0), 1, 1) := by kernel_rfl

/-- A row of n bytes lies at block b from o on. -/
def RowAt (w : World) (b o n : Nat) (x : Nat → Nat) : Prop := ∀ i, i < n → w.cell? ⟨b, o + i, none⟩ = some (.int .u8 (x i : Nat))
/-- The world w has one block more than w0 has: n bytes, x, which may be written; what was there is as it was. -/
structure NewRow (w0 w : World) (n : Nat) (x : Nat → Nat) : Prop where
  size : w.heap.size = w0.heap.size + 1
  below : Below w0.heap.size w0 w
  cells : ∀ i, i < n → w.cell? ⟨w0.heap.size, i, none⟩ = some (.int .u8 (x i : Nat))
  free : ∀ i, w.frozen? ⟨w0.heap.size, i, none⟩ = false

theorem madeCells_get (z : Value) (n i : Nat) (h : i < n) : (madeCells #[z] n)[i]? = some z := by
  simp [madeCells, h, Nat.mod_one]
theorem run_make_u8 (n : Nat) (hn : n ≤ 70003) (w : World) :
    (Instr.makeSlice 24 (.int .i64 (n : Int)) (.int .i64 (n : Int))).run Try.prog w = .ok (.slice (some ⟨w.heap.size, 0, none⟩) n n) (w.alloc (.cells (madeCells #[.int .u8 0] n) 5)) := by
  obtain ⟨i0, hi, hz0, hz1, hz2⟩ := info_parts Try.info5
  have h := run_make (P := Try.prog) w 24 5 i0 (.int .u8 0) Try.underlying24 hi hz0 .i64 .i64 n n (by omega) (Int.le_refl _) (by rw [hz2]; omega) (by omega)
  rw [hz1] at h
  simpa [Value.cells] using h

theorem NewRow.made (w : World) (n : Nat) : NewRow w (w.alloc (.cells (madeCells #[.int .u8 0] n) 5)) n (fun _ => 0) where
  size := by simp
  below := (Below.refl _ _).alloc (Nat.le_refl _) _
  cells := fun i h => by rw [World.cell?_alloc_new, madeCells_get _ _ _ h]; rfl
  free := fun i => World.frozen?_alloc_new _ _ _ _
theorem NewRow.set {w0 w : World} {n : Nat} {x : Nat → Nat} (h : NewRow w0 w n x) (k : Nat) (v : Nat) (hk : k < n) :
    NewRow w0 (w.setCell ⟨w0.heap.size, k, none⟩ (.int .u8 (v : Nat))) n (fun i => if i = k then v else x i) where
  size := by simp [h.size]
  below := h.below.setCell (Nat.le_refl _) _
  cells := fun i hi => by
    by_cases e : i = k
    · subst e
      rw [World.cell?_setCell_same _ _ _ (h.cells i hi)]; simp
    · rw [World.cell?_setCell_other _ _ _ _ (by intro h2; cases h2; exact e rfl), h.cells i hi]; simp [e]
  free := fun i => by rw [World.frozen?_setCell]; exact h.free i
theorem NewRow.congr {w0 w : World} {n : Nat} {x y : Nat → Nat} (h : NewRow w0 w n x) (e : ∀ i, i < n → x i = y i) : NewRow w0 w n y where
  size := h.size
  below := h.below
  cells := fun i hi => by rw [h.cells i hi, e i hi]
  free := h.free

theorem upto_step (f : Nat → Nat) (k i : Nat) : (if i = k then f k else if i < k then f i else 0) = if i < k + 1 then f i else 0 := by
  by_cases e : i = k
  · subst e; rw [if_pos rfl, if_pos (by omega)]
  · rw [if_neg e]
    by_cases h : i < k
    · rw [if_pos h, if_pos (by omega)]
    · rw [if_neg h, if_neg (by omega)]

end Go.Proofs.Ytfniojnklhjgbaa.H

/- Contract of SameBytes of the statements' kit: of two slices that read alike it returns true, and leaves the world as it was. -/
namespace Go.Proofs.Ytfniojnklhjgbaa.H
open Go.RowKit

/-- The slice's value leads to n bytes x; one of no byte may lead anywhere. -/
def StrAt (w : World) (p : Option Addr) (n : Nat) (x : Nat → Nat) : Prop := n = 0 ∨ ∃ b o, p = some ⟨b, o, none⟩ ∧ RowAt w b o n x
def strN (n : Nat) (x : Nat → Nat) : ByteArray := strOfNums ((List.range n).map fun i => (x i : Int))
theorem conv_str (w : World) (p : Option Addr) (n c : Nat) (x : Nat → Nat) (h : StrAt w p n x) :
    (convert 24 9 (.slice p n c)).run Try.prog w = .ok (.string (strN n x)) w := by
  rcases h with rfl | ⟨b, o, rfl, h⟩
  · rw [run_convert_bytes_string w 24 9 5 _ 0 c Try.underlying24 Try.underlying5 Try.underlying9]
    cases p <;> simp [Conv.bytesToString, loadCells, strN]
    all_goals rfl
  · exact run_convert_bytes_arg w 24 5 Try.underlying24 Try.underlying5 b o n c _ (by simp) (fun i hi => by rw [h i hi]; simp [List.getD, hi]) 9 Try.underlying9

set_option maxHeartbeats 400000 in
theorem same_true (p q : Option Addr) (n c d : Nat) (x : Nat → Nat) (w : World) (hp : StrAt w p n x) (hq : StrAt w q n x) :
    Calls Try.prog 14 #[.slice p n c, .slice q n d] w fun e w' => e = .returned (.bool true) ∧ w' = w := by
  have h1 := conv_str w p n c x hp
  have h2 := conv_str w q n d x hq
  go_enter Try.func14, Try.ntmps14
  go_wp2
  go_ret
  exact ⟨rfl, rfl⟩
end Go.Proofs.Ytfniojnklhjgbaa.H

/- Contract of LentBytes of the statements' kit: a copy of the bytes lies in a new block, with three marked bytes of spare room behind it; what was there is as it was. -/
namespace Go.Proofs.Ytfniojnklhjgbaa.H
open Go.RowKit

theorem size_setCells (b : Nat) : ∀ (vs : List Value) (o : Nat) (w : World), (w.setCells b o vs).heap.size = w.heap.size
  | [], _, _ => rfl
  | v :: r, o, w => by rw [World.setCells, size_setCells b r, World.size_setCell]
theorem below_setCells (b B : Nat) (hB : B ≤ b) : ∀ (vs : List Value) (o : Nat) (w0 w : World), Below B w0 w → Below B w0 (w.setCells b o vs)
  | [], _, _, _, h => h
  | v :: r, o, w0, w, h => by rw [World.setCells]; exact below_setCells b B hB r (o + 1) w0 _ (h.setCell hB _)

/-- n bytes as values. -/
def valN (n : Nat) (x : Nat → Nat) : List Value := (List.range n).map fun i => .int .u8 (x i : Nat)
theorem valN_len (n : Nat) (x : Nat → Nat) : (valN n x).length = n := by simp [valN]
theorem valN_get (n : Nat) (x : Nat → Nat) (i : Nat) (h : i < n) : (valN n x)[i]? = some (.int .u8 (x i : Nat)) := by simp [valN, h]

theorem NewRow.copied {w0 w : World} {n : Nat} {x : Nat → Nat} (h : NewRow w0 w n x) (m : Nat) (y : Nat → Nat) (hm : m ≤ n) :
    NewRow w0 (w.setCells w0.heap.size 0 (valN m y)) n (fun i => if i < m then y i else x i) where
  size := by rw [size_setCells, h.size]
  below := below_setCells _ _ (Nat.le_refl _) _ _ _ _ h.below
  cells := fun i hi => by
    by_cases e : i < m
    · have hin := World.cell?_setCells_in w0.heap.size (valN m y) 0 w (fun j hj => by
        rw [valN_len] at hj
        rw [Nat.zero_add, h.cells j (by omega)]; rfl) i (by rw [valN_len]; exact e)
      rw [Nat.zero_add] at hin
      rw [hin, if_pos e]
      have g := valN_get m y i e
      rw [List.getElem?_eq_getElem (by rw [valN_len]; exact e)] at g
      exact g
    · rw [World.cell?_setCells_out _ _ _ _ _ (fun _ _ => by rw [valN_len]; right; simp; omega), if_neg e, h.cells i hi]
  free := fun i => by rw [World.frozen?_setCells]; exact h.free i

theorem run_copy_u8 (w : World) (b o n c g dl dc : Nat) (x y : Nat → Nat) (w0 : World) (hg : g = w0.heap.size) (h : NewRow w0 w dl y) (hx : RowAt w b o n x) (hn : n ≤ dl) (ty : TypeId) :
    (Builtin.copy_ #[24, 24] ty #[.slice (some ⟨g, 0, none⟩) dl dc, .slice (some ⟨b, o, none⟩) n c]).run Try.prog w = .ok (goInt n) (w.setCells g 0 (valN n x)) := by
  subst hg
  have := run_copy_cells (P := Try.prog) w 24 24 ty 5 w0.heap.size 0 dl dc ⟨b, o, none⟩ n c (valN n x) Try.underlying24 (by kernel_rfl) (by rw [valN_len]; exact (Nat.min_eq_left hn).symm)
    (fun j v hj => by
      have hjn : j < n := by
        rcases Nat.lt_or_ge j n with q | q
        · exact q
        · rw [List.getElem?_eq_none (by rw [valN_len]; exact q)] at hj; cases hj
      rw [valN_get n x j hjn] at hj
      cases hj
      have hadd : (⟨b, o, none⟩ : Addr).add j = ⟨b, o + j, none⟩ := by unfold Addr.add; split <;> simp_all
      rw [hadd]; exact hx j hjn)
    (fun j hj => by rw [valN_len] at hj; rw [Nat.zero_add, h.cells j (by omega)]; rfl)
    (fun j _ => by rw [Nat.zero_add]; exact h.free j)
    (fun v hv => by unfold valN at hv; obtain ⟨i, _, rfl⟩ := List.mem_map.1 hv; rfl)
  rw [valN_len] at this
  exact this

/-- What a lent list reads as, its spare room with it. -/
def lentN (n : Nat) (x : Nat → Nat) (i : Nat) : Nat := if i < n then x i else 160 + i % 90

theorem byte_mark (k : Nat) : ((160 + k % 90 : Nat) : Int) = 160 + (k : Int) % 90 := by omega

set_option maxRecDepth 100000 in
set_option maxHeartbeats 1000000 in
theorem lent_core (p : Option Addr) (n c : Nat) (x : Nat → Nat) (w w1 : World) (hn : n ≤ 70000)
    (hcp : ∀ ty, (Builtin.copy_ #[24, 24] ty #[.slice (some ⟨w.heap.size, 0, none⟩) (n + 3) (n + 3), .slice p n c]).run Try.prog (w.alloc (.cells (madeCells #[.int .u8 0] (n + 3)) 5)) = .ok (goInt n) w1)
    (hrow : NewRow w w1 (n + 3) (fun i => if i < n then x i else 0)) :
    Calls Try.prog 8 #[.slice p n c] w fun e w' => e = .returned (.slice (some ⟨w.heap.size, 0, none⟩) n (n + 3)) ∧ NewRow w w' (n + 3) (lentN n x) := by
  have hmk := run_make_u8 (n + 3) (by omega) w
  rw [show ((n + 3 : Nat) : Int) = (n : Int) + 3 from by omega] at hmk
  have HR := hid hrow
  clear hrow
  go_enter Try.func8, Try.ntmps8
  go_wp2
  clear hmk hcp
  go_loopw [4] (fun i wr => ∃ k : Nat, n ≤ k ∧ k ≤ n + 3 ∧ i = .int .i64 k ∧ NewRow w wr (n + 3) (fun i => if i < k then lentN n x i else 0)) (fun i _ => (n + 3 - intOf i).toNat)
  case atStart => exact ⟨n, by omega, by omega, rfl, HR.out.congr (fun i _ => by by_cases e : i < n <;> simp [lentN, e])⟩
  case round =>
    obtain ⟨k, hk1, hk2, rfl, hrow⟩ := hrel
    clear HR
    by_cases hlt : k < n + 3
    · have c3 : wr.cell? ⟨w.heap.size, k, none⟩ = some (.int .u8 0) := by rw [hrow.cells k hlt]; simp
      have c4 := hrow.free k
      have HR := hid (hrow.set k (lentN n x k) hlt)
      have HL : Hid (lentN n x k = 160 + k % 90) := if_neg (by omega)
      clear hrow
      go_wp2
      go_roundw
      case rel =>
        refine ⟨k + 1, by omega, by omega, by go_num, ?_⟩
        rw [HL.out] at HR
        have := HR.out.congr (y := fun i => if i < k + 1 then lentN n x i else 0) (fun i _ => by rw [← HL.out]; exact upto_step _ k i)
        rw [byte_mark] at this
        exact this
      case measure => simp [intOf]; omega
    · have e : k = n + 3 := by omega
      have E := hid (hrow.congr (y := lentN n x) (fun i hi => by rw [if_pos (by omega)]))
      clear e hrow
      go_wp2
      go_ret
      exact ⟨rfl, E.out⟩

theorem lent_any (p : Option Addr) (n c : Nat) (x : Nat → Nat) (w : World) (hn : n ≤ 70000) (hx : StrAt w p n x) :
    Calls Try.prog 8 #[.slice p n c] w fun e w' => e = .returned (.slice (some ⟨w.heap.size, 0, none⟩) n (n + 3)) ∧ NewRow w w' (n + 3) (lentN n x) := by
  have hrow := NewRow.made w (n + 3)
  by_cases h0 : n = 0
  · subst h0
    refine lent_core p 0 c x w _ hn (fun ty => ?_) (hrow.congr (fun i _ => by simp))
    exact run_copy_none (P := Try.prog) _ 24 24 ty 5 _ _ _ _ _ _ Try.underlying24 (by kernel_rfl) (by simp)
  · rcases hx with e | ⟨b, o, rfl, hx⟩
    · exact absurd e h0
    · have hb : b < w.heap.size := World.block_lt_of_cell? w _ (hx 0 (by omega))
      have hx1 : RowAt (w.alloc (.cells (madeCells #[.int .u8 0] (n + 3)) 5)) b o n x := fun i hi => by rw [World.cell?_alloc_lt _ _ _ hb]; exact hx i hi
      exact lent_core _ n c x w _ hn (fun ty => run_copy_u8 _ b o n c w.heap.size (n + 3) (n + 3) x (fun _ => 0) w rfl hrow hx1 (by omega) ty) (hrow.copied n x (by omega))
end Go.Proofs.Ytfniojnklhjgbaa.H

/- Contract of KeptBytes of the statements' kit: it returns true of a lent list that reads as it was lent. -/
namespace Go.Proofs.Ytfniojnklhjgbaa.H
open Go.RowKit

theorem RowAt.below {B : Nat} {w w' : World} {b o n : Nat} {x : Nat → Nat} (h : RowAt w b o n x) (hb : Below B w w') (hlt : b < B) : RowAt w' b o n x :=
  fun i hi => (hb.cell (p := ⟨b, o + i, none⟩) hlt).trans (h i hi)
theorem NewRow.row {w0 w : World} {n : Nat} {x : Nat → Nat} (h : NewRow w0 w n x) : RowAt w w0.heap.size 0 n x :=
  fun i hi => by rw [Nat.zero_add]; exact h.cells i hi

set_option maxRecDepth 100000 in
set_option maxHeartbeats 1000000 in
theorem kept_any (g n c : Nat) (p : Option Addr) (x : Nat → Nat) (w : World) (hn : n ≤ 70000) (hg : g < w.heap.size) (hr : RowAt w g 0 (n + 3) (lentN n x)) (hx : StrAt w p n x) :
    Calls Try.prog 17 #[.slice (some ⟨g, 0, none⟩) n (n + 3), .slice p n c] w fun e w' => e = .returned (.bool true) ∧ Below w.heap.size w w' := by
  have hrd : RowAt w.drew g 0 (n + 3) (lentN n x) := hr
  have h3 : (0 : Int) ≤ (n : Int) + 3 := by omega
  have hw3 : IntKind.i64.wrap ((n : Int) + 3) = (n : Int) + 3 := by rw [IntKind.wrap_i64]; omega
  go_enter Try.func17, Try.ntmps17
  go_wp2_with fail
  go_region_held3 (fun w' => True) (trivial) (first | (go_at_call 8; refine (lent_any p n c x _ hn (by exact hx)).mono ?_; rintro e w1 ⟨rfl, hnew⟩) | (go_at_call 14; refine (same_true _ _ (n + 3) _ _ (lentN n x) _ (.inr ⟨_, _, rfl, by exact hrd.below hnew.below hg⟩) (.inr ⟨_, _, rfl, by exact hnew.row⟩)).mono ?_; rintro e w2 ⟨rfl, rfl⟩))
  go_wp2
  go_ret
  exact ⟨rfl, (Below.refl _ _).drew.trans hnew.below⟩
/-- The first m of x over y. -/
def ovl (m : Nat) (x y : Nat → Nat) (i : Nat) : Nat := if i < m then x i else y i
theorem aB_take (N m : Nat) (x y : Nat → Nat) (h : m ≤ N) : ((aB N y).toList.take 0 ++ valN m x ++ (aB N y).toList.drop (0 + (valN m x).length)).toArray = aB N (ovl m x y) := by
  apply Array.ext
  · simp [valN_len, aB_size]; omega
  · intro i h1 h2
    have hi : i < N := by rw [aB_size] at h2; exact h2
    rw [aB_elem]
    unfold ovl
    simp only [List.take_zero, List.nil_append, List.getElem_toArray]
    by_cases e : i < m
    · rw [if_pos e, List.getElem_append_left (by rw [valN_len]; exact e)]
      simp [valN]
    · rw [if_neg e, List.getElem_append_right (by rw [valN_len]; omega)]
      simp only [valN_len, List.getElem_drop, Array.getElem_toList, aB_elem]
      congr 3; omega
/-- copy into a block that is known whole. -/
theorem run_copy_blk (w : World) (g N : Nat) (t : TypeId) (y : Nat → Nat) (p : Option Addr) (n c : Nat) (x : Nat → Nat) (hg : CAt w g (aB N y) t) (hx : StrAt w p n x) (ty : TypeId) :
    (Builtin.copy_ #[24, 24] ty #[.slice (some ⟨g, 0, none⟩) N N, .slice p n c]).run Try.prog w = .ok (.int .i64 ((min n N : Nat) : Int)) (w.setRow g (aB N (ovl (min n N) x y))) := by
  have hself : min n N = 0 → w.setRow g (aB N (ovl (min n N) x y)) = w := fun h => by
    rw [h, aB_congr N (x := ovl 0 x y) (y := y) (fun i _ => by unfold ovl; rw [if_neg (by omega)])]
    exact setRow_self w g _ t _ hg
  rcases Nat.eq_zero_or_pos (min n N) with h0 | h0
  · rw [hself h0, h0]
    exact run_copy_none (P := Try.prog) _ 24 24 ty 5 _ _ _ _ _ _ Try.underlying24 (by kernel_rfl) h0
  · rcases hx with rfl | ⟨b, o, rfl, hr⟩
    · omega
    · have := run_copy_row (P := Try.prog) w 24 24 ty 5 g 0 N N ⟨b, o, none⟩ n c (aB N y) t (valN (min n N) x) Try.underlying24 (by kernel_rfl) hg (by rw [valN_len])
        (fun j v hj => by
          have hlt : j < min n N := by
            rcases Nat.lt_or_ge j (min n N) with h | h
            · exact h
            · rw [List.getElem?_eq_none (by rw [valN_len]; exact h)] at hj; cases hj
          rw [valN_get _ _ _ hlt] at hj
          cases hj
          have h2 := hr j (by omega)
          have h3 : (⟨b, o, none⟩ : Addr).add j = ⟨b, o + j, none⟩ := by unfold Addr.add; split <;> simp_all
          rw [h3]; exact h2) (by rw [valN_len, aB_size]; omega) (fun v hv => by
          simp only [valN, List.mem_map] at hv
          obtain ⟨i, _, rfl⟩ := hv; rfl)
      rw [this, aB_take N (min n N) x y (by omega), valN_len]
      rfl
end Go.Proofs.Ytfniojnklhjgbaa.H

/- Contract of finish of package digest: the bytes that are left are filled up and mixed in, with the count. -/
namespace Go.Proofs.Ytfniojnklhjgbaa.H
open Go Go.RowKit

theorem zero64B : (Try.prog.info? 73).map (·.zero) = some (some (.agg (aB 64 zB))) := by kernel_rfl
/-- The count's lowest k bytes at a block's end. -/
def cTo (N : Nat) (f : Nat → Nat) (k i : Nat) : Nat := if i < 64 - k then f i else (8 * N) / 256 ^ (63 - i) % 256
theorem cTo_step (N : Nat) (f : Nat → Nat) (k i : Nat) (hk : k < 8) (hi : i < 64) : upB (cTo N f k) (63 - k) ((8 * N) / 256 ^ k % 256) i = cTo N f (k + 1) i := by
  unfold upB cTo
  by_cases e : i = 63 - k
  · rw [if_pos e, if_neg (by omega), show 63 - i = k by omega]
  · rw [if_neg e]
    by_cases q : i < 64 - k
    · rw [if_pos q, if_pos (by omega)]
    · rw [if_neg q, if_neg (by omega)]
theorem cTo_zero (N : Nat) (f : Nat → Nat) (i : Nat) (hi : i < 64) : f i = cTo N f 0 i := by unfold cTo; rw [if_pos (by omega)]
theorem cTo_end (N : Nat) (f : Nat → Nat) (i : Nat) : cTo N f 8 i = withC N f i := rfl
def fin (s : St) (n : Nat) (x : Nat → Nat) (N : Nat) : St := if n < 56 then comp s (withC N (lastA n x)) else comp (comp s (lastA n x)) (withC N (fun _ => 0))
theorem lastA_lt (n : Nat) (x : Nat → Nat) (hx : ∀ i, i < n → x i < 256) (i : Nat) : lastA n x i < 256 := by
  unfold lastA
  by_cases h : i < n
  · rw [if_pos h]; exact hx i h
  · rw [if_neg h]; split <;> omega
theorem withC_lt (N : Nat) (f : Nat → Nat) (hf : ∀ i, f i < 256) (i : Nat) : withC N f i < 256 := by
  unfold withC
  by_cases h : i < 56
  · rw [if_pos h]; exact hf i
  · rw [if_neg h]; exact Nat.mod_lt _ (by omega)
theorem last_set (n : Nat) (x : Nat → Nat) (i : Nat) : upB (ovl n x zB) n 128 i = lastA n x i := by
  unfold upB ovl lastA zB
  by_cases e : i = n
  · rw [if_pos e, if_neg (by omega), if_pos e]
  · rw [if_neg e]
    by_cases q : i < n
    · rw [if_pos q, if_pos q]
    · rw [if_neg q, if_neg q, if_neg e]
theorem count_byte (C N k : Nat) (hC : C = 8 * N) : ((C : Nat) : Int) / 2 ^ (8 * k) % 256 = (((8 * N) / 256 ^ k % 256 : Nat) : Int) := by
  rw [hC, show (256 : Nat) = 2 ^ 8 by decide, ← Nat.pow_mul]; simp
/-- What finish holds ahead of the count. -/
structure FinM (w w1 : World) (s : St) (f : Nat → Nat) : Prop where
  st : CAt w1 w.heap.size (aW 8 s.get) 69
  res : CAt w1 (w.heap.size + 1) (aW 8 zW) 69
  last : CAt w1 (w.heap.size + 1 + 1) (aB 64 f) 73
  below : Below w.heap.size w w1
set_option maxRecDepth 100000 in
set_option maxHeartbeats 1000000 in
theorem finish_lo (s : St) (p : Option Addr) (n c : Nat) (x : Nat → Nat) (C N : Nat) (w : World) (hC : C = 8 * N) (hn : n ≤ 63) (hx : StrAt w p n x) (hb : ∀ i, i < n → x i < 256) (hp : ∀ a, p = some a → 0 < n → a.block < w.heap.size) (h56 : n < 56) :
    Calls Try.prog 40 #[.agg (aW 8 s.get), .slice p n c, .int .u64 ((C : Nat) : Int)] w fun e w' => e = .returned (.agg (aW 8 (fin s n x N).get)) ∧ Below w.heap.size w w' := by
  have HX : Hid (∀ i, i < n → x i < 256) := hb
  have HC := hid hC
  clear hC
  have hz1 : (w.alloc (.cells (aW 8 s.get) 69)).heap.size = w.heap.size + 1 := by simp
  have hz2 : ((w.alloc (.cells (aW 8 s.get) 69)).alloc (.cells (aW 8 zW) 69)).heap.size = w.heap.size + 1 + 1 := by simp
  have d0 := CAt.new' ((w.alloc (.cells (aW 8 s.get) 69)).alloc (.cells (aW 8 zW) 69)) (aB 64 zB) 73 _ hz2
  have d1 := (CAt.new' (w.alloc (.cells (aW 8 s.get) 69)) (aW 8 zW) 69 _ hz1).alloc (.cells (aB 64 zB) 73)
  have d2 := ((CAt.new w (aW 8 s.get) 69).alloc (.cells (aW 8 zW) 69)).alloc (.cells (aB 64 zB) 73)
  have d3 : Below w.heap.size w (((w.alloc (.cells (aW 8 s.get) 69)).alloc (.cells (aW 8 zW) 69)).alloc (.cells (aB 64 zB) 73)) :=
    (((Below.refl _ _).alloc (by omega) _).alloc (by rw [hz1]; omega) _).alloc (by rw [hz2]; omega) _
  have hx2 : StrAt (((w.alloc (.cells (aW 8 s.get) 69)).alloc (.cells (aW 8 zW) 69)).alloc (.cells (aB 64 zB) 73)) p n x := by
    rcases hx with h | ⟨b, o, rfl, hr⟩
    · exact .inl h
    · rcases Nat.eq_zero_or_pos n with h0 | h0
      · exact .inl h0
      · exact .inr ⟨b, o, rfl, hr.below d3 (hp _ rfl h0)⟩
  have hcp := run_copy_blk _ _ 64 _ zB p n c x d0 hx2
  have hmin : min n 64 = n := by omega
  rw [hmin] at hcp
  have M1 : FinM w ((((w.alloc (.cells (aW 8 s.get) 69)).alloc (.cells (aW 8 zW) 69)).alloc (.cells (aB 64 zB) 73)).setRow (w.heap.size + 1 + 1) (aB 64 (ovl n x zB))) s (ovl n x zB) :=
    ⟨d2.rowOther _ (by omega), d1.rowOther _ (by omega), d0.row _, below_setRow d3 (by omega) _⟩
  have HM := hid M1
  clear M1 d0 d1 d2 d3 hx hx2 hb hp hz1 hz2 hmin
  have hn' : (n : Int) < 64 := by omega
  have h56' : (n : Int) < 56 := by omega
  go_enter Try.func40, Try.ntmps40
  go_upto_region 3 with (first
    | refine wpList_alloc_row rfl 69 rfl _ zero8 ?_
    | refine wpList_alloc_row rfl 73 rfl _ zero64B ?_)
  generalize ((((w.alloc (.cells (aW 8 s.get) 69)).alloc (.cells (aW 8 zW) 69)).alloc (.cells (aB 64 zB) 73)).setRow (w.heap.size + 1 + 1) (aB 64 (ovl n x zB))) = w1 at *
  clear hcp
  have c1 := HM.out.last.cellB n (by omega)
  have c2 := HM.out.last.free n
  have M2 : FinM w (w1.setCell ⟨w.heap.size + 1 + 1, n, none⟩ (.int .u8 128)) s (lastA n x) :=
    ⟨HM.out.st.other _ _ (by simp; omega), HM.out.res.other _ _ (by simp), (HM.out.last.setB n 128).congr (aB_congr 64 fun i _ => last_set n x i), HM.out.below.setCell (by simp; omega) _⟩
  have HM := hid M2
  clear M2
  go_wp2
  go_loopw [22] (fun v wr => ∃ k : Nat, k ≤ 8 ∧ v = .int .i64 k ∧ FinM w wr s (cTo N (lastA n x) k)) (fun v _ => (8 - intOf v).toNat)
  case atStart => exact ⟨0, by omega, rfl, HM.out.st, HM.out.res, HM.out.last.congr (aB_congr 64 fun i hi => cTo_zero N _ i hi), HM.out.below⟩
  case round =>
    clear HM
    obtain ⟨k, hk, rfl, hm⟩ := hrel
    by_cases hlt : k < 8
    · have c1 := hm.last.cellB (63 - k) (by omega)
      have c2 := hm.last.free (63 - k)
      have hv := count_byte C N k HC.out
      have hlt' : (k : Int) < 8 := by omega
      have HM := hid hm
      clear hm
      go_wp2
      go_roundw
      case rel => exact ⟨k + 1, by omega, by go_num, HM.out.st.other _ _ (by simp; omega), HM.out.res.other _ _ (by simp), (HM.out.last.setB (63 - k) _).congr (aB_congr 64 fun i hi => cTo_step N _ k i hlt hi), HM.out.below.setCell (by simp; omega) _⟩
      case measure => simp [intOf]; omega
    · have e : k = 8 := by omega
      have hm2 : FinM w wr s (withC N (lastA n x)) := ⟨hm.st, hm.res, hm.last.congr (aB_congr 64 fun i _ => (by rw [e]; exact cTo_end N _ i)), hm.below⟩
      have HM := hid hm2
      have hge : ¬ (k : Int) < 8 := by omega
      have HL : Hid (∀ i, withC N (lastA n x) i < 256) := fun i => withC_lt N _ (lastA_lt n x HX.out) i
      clear hm hm2 e
      go_wp2_with (first
        | refine wpList_load_row rfl 69 _ rfl _ rfl _ _ _ _ HM.out.st Try.underlying69 rfl (size8 _) ?_
        | refine wpList_load_row rfl 73 _ rfl _ rfl _ _ _ _ HM.out.last Try.underlying73 rfl (size64B _) ?_
        | (go_at_call 38; refine (mix_any _ _ (fun i _ => HL.out i) _).mono ?_; rintro e w2 ⟨rfl, hbw⟩; have HR := hid (HM.out.res.below hbw HM.out.res.lt); have HB := hid (HM.out.below.trans (hbw.mono HM.out.below.size)); clear hbw)
        | refine wpList_store_row rfl 69 _ _ rfl _ _ rfl rfl _ _ HR.out (size8 _) (by rw [aW_size, aW_size]) (aW_one _ _) ?_)
      have hfin : comp s (withC N (lastA n x)) = fin s n x N := by unfold fin; rw [if_pos h56]
      refine ret_row rfl _ _ _ _ _ rfl rfl (HR.out.row _) Try.underlying69 rfl (size8 _) ⟨?_, below_setRow HB.out (by omega) _⟩
      rw [hfin]
set_option maxRecDepth 100000 in
set_option maxHeartbeats 1000000 in
theorem finish_hi (s : St) (p : Option Addr) (n c : Nat) (x : Nat → Nat) (C N : Nat) (w : World) (hC : C = 8 * N) (hn : n ≤ 63) (hx : StrAt w p n x) (hb : ∀ i, i < n → x i < 256) (hp : ∀ a, p = some a → 0 < n → a.block < w.heap.size) (h56 : ¬ n < 56) :
    Calls Try.prog 40 #[.agg (aW 8 s.get), .slice p n c, .int .u64 ((C : Nat) : Int)] w fun e w' => e = .returned (.agg (aW 8 (fin s n x N).get)) ∧ Below w.heap.size w w' := by
  have HX : Hid (∀ i, i < n → x i < 256) := hb
  have HC := hid hC
  clear hC
  have hz1 : (w.alloc (.cells (aW 8 s.get) 69)).heap.size = w.heap.size + 1 := by simp
  have hz2 : ((w.alloc (.cells (aW 8 s.get) 69)).alloc (.cells (aW 8 zW) 69)).heap.size = w.heap.size + 1 + 1 := by simp
  have d0 := CAt.new' ((w.alloc (.cells (aW 8 s.get) 69)).alloc (.cells (aW 8 zW) 69)) (aB 64 zB) 73 _ hz2
  have d1 := (CAt.new' (w.alloc (.cells (aW 8 s.get) 69)) (aW 8 zW) 69 _ hz1).alloc (.cells (aB 64 zB) 73)
  have d2 := ((CAt.new w (aW 8 s.get) 69).alloc (.cells (aW 8 zW) 69)).alloc (.cells (aB 64 zB) 73)
  have d3 : Below w.heap.size w (((w.alloc (.cells (aW 8 s.get) 69)).alloc (.cells (aW 8 zW) 69)).alloc (.cells (aB 64 zB) 73)) :=
    (((Below.refl _ _).alloc (by omega) _).alloc (by rw [hz1]; omega) _).alloc (by rw [hz2]; omega) _
  have hx2 : StrAt (((w.alloc (.cells (aW 8 s.get) 69)).alloc (.cells (aW 8 zW) 69)).alloc (.cells (aB 64 zB) 73)) p n x := by
    rcases hx with h | ⟨b, o, rfl, hr⟩
    · exact .inl h
    · rcases Nat.eq_zero_or_pos n with h0 | h0
      · exact .inl h0
      · exact .inr ⟨b, o, rfl, hr.below d3 (hp _ rfl h0)⟩
  have hcp := run_copy_blk _ _ 64 _ zB p n c x d0 hx2
  have hmin : min n 64 = n := by omega
  rw [hmin] at hcp
  have M1 : FinM w ((((w.alloc (.cells (aW 8 s.get) 69)).alloc (.cells (aW 8 zW) 69)).alloc (.cells (aB 64 zB) 73)).setRow (w.heap.size + 1 + 1) (aB 64 (ovl n x zB))) s (ovl n x zB) :=
    ⟨d2.rowOther _ (by omega), d1.rowOther _ (by omega), d0.row _, below_setRow d3 (by omega) _⟩
  have HM := hid M1
  clear M1 d0 d1 d2 d3 hx hx2 hb hp hz1 hz2 hmin
  have hn' : (n : Int) < 64 := by omega
  have h56' : ¬ (n : Int) < 56 := by omega
  go_enter Try.func40, Try.ntmps40
  go_upto_region 3 with (first
    | refine wpList_alloc_row rfl 69 rfl _ zero8 ?_
    | refine wpList_alloc_row rfl 73 rfl _ zero64B ?_)
  generalize ((((w.alloc (.cells (aW 8 s.get) 69)).alloc (.cells (aW 8 zW) 69)).alloc (.cells (aB 64 zB) 73)).setRow (w.heap.size + 1 + 1) (aB 64 (ovl n x zB))) = w1 at *
  clear hcp
  have c1 := HM.out.last.cellB n (by omega)
  have c2 := HM.out.last.free n
  have M2 : FinM w (w1.setCell ⟨w.heap.size + 1 + 1, n, none⟩ (.int .u8 128)) s (lastA n x) :=
    ⟨HM.out.st.other _ _ (by simp; omega), HM.out.res.other _ _ (by simp), (HM.out.last.setB n 128).congr (aB_congr 64 fun i _ => last_set n x i), HM.out.below.setCell (by simp; omega) _⟩
  have HM := hid M2
  clear M2
  go_wp2_with (first
    | refine wpList_load_row rfl 69 _ rfl _ rfl _ _ _ _ HM.out.st Try.underlying69 rfl (size8 _) ?_
    | refine wpList_load_row rfl 73 _ rfl _ rfl _ _ _ _ HM.out.last Try.underlying73 rfl (size64B _) ?_
    | (go_at_call 38; refine (mix_any _ _ (fun i _ => lastA_lt n x HX.out i) _).mono ?_; rintro e w2 ⟨rfl, hbw⟩; have HM := hid (FinM.mk (HM.out.st.below hbw HM.out.st.lt) (HM.out.res.below hbw HM.out.res.lt) (HM.out.last.below hbw HM.out.last.lt) (HM.out.below.trans (hbw.mono HM.out.below.size))); clear hbw)
    | (refine wpList_store_row rfl 69 _ _ rfl _ _ rfl rfl _ _ HM.out.st (size8 _) (by rw [aW_size, aW_size]) (aW_one _ _) ?_; have HM := hid (FinM.mk (HM.out.st.row (aW 8 (comp s (lastA n x)).get)) (HM.out.res.rowOther _ (by omega)) (HM.out.last.rowOther _ (by omega)) (below_setRow HM.out.below (by omega) _)))
    | refine wpList_build_to rfl 73 _ rfl (aB 64 zB) (by kernel_rfl) ?_
    | (refine wpList_store_row rfl 73 _ _ rfl _ _ rfl rfl _ _ HM.out.last (size64B _) (by rw [aB_size, aB_size]) (aB_one _ _) ?_; have HM := hid (FinM.mk (HM.out.st.rowOther (aB 64 zB) (by omega)) (HM.out.res.rowOther _ (by omega)) (HM.out.last.row _) (below_setRow HM.out.below (by omega) _))))
  go_loopw [22] (fun v wr => ∃ k : Nat, k ≤ 8 ∧ v = .int .i64 k ∧ FinM w wr (comp s (lastA n x)) (cTo N zB k)) (fun v _ => (8 - intOf v).toNat)
  case atStart => exact ⟨0, by omega, rfl, HM.out.st, HM.out.res, HM.out.last.congr (aB_congr 64 fun i hi => cTo_zero N _ i hi), HM.out.below⟩
  case round =>
    clear HM
    obtain ⟨k, hk, rfl, hm⟩ := hrel
    by_cases hlt : k < 8
    · have c1 := hm.last.cellB (63 - k) (by omega)
      have c2 := hm.last.free (63 - k)
      have hv := count_byte C N k HC.out
      have hlt' : (k : Int) < 8 := by omega
      have HM := hid hm
      clear hm
      go_wp2
      go_roundw
      case rel => exact ⟨k + 1, by omega, by go_num, HM.out.st.other _ _ (by simp; omega), HM.out.res.other _ _ (by simp), (HM.out.last.setB (63 - k) _).congr (aB_congr 64 fun i hi => cTo_step N _ k i hlt hi), HM.out.below.setCell (by simp; omega) _⟩
      case measure => simp [intOf]; omega
    · have e : k = 8 := by omega
      have hm2 : FinM w wr (comp s (lastA n x)) (withC N zB) := ⟨hm.st, hm.res, hm.last.congr (aB_congr 64 fun i _ => (by rw [e]; exact cTo_end N _ i)), hm.below⟩
      have HM := hid hm2
      have hge : ¬ (k : Int) < 8 := by omega
      have HL : Hid (∀ i, withC N zB i < 256) := fun i => withC_lt N _ (fun _ => by unfold zB; omega) i
      clear hm hm2 e
      go_wp2_with (first
        | refine wpList_load_row rfl 69 _ rfl _ rfl _ _ _ _ HM.out.st Try.underlying69 rfl (size8 _) ?_
        | refine wpList_load_row rfl 73 _ rfl _ rfl _ _ _ _ HM.out.last Try.underlying73 rfl (size64B _) ?_
        | (go_at_call 38; refine (mix_any _ _ (fun i _ => HL.out i) _).mono ?_; rintro e w2 ⟨rfl, hbw⟩; have HR := hid (HM.out.res.below hbw HM.out.res.lt); have HB := hid (HM.out.below.trans (hbw.mono HM.out.below.size)); clear hbw)
        | refine wpList_store_row rfl 69 _ _ rfl _ _ rfl rfl _ _ HR.out (size8 _) (by rw [aW_size, aW_size]) (aW_one _ _) ?_)
      have hfin : comp (comp s (lastA n x)) (withC N zB) = fin s n x N := by unfold fin; rw [if_neg h56]; rfl
      refine ret_row rfl _ _ _ _ _ rfl rfl (HR.out.row _) Try.underlying69 rfl (size8 _) ⟨?_, below_setRow HB.out (by omega) _⟩
      rw [hfin]
theorem finish_any (s : St) (p : Option Addr) (n c : Nat) (x : Nat → Nat) (C N : Nat) (w : World) (hC : C = 8 * N) (hn : n ≤ 63) (hx : StrAt w p n x) (hb : ∀ i, i < n → x i < 256) (hp : ∀ a, p = some a → 0 < n → a.block < w.heap.size) :
    Calls Try.prog 40 #[.agg (aW 8 s.get), .slice p n c, .int .u64 ((C : Nat) : Int)] w fun e w' => e = .returned (.agg (aW 8 (fin s n x N).get)) ∧ Below w.heap.size w w' := by
  by_cases h : n < 56
  · exact finish_lo s p n c x C N w hC hn hx hb hp h
  · exact finish_hi s p n c x C N w hC hn hx hb hp h
end Go.Proofs.Ytfniojnklhjgbaa.H

/- Contract of Sum of package digest: the digest of any bytes; what was there is as it was. -/
namespace Go.Proofs.Ytfniojnklhjgbaa.H
open Go Go.RowKit

theorem add_plain' (b o l : Nat) : (⟨b, o, none⟩ : Addr).add l = ⟨b, o + l, none⟩ := by unfold Addr.add; split <;> simp_all
theorem StrAt.drop {w : World} {p p2 : Option Addr} {n c l : Nat} {x : Nat → Nat} (h : StrAt w p n x) (hc : n ≤ c) (hp : ∀ b o, p = some ⟨b, o, none⟩ → l < c → p2 = some ⟨b, o + l, none⟩) : StrAt w p2 (n - l) (fun j => x (l + j)) := by
  by_cases h0 : n - l = 0
  · exact .inl h0
  · rcases h with h | ⟨b, o, rfl, hr⟩
    · omega
    · exact .inr ⟨b, o + l, hp b o rfl (by omega), fun i hi => by rw [Nat.add_assoc]; exact hr (l + i) (by omega)⟩
theorem StrAt.congr {w : World} {p : Option Addr} {n : Nat} {x y : Nat → Nat} (h : StrAt w p n x) (e : ∀ j, j < n → x j = y j) : StrAt w p n y := by
  rcases h with h | ⟨b, o, rfl, hr⟩
  · exact .inl h
  · exact .inr ⟨b, o, rfl, fun i hi => by rw [← e i hi]; exact hr i hi⟩
theorem cell_lt {w : World} {a : Addr} {v : Value} (h : w.cell? a = some v) : a.block < w.heap.size := by
  rcases Nat.lt_or_ge a.block w.heap.size with h1 | h1
  · exact h1
  · simp [World.cell?, Array.getElem?_eq_none h1] at h
theorem StrAt.lt {w : World} {p : Option Addr} {n : Nat} {x : Nat → Nat} (h : StrAt w p n x) (a : Addr) (ha : p = some a) (hn : 0 < n) : a.block < w.heap.size := by
  rcases h with h | ⟨b, o, rfl, hr⟩
  · omega
  · cases ha; exact cell_lt (hr 0 hn)
theorem StrAt.below {w w' : World} {p : Option Addr} {n : Nat} {x : Nat → Nat} (h : StrAt w p n x) (hb : Below w.heap.size w w') : StrAt w' p n x := by
  rcases Nat.eq_zero_or_pos n with h0 | h0
  · exact .inl h0
  · have hl := h.lt
    rcases h with h | ⟨b, o, rfl, hr⟩
    · exact .inl h
    · exact .inr ⟨b, o, rfl, hr.below hb (hl _ rfl h0)⟩
def lenV : Value → Nat | .slice _ n _ => n | _ => 0
structure SumM (w wr : World) (g3 g5 : Nat) (s : St) : Prop where
  st : CAt wr g3 (aW 8 s.get) 69
  blk : ∃ y, CAt wr g5 (aB 64 y) 73
  res : CAt wr w.heap.size (aB 32 zB) 61
  below : Below w.heap.size w wr
  h3 : w.heap.size < g3
  h5 : g3 < g5
set_option maxRecDepth 100000 in
set_option maxHeartbeats 1000000 in
theorem sum_any (p : Option Addr) (n c : Nat) (x : Nat → Nat) (w : World) (hn : n ≤ 1000000) (hc : n ≤ c) (hx : StrAt w p n x) (hb : ∀ i, i < n → x i < 256) :
    Calls Try.prog 31 #[.slice p n c] w fun e w' => e = .returned (.agg (aB 32 (sha n x))) ∧ Below w.heap.size w w' := by
  have HX := hid hx
  have HBX := hid hb
  have HCC := hid hc
  clear hx hb hc
  have hn' : (n : Int) ≤ 1000000 := by omega
  go_enter Try.func31, Try.ntmps31
  go_upto_region 2 with (first
    | refine wpList_alloc_row rfl 61 rfl _ zero32 ?_
    | refine wpList_alloc_row rfl 69 rfl _ zero8 ?_
    | (go_at_call 37; refine (firstWords_any _).mono ?_; rintro e w1 ⟨rfl, hbw⟩)
    | refine wpList_store_row rfl 69 _ _ rfl _ _ rfl rfl _ _ (CAt.new _ _ _) (size8 _) (by rw [aW_size, aW_size]) (aW_one _ _) ?_)
  have hz : (w.alloc (.cells (aB 32 zB) 61)).heap.size = w.heap.size + 1 := by simp
  have r0 : CAt w1 w.heap.size (aB 32 zB) 61 := (CAt.new w (aB 32 zB) 61).below hbw (by rw [hz]; omega)
  have b0 : Below w.heap.size w w1 := ((Below.refl _ _).alloc (by omega) _).trans (hbw.mono (by rw [hz]; omega))
  have g0 : w.heap.size < w1.heap.size := by have := hbw.size; rw [hz] at this; omega
  have hz3 : ((w1.alloc (.cells (aW 8 zW) 69)).setRow w1.heap.size (aW 8 st0.get)).heap.size = w1.heap.size + 1 := by simp
  have r1 : CAt ((w1.alloc (.cells (aW 8 zW) 69)).setRow w1.heap.size (aW 8 st0.get)) w1.heap.size (aW 8 st0.get) 69 := (CAt.new w1 (aW 8 zW) 69).row _
  have r2 := ((r0.alloc (.cells (aW 8 zW) 69)).rowOther (k := w1.heap.size) (aW 8 st0.get) (by omega))
  have b2 : Below w.heap.size w ((w1.alloc (.cells (aW 8 zW) 69)).setRow w1.heap.size (aW 8 st0.get)) := below_setRow (b0.alloc (by omega) _) (by omega) _
  clear r0 b0 hbw hz
  generalize ((w1.alloc (.cells (aW 8 zW) 69)).setRow w1.heap.size (aW 8 st0.get)) = w3 at *
  generalize w1.heap.size = g3 at *
  have M0 : SumM w (w3.alloc (.cells (aB 64 zB) 73)) g3 (g3 + 1) (hs x 0) := ⟨r1.alloc _, ⟨zB, CAt.new' w3 (aB 64 zB) 73 _ hz3⟩, r2.alloc _, b2.alloc (by omega) _, g0, by omega⟩
  have HM := hid M0
  have HZ3 := hid hz3
  clear M0 r1 r2 b2 g0
  simp only [Act.put, List.setIfInBounds_toArray, List.set_cons_succ, List.set_cons_zero]
  go_wp2_with (refine wpList_alloc_row rfl 73 rfl _ zero64B ?_)
  obtain ⟨C, hC⟩ : ∃ C, C = 8 * n := ⟨_, rfl⟩
  have hCn : (n : Int) * 8 = (C : Int) := by omega
  have hz4 := HZ3.out
  simp only [Act.put, List.setIfInBounds_toArray, List.set_cons_succ, List.set_cons_zero, hCn, hz4]
  have HC := hid hC
  clear hC hCn hz3 hz4 HZ3
  go_loopw [0] (fun v wr => ∃ (q : Nat) (p' : Option Addr) (m c' : Nat), 64 * q + m = n ∧ v = .slice p' m c' ∧ m ≤ c' ∧ StrAt w p' m (fun i => x (64 * q + i)) ∧ SumM w wr g3 (g3 + 1) (hs x q)) (fun v _ => lenV v)
  case atStart => exact ⟨0, p, n, c, by omega, rfl, HCC.out, HX.out.congr (fun j _ => by simp), HM.out⟩
  case round =>
    clear HM HX HCC
    obtain ⟨q, p', m, c', hqm, rfl, hmc, hstr, hm⟩ := hrel
    have HQ := hid hqm
    have HMC := hid hmc
    have hm6 : (m : Int) ≤ 1000000 := by omega
    by_cases hge : 64 ≤ m
    · obtain ⟨y, hy⟩ := hm.blk
      have hcp := run_copy_blk wr (g3 + 1) 64 73 y p' m c' _ hy (hstr.below hm.below)
      rw [show min m 64 = 64 by omega] at hcp
      have M1 : SumM w (wr.setRow (g3 + 1) (aB 64 (ovl 64 (fun i => x (64 * q + i)) y))) g3 (g3 + 1) (hs x q) :=
        ⟨hm.st.rowOther _ (by omega), ⟨_, hy.row _⟩, hm.res.rowOther _ (by have := hm.h3; omega), below_setRow hm.below (by have := hm.h3; omega) _, hm.h3, hm.h5⟩
      have B1 : CAt (wr.setRow (g3 + 1) (aB 64 (ovl 64 (fun i => x (64 * q + i)) y))) (g3 + 1) (aB 64 (fun i => x (64 * q + i))) 73 :=
        (hy.row _).congr (aB_congr 64 fun i hi => by unfold ovl; rw [if_pos hi])
      have HS : Hid (StrAt w (if c' = 64 then p' else Option.map (fun a => { block := a.block, off := a.off + 64 }) p') (m - 64) (fun i => x (64 * (q + 1) + i))) :=
        (hstr.drop (l := 64) hmc (fun b o e h => by subst e; rw [if_neg (by omega)]; rfl)).congr (fun j _ => by congr 1; omega)
      have HM := hid M1
      have HB := hid B1
      have hge' : (64 : Int) ≤ (m : Int) := by omega
      clear M1 B1 hm hy hstr hqm hmc
      go_upto_region 6 with fail
      clear hcp
      generalize (wr.setRow (g3 + 1) (aB 64 (ovl 64 (fun i => x (64 * q + i)) y))) = w4 at *
      have HLT : Hid (∀ i, i < 64 → x (64 * q + i) < 256) := fun i hi => HBX.out _ (by have := HQ.out; omega)
      go_wp2_with (first
        | refine wpList_load_row rfl 69 _ rfl _ rfl _ _ _ _ HM.out.st Try.underlying69 rfl (size8 _) ?_
        | refine wpList_load_row rfl 73 _ rfl _ rfl _ _ _ _ HB.out Try.underlying73 rfl (size64B _) ?_
        | (go_at_call 38; refine (mix_any _ _ HLT.out _).mono ?_; rintro e w5 ⟨rfl, hbw⟩; have HM5 := hid (SumM.mk (HM.out.st.below hbw HM.out.st.lt) ⟨_, HB.out.below hbw HB.out.lt⟩ (HM.out.res.below hbw HM.out.res.lt) (HM.out.below.trans (hbw.mono HM.out.below.size)) HM.out.h3 HM.out.h5); clear hbw)
        | refine wpList_store_row rfl 69 _ _ rfl _ _ rfl rfl _ _ HM5.out.st (size8 _) (by rw [aW_size, aW_size]) (aW_one _ _) ?_)
      go_roundw
      case rel =>
        refine ⟨q + 1, _, m - 64, c' - 64, by have := HQ.out; omega, rfl, by have := HMC.out; omega, HS.out, ?_⟩
        obtain ⟨y2, hy2⟩ := HM5.out.blk
        exact ⟨HM5.out.st.row _, ⟨_, hy2.rowOther _ (by omega)⟩, HM5.out.res.rowOther _ (by have := HM5.out.h3; omega), below_setRow HM5.out.below (by have := HM5.out.h3; omega) _, HM5.out.h3, HM5.out.h5⟩
      case measure => simp [lenV]; omega
    · have hlt' : ¬ (64 : Int) ≤ (m : Int) := by omega
      have HM := hid hm
      have HS := hid hstr
      have HS2 := hid (hstr.below hm.below)
      have hq : q = n / 64 := by omega
      have hm3 : m = n % 64 := by omega
      have hf : fin (hs x q) m (fun i => x (64 * q + i)) n = shaSt n x := by
        rw [hq, hm3]; unfold fin
        by_cases h : n % 64 < 56
        · rw [if_pos h, shaSt_short n x h]
        · rw [if_neg h, shaSt_long n x (by omega)]
      have HF := hid hf
      have HM63 : Hid (m ≤ 63) := by show m ≤ 63; omega
      clear hm hstr hqm hmc hq hm3 hf
      go_wp2_with (first
        | refine wpList_load_row rfl 69 _ rfl _ rfl _ _ _ _ HM.out.st Try.underlying69 rfl (size8 _) ?_
        | (go_at_call 40; refine (finish_any _ _ _ _ _ _ n _ HC.out HM63.out HS2.out (fun i hi => HBX.out _ (by have := HQ.out; omega)) (fun a ha hpos => HS2.out.lt a ha hpos)).mono ?_; rintro e w5 ⟨rfl, hbw⟩; rw [HF.out]; have HR := hid (HM.out.res.below hbw HM.out.res.lt); have HB5 := hid (HM.out.below.trans (hbw.mono HM.out.below.size)); clear hbw)
        | (go_at_call 39; refine (written_any _ _).mono ?_; rintro e w6 ⟨rfl, hbw⟩; have HR6 := hid (HR.out.below hbw HR.out.lt); have HB6 := hid (HB5.out.trans (hbw.mono HB5.out.size)); clear hbw)
        | refine wpList_store_row rfl 61 _ _ rfl _ _ rfl rfl _ _ HR6.out (size32 _) (by rw [aB_size, aB_size]) (aB_one _ _) ?_)
      exact ret_row rfl _ _ _ _ _ rfl rfl (HR6.out.row _) Try.underlying61 rfl (size32 _) ⟨rfl, below_setRow HB6.out (by omega) _⟩
end Go.Proofs.Ytfniojnklhjgbaa.H
