/- Texts laid into one, cut to what is needed: the remark ahead of each part says what is proved there. -/
import Derived.Test.YtopibkoklagceaaGreatPab
import Derived.Shelf.Abstract
import Derived.WalkKit
import Derived.OwnWalkIn
import Derived.TacticsInMore
import Derived.LoopNIn
import Derived.LoopIn
import Derived.Test.YtopibkoklagceaaGreatProg
/- Bytes in memory; contracts of SameBytes, LentBytes and KeptBytes of the statements' kit. -/
namespace Go.Proofs.YtopibkoklagceaaGreat.H
open Go.RowKit

theorem Tryz.info5 : (Tryz.prog.info? 5).map (fun i => (i.zero, i.size, i.bytes)) = some (some (.int .u8 0), 1, 1) := by kernel_rfl

/-- A row of n bytes lies at block b from o on. -/
def RowAt (w : World) (b o n : Nat) (x : Nat → Nat) : Prop := ∀ i, i < n → w.cell? ⟨b, o + i, none⟩ = some (.int .u8 (x i : Nat))
/-- The world w has one block more than w0 has: n bytes, x, which may be written; what was there is as it was. -/
structure NewRow (w0 w : World) (n : Nat) (x : Nat → Nat) : Prop where
  size : w.heap.size = w0.heap.size + 1
  below : Below w0.heap.size w0 w
  cells : ∀ i, i < n → w.cell? ⟨w0.heap.size, i, none⟩ = some (.int .u8 (x i : Nat))
  free : ∀ i, w.frozen? ⟨w0.heap.size, i, none⟩ = false

theorem madeCells_get (z : Value) (n i : Nat) (h : i < n) : (madeCells #[z] n)[i]? = some z := by
  simp [madeCells, h, Nat.mod_one]
theorem run_make_u8 (n : Nat) (hn : n ≤ 70003) (w : World) :
    (Instr.makeSlice 22 (.int .i64 (n : Int)) (.int .i64 (n : Int))).run Tryz.prog w = .ok (.slice (some ⟨w.heap.size, 0, none⟩) n n) (w.alloc (.cells (madeCells #[.int .u8 0] n) 5)) := by
  obtain ⟨i0, hi, hz0, hz1, hz2⟩ := info_parts Tryz.info5
  have h := run_make (P := Tryz.prog) w 22 5 i0 (.int .u8 0) Tryz.underlying22 hi hz0 .i64 .i64 n n (by omega) (Int.le_refl _) (by rw [hz2]; omega) (by omega)
  rw [hz1] at h
  simpa [Value.cells] using h

theorem NewRow.made (w : World) (n : Nat) : NewRow w (w.alloc (.cells (madeCells #[.int .u8 0] n) 5)) n (fun _ => 0) where
  size := by simp
  below := (Below.refl _ _).alloc (Nat.le_refl _) _
  cells := fun i h => by rw [World.cell?_alloc_new, madeCells_get _ _ _ h]; rfl
  free := fun i => World.frozen?_alloc_new _ _ _ _
theorem NewRow.set {w0 w : World} {n : Nat} {x : Nat → Nat} (h : NewRow w0 w n x) (k : Nat) (v : Nat) (hk : k < n) :
    NewRow w0 (w.setCell ⟨w0.heap.size, k, none⟩ (.int .u8 (v : Nat))) n (fun i => if i = k then v else x i) where
  size := by simp [h.size]
  below := h.below.setCell (Nat.le_refl _) _
  cells := fun i hi => by
    by_cases e : i = k
    · subst e
      rw [World.cell?_setCell_same _ _ _ (h.cells i hi)]; simp
    · rw [World.cell?_setCell_other _ _ _ _ (by intro h2; cases h2; exact e rfl), h.cells i hi]; simp [e]
  free := fun i => by rw [World.frozen?_setCell]; exact h.free i
theorem NewRow.congr {w0 w : World} {n : Nat} {x y : Nat → Nat} (h : NewRow w0 w n x) (e : ∀ i, i < n → x i = y i) : NewRow w0 w n y where
  size := h.size
  below := h.below
  cells := fun i hi => by rw [h.cells i hi, e i hi]
  free := h.free

theorem upto_step (f : Nat → Nat) (k i : Nat) : (if i = k then f k else if i < k then f i else 0) = if i < k + 1 then f i else 0 := by
  by_cases e : i = k
  · subst e; rw [if_pos rfl, if_pos (by omega)]
  · rw [if_neg e]
    by_cases h : i < k
    · rw [if_pos h, if_pos (by omega)]
    · rw [if_neg h, if_neg (by omega)]

end Go.Proofs.YtopibkoklagceaaGreat.H

/- Contract of SameBytes of the statements' kit: of two slices that read alike it returns true, and leaves the world as it was. -/
namespace Go.Proofs.YtopibkoklagceaaGreat.H
open Go.RowKit

/-- The slice's value leads to n bytes x; one of no byte may lead anywhere. -/
def StrAt (w : World) (p : Option Addr) (n : Nat) (x : Nat → Nat) : Prop := n = 0 ∨ ∃ b o, p = some ⟨b, o, none⟩ ∧ RowAt w b o n x
def strN (n : Nat) (x : Nat → Nat) : ByteArray := strOfNums ((List.range n).map fun i => (x i : Int))
theorem conv_str (w : World) (p : Option Addr) (n c : Nat) (x : Nat → Nat) (h : StrAt w p n x) :
    (convert 22 9 (.slice p n c)).run Tryz.prog w = .ok (.string (strN n x)) w := by
  rcases h with rfl | ⟨b, o, rfl, h⟩
  · rw [run_convert_bytes_string w 22 9 5 _ 0 c Tryz.underlying22 Tryz.underlying5 Tryz.underlying9]
    cases p <;> simp [Conv.bytesToString, loadCells, strN]
    all_goals rfl
  · exact run_convert_bytes_arg w 22 5 Tryz.underlying22 Tryz.underlying5 b o n c _ (by simp) (fun i hi => by rw [h i hi]; simp [List.getD, hi]) 9 Tryz.underlying9

set_option maxHeartbeats 400000 in
theorem same_true (p q : Option Addr) (n c d : Nat) (x : Nat → Nat) (w : World) (hp : StrAt w p n x) (hq : StrAt w q n x) :
    Calls Tryz.prog 23 #[.slice p n c, .slice q n d] w fun e w' => e = .returned (.bool true) ∧ w' = w := by
  have h1 := conv_str w p n c x hp
  have h2 := conv_str w q n d x hq
  go_enter Tryz.func23, Tryz.ntmps23
  go_wp2
  go_ret
  exact ⟨rfl, rfl⟩
end Go.Proofs.YtopibkoklagceaaGreat.H

/- Contract of LentBytes of the statements' kit: a copy of the bytes lies in a new block, with three marked bytes of spare room behind it; what was there is as it was. -/
namespace Go.Proofs.YtopibkoklagceaaGreat.H
open Go.RowKit

theorem size_setCells (b : Nat) : ∀ (vs : List Value) (o : Nat) (w : World), (w.setCells b o vs).heap.size = w.heap.size
  | [], _, _ => rfl
  | v :: r, o, w => by rw [World.setCells, size_setCells b r, World.size_setCell]
theorem below_setCells (b B : Nat) (hB : B ≤ b) : ∀ (vs : List Value) (o : Nat) (w0 w : World), Below B w0 w → Below B w0 (w.setCells b o vs)
  | [], _, _, _, h => h
  | v :: r, o, w0, w, h => by rw [World.setCells]; exact below_setCells b B hB r (o + 1) w0 _ (h.setCell hB _)

/-- n bytes as values. -/
def valN (n : Nat) (x : Nat → Nat) : List Value := (List.range n).map fun i => .int .u8 (x i : Nat)
theorem valN_len (n : Nat) (x : Nat → Nat) : (valN n x).length = n := by simp [valN]
theorem valN_get (n : Nat) (x : Nat → Nat) (i : Nat) (h : i < n) : (valN n x)[i]? = some (.int .u8 (x i : Nat)) := by simp [valN, h]

theorem NewRow.copied {w0 w : World} {n : Nat} {x : Nat → Nat} (h : NewRow w0 w n x) (m : Nat) (y : Nat → Nat) (hm : m ≤ n) :
    NewRow w0 (w.setCells w0.heap.size 0 (valN m y)) n (fun i => if i < m then y i else x i) where
  size := by rw [size_setCells, h.size]
  below := below_setCells _ _ (Nat.le_refl _) _ _ _ _ h.below
  cells := fun i hi => by
    by_cases e : i < m
    · have hin := World.cell?_setCells_in w0.heap.size (valN m y) 0 w (fun j hj => by
        rw [valN_len] at hj
        rw [Nat.zero_add, h.cells j (by omega)]; rfl) i (by rw [valN_len]; exact e)
      rw [Nat.zero_add] at hin
      rw [hin, if_pos e]
      have g := valN_get m y i e
      rw [List.getElem?_eq_getElem (by rw [valN_len]; exact e)] at g
      exact g
    · rw [World.cell?_setCells_out _ _ _ _ _ (fun _ _ => by rw [valN_len]; right; simp; omega), if_neg e, h.cells i hi]
  free := fun i => by rw [World.frozen?_setCells]; exact h.free i

theorem run_copy_u8 (w : World) (b o n c g dl dc : Nat) (x y : Nat → Nat) (w0 : World) (hg : g = w0.heap.size) (h : NewRow w0 w dl y) (hx : RowAt w b o n x) (hn : n ≤ dl) (ty : TypeId) :
    (Builtin.copy_ #[22, 22] ty #[.slice (some ⟨g, 0, none⟩) dl dc, .slice (some ⟨b, o, none⟩) n c]).run Tryz.prog w = .ok (goInt n) (w.setCells g 0 (valN n x)) := by
  subst hg
  have := run_copy_cells (P := Tryz.prog) w 22 22 ty 5 w0.heap.size 0 dl dc ⟨b, o, none⟩ n c (valN n x) Tryz.underlying22 (by kernel_rfl) (by rw [valN_len]; exact (Nat.min_eq_left hn).symm)
    (fun j v hj => by
      have hjn : j < n := by
        rcases Nat.lt_or_ge j n with q | q
        · exact q
        · rw [List.getElem?_eq_none (by rw [valN_len]; exact q)] at hj; cases hj
      rw [valN_get n x j hjn] at hj
      cases hj
      have hadd : (⟨b, o, none⟩ : Addr).add j = ⟨b, o + j, none⟩ := by unfold Addr.add; split <;> simp_all
      rw [hadd]; exact hx j hjn)
    (fun j hj => by rw [valN_len] at hj; rw [Nat.zero_add, h.cells j (by omega)]; rfl)
    (fun j _ => by rw [Nat.zero_add]; exact h.free j)
    (fun v hv => by unfold valN at hv; obtain ⟨i, _, rfl⟩ := List.mem_map.1 hv; rfl)
  rw [valN_len] at this
  exact this

/-- What a lent list reads as, its spare room with it. -/
def lentN (n : Nat) (x : Nat → Nat) (i : Nat) : Nat := if i < n then x i else 160 + i % 90

theorem byte_mark (k : Nat) : ((160 + k % 90 : Nat) : Int) = 160 + (k : Int) % 90 := by omega

set_option maxRecDepth 100000 in
set_option maxHeartbeats 1000000 in
theorem lent_core (p : Option Addr) (n c : Nat) (x : Nat → Nat) (w w1 : World) (hn : n ≤ 70000)
    (hcp : ∀ ty, (Builtin.copy_ #[22, 22] ty #[.slice (some ⟨w.heap.size, 0, none⟩) (n + 3) (n + 3), .slice p n c]).run Tryz.prog (w.alloc (.cells (madeCells #[.int .u8 0] (n + 3)) 5)) = .ok (goInt n) w1)
    (hrow : NewRow w w1 (n + 3) (fun i => if i < n then x i else 0)) :
    Calls Tryz.prog 5 #[.slice p n c] w fun e w' => e = .returned (.slice (some ⟨w.heap.size, 0, none⟩) n (n + 3)) ∧ NewRow w w' (n + 3) (lentN n x) := by
  have hmk := run_make_u8 (n + 3) (by omega) w
  rw [show ((n + 3 : Nat) : Int) = (n : Int) + 3 from by omega] at hmk
  have HR := hid hrow
  clear hrow
  go_enter Tryz.func5, Tryz.ntmps5
  go_wp2
  clear hmk hcp
  go_loopw [4] (fun i wr => ∃ k : Nat, n ≤ k ∧ k ≤ n + 3 ∧ i = .int .i64 k ∧ NewRow w wr (n + 3) (fun i => if i < k then lentN n x i else 0)) (fun i _ => (n + 3 - intOf i).toNat)
  case atStart => exact ⟨n, by omega, by omega, rfl, HR.out.congr (fun i _ => by by_cases e : i < n <;> simp [lentN, e])⟩
  case round =>
    obtain ⟨k, hk1, hk2, rfl, hrow⟩ := hrel
    clear HR
    by_cases hlt : k < n + 3
    · have c3 : wr.cell? ⟨w.heap.size, k, none⟩ = some (.int .u8 0) := by rw [hrow.cells k hlt]; simp
      have c4 := hrow.free k
      have HR := hid (hrow.set k (lentN n x k) hlt)
      have HL : Hid (lentN n x k = 160 + k % 90) := if_neg (by omega)
      clear hrow
      go_wp2
      go_roundw
      case rel =>
        refine ⟨k + 1, by omega, by omega, by go_num, ?_⟩
        rw [HL.out] at HR
        have := HR.out.congr (y := fun i => if i < k + 1 then lentN n x i else 0) (fun i _ => by rw [← HL.out]; exact upto_step _ k i)
        rw [byte_mark] at this
        exact this
      case measure => simp [intOf]; omega
    · have e : k = n + 3 := by omega
      have E := hid (hrow.congr (y := lentN n x) (fun i hi => by rw [if_pos (by omega)]))
      clear e hrow
      go_wp2
      go_ret
      exact ⟨rfl, E.out⟩

theorem lent_any (p : Option Addr) (n c : Nat) (x : Nat → Nat) (w : World) (hn : n ≤ 70000) (hx : StrAt w p n x) :
    Calls Tryz.prog 5 #[.slice p n c] w fun e w' => e = .returned (.slice (some ⟨w.heap.size, 0, none⟩) n (n + 3)) ∧ NewRow w w' (n + 3) (lentN n x) := by
  have hrow := NewRow.made w (n + 3)
  by_cases h0 : n = 0
  · subst h0
    refine lent_core p 0 c x w _ hn (fun ty => ?_) (hrow.congr (fun i _ => by simp))
    exact run_copy_none (P := Tryz.prog) _ 22 22 ty 5 _ _ _ _ _ _ Tryz.underlying22 (by kernel_rfl) (by simp)
  · rcases hx with e | ⟨b, o, rfl, hx⟩
    · exact absurd e h0
    · have hb : b < w.heap.size := World.block_lt_of_cell? w _ (hx 0 (by omega))
      have hx1 : RowAt (w.alloc (.cells (madeCells #[.int .u8 0] (n + 3)) 5)) b o n x := fun i hi => by rw [World.cell?_alloc_lt _ _ _ hb]; exact hx i hi
      exact lent_core _ n c x w _ hn (fun ty => run_copy_u8 _ b o n c w.heap.size (n + 3) (n + 3) x (fun _ => 0) w rfl hrow hx1 (by omega) ty) (hrow.copied n x (by omega))
end Go.Proofs.YtopibkoklagceaaGreat.H

/- Contract of KeptBytes of the statements' kit: it returns true of a lent list that reads as it was lent. -/
namespace Go.Proofs.YtopibkoklagceaaGreat.H
open Go.RowKit

theorem RowAt.below {B : Nat} {w w' : World} {b o n : Nat} {x : Nat → Nat} (h : RowAt w b o n x) (hb : Below B w w') (hlt : b < B) : RowAt w' b o n x :=
  fun i hi => (hb.cell (p := ⟨b, o + i, none⟩) hlt).trans (h i hi)
theorem NewRow.row {w0 w : World} {n : Nat} {x : Nat → Nat} (h : NewRow w0 w n x) : RowAt w w0.heap.size 0 n x :=
  fun i hi => by rw [Nat.zero_add]; exact h.cells i hi

set_option maxRecDepth 100000 in
set_option maxHeartbeats 1000000 in
theorem kept_any (g n c : Nat) (p : Option Addr) (x : Nat → Nat) (w : World) (hn : n ≤ 70000) (hg : g < w.heap.size) (hr : RowAt w g 0 (n + 3) (lentN n x)) (hx : StrAt w p n x) :
    Calls Tryz.prog 12 #[.slice (some ⟨g, 0, none⟩) n (n + 3), .slice p n c] w fun e w' => e = .returned (.bool true) ∧ Below w.heap.size w w' := by
  have hrd : RowAt w.drew g 0 (n + 3) (lentN n x) := hr
  have h3 : (0 : Int) ≤ (n : Int) + 3 := by omega
  have hw3 : IntKind.i64.wrap ((n : Int) + 3) = (n : Int) + 3 := by rw [IntKind.wrap_i64]; omega
  go_enter Tryz.func12, Tryz.ntmps12
  go_wp2_with fail
  go_region_held3 (fun w' => True) (trivial) (first | (go_at_call 5; refine (lent_any p n c x _ hn (by exact hx)).mono ?_; rintro e w1 ⟨rfl, hnew⟩) | (go_at_call 23; refine (same_true _ _ (n + 3) _ _ (lentN n x) _ (.inr ⟨_, _, rfl, by exact hrd.below hnew.below hg⟩) (.inr ⟨_, _, rfl, by exact hnew.row⟩)).mono ?_; rintro e w2 ⟨rfl, rfl⟩))
  go_wp2
  go_ret
  exact ⟨rfl, (Below.refl _ _).drew.trans hnew.below⟩
/-- The first m of x over y. -/
def ovl (m : Nat) (x y : Nat → Nat) (i : Nat) : Nat := if i < m then x i else y i
theorem aB_take (N m : Nat) (x y : Nat → Nat) (h : m ≤ N) : ((aB N y).toList.take 0 ++ valN m x ++ (aB N y).toList.drop (0 + (valN m x).length)).toArray = aB N (ovl m x y) := by
  apply Array.ext
  · simp [valN_len, aB_size]; omega
  · intro i h1 h2
    have hi : i < N := by rw [aB_size] at h2; exact h2
    rw [aB_elem]
    unfold ovl
    simp only [List.take_zero, List.nil_append, List.getElem_toArray]
    by_cases e : i < m
    · rw [if_pos e, List.getElem_append_left (by rw [valN_len]; exact e)]
      simp [valN]
    · rw [if_neg e, List.getElem_append_right (by rw [valN_len]; omega)]
      simp only [valN_len, List.getElem_drop, Array.getElem_toList, aB_elem]
      congr 3; omega
/-- copy into a block that is known whole. -/
theorem run_copy_blk (w : World) (g N : Nat) (t : TypeId) (y : Nat → Nat) (p : Option Addr) (n c : Nat) (x : Nat → Nat) (hg : CAt w g (aB N y) t) (hx : StrAt w p n x) (ty : TypeId) :
    (Builtin.copy_ #[22, 22] ty #[.slice (some ⟨g, 0, none⟩) N N, .slice p n c]).run Tryz.prog w = .ok (.int .i64 ((min n N : Nat) : Int)) (w.setRow g (aB N (ovl (min n N) x y))) := by
  have hself : min n N = 0 → w.setRow g (aB N (ovl (min n N) x y)) = w := fun h => by
    rw [h, aB_congr N (x := ovl 0 x y) (y := y) (fun i _ => by unfold ovl; rw [if_neg (by omega)])]
    exact setRow_self w g _ t _ hg
  rcases Nat.eq_zero_or_pos (min n N) with h0 | h0
  · rw [hself h0, h0]
    exact run_copy_none (P := Tryz.prog) _ 22 22 ty 5 _ _ _ _ _ _ Tryz.underlying22 (by kernel_rfl) h0
  · rcases hx with rfl | ⟨b, o, rfl, hr⟩
    · omega
    · have := run_copy_row (P := Tryz.prog) w 22 22 ty 5 g 0 N N ⟨b, o, none⟩ n c (aB N y) t (valN (min n N) x) Tryz.underlying22 (by kernel_rfl) hg (by rw [valN_len])
        (fun j v hj => by
          have hlt : j < min n N := by
            rcases Nat.lt_or_ge j (min n N) with h | h
            · exact h
            · rw [List.getElem?_eq_none (by rw [valN_len]; exact h)] at hj; cases hj
          rw [valN_get _ _ _ hlt] at hj
          cases hj
          have h2 := hr j (by omega)
          have h3 : (⟨b, o, none⟩ : Addr).add j = ⟨b, o + j, none⟩ := by unfold Addr.add; split <;> simp_all
          rw [h3]; exact h2) (by rw [valN_len, aB_size]; omega) (fun v hv => by
          simp only [valN, List.mem_map] at hv
          obtain ⟨i, _, rfl⟩ := hv; rfl)
      rw [this, aB_take N (min n N) x y (by omega), valN_len]
      rfl
end Go.Proofs.YtopibkoklagceaaGreat.H

/- Blocks of bytes: how many there are, where each begins and ends; and the iterator over them. -/
namespace Go.Proofs.YtopibkoklagceaaGreat.H
open Go Go.RowKit Go.Shelf

def cnt (n : Nat) : Nat := (n + 255) / 256
def bend (n i : Nat) : Nat := min (256 * i + 256) n
def bEnc (n : Nat) (i : Fin (cnt n)) : Array Value := #[.int .i64 ((256 * i.val : Nat) : Int), .int .i64 ((bend n i.val : Nat) : Int)]
theorem take_snoc (c k : Nat) (h : k < c) : (List.finRange c).take (k + 1) = (List.finRange c).take k ++ [⟨k, h⟩] := by
  rw [List.take_add_one]; simp [h]
def keepsAt (B : Nat) (X Y : World) : Prop := Y.heap[B]? = X.heap[B]?
theorem keepsAt_t {B : Nat} {X Y Z : World} (h : keepsAt B X Y) (k : keepsAt B Y Z) : keepsAt B X Z := Eq.trans k h
theorem keepsAt_b {B : Nat} {w : World} (hB : B < w.heap.size) (W : World) (l : Nat) (o o' : Obj) (hl : w.heap.size ≤ l) (_ : W.heap[l]? = some o) (_ : o.isCells = false) (_ : o.isWalk = false) : keepsAt B W (W.putObj l o') :=
  World.putObj_heap_other (by omega)

/-- Contract of the closure that blocks makes. -/
theorem blocks1_in (l Bn n : Nat) (hn : n ≤ 65536) (J Jx : List (Fin (cnt n)) → World → Prop) (d : Nat)
    (hY : ∀ pre x W, J pre W → pre.length < cnt n → YieldAt Fence.wide d Tryz.prog l (bEnc n x) W fun e W' =>
      (e = .returned (.bool true) ∧ J (pre ++ [x]) W' ∧ keepsAt Bn W W') ∨ (e = .returned (.bool false) ∧ Jx (pre ++ [x]) W'))
    (W : World) (hBn : Boxed W Bn 3 (.int .i64 (n : Int))) (h0 : J [] W) :
    CallsIn Fence.wide (d + 1) Tryz.prog 72 #[.func (.yield l) #[] #[], .pointer (some ⟨Bn, 0, none⟩)] W fun e W' => (∃ v, e = .returned v) ∧
      ((∃ ys, ys = List.finRange (cnt n) ∧ J ys W') ∨ (∃ pre, pre <+: List.finRange (cnt n) ∧ Jx pre W')) := by
  have HN := hid hn
  refine callsIn_of_wp Tryz.func72 rfl trivial ?_ rfl
  simp only [Tryz.ntmps72, List.size_toArray, List.length_cons, List.length_nil, Nat.reduceAdd, Nat.reduceSub, Array.replicate_succ, Array.replicate_zero, List.push_toArray, List.append_toArray, List.nil_append, List.cons_append]
  gi_wp2
  gi_loopw [3] (fun p wr => ∃ k : Nat, k ≤ cnt n ∧ p = .int .i64 ((256 * k : Nat) : Int) ∧ Boxed wr Bn 3 (.int .i64 (n : Int)) ∧ J ((List.finRange (cnt n)).take k) wr)
    (fun p _ => (65536 + 256 - intOf p).toNat)
  case atStart => exact ⟨0, by omega, rfl, hBn, by simpa using h0⟩
  case round =>
    obtain ⟨k, hk, rfl, hb, hJ⟩ := hrel
    have hc := hb.cell
    have hcn : cnt n = (n + 255) / 256 := rfl
    by_cases hlt : k < cnt n
    · have hq : 256 * k < n := by omega
      have hlen : ((List.finRange (cnt n)).take k).length < cnt n := by simp; omega
      obtain ⟨fn, tmps, assign, body, hy, hR⟩ := hY _ ⟨k, hlt⟩ wr hJ hlen
      obtain ⟨q, hqe⟩ : ∃ q, 256 * k = q := ⟨_, rfl⟩
      have HQ := hid hqe
      simp only [bEnc, bend, hqe] at hy
      rw [hqe] at hq ⊢
      clear hqe
      have hq' : (q : Int) < (n : Int) := by omega
      have hw : IntKind.i64.wrap ((q : Int) + 256) = (q : Int) + 256 := IntWalk.i64_in _ ⟨by omega, by omega⟩
      by_cases hm : n < q + 256
      · have hm' : (n : Int) < (q : Int) + 256 := by omega
        rw [Nat.min_eq_right (by omega)] at hy
        gi_wp2
        refine hR.mono ?_
        rintro e W3 (⟨rfl, hJ3, hk3⟩ | ⟨rfl, hJx3⟩)
        · gi_wp2
          go_roundw
          case rel => exact ⟨k + 1, hlt, by have := HQ.out; congr 1; omega, hk3.trans hb, by rw [take_snoc _ _ hlt]; exact hJ3⟩
          case measure => simp [intOf]; omega
        · gi_wp2
          refine bodyPost_ret (results_none rfl _ _ _) rfl ?_
          exact ⟨⟨_, rfl⟩, .inr ⟨_, by rw [← take_snoc _ _ hlt]; exact List.take_prefix _ _, hJx3⟩⟩
      · have hm' : ¬ (n : Int) < (q : Int) + 256 := by omega
        rw [Nat.min_eq_left (by omega)] at hy
        have e2 : ((q + 256 : Nat) : Int) = (q : Int) + 256 := by omega
        rw [e2] at hy
        clear e2
        gi_wp2
        refine hR.mono ?_
        rintro e W3 (⟨rfl, hJ3, hk3⟩ | ⟨rfl, hJx3⟩)
        · gi_wp2
          go_roundw
          case rel => exact ⟨k + 1, hlt, by have := HQ.out; congr 1; omega, hk3.trans hb, by rw [take_snoc _ _ hlt]; exact hJ3⟩
          case measure => simp [intOf]; omega
        · gi_wp2
          refine bodyPost_ret (results_none rfl _ _ _) rfl ?_
          exact ⟨⟨_, rfl⟩, .inr ⟨_, by rw [← take_snoc _ _ hlt]; exact List.take_prefix _ _, hJx3⟩⟩
    · have hq : n ≤ 256 * k := by omega
      have hk' : k = cnt n := by omega
      gi_wp2
      go_end0
      exact ⟨⟨_, rfl⟩, .inl ⟨(List.finRange (cnt n)).take k, by rw [hk']; exact List.take_of_length_le (by simp), hJ⟩⟩
theorem blocks_stops (d Bn n : Nat) (hn : n ≤ 65536) (w : World) (hc : Boxed w Bn 3 (.int .i64 (n : Int))) :
    SeqStopsK Fence.wide (d + 1) Tryz.prog 72 #[.pointer (some ⟨Bn, 0, none⟩)] (bEnc n) (keepsAt Bn) (fun ys => ys = List.finRange (cnt n)) (fun pre => pre <+: List.finRange (cnt n)) (cnt n) w :=
  fun l J Jx W hW _ _ hY h0 => blocks1_in l Bn n hn J Jx d hY W ((hW.block Bn hc.lt).trans hc) h0
theorem blocks_any (n : Nat) (w : World) : Calls Tryz.prog 50 #[.int .i64 (n : Int)] w fun e w' => e = .returned (.func (.func 72) #[] #[.pointer (some ⟨w.heap.size, 0, none⟩)]) ∧ w' = w.alloc (.cells #[.int .i64 (n : Int)] 3) := by
  go_enter Tryz.func50, Tryz.ntmps50
  have hmf : ∀ (fn : Fn) (first cap : Array Value) (w : World), (Instr.makeFunc fn first cap).run Tryz.prog w = .ok (.func fn first cap) w := fun _ _ _ _ => rfl
  go_wp2
  go_ret
  exact ⟨rfl, rfl⟩
/-- How many bytes a file has, and the error. -/
def szV (z : Int) : Int := if 0 ≤ z ∧ z ≤ 65536 then z + 32 * ((z + 255) / 256) else 0
def szE (z : Int) : Int := if 0 ≤ z ∧ z ≤ 65536 then 0 else 5
theorem szV_nat (n : Nat) (hn : n ≤ 65536) : szV n = ((n + 32 * cnt n : Nat) : Int) := by
  unfold szV cnt; rw [if_pos (by omega)]; omega
theorem szE_nat (n : Nat) (hn : n ≤ 65536) : szE n = 0 := by unfold szE; rw [if_pos (by omega)]
theorem size_any (z : Int) (w : World) : Calls Tryz.prog 49 #[.int .i64 z] w fun e w' => e = .returned (.tuple #[.int .i64 (szV z), .int .i64 (szE z)]) ∧ w' = w := by
  have hV : szV z = if 0 ≤ z ∧ z ≤ 65536 then z + 32 * ((z + 255) / 256) else 0 := rfl
  have hE : szE z = if 0 ≤ z ∧ z ≤ 65536 then 0 else 5 := rfl
  by_cases h : 0 ≤ z ∧ z ≤ 65536
  · rw [if_pos h] at hV hE
    have h1 : ¬ z < 0 := by omega
    have h2 : ¬ z > 65536 := by omega
    have e1 : IntKind.i64.wrap (z + 256) = z + 256 := IntWalk.i64_in _ ⟨by omega, by omega⟩
    have e2 : IntKind.i64.wrap (z + 256 - 1) = z + 255 := by rw [IntWalk.i64_in _ ⟨by omega, by omega⟩]; omega
    have e3 : IntKind.i64.wrap ((z + 255).tdiv 256) = (z + 255) / 256 := IntWalk.i64_quo _ _ ⟨by omega, by omega, by omega⟩
    have e4 : IntKind.i64.wrap ((z + 255) / 256 * 32) = 32 * ((z + 255) / 256) := by rw [IntWalk.i64_in _ ⟨by omega, by omega⟩]; omega
    have e5 : IntKind.i64.wrap (z + 32 * ((z + 255) / 256)) = z + 32 * ((z + 255) / 256) := IntWalk.i64_in _ ⟨by omega, by omega⟩
    go_enter Tryz.func49, Tryz.ntmps49
    go_wp2
    go_ret2
    try rw [hV, hE]
    exact ⟨rfl, rfl⟩
  · rw [if_neg h] at hV hE
    by_cases h1 : z < 0
    · go_enter Tryz.func49, Tryz.ntmps49
      go_wp2
      go_ret2
      try rw [hV, hE]
      exact ⟨rfl, rfl⟩
    · have h2 : z > 65536 := by omega
      go_enter Tryz.func49, Tryz.ntmps49
      go_wp2
      go_ret2
      try rw [hV, hE]
      exact ⟨rfl, rfl⟩
theorem place_any (i k : Nat) (hi : i ≤ 65536) (hk : i / 256 = k) (w : World) : Calls Tryz.prog 131 #[.int .i64 (i : Int)] w fun e w' => e = .returned (.int .i64 ((i + 32 * k + 32 : Nat) : Int)) ∧ w' = w := by
  have e3 : IntKind.i64.wrap ((i : Int).tdiv 256) = (k : Int) := by rw [IntWalk.i64_quo _ _ ⟨by omega, by omega, by omega⟩]; omega
  have e4 : IntKind.i64.wrap ((k : Int) + 1) = (k : Int) + 1 := IntWalk.i64_in _ ⟨by omega, by omega⟩
  have e5 : IntKind.i64.wrap (((k : Int) + 1) * 32) = 32 * (k : Int) + 32 := by rw [IntWalk.i64_in _ ⟨by omega, by omega⟩]; omega
  have e6 : IntKind.i64.wrap ((i : Int) + (32 * (k : Int) + 32)) = ((i + 32 * k + 32 : Nat) : Int) := by rw [IntWalk.i64_in _ ⟨by omega, by omega⟩]; omega
  go_enter Tryz.func131, Tryz.ntmps131
  go_wp2
  go_ret
  simp
  try omega
end Go.Proofs.YtopibkoklagceaaGreat.H

/- Contract of spread of package digest: a block's words, and those that follow from them; what was there is as it was. -/
namespace Go.Proofs.YtopibkoklagceaaGreat.H
open Go.RowKit

def spTo (x : Nat → Nat) (k i : Nat) : BitVec 32 := wpart x i (min (k - 4 * i) 4)
theorem spTo_step (x : Nat → Nat) (k i : Nat) : upW (spTo x k) (k / 4) ((spTo x k (k / 4) <<< 8) ||| BitVec.ofNat 32 (x k)) i = spTo x (k + 1) i := by
  unfold upW spTo
  by_cases e : i = k / 4
  · rw [if_pos e, e, show min (k - 4 * (k / 4)) 4 = k % 4 by omega, show min (k + 1 - 4 * (k / 4)) 4 = k % 4 + 1 by omega, wpart, show 4 * (k / 4) + k % 4 = k by omega]
  · rw [if_neg e]
    rcases Nat.lt_or_ge i (k / 4) with h | h
    · rw [show min (k - 4 * i) 4 = 4 by omega, show min (k + 1 - 4 * i) 4 = 4 by omega]
    · rw [show min (k - 4 * i) 4 = 0 by omega, show min (k + 1 - 4 * i) 4 = 0 by omega]
def schTo (x : Nat → Nat) (t i : Nat) : BitVec 32 := if i < t then sch x i else 0
theorem spTo_end (x : Nat → Nat) (i : Nat) : spTo x 64 i = schTo x 16 i := by
  unfold spTo schTo
  by_cases h : i < 16
  · rw [if_pos h, sch_low x i h, show min (64 - 4 * i) 4 = 4 by omega]; rfl
  · rw [if_neg h, show min (64 - 4 * i) 4 = 0 by omega]; rfl
theorem schTo_at (x : Nat → Nat) (t i : Nat) (h : i < t) : schTo x t i = sch x i := by unfold schTo; rw [if_pos h]
theorem schTo_step (x : Nat → Nat) (t : Nat) (h : 16 ≤ t) (i : Nat) : upW (schTo x t) t (sg1 (schTo x t (t - 2)) + schTo x t (t - 7) + sg0 (schTo x t (t - 15)) + schTo x t (t - 16)) i = schTo x (t + 1) i := by
  rw [schTo_at x t (t - 2) (by omega), schTo_at x t (t - 7) (by omega), schTo_at x t (t - 15) (by omega), schTo_at x t (t - 16) (by omega), ← sch_high x t h]
  unfold upW schTo
  by_cases e : i = t
  · rw [if_pos e, if_pos (by omega), e]
  · rw [if_neg e]
    by_cases q : i < t
    · rw [if_pos q, if_pos (by omega)]
    · rw [if_neg q, if_neg (by omega)]
theorem byte_word (n : Nat) (h : n < 256) : ((n : Nat) : Int) = wv (BitVec.ofNat 32 n) := by
  unfold wv; rw [BitVec.toNat_ofNat]; omega
theorem size64B (x : Nat → Nat) : (Tryz.prog.info? 101).map (·.size) = some (aB 64 x).size := by rw [aB_size]; kernel_rfl

theorem run_index_blk (x : Nat → Nat) (k : Nat) (hk : k < 64) (w : World) : (Instr.index 101 (.agg (aB 64 x)) (.int .i64 (k : Int))).run Tryz.prog w = .ok (.int .u8 ((x k : Nat) : Int)) w :=
  run_index_row 101 5 64 _ k _ Tryz.underlying101 hk (aB_get 64 x k hk) (by kernel_rfl) (fun _ => by kernel_rfl) w
set_option maxRecDepth 100000 in
set_option maxHeartbeats 400000 in
theorem spread_any (x : Nat → Nat) (hx : ∀ i, i < 64 → x i < 256) (w : World) :
    Calls Tryz.prog 102 #[.agg (aB 64 x)] w fun e w' => e = .returned (.agg (aW 64 (sch x))) ∧ Below w.heap.size w w' := by
  have HX := hid hx
  clear hx
  go_enter Tryz.func102, Tryz.ntmps102
  go_wp2_with (first
    | refine wpList_alloc_row rfl 90 rfl _ zero64 ?_
    | refine wpList_load_row rfl 101 _ rfl _ rfl _ _ _ _ (((CAt.new w (aB 64 x) 101).alloc (.cells (aW 64 zW) 90)).alloc (.cells (aW 64 zW) 90)) Tryz.underlying101 rfl (size64B x) ?_)
  go_loopw [12] (fun v wr => ∃ k : Nat, k ≤ 64 ∧ v = .int .i64 k ∧ CAt wr (w.heap.size + 1 + 1) (aW 64 (spTo x k)) 90 ∧ CAt wr (w.heap.size + 1) (aW 64 zW) 90 ∧ Below w.heap.size w wr) (fun v _ => (64 - intOf v).toNat)
  case atStart =>
    refine ⟨0, by omega, rfl, ?_, ?_, ?_⟩
    · exact (CAt.new' ((w.alloc (.cells (aB 64 x) 101)).alloc (.cells (aW 64 zW) 90)) (aW 64 zW) 90 _ (by simp)).congr (aW_congr 64 fun i _ => by show (0 : BitVec 32) = wpart x i (min (0 - 4 * i) 4); rw [show min (0 - 4 * i) 4 = 0 by omega]; rfl)
    · exact (CAt.new' (w.alloc (.cells (aB 64 x) 101)) (aW 64 zW) 90 _ (by simp)).alloc _
    · exact (((Below.refl _ _).alloc (by omega) _).alloc (by simp) _).alloc (by simp; omega) _
  case round =>
    obtain ⟨k, hk, rfl, hc, hz, hb⟩ := hrel
    by_cases hlt : k < 64
    · have hix := run_index_blk x k hlt
      have c1 := hc.cellW (k / 4) (by omega)
      have c2 := hc.free (k / 4)
      have hxk := byte_word (x k) (HX.out k hlt)
      have HC := hid hc
      have HZ := hid hz
      have HB := hid hb
      clear hc hz hb
      have e1 := wshl (spTo x k (k / 4)) 8
      simp only [Int.reducePow] at e1
      have e2 := wmod (BitVec.ofNat 32 (x k))
      have e3 := wor (spTo x k (k / 4) <<< 8) (BitVec.ofNat 32 (x k))
      go_wp2
      go_roundw
      case rel =>
        exact ⟨k + 1, by omega, by go_num, (HC.out.setW (k / 4) _).congr (aW_congr 64 fun i _ => spTo_step x k i), HZ.out.other _ _ (by simp), HB.out.setCell (by simp; omega) _⟩
      case measure => simp [intOf]; omega
    · have e : k = 64 := by omega
      have HC := hid (hc.congr (cs' := aW 64 (schTo x 16)) (aW_congr 64 fun i _ => (by rw [e]; exact spTo_end x i)))
      clear e
      have HZ := hid hz
      have HB := hid hb
      clear hc hz hb HX
      go_wp2
      go_loopw [6] (fun v wr => ∃ t : Nat, 16 ≤ t ∧ t ≤ 64 ∧ v = .int .i64 t ∧ CAt wr (w.heap.size + 1 + 1) (aW 64 (schTo x t)) 90 ∧ CAt wr (w.heap.size + 1) (aW 64 zW) 90 ∧ Below w.heap.size w wr) (fun v _ => (64 - intOf v).toNat)
      case atStart => exact ⟨16, by omega, by omega, rfl, HC.out, HZ.out, HB.out⟩
      case round =>
        clear HC HZ HB
        obtain ⟨t, ht0, ht, rfl, hc, hz, hb⟩ := hrel
        by_cases hlt : t < 64
        · have c1 := hc.cellW (t - 2) (by omega)
          have c2 := hc.cellW (t - 7) (by omega)
          have c3 := hc.cellW (t - 15) (by omega)
          have c4 := hc.cellW (t - 16) (by omega)
          have c5 := hc.free t
          have HC := hid hc
          have HZ := hid hz
          have HB := hid hb
          clear hc hz hb
          go_wp2_with fail
          go_quiet (fail)
          have a1 := wadd
          have a2 := wxor
          have a3 := wshr (schTo x t (t - 2)) 10
          have a4 := wshr (schTo x t (t - 15)) 3
          simp only [Int.reducePow] at a3 a4
          go_wp2_with (go_at_call 103; refine (right_i _ _ (by decide) (by decide) _).mono ?_; rintro e w' ⟨rfl, rfl⟩)
          have HC := hid (HC.out.drewN nq)
          have HZ := hid (HZ.out.drewN nq)
          have HB := hid (Below.drewN' HB.out nq)
          clear c1 c2 c3 c4 c5
          generalize wr.drewN nq = w5 at *
          have c7 := HC.out.cellW (t - 7) (by omega)
          have c8 := HC.out.cellW (t - 16) (by omega)
          have c9 := HC.out.free t
          refine wp_region_last_lit (by kernel_rfl) (by kernel_rfl) ?_
          dsimp only [List.dropLast, List.getLast]
          repeat (go_big_quiet_step (fail))
          refine wpQuiet_nil ?_
          intro nr
          have HC := hid (HC.out.drewN nr)
          have HZ := hid (HZ.out.drewN nr)
          have HB := hid (Below.drewN' HB.out nr)
          clear c7 c8 c9
          generalize w5.drewN nr = w6 at *
          have c9 := HC.out.free t
          have c10 := HC.out.cellW t hlt
          go_wp2
          go_roundw
          case rel => exact ⟨t + 1, by omega, by omega, by go_num, (HC.out.setW t _).congr (aW_congr 64 fun i _ => schTo_step x t ht0 i), HZ.out.other _ _ (by simp), HB.out.setCell (by simp; omega) _⟩
          case measure => simp [intOf]; omega
        · have e : t = 64 := by omega
          subst e
          have HC := hid hc
          have HZ := hid hz
          have HB := hid hb
          clear hc hz hb
          go_wp2_with (first
            | refine wpList_load_row rfl 90 _ rfl _ rfl _ _ _ _ HC.out Tryz.underlying90 rfl (size64 _) ?_
            | refine wpList_store_row rfl 90 _ _ rfl _ _ rfl rfl _ _ HZ.out (size64 _) (by rw [aW_size, aW_size]) (aW_one _ _) ?_)
          refine ret_row rfl _ _ _ _ _ rfl rfl (HZ.out.row _) Tryz.underlying90 rfl (size64 _) ⟨?_, below_setRow HB.out (by omega) _⟩
          rw [aW_congr 64 (fun i hi => schTo_at x 64 i hi)]
end Go.Proofs.YtopibkoklagceaaGreat.H

/- A region that draws its order, walked by what holds whenever some of its operations have come up. -/
namespace Go.Proofs.YtopibkoklagceaaGreat.H
open Go Go.RowKit

section
variable {P : Program} {ops : Array Oper} {md : Region.Mode}
theorem count_set : ∀ (l : List Bool) (i : Nat), l[i]? = some false → (l.set i true).count false + 1 = l.count false
  | [], i, h => by simp at h
  | b :: l, 0, h => by
    simp at h; subst h; simp
  | b :: l, i + 1, h => by
    simp only [List.set_cons_succ, List.count_cons]
    have := count_set l i (by simpa using h)
    omega
theorem wpAny_inv {Q : Exit → Act → World → Prop} (Inv : Array Bool → Act → World → Prop)
    (hstep : ∀ listed a w i, Inv listed a w → i ∈ Region.ready md ops listed → wpOp P ops Q i (Inv (listed.setIfInBounds i true)) a w)
    (hend : ∀ listed a w, Inv listed a w → Region.ready md ops listed = [] → Q .normal a w) :
    ∀ (fuel : Nat) (listed : Array Bool) (a : Act) (w : World), listed.toList.count false ≤ fuel → Inv listed a w → wpAny P md ops Q fuel listed a w
  | 0, listed, a, w, hc, h => by
    have hr : Region.ready md ops listed = [] := by
      apply List.eq_nil_iff_forall_not_mem.2
      intro i hi
      have h0 := (mem_ready.1 hi).1
      rcases Nat.lt_or_ge i listed.size with h' | h'
      · have h1 : listed.toList[i]? = some false := by simp [h'] at h0 ⊢; exact h0
        have := count_set _ _ h1
        omega
      · simp [Array.getElem?_eq_none h'] at h0
    exact ⟨hr, hend _ _ _ h hr⟩
  | fuel + 1, listed, a, w, hc, h => by
    refine ⟨fun hr => hend _ _ _ h hr, fun i hi => wpOp_mono (fun a' w' h' => wpAny_inv Inv hstep hend fuel _ a' w' ?_ h') (hstep _ _ _ _ h hi)⟩
    have h0 := (mem_ready.1 hi).1
    rcases Nat.lt_or_ge i listed.size with h1 | h1
    · have h2 : listed.toList[i]? = some false := by simp [h1] at h0 ⊢; exact h0
      have := count_set _ _ h2
      rw [Array.toList_setIfInBounds]
      omega
    · simp [Array.getElem?_eq_none h1] at h0
theorem wp_enter {o : Oper} {a : Act} {w : World} {K : Act → World → Prop} {Q : Exit → Act → World → Prop} (f : FuncId) (vs : Array Value) (hrun : (execOp a.eval o).run P w = .ok (.enter f vs) w)
    (h : Calls P f vs w fun e w' => ∃ v, e = .returned v ∧ K (a.put o.dst v) w') : o.wp P a w K Q := by
  unfold Oper.wp; rw [hrun]
  exact h.mono (by rintro e w' ⟨v, rfl, hk⟩; exact hk)
theorem wp_alloc_row {o : Oper} {a : Act} {w : World} {K : Act → World → Prop} {Q : Exit → Act → World → Prop} (t : TypeId) (ho : o.op = .alloc t) (cs : Array Value)
    (hz : (P.info? t).map (·.zero) = some (some (.agg cs))) (h : K (a.put o.dst (.pointer (some ⟨w.heap.size, 0, none⟩))) (w.alloc (.cells cs t))) : o.wp P a w K Q := by
  cases hq : P.info? t with
  | none => simp [hq] at hz
  | some i =>
    have hz' : i.zero = some (.agg cs) := by simpa [hq] using hz
    unfold Oper.wp execOp
    simp only [ho, Instr.alloc, zeroValue, typeInfo, Sem.run_bind, newVar, newRow]
    simp [hq, hz', Value.cells]
    exact h
end
end Go.Proofs.YtopibkoklagceaaGreat.H
