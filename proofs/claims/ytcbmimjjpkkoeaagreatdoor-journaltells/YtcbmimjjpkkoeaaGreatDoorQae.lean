/- Texts laid into one: the remark ahead of each part says what is proved there. -/
import Derived.Test.YtcbmimjjpkkoeaaGreatDoorQad
import Derived.Lib.ConvBytes
/- Contracts of LentBytes, KeptBytes and OverBytes of the statements' kit. -/
namespace Go.Proofs.YtcbmimjjpkkoeaaGreatDoor
open Go.RowKit

/-- A row of n bytes lies at block b from o on. -/
def RowAt (w : World) (b o n : Nat) (x : Nat → Nat) : Prop := ∀ i, i < n → w.cell? ⟨b, o + i, none⟩ = some (.int .u8 (x i : Nat))
/-- The world w has one block more than w0 has: n bytes, x, which may be written; what was there is as it was. -/
structure NewRow (w0 w : World) (n : Nat) (x : Nat → Nat) : Prop where
  size : w.heap.size = w0.heap.size + 1
  below : Below w0.heap.size w0 w
  cells : ∀ i, i < n → w.cell? ⟨w0.heap.size, i, none⟩ = some (.int .u8 (x i : Nat))
  free : ∀ i, w.frozen? ⟨w0.heap.size, i, none⟩ = false

theorem madeCells_get (z : Value) (n i : Nat) (h : i < n) : (madeCells #[z] n)[i]? = some z := by
  simp [madeCells, h, Nat.mod_one]
theorem run_make_u8 (n : Nat) (hn : n ≤ 70003) (w : World) :
    (Instr.makeSlice 25 (.int .i64 (n : Int)) (.int .i64 (n : Int))).run Tryz.prog w = .ok (.slice (some ⟨w.heap.size, 0, none⟩) n n) (w.alloc (.cells (madeCells #[.int .u8 0] n) 5)) := by
  obtain ⟨i0, hi, hz0, hz1, hz2⟩ := info_parts Tryz.info5
  have h := run_make (P := Tryz.prog) w 25 5 i0 (.int .u8 0) Tryz.underlying25 hi hz0 .i64 .i64 n n (by omega) (Int.le_refl _) (by rw [hz2]; omega) (by omega)
  rw [hz1] at h
  simpa [Value.cells] using h

theorem NewRow.made (w : World) (n : Nat) : NewRow w (w.alloc (.cells (madeCells #[.int .u8 0] n) 5)) n (fun _ => 0) where
  size := by simp
  below := (Below.refl _ _).alloc (Nat.le_refl _) _
  cells := fun i h => by rw [World.cell?_alloc_new, madeCells_get _ _ _ h]; rfl
  free := fun i => World.frozen?_alloc_new _ _ _ _
theorem NewRow.set {w0 w : World} {n : Nat} {x : Nat → Nat} (h : NewRow w0 w n x) (k : Nat) (v : Nat) (hk : k < n) :
    NewRow w0 (w.setCell ⟨w0.heap.size, k, none⟩ (.int .u8 (v : Nat))) n (fun i => if i = k then v else x i) where
  size := by simp [h.size]
  below := h.below.setCell (Nat.le_refl _) _
  cells := fun i hi => by
    by_cases e : i = k
    · subst e
      rw [World.cell?_setCell_same _ _ _ (h.cells i hi)]; simp
    · rw [World.cell?_setCell_other _ _ _ _ (by intro h2; cases h2; exact e rfl), h.cells i hi]; simp [e]
  free := fun i => by rw [World.frozen?_setCell]; exact h.free i
theorem NewRow.congr {w0 w : World} {n : Nat} {x y : Nat → Nat} (h : NewRow w0 w n x) (e : ∀ i, i < n → x i = y i) : NewRow w0 w n y where
  size := h.size
  below := h.below
  cells := fun i hi => by rw [h.cells i hi, e i hi]
  free := h.free

theorem upto_step (f : Nat → Nat) (k i : Nat) : (if i = k then f k else if i < k then f i else 0) = if i < k + 1 then f i else 0 := by
  by_cases e : i = k
  · subst e; rw [if_pos rfl, if_pos (by omega)]
  · rw [if_neg e]
    by_cases h : i < k
    · rw [if_pos h, if_pos (by omega)]
    · rw [if_neg h, if_neg (by omega)]

end Go.Proofs.YtcbmimjjpkkoeaaGreatDoor

/- Contract of SameBytes of the statements' kit: of two slices that read alike it returns true, and leaves the world as it was. -/
namespace Go.Proofs.YtcbmimjjpkkoeaaGreatDoor
open Go.RowKit

/-- The slice's value leads to n bytes x; one of no byte may lead anywhere. -/
def StrAt (w : World) (p : Option Addr) (n : Nat) (x : Nat → Nat) : Prop := n = 0 ∨ ∃ b o, p = some ⟨b, o, none⟩ ∧ RowAt w b o n x
def strN (n : Nat) (x : Nat → Nat) : ByteArray := strOfNums ((List.range n).map fun i => (x i : Int))
theorem conv_str (w : World) (p : Option Addr) (n c : Nat) (x : Nat → Nat) (h : StrAt w p n x) :
    (convert 25 9 (.slice p n c)).run Tryz.prog w = .ok (.string (strN n x)) w := by
  rcases h with rfl | ⟨b, o, rfl, h⟩
  · rw [run_convert_bytes_string w 25 9 5 _ 0 c Tryz.underlying25 Tryz.underlying5 Tryz.underlying9]
    cases p <;> simp [Conv.bytesToString, loadCells, strN]
    all_goals rfl
  · exact run_convert_bytes_arg w 25 5 Tryz.underlying25 Tryz.underlying5 b o n c _ (by simp) (fun i hi => by rw [h i hi]; simp [List.getD, hi]) 9 Tryz.underlying9

set_option maxHeartbeats 400000 in
theorem same_true (p q : Option Addr) (n c d : Nat) (x : Nat → Nat) (w : World) (hp : StrAt w p n x) (hq : StrAt w q n x) :
    Calls Tryz.prog 12 #[.slice p n c, .slice q n d] w fun e w' => e = .returned (.bool true) ∧ w' = w := by
  have h1 := conv_str w p n c x hp
  have h2 := conv_str w q n d x hq
  go_enter Tryz.func12, Tryz.ntmps12
  go_wp2
  go_ret
  exact ⟨rfl, rfl⟩
end Go.Proofs.YtcbmimjjpkkoeaaGreatDoor

/- Contract of LentBytes of the statements' kit: a copy of the bytes lies in a new block, with three marked bytes of spare room behind it; what was there is as it was. -/
namespace Go.Proofs.YtcbmimjjpkkoeaaGreatDoor
open Go.RowKit

theorem size_setCells (b : Nat) : ∀ (vs : List Value) (o : Nat) (w : World), (w.setCells b o vs).heap.size = w.heap.size
  | [], _, _ => rfl
  | v :: r, o, w => by rw [World.setCells, size_setCells b r, World.size_setCell]
theorem below_setCells (b B : Nat) (hB : B ≤ b) : ∀ (vs : List Value) (o : Nat) (w0 w : World), Below B w0 w → Below B w0 (w.setCells b o vs)
  | [], _, _, _, h => h
  | v :: r, o, w0, w, h => by rw [World.setCells]; exact below_setCells b B hB r (o + 1) w0 _ (h.setCell hB _)

/-- n bytes as values. -/
def valN (n : Nat) (x : Nat → Nat) : List Value := (List.range n).map fun i => .int .u8 (x i : Nat)
theorem valN_len (n : Nat) (x : Nat → Nat) : (valN n x).length = n := by simp [valN]
theorem valN_get (n : Nat) (x : Nat → Nat) (i : Nat) (h : i < n) : (valN n x)[i]? = some (.int .u8 (x i : Nat)) := by simp [valN, h]

theorem NewRow.copied {w0 w : World} {n : Nat} {x : Nat → Nat} (h : NewRow w0 w n x) (m : Nat) (y : Nat → Nat) (hm : m ≤ n) :
    NewRow w0 (w.setCells w0.heap.size 0 (valN m y)) n (fun i => if i < m then y i else x i) where
  size := by rw [size_setCells, h.size]
  below := below_setCells _ _ (Nat.le_refl _) _ _ _ _ h.below
  cells := fun i hi => by
    by_cases e : i < m
    · have hin := World.cell?_setCells_in w0.heap.size (valN m y) 0 w (fun j hj => by
        rw [valN_len] at hj
        rw [Nat.zero_add, h.cells j (by omega)]; rfl) i (by rw [valN_len]; exact e)
      rw [Nat.zero_add] at hin
      rw [hin, if_pos e]
      have g := valN_get m y i e
      rw [List.getElem?_eq_getElem (by rw [valN_len]; exact e)] at g
      exact g
    · rw [World.cell?_setCells_out _ _ _ _ _ (fun _ _ => by rw [valN_len]; right; simp; omega), if_neg e, h.cells i hi]
  free := fun i => by rw [World.frozen?_setCells]; exact h.free i

theorem run_copy_u8 (w : World) (b o n c g dl dc : Nat) (x y : Nat → Nat) (w0 : World) (hg : g = w0.heap.size) (h : NewRow w0 w dl y) (hx : RowAt w b o n x) (hn : n ≤ dl) (ty : TypeId) :
    (Builtin.copy_ #[25, 25] ty #[.slice (some ⟨g, 0, none⟩) dl dc, .slice (some ⟨b, o, none⟩) n c]).run Tryz.prog w = .ok (goInt n) (w.setCells g 0 (valN n x)) := by
  subst hg
  have := run_copy_cells (P := Tryz.prog) w 25 25 ty 5 w0.heap.size 0 dl dc ⟨b, o, none⟩ n c (valN n x) Tryz.underlying25 (by kernel_rfl) (by rw [valN_len]; exact (Nat.min_eq_left hn).symm)
    (fun j v hj => by
      have hjn : j < n := by
        rcases Nat.lt_or_ge j n with q | q
        · exact q
        · rw [List.getElem?_eq_none (by rw [valN_len]; exact q)] at hj; cases hj
      rw [valN_get n x j hjn] at hj
      cases hj
      have hadd : (⟨b, o, none⟩ : Addr).add j = ⟨b, o + j, none⟩ := by unfold Addr.add; split <;> simp_all
      rw [hadd]; exact hx j hjn)
    (fun j hj => by rw [valN_len] at hj; rw [Nat.zero_add, h.cells j (by omega)]; rfl)
    (fun j _ => by rw [Nat.zero_add]; exact h.free j)
    (fun v hv => by unfold valN at hv; obtain ⟨i, _, rfl⟩ := List.mem_map.1 hv; rfl)
  rw [valN_len] at this
  exact this

/-- What a lent list reads as, its spare room with it. -/
def lentN (n : Nat) (x : Nat → Nat) (i : Nat) : Nat := if i < n then x i else 160 + i % 90

theorem byte_mark (k : Nat) : ((160 + k % 90 : Nat) : Int) = 160 + (k : Int) % 90 := by omega

set_option maxRecDepth 100000 in
set_option maxHeartbeats 1000000 in
theorem lent_core (p : Option Addr) (n c : Nat) (x : Nat → Nat) (w w1 : World) (hn : n ≤ 70000)
    (hcp : ∀ ty, (Builtin.copy_ #[25, 25] ty #[.slice (some ⟨w.heap.size, 0, none⟩) (n + 3) (n + 3), .slice p n c]).run Tryz.prog (w.alloc (.cells (madeCells #[.int .u8 0] (n + 3)) 5)) = .ok (goInt n) w1)
    (hrow : NewRow w w1 (n + 3) (fun i => if i < n then x i else 0)) :
    Calls Tryz.prog 6 #[.slice p n c] w fun e w' => e = .returned (.slice (some ⟨w.heap.size, 0, none⟩) n (n + 3)) ∧ NewRow w w' (n + 3) (lentN n x) := by
  have hmk := run_make_u8 (n + 3) (by omega) w
  rw [show ((n + 3 : Nat) : Int) = (n : Int) + 3 from by omega] at hmk
  have HR := hid hrow
  clear hrow
  go_enter Tryz.func6, Tryz.ntmps6
  go_wp2
  clear hmk hcp
  go_loopw [4] (fun i wr => ∃ k : Nat, n ≤ k ∧ k ≤ n + 3 ∧ i = .int .i64 k ∧ NewRow w wr (n + 3) (fun i => if i < k then lentN n x i else 0)) (fun i _ => (n + 3 - intOf i).toNat)
  case atStart => exact ⟨n, by omega, by omega, rfl, HR.out.congr (fun i _ => by by_cases e : i < n <;> simp [lentN, e])⟩
  case round =>
    obtain ⟨k, hk1, hk2, rfl, hrow⟩ := hrel
    clear HR
    by_cases hlt : k < n + 3
    · have c3 : wr.cell? ⟨w.heap.size, k, none⟩ = some (.int .u8 0) := by rw [hrow.cells k hlt]; simp
      have c4 := hrow.free k
      have HR := hid (hrow.set k (lentN n x k) hlt)
      have HL : Hid (lentN n x k = 160 + k % 90) := if_neg (by omega)
      clear hrow
      go_wp2
      go_roundw
      case rel =>
        refine ⟨k + 1, by omega, by omega, by go_num, ?_⟩
        rw [HL.out] at HR
        have := HR.out.congr (y := fun i => if i < k + 1 then lentN n x i else 0) (fun i _ => by rw [← HL.out]; exact upto_step _ k i)
        rw [byte_mark] at this
        exact this
      case measure => simp [intOf]; omega
    · have e : k = n + 3 := by omega
      have E := hid (hrow.congr (y := lentN n x) (fun i hi => by rw [if_pos (by omega)]))
      clear e hrow
      go_wp2
      go_ret
      exact ⟨rfl, E.out⟩

theorem lent_any (p : Option Addr) (n c : Nat) (x : Nat → Nat) (w : World) (hn : n ≤ 70000) (hx : StrAt w p n x) :
    Calls Tryz.prog 6 #[.slice p n c] w fun e w' => e = .returned (.slice (some ⟨w.heap.size, 0, none⟩) n (n + 3)) ∧ NewRow w w' (n + 3) (lentN n x) := by
  have hrow := NewRow.made w (n + 3)
  by_cases h0 : n = 0
  · subst h0
    refine lent_core p 0 c x w _ hn (fun ty => ?_) (hrow.congr (fun i _ => by simp))
    exact run_copy_none (P := Tryz.prog) _ 25 25 ty 5 _ _ _ _ _ _ Tryz.underlying25 (by kernel_rfl) (by simp)
  · rcases hx with e | ⟨b, o, rfl, hx⟩
    · exact absurd e h0
    · have hb : b < w.heap.size := World.block_lt_of_cell? w _ (hx 0 (by omega))
      have hx1 : RowAt (w.alloc (.cells (madeCells #[.int .u8 0] (n + 3)) 5)) b o n x := fun i hi => by rw [World.cell?_alloc_lt _ _ _ hb]; exact hx i hi
      exact lent_core _ n c x w _ hn (fun ty => run_copy_u8 _ b o n c w.heap.size (n + 3) (n + 3) x (fun _ => 0) w rfl hrow hx1 (by omega) ty) (hrow.copied n x (by omega))
end Go.Proofs.YtcbmimjjpkkoeaaGreatDoor

/- Contract of KeptBytes of the statements' kit: it returns true of a lent list that reads as it was lent. -/
namespace Go.Proofs.YtcbmimjjpkkoeaaGreatDoor
open Go.RowKit

theorem RowAt.below {B : Nat} {w w' : World} {b o n : Nat} {x : Nat → Nat} (h : RowAt w b o n x) (hb : Below B w w') (hlt : b < B) : RowAt w' b o n x :=
  fun i hi => (hb.cell (p := ⟨b, o + i, none⟩) hlt).trans (h i hi)
theorem NewRow.row {w0 w : World} {n : Nat} {x : Nat → Nat} (h : NewRow w0 w n x) : RowAt w w0.heap.size 0 n x :=
  fun i hi => by rw [Nat.zero_add]; exact h.cells i hi

set_option maxRecDepth 100000 in
set_option maxHeartbeats 1000000 in
theorem kept_any (g n c : Nat) (p : Option Addr) (x : Nat → Nat) (w : World) (hn : n ≤ 70000) (hg : g < w.heap.size) (hr : RowAt w g 0 (n + 3) (lentN n x)) (hx : StrAt w p n x) :
    Calls Tryz.prog 18 #[.slice (some ⟨g, 0, none⟩) n (n + 3), .slice p n c] w fun e w' => e = .returned (.bool true) ∧ Below w.heap.size w w' := by
  have hrd : RowAt w.drew g 0 (n + 3) (lentN n x) := hr
  have h3 : (0 : Int) ≤ (n : Int) + 3 := by omega
  have hw3 : IntKind.i64.wrap ((n : Int) + 3) = (n : Int) + 3 := by rw [IntKind.wrap_i64]; omega
  go_enter Tryz.func18, Tryz.ntmps18
  go_wp2_with fail
  go_region_held3 (fun w' => True) (trivial) (first | (go_at_call 6; refine (lent_any p n c x _ hn (by exact hx)).mono ?_; rintro e w1 ⟨rfl, hnew⟩) | (go_at_call 12; refine (same_true _ _ (n + 3) _ _ (lentN n x) _ (.inr ⟨_, _, rfl, by exact hrd.below hnew.below hg⟩) (.inr ⟨_, _, rfl, by exact hnew.row⟩)).mono ?_; rintro e w2 ⟨rfl, rfl⟩))
  go_wp2
  go_ret
  exact ⟨rfl, (Below.refl _ _).drew.trans hnew.below⟩

theorem BL.strAt {w : World} {po : Option Addr} {bs : List Nat} (h : BL w po bs) : StrAt w po bs.length (fun i => bs.getD i 0) := by
  rcases h with rfl | ⟨b, o, rfl, h⟩
  · exact .inl rfl
  · exact .inr ⟨b, o, rfl, h⟩
/-- Bytes that were lent. -/
structure Lent (w : World) (g : Nat) (bs : List Nat) : Prop where
  lt : g < w.heap.size
  row : RowAt w g 0 (bs.length + 3) (lentN bs.length fun i => bs.getD i 0)
theorem Lent.below {w w' : World} {g : Nat} {bs : List Nat} (h : Lent w g bs) (hb : Below w.heap.size w w') : Lent w' g bs := ⟨Nat.lt_of_lt_of_le h.lt hb.size, h.row.below hb h.lt⟩
theorem Lent.only {w w' : World} {g : Nat} {bs : List Nat} {S : Nat → Prop} (h : Lent w g bs) (ho : Only S w w') (hS : ¬ S g) : Lent w' g bs :=
  ⟨Nat.lt_of_lt_of_le h.lt ho.size, fun i hi => (World.cell?_of_block (ho.block g h.lt hS)).trans (h.row i hi)⟩
theorem Lent.bl {w : World} {g : Nat} {bs : List Nat} (h : Lent w g bs) : BL w (some ⟨g, 0, none⟩) bs := Or.inr ⟨g, 0, rfl, fun i hi => by
  have := h.row i (by omega)
  unfold lentN at this
  rw [if_pos hi] at this; exact this⟩
theorem lentB_any (po : Option Addr) (c : Nat) (bs : List Nat) (w : World) (hn : bs.length ≤ 70000) (h : BL w po bs) :
    Calls Tryz.prog 6 #[.slice po bs.length c] w fun e w' => e = .returned (.slice (some ⟨w.heap.size, 0, none⟩) bs.length (bs.length + 3)) ∧ Lent w' w.heap.size bs ∧ Below w.heap.size w w' :=
  (lent_any po bs.length c _ w hn h.strAt).mono fun e w' ⟨h1, h2⟩ => ⟨h1, ⟨by rw [h2.size]; omega, h2.row⟩, h2.below⟩
theorem keptB_any (g : Nat) (po : Option Addr) (c : Nat) (bs : List Nat) (w : World) (hn : bs.length ≤ 70000) (hl : Lent w g bs) (h : BL w po bs) :
    Calls Tryz.prog 18 #[.slice (some ⟨g, 0, none⟩) bs.length (bs.length + 3), .slice po bs.length c] w fun e w' => e = .returned (.bool true) ∧ Below w.heap.size w w' :=
  kept_any g bs.length c po _ w hn hl.lt hl.row h.strAt
/-- c cells of a block, each a byte, that may be written. -/
structure CellsU (w : World) (g c : Nat) : Prop where
  c : ∀ i, i < c → ∃ z : Nat, z < 256 ∧ w.cell? ⟨g, i, none⟩ = some (.int .u8 (z : Int))
  f : ∀ i, w.frozen? ⟨g, i, none⟩ = false
theorem CellsU.set {w : World} {g c : Nat} (h : CellsU w g c) (k z : Nat) (hz : z < 256) : CellsU (w.setCell ⟨g, k, none⟩ (.int .u8 (z : Int))) g c :=
  ⟨fun i hi => by
    obtain ⟨x, hx, hc⟩ := h.c i hi
    by_cases e : i = k
    · subst e; exact ⟨z, hz, World.cell?_setCell_same _ _ _ hc⟩
    · exact ⟨x, hx, by rw [World.cell?_setCell_other _ _ _ _ (by intro h2; cases h2; exact e rfl)]; exact hc⟩, fun i => by rw [World.frozen?_setCell]; exact h.f i⟩
theorem run_cap8 (g n c : Nat) (w : World) : (Instr.slice 25 (.slice (some ⟨g, 0, none⟩) n c) none (some (.int .i64 (c : Int))) none).run Tryz.prog w = .ok (.slice (some ⟨g, 0, none⟩) c c) w := by
  rw [run_slice_h (P := Tryz.prog) w 25 _ n c underE8 .i64 (c : Int) (by omega) (by omega), elem8]
  by_cases h0 : c = 0
  · simp [Result.andThen, sliced, h0]
  · simp [Result.andThen, sliced, h0, Addr.add]
theorem xor_lt {a b : Nat} (ha : a < 256) (hb : b < 256) : a ^^^ b < 256 := Nat.xor_lt_two_pow (n := 8) ha hb

#print axioms keptB_any
end Go.Proofs.YtcbmimjjpkkoeaaGreatDoor

/- The walk of RecordNumbers. (Written by tools/gen_Vj.py.) -/
namespace Go.Proofs.YtcbmimjjpkkoeaaGreatDoor
open Go Go.RowKit

theorem SL.nil (w : World) : SL w (.slice none 0 0) [] := ⟨none, 0, rfl, Or.inl rfl, Nat.le_refl _⟩
theorem OutB.blk {B : Nat} {w : World} {v : Value} {bs : List Nat} (h : OutB B w v bs) : ∀ b, v.ownBlock = some b → B ≤ b ∧ b < w.heap.size := fun b hb => by
  rcases h with ⟨rfl, _⟩ | ⟨g, rfl, h1, h2, _⟩
  · cases hb
  · cases hb; exact ⟨h1, h2⟩
theorem OutB.only {B : Nat} {w w' : World} {v : Value} {bs : List Nat} {S : Nat → Prop} (h : OutB B w v bs) (ho : Only S w w') (hS : ∀ b, v.ownBlock = some b → ¬ S b) : OutB B w' v bs := by
  rcases h with h | ⟨g, h1, h2, h3, h4, h5⟩
  · exact Or.inl h
  · have e := ho.block g h3 (hS g (by rw [h1]; rfl))
    exact Or.inr ⟨g, h1, h2, by have := ho.size; omega, fun i hi => (World.cell?_of_block e).trans (h4 i hi), fun i => by have := h5 i; unfold World.frozen? at this ⊢; rw [e]; exact this⟩
theorem rdT_less {bs : List Nat} (h8 : ∀ x ∈ bs, x < 256) {x r : List Nat} (h : rdT bs = some (x, r)) : r.length ≤ bs.length ∧ (∀ z ∈ r, z < 256) ∧ (∀ z ∈ x, z < 256) := by
  obtain ⟨e, hn⟩ := rdT_some h8 h
  rw [e] at h8 ⊢
  refine ⟨by simp, (sub256 h8).2, fun z hz => (sub256 h8).1 z ?_⟩
  unfold tb; exact List.mem_append_right _ hz
theorem tb_lt (s : ByteArray) : ∀ z ∈ tb (lst s), z < 256 := fun z hz => by
  unfold tb at hz
  rcases List.mem_append.1 hz with h | h
  · exact nb_byte _ z h
  · exact lst_lt s z h
theorem sameB_true {w : World} {u v : Value} {x : List Nat} (hu : SL w u x) (hv : SL w v x) (hx : ∀ z ∈ x, z < 256) : Calls Tryz.prog 12 #[u, v] w fun e w' => e = .returned (.bool true) ∧ w' = w :=
  (sameB_any hu hv hx hx).mono fun e w' ⟨h1, h2⟩ => ⟨by rw [h1]; simp, h2⟩
theorem nil_lt : ∀ z ∈ ([] : List Nat), z < 256 := by simp
end Go.Proofs.YtcbmimjjpkkoeaaGreatDoor

/- Which texts may be IDs, tags, data names, by the program and by the document. (Written by tools/gen_Vk.py.) -/
namespace Go.Proofs.YtcbmimjjpkkoeaaGreatDoor
open Go Go.RowKit

theorem toBytes (s : ByteArray) (w : World) : ∃ c w1, (convert 9 25 (.string s)).run Tryz.prog w = .ok (.slice (some ⟨w.heap.size, 0, none⟩) s.size c) w1 ∧ Below w.heap.size w w1 ∧ BL w1 (some ⟨w.heap.size, 0, none⟩) (lst s) ∧ s.size ≤ c := by
  refine ⟨_, _, Lib.run_convert_string_bytes (P := Tryz.prog) w 9 25 5 s Tryz.underlying9 Tryz.underlying25 Tryz.underlying5, ⟨rfl, rfl, rfl, by rw [Lib.bytesWorld_size]; omega, fun k hk => Lib.bytesWorld_at_old w 5 s k hk⟩, Or.inr ⟨_, 0, rfl, fun i hi => ?_⟩, by have := grownCap_ge w s.size 0 5; omega⟩
  rw [lst_len] at hi
  rw [Nat.zero_add, Lib.bytesWorld_cell w 5 s i hi]
  have h2 : i < s.data.toList.length := by rw [Array.length_toList]; exact hi
  unfold lst u8
  rw [List.getD_eq_getElem?_getD, List.getD_eq_getElem?_getD, List.getElem?_map, List.getElem?_eq_getElem h2]
  rfl
theorem getD_all {l : List Nat} {f : Nat → Bool} : l.all f = true ↔ ∀ i, i < l.length → f (l.getD i 0) = true := by
  rw [List.all_eq_true]
  constructor
  · intro h i hi
    rw [List.getD_eq_getElem?_getD, List.getElem?_eq_getElem hi]
    exact h _ (List.getElem_mem hi)
  · intro h x hx
    obtain ⟨i, hi, rfl⟩ := List.mem_iff_getElem.1 hx
    have := h i hi
    rwa [List.getD_eq_getElem?_getD, List.getElem?_eq_getElem hi] at this
theorem all_not {l : List Nat} {last : Nat} {dash : Bool} {k : Nat} (hk : k < l.length) (h : isOf last dash (l.getD k 0) = false) : l.all (isOf last dash) = false := by
  cases e : l.all (isOf last dash)
  · rfl
  · have := getD_all.1 e k hk; rw [h] at this; cases this
theorem okOf_not {l : List Nat} {least most last : Nat} {dash : Bool} {k : Nat} (hk : k < l.length) (h : isOf last dash (l.getD k 0) = false) : okOf l least most last dash = false := by
  unfold okOf; rw [all_not hk h]; rfl
theorem lst_getD (s : ByteArray) (i : Nat) : (lst s).getD i 0 < 256 := by
  by_cases hi : i < (lst s).length
  · rw [List.getD_eq_getElem?_getD, List.getElem?_eq_getElem hi]; exact lst_lt s _ (List.getElem_mem hi)
  · rw [List.getD_eq_getElem?_getD, List.getElem?_eq_none (by omega)]; decide
set_option maxRecDepth 100000 in
set_option maxHeartbeats 2000000 in
theorem allOf_any (s : ByteArray) (last : Nat) (dash : Bool) (w : World) (hs : s.size ≤ 1000000) : Calls Tryz.prog 79 #[.string s, .int .u8 (last : Int), .bool dash] w fun e w' => e = .returned (.bool ((lst s).all (isOf last dash))) ∧ Below w.heap.size w w' := by
  obtain ⟨cc, w1, hconv, hb, hbl, _⟩ := toBytes s w
  have HB := hid hb
  have HBL := hid hbl
  have HZ := hid (lst_len s)
  clear hb hbl
  go_enter Tryz.func79, Tryz.ntmps79
  go_wp2
  clear hconv
  go_loopw [14] (fun v wr => ∃ k : Nat, k ≤ s.size ∧ v = .int .i64 (k : Int) ∧ w1 = wr ∧ ∀ i, i < k → isOf last dash ((lst s).getD i 0) = true) (fun v _ => (s.size - intOf v).toNat)
  case atStart => exact ⟨0, by omega, rfl, rfl, fun i hi => by omega⟩
  case round =>
    obtain ⟨k, hk, rfl, hw, hok⟩ := hrel
    have HOK := hid hok
    subst hw
    clear hok
    by_cases hlt0 : k < s.size
    · have hlt : k < (lst s).length := by rw [lst_len]; exact hlt0
      have hlt' : (k : Int) < (s.size : Int) := by omega
      have hcell : w1.cell? ⟨w.heap.size, k, none⟩ = some (.int .u8 (((lst s).getD k 0 : Nat) : Int)) := by
        rcases HBL.out with h | ⟨b, o, e, h⟩
        · rw [h] at hlt; simp at hlt
        · cases e; have := h k hlt; rwa [Nat.zero_add] at this
      have hc8 := lst_getD s k
      generalize hc : (lst s).getD k 0 = c at hcell hc8
      have HC := hid hc
      clear hc
      by_cases hd : 48 ≤ c ∧ c ≤ 57
      · have hok : isOf last dash c = true := by simp [isOf, dgt, hd]
        obtain ⟨hd1, hd2⟩ := hd
        go_wp2
        go_roundw
        case rel => exact ⟨k + 1, by omega, by go_num, by trivial, fun i hi => (by
            by_cases e : i = k
            · rw [e, HC.out]; exact hok
            · exact HOK.out i (by omega))⟩
        case measure => simp [intOf]; omega
      by_cases hl : 97 ≤ c ∧ c ≤ last
      · have hok : isOf last dash c = true := by simp [isOf, hl]
        obtain ⟨hl1, hl2⟩ := hl
        have h5 : ¬ (c : Int) ≤ 57 := by omega
        go_wp2
        go_roundw
        case rel => exact ⟨k + 1, by omega, by go_num, by trivial, fun i hi => (by
            by_cases e : i = k
            · rw [e, HC.out]; exact hok
            · exact HOK.out i (by omega))⟩
        case measure => simp [intOf]; omega
      have h3 : c < 48 ∨ (57 < c ∧ c < 97) ∨ (97 ≤ c ∧ last < c) := by omega
      cases dash with
      | false =>
        have hok : isOf last false c = false := by simp [isOf, dgt]; omega
        rcases h3 with h3 | ⟨h3, h4⟩ | ⟨h3, h4⟩
        · clear hd hl
          go_wp2
          go_ret
          exact ⟨by rw [all_not (last := last) hlt (by rw [HC.out]; exact hok)]; rfl, HB.out⟩
        · have h5 : ¬ (c : Int) ≤ 57 := by omega
          clear hd hl
          go_wp2
          go_ret
          exact ⟨by rw [all_not (last := last) hlt (by rw [HC.out]; exact hok)]; rfl, HB.out⟩
        · have h5 : ¬ (c : Int) ≤ 57 := by omega
          have h6 : ¬ (c : Int) ≤ (last : Int) := by omega
          clear hd hl
          go_wp2
          go_ret
          exact ⟨by rw [all_not (last := last) hlt (by rw [HC.out]; exact hok)]; rfl, HB.out⟩
      | true =>
        by_cases h45 : c = 45
        · have hok : isOf last true c = true := by simp [isOf, h45]
          subst h45
          clear hd hl h3
          go_wp2
          go_roundw
          case rel => exact ⟨k + 1, by omega, by go_num, by trivial, fun i hi => (by
              by_cases e : i = k
              · rw [e, HC.out]; exact hok
              · exact HOK.out i (by omega))⟩
          case measure => simp [intOf]; omega
        · have hok : isOf last true c = false := by simp [isOf, dgt]; omega
          have h45' : ((c : Int) == 45) = false := by simp; omega
          rcases h3 with h3 | ⟨h3, h4⟩ | ⟨h3, h4⟩
          · clear hd hl
            go_wp2
            go_ret
            exact ⟨by rw [all_not (last := last) hlt (by rw [HC.out]; exact hok)]; rfl, HB.out⟩
          · have h5 : ¬ (c : Int) ≤ 57 := by omega
            clear hd hl
            go_wp2
            go_ret
            exact ⟨by rw [all_not (last := last) hlt (by rw [HC.out]; exact hok)]; rfl, HB.out⟩
          · have h5 : ¬ (c : Int) ≤ 57 := by omega
            have h6 : ¬ (c : Int) ≤ (last : Int) := by omega
            clear hd hl
            go_wp2
            go_ret
            exact ⟨by rw [all_not (last := last) hlt (by rw [HC.out]; exact hok)]; rfl, HB.out⟩
    · have hlt' : ¬ (k : Int) < (s.size : Int) := by omega
      have e : Hid ((lst s).all (isOf last dash) = true) := getD_all.2 fun i hi => HOK.out i (by rw [lst_len] at hi; omega)
      go_wp2
      go_ret
      exact ⟨by rw [e.out]; rfl, HB.out⟩
theorem from_any (n a b : Int) (w : World) : Calls Tryz.prog 55 #[i64 n, i64 a, i64 b] w fun e w' => e = .returned (.bool (inR n a b)) ∧ w' = w := by
  by_cases h1 : a ≤ n
  · by_cases h2 : n ≤ b
    · have e : inR n a b = true := inR_iff.2 ⟨h1, h2⟩
      rw [e]
      go_enter Tryz.func55, Tryz.ntmps55
      go_wp2
      go_ret
      simp
    · have e : inR n a b = false := by simp [inR, h2]
      rw [e]
      go_enter Tryz.func55, Tryz.ntmps55
      go_wp2
      go_ret
      simp
  · have e : inR n a b = false := by simp [inR, h1]
    rw [e]
    go_enter Tryz.func55, Tryz.ntmps55
    go_wp2
    go_ret
    simp
theorem idx_lst (s : ByteArray) (i : Nat) (hi : i < s.size) (w : World) : (Instr.index 9 (.string s) (.int .i64 (i : Int))).run Tryz.prog w = .ok (.int .u8 (((lst s).getD i 0 : Nat) : Int)) w := by
  rw [run_index_string w 9 s .i64 (i : Int) under9, dif_pos ⟨by omega, by omega⟩]
  congr 3
  have h2 : i < s.data.toList.length := by rw [Array.length_toList]; exact hi
  unfold lst
  rw [List.getD_eq_getElem?_getD, List.getElem?_map, List.getElem?_eq_getElem h2]
  simp [ByteArray.getElem_eq_getElem_data]
theorem okOf_all {l : List Nat} {least most last : Nat} {dash : Bool} (h : l.all (isOf last dash) = true) : okOf l least most last dash = inR (l.length : Int) (least : Int) (most : Int) := by
  unfold okOf inR; rw [h]
  simp only [Bool.true_and]
  congr 1 <;> simp
set_option maxRecDepth 100000 in
set_option maxHeartbeats 2000000 in
theorem of_any (s : ByteArray) (least most last : Nat) (dash : Bool) (w : World) (hs : s.size ≤ 1000000) : Calls Tryz.prog 87 #[.string s, i64 least, i64 most, .int .u8 (last : Int), .bool dash] w fun e w' => e = .returned (.bool (okOf (lst s) least most last dash)) ∧ w' = w := by
  have HX := hid (idx_lst s)
  have HZ := hid (lst_len s)
  go_enter Tryz.func87, Tryz.ntmps87
  go_wp2
  go_loopw [11] (fun v wr => ∃ k : Nat, k ≤ s.size ∧ v = .int .i64 (k : Int) ∧ w = wr ∧ ∀ i, i < k → isOf last dash ((lst s).getD i 0) = true) (fun v _ => (s.size - intOf v).toNat)
  case atStart => exact ⟨0, by omega, rfl, rfl, fun i hi => by omega⟩
  case round =>
    obtain ⟨k, hk, rfl, hw, hok⟩ := hrel
    have HOK := hid hok
    subst hw
    clear hok
    by_cases hlt0 : k < s.size
    · have hlt : k < (lst s).length := by rw [lst_len]; exact hlt0
      have hlt' : (k : Int) < (s.size : Int) := by omega
      have hx := HX.out k hlt0
      have hc8 := lst_getD s k
      generalize hc : (lst s).getD k 0 = c at hx hc8
      have HC := hid hc
      clear hc
      by_cases hd : 48 ≤ c ∧ c ≤ 57
      · have hok : isOf last dash c = true := by simp [isOf, dgt, hd]
        obtain ⟨hd1, hd2⟩ := hd
        go_wp2
        go_roundw
        case rel => exact ⟨k + 1, by omega, by go_num, by trivial, fun i hi => (by
            by_cases e : i = k
            · rw [e, HC.out]; exact hok
            · exact HOK.out i (by omega))⟩
        case measure => simp [intOf]; omega
      by_cases hl : 97 ≤ c ∧ c ≤ last
      · have hok : isOf last dash c = true := by simp [isOf, hl]
        obtain ⟨hl1, hl2⟩ := hl
        have h5 : ¬ (c : Int) ≤ 57 := by omega
        go_wp2
        go_roundw
        case rel => exact ⟨k + 1, by omega, by go_num, by trivial, fun i hi => (by
            by_cases e : i = k
            · rw [e, HC.out]; exact hok
            · exact HOK.out i (by omega))⟩
        case measure => simp [intOf]; omega
      have h3 : c < 48 ∨ (57 < c ∧ c < 97) ∨ (97 ≤ c ∧ last < c) := by omega
      cases dash with
      | false =>
        have hok : isOf last false c = false := by simp [isOf, dgt]; omega
        rcases h3 with h3 | ⟨h3, h4⟩ | ⟨h3, h4⟩
        · clear hd hl
          go_wp2
          go_ret
          exact ⟨by rw [okOf_not (least := least) (most := most) (last := last) hlt (by rw [HC.out]; exact hok)]; rfl, by trivial⟩
        · have h5 : ¬ (c : Int) ≤ 57 := by omega
          clear hd hl
          go_wp2
          go_ret
          exact ⟨by rw [okOf_not (least := least) (most := most) (last := last) hlt (by rw [HC.out]; exact hok)]; rfl, by trivial⟩
        · have h5 : ¬ (c : Int) ≤ 57 := by omega
          have h6 : ¬ (c : Int) ≤ (last : Int) := by omega
          clear hd hl
          go_wp2
          go_ret
          exact ⟨by rw [okOf_not (least := least) (most := most) (last := last) hlt (by rw [HC.out]; exact hok)]; rfl, by trivial⟩
      | true =>
        by_cases h45 : c = 45
        · have hok : isOf last true c = true := by simp [isOf, h45]
          subst h45
          clear hd hl h3
          go_wp2
          go_roundw
          case rel => exact ⟨k + 1, by omega, by go_num, by trivial, fun i hi => (by
              by_cases e : i = k
              · rw [e, HC.out]; exact hok
              · exact HOK.out i (by omega))⟩
          case measure => simp [intOf]; omega
        · have hok : isOf last true c = false := by simp [isOf, dgt]; omega
          have h45' : ((c : Int) == 45) = false := by simp; omega
          rcases h3 with h3 | ⟨h3, h4⟩ | ⟨h3, h4⟩
          · clear hd hl
            go_wp2
            go_ret
            exact ⟨by rw [okOf_not (least := least) (most := most) (last := last) hlt (by rw [HC.out]; exact hok)]; rfl, by trivial⟩
          · have h5 : ¬ (c : Int) ≤ 57 := by omega
            clear hd hl
            go_wp2
            go_ret
            exact ⟨by rw [okOf_not (least := least) (most := most) (last := last) hlt (by rw [HC.out]; exact hok)]; rfl, by trivial⟩
          · have h5 : ¬ (c : Int) ≤ 57 := by omega
            have h6 : ¬ (c : Int) ≤ (last : Int) := by omega
            clear hd hl
            go_wp2
            go_ret
            exact ⟨by rw [okOf_not (least := least) (most := most) (last := last) hlt (by rw [HC.out]; exact hok)]; rfl, by trivial⟩
    · have hlt' : ¬ (k : Int) < (s.size : Int) := by omega
      have HE := hid (okOf_all (least := least) (most := most) (getD_all.2 fun i hi => HOK.out i (by rw [lst_len] at hi; omega)) : okOf (lst s) least most last dash = _)
      go_wp2_with (go_at_call 55; refine (from_any _ _ _ _).mono ?_; rintro e w' ⟨rfl, hw'⟩; have hw2 := hw'.symm; subst hw2)
      go_ret
      exact ⟨by rw [HE.out, HZ.out]; rfl, by trivial⟩
theorem okOf_in (l : List Nat) (least most last : Nat) (dash : Bool) : okOf l least most last dash = (inR (l.length : Int) (least : Int) (most : Int) && l.all (isOf last dash)) := by
  cases h : l.all (isOf last dash)
  · unfold okOf; rw [h]; simp
  · rw [okOf_all h]; simp
theorem isID_any (s : ByteArray) (w : World) (hs : s.size ≤ 1000000) : Calls Tryz.prog 41 #[.string s] w fun e w' => e = .returned (.bool (okId (lst s))) ∧ Below w.heap.size w w' := by
  have hal := allOf_any s 122 false w hs
  have hle : okId (lst s) = (inR (s.size : Int) 1 32 && (lst s).all (isOf 122 false)) := by unfold okId; rw [okOf_in, lst_len]; rfl
  rw [hle]
  clear hle
  generalize (lst s).all (isOf 122 false) = bb at *
  cases hin : inR (s.size : Int) 1 32
  · go_enter Tryz.func41, Tryz.ntmps41
    go_wp2_with (go_at_call 42; refine (between_any _ _ _ _).mono ?_; rintro e w' ⟨rfl, hw'⟩; rw [hin]; have hw2 := hw'.symm; subst hw2)
    go_ret
    exact ⟨rfl, Below.refl _ _⟩
  · go_enter Tryz.func41, Tryz.ntmps41
    go_wp2_with (first
      | (go_at_call 42; refine (between_any _ _ _ _).mono ?_; rintro e w' ⟨rfl, hw'⟩; rw [hin]; have hw2 := hw'.symm; subst hw2)
      | (go_at_call 79; refine hal.mono ?_; rintro e w1 ⟨rfl, hb⟩))
    go_ret
    exact ⟨by simp, hb⟩
theorem isTag_any (s : ByteArray) (w : World) (hs : s.size ≤ 1000000) : Calls Tryz.prog 80 #[.string s] w fun e w' => e = .returned (.bool (okTag (lst s))) ∧ Below w.heap.size w w' := by
  have hal := allOf_any s 102 true w hs
  have hle : okTag (lst s) = (inR (s.size : Int) 1 40 && (lst s).all (isOf 102 true)) := by unfold okTag; rw [okOf_in, lst_len]; rfl
  rw [hle]
  clear hle
  generalize (lst s).all (isOf 102 true) = bb at *
  cases hin : inR (s.size : Int) 1 40
  · go_enter Tryz.func80, Tryz.ntmps80
    go_wp2_with (go_at_call 42; refine (between_any _ _ _ _).mono ?_; rintro e w' ⟨rfl, hw'⟩; rw [hin]; have hw2 := hw'.symm; subst hw2)
    go_ret
    exact ⟨rfl, Below.refl _ _⟩
  · go_enter Tryz.func80, Tryz.ntmps80
    go_wp2_with (first
      | (go_at_call 42; refine (between_any _ _ _ _).mono ?_; rintro e w' ⟨rfl, hw'⟩; rw [hin]; have hw2 := hw'.symm; subst hw2)
      | (go_at_call 79; refine hal.mono ?_; rintro e w1 ⟨rfl, hb⟩))
    go_ret
    exact ⟨by simp, hb⟩
theorem isDataName_any (s : ByteArray) (w : World) (hs : s.size ≤ 1000000) : Calls Tryz.prog 81 #[.string s] w fun e w' => e = .returned (.bool (okData (lst s))) ∧ Below w.heap.size w w' := by
  have hal := allOf_any s 102 false w hs
  have hle : okData (lst s) = (inR (s.size : Int) 32 32 && (lst s).all (isOf 102 false)) := by unfold okData; rw [okOf_in, lst_len]; rfl
  rw [hle]
  clear hle
  generalize (lst s).all (isOf 102 false) = bb at *
  by_cases hin : (s.size : Int) = 32
  · have hi : inR (s.size : Int) 32 32 = true := inR_iff.2 (by omega)
    rw [hi]
    have hin' : ((s.size : Int) == 32) = true := by simpa using hin
    go_enter Tryz.func81, Tryz.ntmps81
    go_wp2_with (go_at_call 79; refine hal.mono ?_; rintro e w1 ⟨rfl, hb⟩)
    go_ret
    exact ⟨by simp, hb⟩
  · have hi : inR (s.size : Int) 32 32 = false := by simp [inR]; omega
    rw [hi]
    have hin' : ((s.size : Int) == 32) = false := by simpa using hin
    go_enter Tryz.func81, Tryz.ntmps81
    go_wp2_with fail
    go_ret
    exact ⟨rfl, Below.refl _ _⟩
theorem rID_any (s : ByteArray) (w : World) (hs : s.size ≤ 1000000) : Calls Tryz.prog 54 #[.string s] w fun e w' => e = .returned (.bool (okId (lst s))) ∧ w' = w := by
  have hal := of_any s 1 32 122 false w hs
  unfold okId
  generalize okOf (lst s) 1 32 122 false = bb at *
  go_enter Tryz.func54, Tryz.ntmps54
  go_wp2_with (go_at_call 87; refine hal.mono ?_; rintro e w1 ⟨rfl, hw'⟩; have hw2 := hw'.symm; subst hw2)
  go_ret
  exact ⟨rfl, by trivial⟩
theorem rTag_any (s : ByteArray) (w : World) (hs : s.size ≤ 1000000) : Calls Tryz.prog 56 #[.string s] w fun e w' => e = .returned (.bool (okTag (lst s))) ∧ w' = w := by
  have hal := of_any s 1 40 102 true w hs
  unfold okTag
  generalize okOf (lst s) 1 40 102 true = bb at *
  go_enter Tryz.func56, Tryz.ntmps56
  go_wp2_with (go_at_call 87; refine hal.mono ?_; rintro e w1 ⟨rfl, hw'⟩; have hw2 := hw'.symm; subst hw2)
  go_ret
  exact ⟨rfl, by trivial⟩
theorem rData_any (s : ByteArray) (w : World) (hs : s.size ≤ 1000000) : Calls Tryz.prog 57 #[.string s] w fun e w' => e = .returned (.bool (okData (lst s))) ∧ w' = w := by
  have hal := of_any s 32 32 102 false w hs
  unfold okData
  generalize okOf (lst s) 32 32 102 false = bb at *
  go_enter Tryz.func57, Tryz.ntmps57
  go_wp2_with (go_at_call 87; refine hal.mono ?_; rintro e w1 ⟨rfl, hw'⟩; have hw2 := hw'.symm; subst hw2)
  go_ret
  exact ⟨rfl, by trivial⟩
#print axioms isDataName_any
#print axioms rData_any
end Go.Proofs.YtcbmimjjpkkoeaaGreatDoor

/- Records and their parts in memory. Contracts of slices.Equal over parts. -/
namespace Go.Proofs.YtcbmimjjpkkoeaaGreatDoor
open Go Go.RowKit

theorem run_loadVar_at (w : World) (g off : Nat) (ty : TypeId) (cs : Array Value) (d : TypeDesc) (hc : ∀ j v, cs[j]? = some v → w.cell? ⟨g, off + j, none⟩ = some v)
    (hu : Tryz.prog.underlying ty = some d) (hd : (match d with | .struct _ | .array _ _ => true | _ => false) = true) (hi : (Tryz.prog.info? ty).map (·.size) = some cs.size) :
    (loadVar ty ⟨g, off, none⟩).run Tryz.prog w = .ok (.agg cs) w := by
  have hl : (loadCells ⟨g, off, none⟩ cs.toList.length).run Tryz.prog w = .ok cs.toList.toArray w :=
    run_loadCells_list (P := Tryz.prog) w ⟨g, off, none⟩ cs.toList (fun j v hv => by
      rw [add_none]; exact hc j v (by simpa using hv))
  cases hq : Tryz.prog.info? ty with
  | none => simp [hq] at hi
  | some i =>
    have hs : i.size = cs.size := by simpa [hq] using hi
    have hagg : (isAgg ty).run Tryz.prog w = .ok true w := by
      unfold isAgg
      rw [Sem.run_bind, run_underlying hu w]
      cases d <;> simp_all
    simp only [Array.length_toList, Array.toArray_toList] at hl
    simp [loadVar, Sem.run_bind, hagg, sizeOf, typeInfo, hq, hs, hl]
theorem wpList_load_at {ops : Array Oper} {rest : List Oper} {o : Oper} {a : Act} {w : World} {Q : Exit → Act → World → Prop} (ty : TypeId) (x : Operand) (ho : o.op = .load ty x) (hw : Region.wanted o (yielded ops a.tmps) = true)
    (g off : Nat) (hx : a.eval x = .pointer (some ⟨g, off, none⟩)) (cs : Array Value) (d : TypeDesc) (hc : ∀ j v, cs[j]? = some v → w.cell? ⟨g, off + j, none⟩ = some v)
    (hu : Tryz.prog.underlying ty = some d) (hd : (match d with | .struct _ | .array _ _ => true | _ => false) = true) (hi : (Tryz.prog.info? ty).map (·.size) = some cs.size)
    (h : wpList Tryz.prog ops Q rest (a.put o.dst (.agg cs)) w) : wpList Tryz.prog ops Q (o :: rest) a w := by
  refine BigFrame.wpList_want hw fun K hK => ?_
  unfold Oper.wp execOp
  simp only [ho, hx, Instr.loadAt, Instr.sureAddr, Sem.run_bind, Sem.run_pure, Result.andThen_ok, run_loadVar_at w g off ty cs d hc hu hd hi]
  exact hK _ _ h
/-- Parts of a version. -/
abbrev Ps := List (Int × Int)
def PCells (w : World) (b o : Nat) (ps : Ps) : Prop := ∀ i, i < ps.length → w.cell? ⟨b, o + i * 2, none⟩ = some (i64 (ps.getD i (0, 0)).1) ∧ w.cell? ⟨b, o + i * 2 + 1, none⟩ = some (i64 (ps.getD i (0, 0)).2)
def PL (w : World) (v : Value) (ps : Ps) : Prop := ∃ po c, v = .slice po ps.length c ∧ ps.length ≤ c ∧ ps.length ≤ 100000 ∧ (ps = [] ∨ ∃ b o, po = some ⟨b, o, none⟩ ∧ PCells w b o ps)
theorem PL.keep {w w' : World} {v : Value} {ps : Ps} (h : PL w v ps) (hk : ∀ a, w.cell? a ≠ none → w'.cell? a = w.cell? a) : PL w' v ps := by
  obtain ⟨po, c, h1, h2, h3, h⟩ := h
  refine ⟨po, c, h1, h2, h3, ?_⟩
  rcases h with h | ⟨b, o, hp, h⟩
  · exact Or.inl h
  · exact Or.inr ⟨b, o, hp, fun i hi => ⟨(hk _ (by rw [(h i hi).1]; simp)).trans (h i hi).1, (hk _ (by rw [(h i hi).2]; simp)).trans (h i hi).2⟩⟩
theorem PL.below {w w' : World} {v : Value} {ps : Ps} (h : PL w v ps) (hb : Below w.heap.size w w') : PL w' v ps :=
  h.keep fun a ha => World.cell?_of_block (hb.block a.block (cell_lt' ha))
set_option maxRecDepth 100000 in
set_option maxHeartbeats 1000000 in
theorem equal_any (u v : Value) (ps qs : Ps) (w : World) (hu : PL w u ps) (hv : PL w v qs) : Calls Tryz.prog 59 #[u, v] w fun e w' => e = .returned (.bool (decide (ps = qs))) ∧ Below w.heap.size w w' := by
  obtain ⟨p, c, rfl, hc, hl, hp⟩ := hu
  obtain ⟨q, d, rfl, hd, hl2, hq⟩ := hv
  by_cases hlen : ps.length = qs.length
  · have hlen' : (ps.length : Int) = (qs.length : Int) := by omega
    have HP := hid hp
    have HQ := hid hq
    have HE := hid hlen
    rw [← hlen] at hl2 hd ⊢
    clear hp hq hlen'
    go_enter Tryz.func59, Tryz.ntmps59
    go_wp2
    go_loopw [13] (fun v wr => ∃ k : Nat, k ≤ ps.length ∧ v = .int .i64 (k : Int) ∧ Below w.heap.size w wr ∧ ∀ i, i < k → ps.getD i (0, 0) = qs.getD i (0, 0)) (fun v _ => (ps.length - intOf v).toNat)
    case atStart => exact ⟨0, by omega, rfl, Below.refl _ _, fun i hi => by omega⟩
    case round =>
      obtain ⟨k, hk, rfl, hw, hok⟩ := hrel
      have HOK := hid hok
      have HW := hid hw
      clear hok hw
      by_cases hlt : k < ps.length
      · have hlt' : (k : Int) < (ps.length : Int) := by omega
        have hx : ∃ b o, p = some ⟨b, o, none⟩ ∧ wr.cell? ⟨b, o + k * 2, none⟩ = some (i64 (ps.getD k (0, 0)).1) ∧ wr.cell? ⟨b, o + k * 2 + 1, none⟩ = some (i64 (ps.getD k (0, 0)).2) := by
          rcases HP.out with h | ⟨b, o, h, hc⟩
          · rw [h] at hlt; simp at hlt
          · obtain ⟨h1, h2⟩ := hc k hlt
            exact ⟨b, o, h, (World.cell?_of_block (HW.out.block b (cell_lt' (a := ⟨b, o + k * 2, none⟩) (by rw [h1]; simp)))).trans h1, (World.cell?_of_block (HW.out.block b (cell_lt' (a := ⟨b, o + k * 2, none⟩) (by rw [h1]; simp)))).trans h2⟩
        have hy : ∃ b o, q = some ⟨b, o, none⟩ ∧ wr.cell? ⟨b, o + k * 2, none⟩ = some (i64 (qs.getD k (0, 0)).1) ∧ wr.cell? ⟨b, o + k * 2 + 1, none⟩ = some (i64 (qs.getD k (0, 0)).2) := by
          rcases HQ.out with h | ⟨b, o, h, hc⟩
          · have := HE.out; rw [h] at this; simp at this; subst this; simp at hlt
          · obtain ⟨h1, h2⟩ := hc k (by have := HE.out; omega)
            exact ⟨b, o, h, (World.cell?_of_block (HW.out.block b (cell_lt' (a := ⟨b, o + k * 2, none⟩) (by rw [h1]; simp)))).trans h1, (World.cell?_of_block (HW.out.block b (cell_lt' (a := ⟨b, o + k * 2, none⟩) (by rw [h1]; simp)))).trans h2⟩
        obtain ⟨b, o, rfl, x1, x2⟩ := hx
        obtain ⟨b', o', rfl, y1, y2⟩ := hy
        by_cases hX : (ps.getD k (0, 0)).1 = (qs.getD k (0, 0)).1
        · by_cases hY : (ps.getD k (0, 0)).2 = (qs.getD k (0, 0)).2
          · have HXY : Hid (ps.getD k (0, 0) = qs.getD k (0, 0)) := Prod.ext hX hY
            rw [← hX] at y1
            rw [← hY] at y2
            clear hX hY
            generalize (ps.getD k (0, 0)).1 = X1 at *
            generalize (ps.getD k (0, 0)).2 = X2 at *
            go_wp2
            go_region
            go_wp2
            exact ⟨⟨k + 1, by omega, by simp, HW.out.drew, fun i hi => (by
              by_cases e : i = k
              · rw [e]; exact HXY.out
              · exact HOK.out i (by omega))⟩, by simp [intOf]; omega⟩
          · have e : Hid (decide (ps = qs) = false) := decide_eq_false fun e => hY (by rw [e])
            rw [← hX] at y1
            clear hX
            generalize (ps.getD k (0, 0)).1 = X1 at *
            generalize (ps.getD k (0, 0)).2 = X2 at *
            generalize (qs.getD k (0, 0)).2 = Y2 at *
            go_wp2
            go_region
            go_wp2
            go_ret
            exact ⟨by rw [e.out]; rfl, HW.out.drew⟩
        · have e : Hid (decide (ps = qs) = false) := decide_eq_false fun e => hX (by rw [e])
          generalize (ps.getD k (0, 0)).1 = X1 at *
          generalize (ps.getD k (0, 0)).2 = X2 at *
          generalize (qs.getD k (0, 0)).1 = Y1 at *
          generalize (qs.getD k (0, 0)).2 = Y2 at *
          go_wp2
          go_region
          go_wp2
          go_ret
          exact ⟨by rw [e.out]; rfl, HW.out.drew⟩
      · have hlt' : ¬ (k : Int) < (ps.length : Int) := by omega
        have e : Hid (decide (ps = qs) = true) := decide_eq_true (List.ext_getElem HE.out fun i h1 h2 => by
          have := HOK.out i (by omega)
          simpa [List.getD, h1, h2] using this)
        go_wp2
        go_ret
        exact ⟨by rw [e.out]; rfl, HW.out⟩
  · have hlen' : ((ps.length : Int) == (qs.length : Int)) = false := by simp; omega
    have e : decide (ps = qs) = false := decide_eq_false fun e => hlen (by rw [e])
    rw [e]
    go_enter Tryz.func59, Tryz.ntmps59
    go_wp2
    go_ret
    exact ⟨rfl, Below.refl _ _⟩
end Go.Proofs.YtcbmimjjpkkoeaaGreatDoor
