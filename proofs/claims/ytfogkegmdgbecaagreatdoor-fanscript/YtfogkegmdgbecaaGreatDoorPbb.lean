/- Texts laid into one, cut to what is needed: the remark ahead of each part says what is proved there. -/
import Derived.Test.YtfogkegmdgbecaaGreatDoorPba
import Derived.Sort.KeysCollected
/- Bytes in memory; contracts of SameBytes, LentBytes and KeptBytes of the statements' kit. -/
namespace Go.Proofs.YtfogkegmdgbecaaGreatDoor
open Go.RowKit

theorem Tryz.info5 : (Tryz.prog.info? 5).map (fun i => (i.zero, i.size, i.bytes)) = some (some (.int .u8 0), 1, 1) := by kernel_rfl

/-- A row of n bytes lies at block b from o on. -/
def RowAt (w : World) (b o n : Nat) (x : Nat → Nat) : Prop := ∀ i, i < n → w.cell? ⟨b, o + i, none⟩ = some (.int .u8 (x i : Nat))
/-- The world w has one block more than w0 has: n bytes, x, which may be written; what was there is as it was. -/
structure NewRow (w0 w : World) (n : Nat) (x : Nat → Nat) : Prop where
 size : w.heap.size = w0.heap.size + 1
 below : Below w0.heap.size w0 w
 cells : ∀ i, i < n → w.cell? ⟨w0.heap.size, i, none⟩ = some (.int .u8 (x i : Nat))
 free : ∀ i, w.frozen? ⟨w0.heap.size, i, none⟩ = false

theorem madeCells_get (z : Value) (n i : Nat) (h : i < n) : (madeCells #[z] n)[i]? = some z := by
 simp [madeCells, h, Nat.mod_one]
theorem run_make_u8 (n : Nat) (hn : n ≤ 70003) (w : World) :
  (Instr.makeSlice 30 (.int .i64 (n : Int)) (.int .i64 (n : Int))).run Tryz.prog w = .ok (.slice (some ⟨w.heap.size, 0, none⟩) n n) (w.alloc (.cells (madeCells #[.int .u8 0] n) 5)) := by
 obtain ⟨i0, hi, hz0, hz1, hz2⟩ := info_parts Tryz.info5
 have h := run_make (P := Tryz.prog) w 30 5 i0 (.int .u8 0) Tryz.underlying30 hi hz0 .i64 .i64 n n (by omega) (Int.le_refl _) (by rw [hz2]; omega) (by omega)
 rw [hz1] at h
 simpa [Value.cells] using h

theorem NewRow.made (w : World) (n : Nat) : NewRow w (w.alloc (.cells (madeCells #[.int .u8 0] n) 5)) n (fun _ => 0) where
 size := by simp
 below := (Below.refl _ _).alloc (Nat.le_refl _) _
 cells := fun i h => by rw [World.cell?_alloc_new, madeCells_get _ _ _ h]; rfl
 free := fun i => World.frozen?_alloc_new _ _ _ _
theorem NewRow.set {w0 w : World} {n : Nat} {x : Nat → Nat} (h : NewRow w0 w n x) (k : Nat) (v : Nat) (hk : k < n) :
  NewRow w0 (w.setCell ⟨w0.heap.size, k, none⟩ (.int .u8 (v : Nat))) n (fun i => if i = k then v else x i) where
 size := by simp [h.size]
 below := h.below.setCell (Nat.le_refl _) _
 cells := fun i hi => by
  by_cases e : i = k
  ·subst e
   rw [World.cell?_setCell_same _ _ _ (h.cells i hi)]; simp
  ·rw [World.cell?_setCell_other _ _ _ _ (by intro h2; cases h2; exact e rfl), h.cells i hi]; simp [e]
 free := fun i => by rw [World.frozen?_setCell]; exact h.free i
theorem NewRow.congr {w0 w : World} {n : Nat} {x y : Nat → Nat} (h : NewRow w0 w n x) (e : ∀ i, i < n → x i = y i) : NewRow w0 w n y where
 size := h.size
 below := h.below
 cells := fun i hi => by rw [h.cells i hi, e i hi]
 free := h.free

theorem upto_step (f : Nat → Nat) (k i : Nat) : (if i = k then f k else if i < k then f i else 0) = if i < k + 1 then f i else 0 := by
 by_cases e : i = k
 ·subst e; rw [if_pos rfl, if_pos (by omega)]
 ·rw [if_neg e]
  by_cases h : i < k
  ·rw [if_pos h, if_pos (by omega)]
  ·rw [if_neg h, if_neg (by omega)]

end Go.Proofs.YtfogkegmdgbecaaGreatDoor

/- Contract of SameBytes of the statements' kit: of two slices that read alike it returns true, and leaves the world as it was. -/
namespace Go.Proofs.YtfogkegmdgbecaaGreatDoor
open Go.RowKit

/-- The slice's value leads to n bytes x; one of no byte may lead anywhere. -/
def StrAt (w : World) (p : Option Addr) (n : Nat) (x : Nat → Nat) : Prop := n = 0 ∨ ∃ b o, p = some ⟨b, o, none⟩ ∧ RowAt w b o n x
def strN (n : Nat) (x : Nat → Nat) : ByteArray := strOfNums ((List.range n).map fun i => (x i : Int))
theorem conv_str (w : World) (p : Option Addr) (n c : Nat) (x : Nat → Nat) (h : StrAt w p n x) :
  (convert 30 9 (.slice p n c)).run Tryz.prog w = .ok (.string (strN n x)) w := by
 rcases h with rfl | ⟨b, o, rfl, h⟩
 ·rw [run_convert_bytes_string w 30 9 5 _ 0 c Tryz.underlying30 Tryz.underlying5 Tryz.underlying9]
  cases p <;> simp [Conv.bytesToString, loadCells, strN]
  all_goals rfl
 ·exact run_convert_bytes_arg w 30 5 Tryz.underlying30 Tryz.underlying5 b o n c _ (by simp) (fun i hi => by rw [h i hi]; simp [List.getD, hi]) 9 Tryz.underlying9

set_option maxHeartbeats 400000 in
theorem same_true (p q : Option Addr) (n c d : Nat) (x : Nat → Nat) (w : World) (hp : StrAt w p n x) (hq : StrAt w q n x) :
  Calls Tryz.prog 52 #[.slice p n c, .slice q n d] w fun e w' => e = .returned (.bool true) ∧ w' = w := by
 have h1 := conv_str w p n c x hp
 have h2 := conv_str w q n d x hq
 go_enter Tryz.func52, Tryz.ntmps52
 go_wp2
 go_ret
 exact ⟨rfl, rfl⟩
end Go.Proofs.YtfogkegmdgbecaaGreatDoor

/- Contract of LentBytes of the statements' kit: a copy of the bytes lies in a new block, with three marked bytes of spare room behind it; what was there is as it was. -/
namespace Go.Proofs.YtfogkegmdgbecaaGreatDoor
open Go.RowKit

theorem size_setCells (b : Nat) : ∀ (vs : List Value) (o : Nat) (w : World), (w.setCells b o vs).heap.size = w.heap.size
 | [], _, _ => rfl
 | v :: r, o, w => by rw [World.setCells, size_setCells b r, World.size_setCell]
theorem below_setCells (b B : Nat) (hB : B ≤ b) : ∀ (vs : List Value) (o : Nat) (w0 w : World), Below B w0 w → Below B w0 (w.setCells b o vs)
 | [], _, _, _, h => h
 | v :: r, o, w0, w, h => by rw [World.setCells]; exact below_setCells b B hB r (o + 1) w0 _ (h.setCell hB _)

/-- n bytes as values. -/
def valN (n : Nat) (x : Nat → Nat) : List Value := (List.range n).map fun i => .int .u8 (x i : Nat)
theorem valN_len (n : Nat) (x : Nat → Nat) : (valN n x).length = n := by simp [valN]
theorem valN_get (n : Nat) (x : Nat → Nat) (i : Nat) (h : i < n) : (valN n x)[i]? = some (.int .u8 (x i : Nat)) := by simp [valN, h]

theorem NewRow.copied {w0 w : World} {n : Nat} {x : Nat → Nat} (h : NewRow w0 w n x) (m : Nat) (y : Nat → Nat) (hm : m ≤ n) :
  NewRow w0 (w.setCells w0.heap.size 0 (valN m y)) n (fun i => if i < m then y i else x i) where
 size := by rw [size_setCells, h.size]
 below := below_setCells _ _ (Nat.le_refl _) _ _ _ _ h.below
 cells := fun i hi => by
  by_cases e : i < m
  ·have hin := World.cell?_setCells_in w0.heap.size (valN m y) 0 w (fun j hj => by
     rw [valN_len] at hj
     rw [Nat.zero_add, h.cells j (by omega)]; rfl) i (by rw [valN_len]; exact e)
   rw [Nat.zero_add] at hin
   rw [hin, if_pos e]
   have g := valN_get m y i e
   rw [List.getElem?_eq_getElem (by rw [valN_len]; exact e)] at g
   exact g
  ·rw [World.cell?_setCells_out _ _ _ _ _ (fun _ _ => by rw [valN_len]; right; simp; omega), if_neg e, h.cells i hi]
 free := fun i => by rw [World.frozen?_setCells]; exact h.free i

theorem run_copy_u8 (w : World) (b o n c g dl dc : Nat) (x y : Nat → Nat) (w0 : World) (hg : g = w0.heap.size) (h : NewRow w0 w dl y) (hx : RowAt w b o n x) (hn : n ≤ dl) (ty : TypeId) :
  (Builtin.copy_ #[30, 30] ty #[.slice (some ⟨g, 0, none⟩) dl dc, .slice (some ⟨b, o, none⟩) n c]).run Tryz.prog w = .ok (goInt n) (w.setCells g 0 (valN n x)) := by
 subst hg
 have := run_copy_cells (P := Tryz.prog) w 30 30 ty 5 w0.heap.size 0 dl dc ⟨b, o, none⟩ n c (valN n x) Tryz.underlying30 (by kernel_rfl) (by rw [valN_len]; exact (Nat.min_eq_left hn).symm)
  (fun j v hj => by
   have hjn : j < n := by
    rcases Nat.lt_or_ge j n with q | q
    ·exact q
    ·rw [List.getElem?_eq_none (by rw [valN_len]; exact q)] at hj; cases hj
   rw [valN_get n x j hjn] at hj
   cases hj
   have hadd : (⟨b, o, none⟩ : Addr).add j = ⟨b, o + j, none⟩ := by unfold Addr.add; split <;> simp_all
   rw [hadd]; exact hx j hjn)
  (fun j hj => by rw [valN_len] at hj; rw [Nat.zero_add, h.cells j (by omega)]; rfl)
  (fun j _ => by rw [Nat.zero_add]; exact h.free j)
  (fun v hv => by unfold valN at hv; obtain ⟨i, _, rfl⟩ := List.mem_map.1 hv; rfl)
 rw [valN_len] at this
 exact this

/-- What a lent list reads as, its spare room with it. -/
def lentN (n : Nat) (x : Nat → Nat) (i : Nat) : Nat := if i < n then x i else 160 + i % 90

theorem byte_mark (k : Nat) : ((160 + k % 90 : Nat) : Int) = 160 + (k : Int) % 90 := by omega

set_option maxRecDepth 100000 in
set_option maxHeartbeats 1000000 in
theorem lent_core (p : Option Addr) (n c : Nat) (x : Nat → Nat) (w w1 : World) (hn : n ≤ 70000)
  (hcp : ∀ ty, (Builtin.copy_ #[30, 30] ty #[.slice (some ⟨w.heap.size, 0, none⟩) (n + 3) (n + 3), .slice p n c]).run Tryz.prog (w.alloc (.cells (madeCells #[.int .u8 0] (n + 3)) 5)) = .ok (goInt n) w1)
  (hrow : NewRow w w1 (n + 3) (fun i => if i < n then x i else 0)) :
  Calls Tryz.prog 53 #[.slice p n c] w fun e w' => e = .returned (.slice (some ⟨w.heap.size, 0, none⟩) n (n + 3)) ∧ NewRow w w' (n + 3) (lentN n x) := by
 have hmk := run_make_u8 (n + 3) (by omega) w
 rw [show ((n + 3 : Nat) : Int) = (n : Int) + 3 from by omega] at hmk
 have HR := hid hrow
 clear hrow
 go_enter Tryz.func53, Tryz.ntmps53
 go_wp2
 clear hmk hcp
 go_loopw [4] (fun i wr => ∃ k : Nat, n ≤ k ∧ k ≤ n + 3 ∧ i = .int .i64 k ∧ NewRow w wr (n + 3) (fun i => if i < k then lentN n x i else 0)) (fun i _ => (n + 3 - intOf i).toNat)
 case atStart => exact ⟨n, by omega, by omega, rfl, HR.out.congr (fun i _ => by by_cases e : i < n <;> simp [lentN, e])⟩
 case round =>
  obtain ⟨k, hk1, hk2, rfl, hrow⟩ := hrel
  clear HR
  by_cases hlt : k < n + 3
  ·have c3 : wr.cell? ⟨w.heap.size, k, none⟩ = some (.int .u8 0) := by rw [hrow.cells k hlt]; simp
   have c4 := hrow.free k
   have HR := hid (hrow.set k (lentN n x k) hlt)
   have HL : Hid (lentN n x k = 160 + k % 90) := if_neg (by omega)
   clear hrow
   go_wp2
   go_roundw
   case rel =>
    refine ⟨k + 1, by omega, by omega, by go_num, ?_⟩
    rw [HL.out] at HR
    have := HR.out.congr (y := fun i => if i < k + 1 then lentN n x i else 0) (fun i _ => by rw [← HL.out]; exact upto_step _ k i)
    rw [byte_mark] at this
    exact this
   case measure => simp [intOf]; omega
  ·have e : k = n + 3 := by omega
   have E := hid (hrow.congr (y := lentN n x) (fun i hi => by rw [if_pos (by omega)]))
   clear e hrow
   go_wp2
   go_ret
   exact ⟨rfl, E.out⟩

theorem lent_any (p : Option Addr) (n c : Nat) (x : Nat → Nat) (w : World) (hn : n ≤ 70000) (hx : StrAt w p n x) :
  Calls Tryz.prog 53 #[.slice p n c] w fun e w' => e = .returned (.slice (some ⟨w.heap.size, 0, none⟩) n (n + 3)) ∧ NewRow w w' (n + 3) (lentN n x) := by
 have hrow := NewRow.made w (n + 3)
 by_cases h0 : n = 0
 ·subst h0
  refine lent_core p 0 c x w _ hn (fun ty => ?_) (hrow.congr (fun i _ => by simp))
  exact run_copy_none (P := Tryz.prog) _ 30 30 ty 5 _ _ _ _ _ _ Tryz.underlying30 (by kernel_rfl) (by simp)
 ·rcases hx with e | ⟨b, o, rfl, hx⟩
  ·exact absurd e h0
  ·have hb : b < w.heap.size := World.block_lt_of_cell? w _ (hx 0 (by omega))
   have hx1 : RowAt (w.alloc (.cells (madeCells #[.int .u8 0] (n + 3)) 5)) b o n x := fun i hi => by rw [World.cell?_alloc_lt _ _ _ hb]; exact hx i hi
   exact lent_core _ n c x w _ hn (fun ty => run_copy_u8 _ b o n c w.heap.size (n + 3) (n + 3) x (fun _ => 0) w rfl hrow hx1 (by omega) ty) (hrow.copied n x (by omega))
end Go.Proofs.YtfogkegmdgbecaaGreatDoor

/- Contract of KeptBytes of the statements' kit: it returns true of a lent list that reads as it was lent. -/
namespace Go.Proofs.YtfogkegmdgbecaaGreatDoor
open Go.RowKit

theorem RowAt.below {B : Nat} {w w' : World} {b o n : Nat} {x : Nat → Nat} (h : RowAt w b o n x) (hb : Below B w w') (hlt : b < B) : RowAt w' b o n x :=
 fun i hi => (hb.cell (p := ⟨b, o + i, none⟩) hlt).trans (h i hi)
theorem NewRow.row {w0 w : World} {n : Nat} {x : Nat → Nat} (h : NewRow w0 w n x) : RowAt w w0.heap.size 0 n x :=
 fun i hi => by rw [Nat.zero_add]; exact h.cells i hi

set_option maxRecDepth 100000 in
set_option maxHeartbeats 1000000 in
theorem kept_any (g n c : Nat) (p : Option Addr) (x : Nat → Nat) (w : World) (hn : n ≤ 70000) (hg : g < w.heap.size) (hr : RowAt w g 0 (n + 3) (lentN n x)) (hx : StrAt w p n x) :
  Calls Tryz.prog 69 #[.slice (some ⟨g, 0, none⟩) n (n + 3), .slice p n c] w fun e w' => e = .returned (.bool true) ∧ Below w.heap.size w w' := by
 have hrd : RowAt w.drew g 0 (n + 3) (lentN n x) := hr
 have h3 : (0 : Int) ≤ (n : Int) + 3 := by omega
 have hw3 : IntKind.i64.wrap ((n : Int) + 3) = (n : Int) + 3 := by rw [IntKind.wrap_i64]; omega
 go_enter Tryz.func69, Tryz.ntmps69
 go_wp2_with fail
 go_region_held3 (fun w' => True) (trivial) (first | (go_at_call 53; refine (lent_any p n c x _ hn (by exact hx)).mono ?_; rintro e w1 ⟨rfl, hnew⟩) | (go_at_call 52; refine (same_true _ _ (n + 3) _ _ (lentN n x) _ (.inr ⟨_, _, rfl, by exact hrd.below hnew.below hg⟩) (.inr ⟨_, _, rfl, by exact hnew.row⟩)).mono ?_; rintro e w2 ⟨rfl, rfl⟩))
 go_wp2
 go_ret
 exact ⟨rfl, (Below.refl _ _).drew.trans hnew.below⟩
end Go.Proofs.YtfogkegmdgbecaaGreatDoor

/- Rows all of whose cells are known to be bytes, or short texts. -/
namespace Go.Proofs.YtfogkegmdgbecaaGreatDoor
open Go Go.RowKit
open Go.Proofs (encStr)
open Go.Sort

/-- All cells of the row that a slice leads to, its spare room too, are such. -/
def AllQ (Q : Value → Prop) (e : TypeId) (w : World) (v : Value) : Prop := ∀ g, v.ownBlock = some g → ∀ cur, w.heap[g]? = some (.cells cur e (0, 0)) → ∀ u ∈ cur.toList, Q u
theorem AllQ.nil (Q : Value → Prop) (e : TypeId) (w : World) (n c : Nat) : AllQ Q e w (.slice none n c) := fun g h => by cases h
theorem AllQ.keep {Q : Value → Prop} {e : TypeId} {w w' : World} {v : Value} (h : AllQ Q e w v) (hk : ∀ b, v.ownBlock = some b → w'.heap[b]? = w.heap[b]?) : AllQ Q e w' v := fun g hg cur hc => h g hg cur (by rw [← hk g hg]; exact hc)
def QS (u : Value) : Prop := ∃ s : Nm, u = sv s ∧ s.length ≤ 512
def Q8 (u : Value) : Prop := ∃ k : Nat, u = u8 k ∧ k < 256
structure TxtS (B : Nat) (w : World) (v : Value) (ns : List Nm) : Prop where
 t : TxtL B w v ns
 q : AllQ QS 9 w v
 s : ∀ x ∈ ns, x.length ≤ 512
theorem TxtS.nil (B : Nat) (w : World) : TxtS B w (.slice none 0 0) [] := ⟨World.ownsRow_nil _ _ _ _, AllQ.nil _ _ _ _ _, by simp⟩
theorem TxtS.keep {B : Nat} {w w' : World} {v : Value} {ns : List Nm} (h : TxtS B w v ns) (hk : ∀ b, v.ownBlock = some b → w'.heap[b]? = w.heap[b]?) : TxtS B w' v ns := ⟨h.t.keep hk, h.q.keep hk, h.s⟩
theorem TxtS.below {B : Nat} {w w' : World} {v : Value} {ns : List Nm} (h : TxtS B w v ns) (hb : Below w.heap.size w w') : TxtS B w' v ns := h.keep fun b hb' => hb.block b (own_ge h.t b hb').2
end Go.Proofs.YtfogkegmdgbecaaGreatDoor

/- Contracts of bytes.Clone and Read with what the spare room holds; of OverBytes and OverTexts. (Read is written by tools/gen_Kq.py.) -/
namespace Go.Proofs.YtfogkegmdgbecaaGreatDoor
open Go Go.RowKit

section
variable {w : World} {S : Nat → Prop} {p m : Nat} {fu : Option Nat} {d : Pd} {L : List (Nm × Ent)}
end
theorem elem8 (w : World) : (sizeOf (Tryz.prog.elem 30)).run Tryz.prog w = .ok 1 w := by
 have hi : (Tryz.prog.info? (Tryz.prog.elem 30)).map (·.size) = some 1 := by kernel_rfl
 obtain ⟨i, h1, h2⟩ := Option.map_eq_some_iff.1 hi
 simp [sizeOf, typeInfo, h1, h2]
theorem underE8 : Tryz.prog.underlying 30 = some (.slice (Tryz.prog.elem 30)) := by kernel_rfl
theorem run_cap8 (g n c : Nat) (w : World) : (Instr.slice 30 (.slice (some ⟨g, 0, none⟩) n c) none (some (.int .i64 (c : Int))) none).run Tryz.prog w = .ok (.slice (some ⟨g, 0, none⟩) c c) w := by
 rw [run_slice_h (P := Tryz.prog) w 30 _ n c underE8 .i64 (c : Int) (by omega) (by omega), elem8]
 by_cases h0 : c = 0
 ·simp [Result.andThen, sliced, h0]
 ·simp [Result.andThen, sliced, h0, Addr.add]
/-- c cells of a block, each of which is such, and may be written. -/
structure CellsQ (Q : Value → Prop) (w : World) (g c : Nat) : Prop where
 c : ∀ i, i < c → ∃ u, Q u ∧ w.cell? ⟨g, i, none⟩ = some u
 f : ∀ i, w.frozen? ⟨g, i, none⟩ = false
theorem CellsQ.set {Q : Value → Prop} {w : World} {g c : Nat} (h : CellsQ Q w g c) (k : Nat) (u : Value) (hu : Q u) : CellsQ Q (w.setCell ⟨g, k, none⟩ u) g c :=
 ⟨fun i hi => by
  obtain ⟨x, hx, hc⟩ := h.c i hi
  by_cases e : i = k
  ·subst e; exact ⟨u, hu, World.cell?_setCell_same _ _ _ hc⟩
  ·exact ⟨x, hx, by rw [World.cell?_setCell_other _ _ _ _ (by intro h2; cases h2; exact e rfl)]; exact hc⟩, fun i => by rw [World.frozen?_setCell]; exact h.f i⟩
set_option maxRecDepth 100000 in
set_option maxHeartbeats 1000000 in
theorem over2_any (g n c : Nat) (w : World) (hn : c ≤ maxLen) (h : CellsQ Q8 w g c) :
  Calls Tryz.prog 70 #[.slice (some ⟨g, 0, none⟩) n c] w fun e w' => e = .returned (.tuple #[]) ∧ Only (fun b => b = g) w w' := by
 have hs := run_cap8 g n c
 have H := hid h
 have hn' : c ≤ 9223372036854775807 := hn
 clear h hn
 go_enter Tryz.func70, Tryz.ntmps70
 go_wp2
 clear hs
 go_loopw [3] (fun i wr => ∃ k : Nat, k ≤ c ∧ i = .int .i64 k ∧ Only (fun b => b = g) w wr ∧ CellsQ Q8 wr g c) (fun i _ => (c - intOf i).toNat)
 case atStart => exact ⟨0, by omega, rfl, Only.refl _ _, H.out⟩
 case round =>
  clear H
  obtain ⟨k, hk, rfl, ho, hr⟩ := hrel
  by_cases hlt : k < c
  ·have hlt' : (k : Int) < (c : Int) := by omega
   obtain ⟨u, ⟨z, rfl, hz⟩, hcz⟩ := hr.c k hlt
   have hfz := hr.f k
   have hx : bits BinOp.xor IntKind.u8 (z : Int) 90 = ((z ^^^ 90 : Nat) : Int) := u8_xor_nat z 90 hz (by decide)
   have HO := hid (ho.trans (Only.set (S := fun b => b = g) wr ⟨g, k, none⟩ (.int .u8 ((z ^^^ 90 : Nat) : Int)) rfl))
   have HR := hid (hr.set k (.int .u8 ((z ^^^ 90 : Nat) : Int)) ⟨z ^^^ 90, rfl, xor_lt hz (by decide)⟩)
   have hcz' : wr.cell? ⟨g, k, none⟩ = some (.int .u8 (z : Int)) := hcz
   clear hcz
   clear hr ho
   generalize z ^^^ 90 = y at *
   go_wp2
   go_roundw
   case rel => exact ⟨k + 1, by omega, by go_num, HO.out, HR.out⟩
   case measure => simp [intOf]; omega
  ·have hlt' : ¬ (k : Int) < (c : Int) := by omega
   have HO := hid ho
   clear hr ho
   go_wp2
   go_end0
   exact ⟨rfl, HO.out⟩
end Go.Proofs.YtfogkegmdgbecaaGreatDoor

/- Two drives beside one another, of either kind, with fuses of their own or one together. -/
namespace Go.Proofs.YtfogkegmdgbecaaGreatDoor
open Go Go.RowKit

abbrev DrP := World → (Nat → Prop) → Nat → Option Nat → Pd → Prop
structure DOk (DA : DrP) : Prop where
 keep : ∀ {w w' : World} {S : Nat → Prop} {p : Nat} {fu : Option Nat} {d : Pd}, DA w S p fu d → w.heap.size ≤ w'.heap.size → (∀ b, S b → w'.heap[b]? = w.heap[b]?) → DA w' S p fu d
 lt : ∀ {w : World} {S : Nat → Prop} {p : Nat} {fu : Option Nat} {d : Pd}, DA w S p fu d → ∀ b, S b → b < w.heap.size
 sp : ∀ {w : World} {S : Nat → Prop} {p : Nat} {fu : Option Nat} {d : Pd}, DA w S p fu d → S p
theorem dok_p : DOk DrAt := ⟨fun h hs hk => h.keep hs hk, fun ⟨_, _, h⟩ => h.lt, fun ⟨_, _, h⟩ => h.sp⟩
theorem dok_r : DOk RfAt := ⟨fun ⟨v, L, h⟩ hs hk => ⟨v, L, h.keep hs hk⟩, fun ⟨_, _, h⟩ => h.lt, fun ⟨_, _, h⟩ => h.sp⟩
def FuG (tf : TypeId) (w : World) (S : Nat → Prop) : Option Nat → Fs → Prop
 | none, none => True
 | some q, some (n, g) => CAt w q #[.int .i64 (n : Int), .bool g] tf ∧ ¬ S q ∧ n ≤ 9223372036854775807
 | _, _ => False
theorem fug_p {w : World} {S : Nat → Prop} : ∀ {fu : Option Nat} {f : Fs}, FuG 136 w S fu f ↔ FuAt w S fu f
 | none, none => Iff.rfl
 | none, some _ => Iff.rfl
 | some _, none => Iff.rfl
 | some _, some (_, _) => Iff.rfl
def foot (a b : Dl) (Sa Sb : Nat → Prop) (c : Nat) : Prop := Sa c ∨ Sb c ∨ a.fu = some c ∨ b.fu = some c
structure G2 (DA : DrP) (tf : TypeId) (w wr : World) (a b : Dl) (Sa Sb : Nat → Prop) (Z : Nat → Nat × Bool) : Prop where
 da : DA wr Sa a.p a.fu a.d
 db : DA wr Sb b.p b.fu b.d
 fa : ∀ z, a.fu = some z → CAt wr z #[.int .i64 ((Z z).1 : Int), .bool (Z z).2] tf ∧ (Z z).1 ≤ 9223372036854775807 ∧ w.heap.size ≤ z ∧ ¬ Sa z ∧ ¬ Sb z
 fb : ∀ z, b.fu = some z → CAt wr z #[.int .i64 ((Z z).1 : Int), .bool (Z z).2] tf ∧ (Z z).1 ≤ 9223372036854775807 ∧ w.heap.size ≤ z ∧ ¬ Sa z ∧ ¬ Sb z
 dj : ∀ c, Sa c → ¬ Sb c
 ga : ∀ c, Sa c → w.heap.size ≤ c
 gb : ∀ c, Sb c → w.heap.size ≤ c
section
variable {DA : DrP} {tf : TypeId} {w wr w' : World} {a b : Dl} {Sa Sb : Nat → Prop} {Z : Nat → Nat × Bool}
theorem G2.swap (h : G2 DA tf w wr a b Sa Sb Z) : G2 DA tf w wr b a Sb Sa Z :=
 ⟨h.db, h.da, fun z e => by obtain ⟨h1, h2, h3, h4, h5⟩ := h.fb z e; exact ⟨h1, h2, h3, h5, h4⟩, fun z e => by obtain ⟨h1, h2, h3, h4, h5⟩ := h.fa z e; exact ⟨h1, h2, h3, h5, h4⟩, fun c h1 h2 => h.dj c h2 h1, h.gb, h.ga⟩
theorem foot_swap {c : Nat} (h : foot b a Sb Sa c) : foot a b Sa Sb c := by
 rcases h with h | h | h | h
 ·exact Or.inr (Or.inl h)
 ·exact Or.inl h
 ·exact Or.inr (Or.inr (Or.inr h))
 ·exact Or.inr (Or.inr (Or.inl h))
theorem G2.flt (h : G2 DA tf w wr a b Sa Sb Z) (hD : DOk DA) {c : Nat} (hc : foot a b Sa Sb c) : c < wr.heap.size := by
 rcases hc with hc | hc | hc | hc
 ·exact hD.lt h.da c hc
 ·exact hD.lt h.db c hc
 ·exact (h.fa c hc).1.lt
 ·exact (h.fb c hc).1.lt
theorem G2.fu (h : G2 DA tf w wr a b Sa Sb Z) : FuG tf wr Sa a.fu (a.fu.map Z) := by
 cases hq : a.fu with
 | none => exact trivial
 | some q => obtain ⟨h1, h2, _, h4, _⟩ := h.fa q hq; exact ⟨h1, h4, h2⟩
/-- What turns elsewhere turns nothing here. -/
theorem G2.frame (h : G2 DA tf w wr a b Sa Sb Z) (hD : DOk DA) {T : Nat → Prop} (ho : Only T wr w') (hT : ∀ c, T c → ¬ foot a b Sa Sb c) : G2 DA tf w w' a b Sa Sb Z := by
 have hk : ∀ c, foot a b Sa Sb c → w'.heap[c]? = wr.heap[c]? := fun c hc => ho.block c (h.flt hD hc) fun ht => hT c ht hc
 refine ⟨hD.keep h.da ho.size fun c hc => hk c (Or.inl hc), hD.keep h.db ho.size fun c hc => hk c (Or.inr (Or.inl hc)), fun z e => ?_, fun z e => ?_, h.dj, h.ga, h.gb⟩
 ·obtain ⟨h1, h2⟩ := h.fa z e; exact ⟨h1.keep (hk z (Or.inr (Or.inr (Or.inl e)))), h2⟩
 ·obtain ⟨h1, h2⟩ := h.fb z e; exact ⟨h1.keep (hk z (Or.inr (Or.inr (Or.inr e)))), h2⟩
/-- A call of the first drive that may turn its own blocks and its fuse. -/
theorem G2.turn (h : G2 DA tf w wr a b Sa Sb Z) (hD : DOk DA) (hbe : w.heap.size ≤ wr.heap.size) {S2 : Nat → Prop} {p2 : Nat} {fu2 : Option Nat} {d2 : Pd} {f2 : Fs} (hg : ∀ c, S2 c → Sa c ∨ wr.heap.size ≤ c) (hd : DA w' S2 p2 fu2 d2) (hfu : fu2 = a.fu ∨ fu2 = none)
  (hf : FuG tf w' S2 a.fu f2) (ho : Only (fun c => Sa c ∨ a.fu = some c) wr w') : G2 DA tf w w' ⟨p2, fu2, d2⟩ b S2 Sb (setZ Z a.fu f2) := by
 have hcase : ∀ z, a.fu = some z ∨ b.fu = some z → CAt w' z #[.int .i64 ((setZ Z a.fu f2 z).1 : Int), .bool (setZ Z a.fu f2 z).2] tf ∧ (setZ Z a.fu f2 z).1 ≤ 9223372036854775807 ∧ w.heap.size ≤ z ∧ ¬ S2 z ∧ ¬ Sb z := fun z e => by
  have hz := e.elim (h.fa z) (h.fb z)
  obtain ⟨h1, h2, h3, h4, h5⟩ := hz
  have hns : ¬ S2 z := fun hs => (hg z hs).elim h4 (fun hle => by have := h1.lt; omega)
  by_cases eq : a.fu = some z
  ·have hz : setZ Z a.fu f2 z = f2.getD (0, false) := by unfold setZ; rw [if_pos eq]
   rw [hz]
   rw [eq] at hf
   match f2, hf with
   | some (n, g), hf => exact ⟨hf.1, hf.2.2, h3, hns, h5⟩
  ·have hz : setZ Z a.fu f2 z = Z z := by unfold setZ; rw [if_neg eq]
   rw [hz]
   exact ⟨h1.keep (ho.block z h1.lt fun e2 => e2.elim h4 eq), h2, h3, hns, h5⟩
 refine ⟨hd, hD.keep h.db ho.size fun c hc => ho.block c (hD.lt h.db c hc) fun e => ?_, fun z e => ?_, fun z e => hcase z (Or.inr e), fun c h1 h2 => ?_, fun c hc => ?_, h.gb⟩
 ·rcases e with e | e
  ·exact h.dj c e hc
  ·exact (h.fa c e).2.2.2.2 hc
 ·rcases hfu with hfu | hfu
  ·exact hcase z (Or.inl (by rw [← hfu]; exact e))
  ·simp only at e; rw [hfu] at e; cases e
 ·rcases hg c h1 with h3 | h3
  ·exact h.dj c h3 h2
  ·have := hD.lt h.db c h2; omega
 ·rcases hg c hc with h3 | h3
  ·exact h.ga c h3
  ·omega
def litZ (Z : Nat → Nat × Bool) (z n : Nat) : Nat → Nat × Bool := fun x => if x = z then (n, false) else Z x
theorem G2.lit2 (h : G2 DA tf w wr a b Sa Sb Z) (hD : DOk DA) (hbe : w.heap.size ≤ wr.heap.size) {n z : Nat} {d1 d2 : Pd} (hn : n ≤ 9223372036854775807) (hz : wr.heap.size ≤ z) (h1 : DA w' Sa a.p (some z) d1) (h2 : DA w' Sb b.p (some z) d2) (hc : CAt w' z #[.int .i64 (n : Int), .bool false] tf) :
  G2 DA tf w w' ⟨a.p, some z, d1⟩ ⟨b.p, some z, d2⟩ Sa Sb (litZ Z z n) := by
 have hnew : ∀ z2, some z = some z2 → CAt w' z2 #[.int .i64 ((litZ Z z n z2).1 : Int), .bool (litZ Z z n z2).2] tf ∧ (litZ Z z n z2).1 ≤ 9223372036854775807 ∧ w.heap.size ≤ z2 ∧ ¬ Sa z2 ∧ ¬ Sb z2 := fun z2 e => by
  cases e
  unfold litZ
  rw [if_pos rfl]
  exact ⟨hc, hn, Nat.le_trans hbe hz, fun hs => by have := hD.lt h.da z hs; omega, fun hs => by have := hD.lt h.db z hs; omega⟩
 exact ⟨h1, h2, fun z2 e => hnew z2 e, fun z2 e => hnew z2 e, h.dj, h.ga, h.gb⟩
end
/-- Two drives, and two of the document's; all their blocks are in T. -/
def JB0 (w wr : World) (a b a' b' : Dl) (Z ZR : Nat → Nat × Bool) (T Sa Sb Ra Rb : Nat → Prop) : Prop :=
 G2 DrAt 136 w wr a b Sa Sb Z ∧ G2 RfAt 138 w wr a' b' Ra Rb ZR ∧ (∀ c, foot a b Sa Sb c → ¬ foot a' b' Ra Rb c) ∧ (∀ c, foot a b Sa Sb c ∨ foot a' b' Ra Rb c → T c) ∧ (∀ c, T c → c < wr.heap.size) ∧ (∀ c, T c → w.heap.size ≤ c) ∧ Below w.heap.size w wr
def JB (w wr : World) (a b a' b' : Dl) (Z ZR : Nat → Nat × Bool) (T : Nat → Prop) : Prop := ∃ Sa Sb Ra Rb, JB0 w wr a b a' b' Z ZR T Sa Sb Ra Rb
section
variable {w wr w' : World} {a b a' b' : Dl} {Z ZR : Nat → Nat × Bool} {T Sa Sb Ra Rb : Nat → Prop}
theorem JB.be (h : JB w wr a b a' b' Z ZR T) : Below w.heap.size w wr := by obtain ⟨_, _, _, _, _, _, _, _, _, _, h⟩ := h; exact h
theorem JB.tl (h : JB w wr a b a' b' Z ZR T) : ∀ c, T c → c < wr.heap.size := by obtain ⟨_, _, _, _, _, _, _, _, h, _⟩ := h; exact h
theorem JB.swap (h : JB w wr a b a' b' Z ZR T) : JB w wr b a b' a' Z ZR T := by
 obtain ⟨Sa, Sb, Ra, Rb, h1, h2, h3, h4, h5⟩ := h
 exact ⟨Sb, Sa, Rb, Ra, h1.swap, h2.swap, fun c k1 k2 => h3 c (foot_swap k1) (foot_swap k2), fun c k => h4 c (k.imp foot_swap foot_swap), h5⟩
/-- What turns outside T turns nothing here. -/
theorem JB.frame (h : JB w wr a b a' b' Z ZR T) {P : Nat → Prop} (ho : Only P wr w') (hP : ∀ c, P c → ¬ T c) (hPg : ∀ c, P c → w.heap.size ≤ c) : JB w w' a b a' b' Z ZR T := by
 obtain ⟨Sa, Sb, Ra, Rb, h1, h2, h3, h4, h5, h6, h7⟩ := h
 refine ⟨Sa, Sb, Ra, Rb, h1.frame dok_p ho fun c hp hf => hP c hp (h4 c (Or.inl hf)), h2.frame dok_r ho fun c hp hf => hP c hp (h4 c (Or.inr hf)), h3, h4, fun c hc => Nat.lt_of_lt_of_le (h5 c hc) ho.size, h6, ?_⟩
 exact ⟨ho.os.trans h7.os, ho.tape.trans h7.tape, ho.output.trans h7.output, Nat.le_trans h7.size ho.size, fun k hk => (ho.block k (Nat.lt_of_lt_of_le hk h7.size) (fun hp => by have := hPg k hp; omega)).trans (h7.block k hk)⟩
theorem JB.below (h : JB w wr a b a' b' Z ZR T) (hb : Below wr.heap.size wr w') : JB w w' a b a' b' Z ZR T := h.frame (P := fun _ => False) (Only.of_below hb) (fun _ h => h.elim) (fun _ h => h.elim)
theorem JB.alloc (h : JB w wr a b a' b' Z ZR T) (o : Obj) : JB w (wr.alloc o) a b a' b' Z ZR T := h.below ((Below.refl _ _).alloc (Nat.le_refl _) _)
/-- The first drive, and its fuse. -/
theorem JB.pd (h : JB w wr a b a' b' Z ZR T) : ∃ S, (∀ c, S c → T c) ∧ DrAt wr S a.p a.fu a.d ∧ FuAt wr S a.fu (a.fu.map Z) := by
 obtain ⟨Sa, Sb, Ra, Rb, h1, _, _, h4, _⟩ := h
 exact ⟨Sa, fun c hc => h4 c (Or.inl (Or.inl hc)), h1.da, fug_p.1 h1.fu⟩
/-- A step of the first of the drives. -/
theorem JB0.prog (h : JB0 w wr a b a' b' Z ZR T Sa Sb Ra Rb) {p2 : Nat} {fu2 : Option Nat} {d2 : Pd} {f2 : Fs} {S2 : Nat → Prop} (k1 : ∀ c, S2 c → Sa c ∨ wr.heap.size ≤ c) (k2 : DrAt w' S2 p2 fu2 d2) (k3 : fu2 = a.fu ∨ fu2 = none) (k4 : FuAt w' S2 a.fu f2) (k5 : Only (fun c => Sa c ∨ a.fu = some c) wr w') :
  JB w w' ⟨p2, fu2, d2⟩ b a' b' (setZ Z a.fu f2) ZR (grw T wr w') ∧ Only T wr w' := by
 obtain ⟨h1, h2, h3, h4, h5, h6, h7⟩ := h
 have ht := h1.turn dok_p h7.size k1 k2 k3 (fug_p.2 k4) k5
 have hOT : Only T wr w' := k5.mono fun c e => h4 c (Or.inl (e.elim Or.inl fun e => Or.inr (Or.inr (Or.inl e))))
 have hnf : ∀ c, Sa c ∨ a.fu = some c → ¬ foot a' b' Ra Rb c := fun c e => h3 c (e.elim Or.inl fun e => Or.inr (Or.inr (Or.inl e)))
 have hft : ∀ c, foot ⟨p2, fu2, d2⟩ b S2 Sb c → foot a b Sa Sb c ∨ (wr.heap.size ≤ c ∧ c < w'.heap.size) := fun c hc => by
  have hl := ht.flt dok_p hc
  rcases hc with hc | hc | hc | hc
  ·exact (k1 c hc).imp Or.inl (fun e => ⟨e, hl⟩)
  ·exact Or.inl (Or.inr (Or.inl hc))
  ·rcases k3 with k3 | k3
   ·exact Or.inl (Or.inr (Or.inr (Or.inl (by rw [← k3]; exact hc))))
   ·simp only at hc; rw [k3] at hc; cases hc
  ·exact Or.inl (Or.inr (Or.inr (Or.inr hc)))
 refine ⟨⟨S2, Sb, Ra, Rb, ht, h2.frame dok_r k5 hnf, fun c k q => ?_, fun c k => ?_, fun c hc => ?_, fun c hc => ?_, ?_⟩, hOT⟩
 ·rcases hft c k with k | k
  ·exact h3 c k q
  ·have := h2.flt dok_r q; omega
 ·rcases k with k | k
  ·exact (hft c k).imp (fun e => h4 c (Or.inl e)) id
  ·exact Or.inl (h4 c (Or.inr k))
 ·exact hc.elim (fun e => Nat.lt_of_lt_of_le (h5 c e) k5.size) (·.2)
 ·exact hc.elim (h6 c) (fun e => Nat.le_trans h7.size e.1)
 ·exact ⟨k5.os.trans h7.os, k5.tape.trans h7.tape, k5.output.trans h7.output, Nat.le_trans h7.size k5.size, fun k hk => (hOT.block k (Nat.lt_of_lt_of_le hk h7.size) (fun hp => by have := h6 k hp; omega)).trans (h7.block k hk)⟩
/-- A call of the first of the drives that may change it. -/
theorem JB.run (h : JB w wr a b a' b' Z ZR T) {g : FuncId} {args : Array Value} {r : Nat × Pd × Fs} (hc : ∀ S m L, DrC wr S a.p m a.fu a.d L → FuAt wr S a.fu (a.fu.map Z) → Calls Tryz.prog g args wr (Done wr S a.p a.fu r)) :
  Calls Tryz.prog g args wr fun e w1 => e = .returned (.int .i64 (r.1 : Int)) ∧ JB w w1 ⟨a.p, a.fu, r.2.1⟩ b a' b' (setZ Z a.fu r.2.2) ZR (grw T wr w1) ∧ Only T wr w1 := by
 obtain ⟨Sa, Sb, Ra, Rb, h⟩ := h
 obtain ⟨m, L, hd⟩ := h.1.da
 exact (hc Sa m L hd (fug_p.1 h.1.fu)).mono fun e w1 ⟨e1, S2, hg, hd2, hf, ho⟩ => ⟨e1, h.prog hg.2 hd2 (Or.inl rfl) hf ho⟩
end
end Go.Proofs.YtfogkegmdgbecaaGreatDoor

/- Steps of two drives and of the document's: crashes, clones, fuses. -/
namespace Go.Proofs.YtfogkegmdgbecaaGreatDoor
open Go Go.RowKit
section
variable {w wr w' : World} {a b a' b' : Dl} {Z ZR : Nat → Nat × Bool} {T Sa Sb Ra Rb : Nat → Prop}
theorem JB0.newP (h : JB0 w wr a b a' b' Z ZR T Sa Sb Ra Rb) {a2 b2 : Dl} {S2 Sb2 : Nat → Prop} {Z2 : Nat → Nat × Bool} (g : G2 DrAt 136 w w' a2 b2 S2 Sb2 Z2) (hft : ∀ c, foot a2 b2 S2 Sb2 c → foot a b Sa Sb c ∨ wr.heap.size ≤ c) {U : Nat → Prop} (ho : Only U wr w') (hU : ∀ c, U c → foot a b Sa Sb c) :
  JB w w' a2 b2 a' b' Z2 ZR (grw T wr w') ∧ Only T wr w' := by
 obtain ⟨h1, h2, h3, h4, h5, h6, h7⟩ := h
 have hOT : Only T wr w' := ho.mono fun c e => h4 c (Or.inl (hU c e))
 refine ⟨⟨S2, Sb2, Ra, Rb, g, h2.frame dok_r ho fun c hc => h3 c (hU c hc), fun c k q => ?_, fun c k => ?_, fun c hc => ?_, fun c hc => ?_, ?_⟩, hOT⟩
 ·rcases hft c k with k | k
  ·exact h3 c k q
  ·have := h2.flt dok_r q; omega
 ·rcases k with k | k
  ·exact (hft c k).imp (fun e => h4 c (Or.inl e)) (fun e => ⟨e, g.flt dok_p k⟩)
  ·exact Or.inl (h4 c (Or.inr k))
 ·exact hc.elim (fun e => Nat.lt_of_lt_of_le (h5 c e) ho.size) (·.2)
 ·exact hc.elim (h6 c) (fun e => Nat.le_trans h7.size e.1)
 ·exact ⟨ho.os.trans h7.os, ho.tape.trans h7.tape, ho.output.trans h7.output, Nat.le_trans h7.size ho.size, fun k hk => (hOT.block k (Nat.lt_of_lt_of_le hk h7.size) (fun hp => by have := h6 k hp; omega)).trans (h7.block k hk)⟩
theorem JB.fuse2 (h : JB w wr a b a' b' Z ZR T) (bl c : Nat) (hc : CAt wr bl #[ptr a.p, ptr b.p] 38) (n : Nat) (hn : n ≤ 9223372036854775807) :
  Calls Tryz.prog 29 #[.slice (some ⟨bl, 0, none⟩) 2 c, .int .i64 (n : Int)] wr fun e w1 => e = .returned (.int .i64 0) ∧ ∃ z, wr.heap.size ≤ z ∧ JB w w1 ⟨a.p, some z, a.d.lit (a.fu.map Z)⟩ ⟨b.p, some z, b.d.lit (b.fu.map Z)⟩ a' b' (litZ Z z n) ZR (grw T wr w1) ∧ Only T wr w1 := by
 obtain ⟨Sa, Sb, Ra, Rb, h⟩ := h
 obtain ⟨m, L, hd⟩ := h.1.da
 obtain ⟨m2, L2, hd2⟩ := h.1.db
 refine (fuse2_any hd (fug_p.1 h.1.fu) hd2 (fug_p.1 h.1.swap.fu) h.1.dj bl c hc n hn).mono fun e w1 ⟨e1, z, hz, k1, k2, hcz, ho⟩ => ⟨e1, z, hz, ?_⟩
 refine h.newP (h.1.lit2 dok_p h.2.2.2.2.2.2.size hn hz k1 k2 hcz) (fun c hc => ?_) ho (fun c hc => hc.elim (fun e => Or.inl (e ▸ hd.sp)) (fun e => Or.inr (Or.inl (e ▸ hd2.sp))))
 rcases hc with hc | hc | hc | hc
 ·exact Or.inl (Or.inl hc)
 ·exact Or.inl (Or.inr (Or.inl hc))
 ·cases hc; exact Or.inr hz
 ·cases hc; exact Or.inr hz
/-- Calls that only look. -/
theorem JB.look (h : JB w wr a b a' b' Z ZR T) {g : FuncId} {args : Array Value} {Q : Ending → World → Prop} (hc : ∀ S m L, DrC wr S a.p m a.fu a.d L → FuAt wr S a.fu (a.fu.map Z) → Calls Tryz.prog g args wr Q) : Calls Tryz.prog g args wr Q := by
 obtain ⟨S, _, ⟨m, L, hd⟩, hf⟩ := h.pd
 exact hc S m L hd hf
/-- What a drive's files are like. -/
structure Pd.fine (d : Pd) : Prop where
 so : Srt d.F
 us : usedOf d.F ≤ d.size
 sz : d.size ≤ 67108864
 b8 : ∀ x ∈ d.F, ∀ y ∈ x.2.1, y < 256
theorem RfC.lens {w : World} {R : Nat → Prop} {q : Nat} {v : Value} {fu : Option Nat} {d : Pd} {L : List (Nm × Ent)} (h : RfC w R q v fu d L) (hf : d.fine) : ∀ x ∈ L, x.2.b.length ≤ 1000000000 := fun x hx => by
 have hm : (x.1, x.2.fi) ∈ d.F := by rw [h.fs]; exact List.mem_map.2 ⟨x, hx, rfl⟩
 have := used_le hf.so (gget_of_mem hf.so hm)
 have h2 : x.2.b.length ≤ usedOf d.F := this
 have := hf.us
 have := hf.sz
 omega
theorem RfC.byte {w : World} {R : Nat → Prop} {q : Nat} {v : Value} {fu : Option Nat} {d : Pd} {L : List (Nm × Ent)} (h : RfC w R q v fu d L) (hf : d.fine) : ∀ x ∈ L, ∀ y ∈ x.2.b, y < 256 := fun x hx y hy =>
 hf.b8 (x.1, x.2.fi) (by rw [h.fs]; exact List.mem_map.2 ⟨x, hx, rfl⟩) y hy
end
end Go.Proofs.YtfogkegmdgbecaaGreatDoor
