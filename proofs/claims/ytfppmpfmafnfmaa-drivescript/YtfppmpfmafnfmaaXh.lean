/- Texts laid into one: the remark ahead of each part says what is proved there. -/
import Derived.Test.YtfppmpfmafnfmaaXg
import Derived.Sort.KeysCollected
/- Bytes in memory; contracts of SameBytes, LentBytes and KeptBytes of the statements' kit. -/
namespace Go.Proofs.Ytfppmpfmafnfmaa
open Go.RowKit

theorem Try.info5 : (Try.prog.info? 5).map (fun i => (i.zero, i.size, i.bytes)) = some (some (.int .u8 0), 1, 1) := by kernel_rfl

/-- A row of n bytes lies at block b from o on. -/
def RowAt (w : World) (b o n : Nat) (x : Nat → Nat) : Prop := ∀ i, i < n → w.cell? ⟨b, o + i, none⟩ = some (.int .u8 (x i : Nat))
/-- The world w has one block more than w0 has: n bytes, x, which may be written; what was there is as it was. -/
structure NewRow (w0 w : World) (n : Nat) (x : Nat → Nat) : Prop where
  size : w.heap.size = w0.heap.size + 1
  below : Below w0.heap.size w0 w
  cells : ∀ i, i < n → w.cell? ⟨w0.heap.size, i, none⟩ = some (.int .u8 (x i : Nat))
  free : ∀ i, w.frozen? ⟨w0.heap.size, i, none⟩ = false

theorem madeCells_get (z : Value) (n i : Nat) (h : i < n) : (madeCells #[z] n)[i]? = some z := by
  simp [madeCells, h, Nat.mod_one]
theorem run_make_u8 (n : Nat) (hn : n ≤ 70003) (w : World) :
    (Instr.makeSlice 33 (.int .i64 (n : Int)) (.int .i64 (n : Int))).run Try.prog w = .ok (.slice (some ⟨w.heap.size, 0, none⟩) n n) (w.alloc (.cells (madeCells #[.int .u8 0] n) 5)) := by
  obtain ⟨i0, hi, hz0, hz1, hz2⟩ := info_parts Try.info5
  have h := run_make (P := Try.prog) w 33 5 i0 (.int .u8 0) Try.underlying33 hi hz0 .i64 .i64 n n (by omega) (Int.le_refl _) (by rw [hz2]; omega) (by omega)
  rw [hz1] at h
  simpa [Value.cells] using h

theorem NewRow.made (w : World) (n : Nat) : NewRow w (w.alloc (.cells (madeCells #[.int .u8 0] n) 5)) n (fun _ => 0) where
  size := by simp
  below := (Below.refl _ _).alloc (Nat.le_refl _) _
  cells := fun i h => by rw [World.cell?_alloc_new, madeCells_get _ _ _ h]; rfl
  free := fun i => World.frozen?_alloc_new _ _ _ _
theorem NewRow.set {w0 w : World} {n : Nat} {x : Nat → Nat} (h : NewRow w0 w n x) (k : Nat) (v : Nat) (hk : k < n) :
    NewRow w0 (w.setCell ⟨w0.heap.size, k, none⟩ (.int .u8 (v : Nat))) n (fun i => if i = k then v else x i) where
  size := by simp [h.size]
  below := h.below.setCell (Nat.le_refl _) _
  cells := fun i hi => by
    by_cases e : i = k
    · subst e
      rw [World.cell?_setCell_same _ _ _ (h.cells i hi)]; simp
    · rw [World.cell?_setCell_other _ _ _ _ (by intro h2; cases h2; exact e rfl), h.cells i hi]; simp [e]
  free := fun i => by rw [World.frozen?_setCell]; exact h.free i
theorem NewRow.congr {w0 w : World} {n : Nat} {x y : Nat → Nat} (h : NewRow w0 w n x) (e : ∀ i, i < n → x i = y i) : NewRow w0 w n y where
  size := h.size
  below := h.below
  cells := fun i hi => by rw [h.cells i hi, e i hi]
  free := h.free

theorem upto_step (f : Nat → Nat) (k i : Nat) : (if i = k then f k else if i < k then f i else 0) = if i < k + 1 then f i else 0 := by
  by_cases e : i = k
  · subst e; rw [if_pos rfl, if_pos (by omega)]
  · rw [if_neg e]
    by_cases h : i < k
    · rw [if_pos h, if_pos (by omega)]
    · rw [if_neg h, if_neg (by omega)]

end Go.Proofs.Ytfppmpfmafnfmaa

/- Contract of SameBytes of the statements' kit: of two slices that read alike it returns true, and leaves the world as it was. -/
namespace Go.Proofs.Ytfppmpfmafnfmaa
open Go.RowKit

/-- The slice's value leads to n bytes x; one of no byte may lead anywhere. -/
def StrAt (w : World) (p : Option Addr) (n : Nat) (x : Nat → Nat) : Prop := n = 0 ∨ ∃ b o, p = some ⟨b, o, none⟩ ∧ RowAt w b o n x
def strN (n : Nat) (x : Nat → Nat) : ByteArray := strOfNums ((List.range n).map fun i => (x i : Int))
theorem conv_str (w : World) (p : Option Addr) (n c : Nat) (x : Nat → Nat) (h : StrAt w p n x) :
    (convert 33 9 (.slice p n c)).run Try.prog w = .ok (.string (strN n x)) w := by
  rcases h with rfl | ⟨b, o, rfl, h⟩
  · rw [run_convert_bytes_string w 33 9 5 _ 0 c Try.underlying33 Try.underlying5 Try.underlying9]
    cases p <;> simp [Conv.bytesToString, loadCells, strN]
    all_goals rfl
  · exact run_convert_bytes_arg w 33 5 Try.underlying33 Try.underlying5 b o n c _ (by simp) (fun i hi => by rw [h i hi]; simp [List.getD, hi]) 9 Try.underlying9

set_option maxHeartbeats 400000 in
theorem same_true (p q : Option Addr) (n c d : Nat) (x : Nat → Nat) (w : World) (hp : StrAt w p n x) (hq : StrAt w q n x) :
    Calls Try.prog 38 #[.slice p n c, .slice q n d] w fun e w' => e = .returned (.bool true) ∧ w' = w := by
  have h1 := conv_str w p n c x hp
  have h2 := conv_str w q n d x hq
  go_enter Try.func38, Try.ntmps38
  go_wp2
  go_ret
  exact ⟨rfl, rfl⟩
end Go.Proofs.Ytfppmpfmafnfmaa

/- Contract of LentBytes of the statements' kit: a copy of the bytes lies in a new block, with three marked bytes of spare room behind it; what was there is as it was. -/
namespace Go.Proofs.Ytfppmpfmafnfmaa
open Go.RowKit

theorem size_setCells (b : Nat) : ∀ (vs : List Value) (o : Nat) (w : World), (w.setCells b o vs).heap.size = w.heap.size
  | [], _, _ => rfl
  | v :: r, o, w => by rw [World.setCells, size_setCells b r, World.size_setCell]
theorem below_setCells (b B : Nat) (hB : B ≤ b) : ∀ (vs : List Value) (o : Nat) (w0 w : World), Below B w0 w → Below B w0 (w.setCells b o vs)
  | [], _, _, _, h => h
  | v :: r, o, w0, w, h => by rw [World.setCells]; exact below_setCells b B hB r (o + 1) w0 _ (h.setCell hB _)

/-- n bytes as values. -/
def valN (n : Nat) (x : Nat → Nat) : List Value := (List.range n).map fun i => .int .u8 (x i : Nat)
theorem valN_len (n : Nat) (x : Nat → Nat) : (valN n x).length = n := by simp [valN]
theorem valN_get (n : Nat) (x : Nat → Nat) (i : Nat) (h : i < n) : (valN n x)[i]? = some (.int .u8 (x i : Nat)) := by simp [valN, h]

theorem NewRow.copied {w0 w : World} {n : Nat} {x : Nat → Nat} (h : NewRow w0 w n x) (m : Nat) (y : Nat → Nat) (hm : m ≤ n) :
    NewRow w0 (w.setCells w0.heap.size 0 (valN m y)) n (fun i => if i < m then y i else x i) where
  size := by rw [size_setCells, h.size]
  below := below_setCells _ _ (Nat.le_refl _) _ _ _ _ h.below
  cells := fun i hi => by
    by_cases e : i < m
    · have hin := World.cell?_setCells_in w0.heap.size (valN m y) 0 w (fun j hj => by
        rw [valN_len] at hj
        rw [Nat.zero_add, h.cells j (by omega)]; rfl) i (by rw [valN_len]; exact e)
      rw [Nat.zero_add] at hin
      rw [hin, if_pos e]
      have g := valN_get m y i e
      rw [List.getElem?_eq_getElem (by rw [valN_len]; exact e)] at g
      exact g
    · rw [World.cell?_setCells_out _ _ _ _ _ (fun _ _ => by rw [valN_len]; right; simp; omega), if_neg e, h.cells i hi]
  free := fun i => by rw [World.frozen?_setCells]; exact h.free i

theorem run_copy_u8 (w : World) (b o n c g dl dc : Nat) (x y : Nat → Nat) (w0 : World) (hg : g = w0.heap.size) (h : NewRow w0 w dl y) (hx : RowAt w b o n x) (hn : n ≤ dl) (ty : TypeId) :
    (Builtin.copy_ #[33, 33] ty #[.slice (some ⟨g, 0, none⟩) dl dc, .slice (some ⟨b, o, none⟩) n c]).run Try.prog w = .ok (goInt n) (w.setCells g 0 (valN n x)) := by
  subst hg
  have := run_copy_cells (P := Try.prog) w 33 33 ty 5 w0.heap.size 0 dl dc ⟨b, o, none⟩ n c (valN n x) Try.underlying33 (by kernel_rfl) (by rw [valN_len]; exact (Nat.min_eq_left hn).symm)
    (fun j v hj => by
      have hjn : j < n := by
        rcases Nat.lt_or_ge j n with q | q
        · exact q
        · rw [List.getElem?_eq_none (by rw [valN_len]; exact q)] at hj; cases hj
      rw [valN_get n x j hjn] at hj
      cases hj
      have hadd : (⟨b, o, none⟩ : Addr).add j = ⟨b, o + j, none⟩ := by unfold Addr.add; split <;> simp_all
      rw [hadd]; exact hx j hjn)
    (fun j hj => by rw [valN_len] at hj; rw [Nat.zero_add, h.cells j (by omega)]; rfl)
    (fun j _ => by rw [Nat.zero_add]; exact h.free j)
    (fun v hv => by unfold valN at hv; obtain ⟨i, _, rfl⟩ := List.mem_map.1 hv; rfl)
  rw [valN_len] at this
  exact this

/-- What a lent list reads as, its spare room with it. -/
def lentN (n : Nat) (x : Nat → Nat) (i : Nat) : Nat := if i < n then x i else 160 + i % 90

theorem byte_mark (k : Nat) : ((160 + k % 90 : Nat) : Int) = 160 + (k : Int) % 90 := by omega

set_option maxRecDepth 100000 in
set_option maxHeartbeats 1000000 in
theorem lent_core (p : Option Addr) (n c : Nat) (x : Nat → Nat) (w w1 : World) (hn : n ≤ 70000)
    (hcp : ∀ ty, (Builtin.copy_ #[33, 33] ty #[.slice (some ⟨w.heap.size, 0, none⟩) (n + 3) (n + 3), .slice p n c]).run Try.prog (w.alloc (.cells (madeCells #[.int .u8 0] (n + 3)) 5)) = .ok (goInt n) w1)
    (hrow : NewRow w w1 (n + 3) (fun i => if i < n then x i else 0)) :
    Calls Try.prog 44 #[.slice p n c] w fun e w' => e = .returned (.slice (some ⟨w.heap.size, 0, none⟩) n (n + 3)) ∧ NewRow w w' (n + 3) (lentN n x) := by
  have hmk := run_make_u8 (n + 3) (by omega) w
  rw [show ((n + 3 : Nat) : Int) = (n : Int) + 3 from by omega] at hmk
  have HR := hid hrow
  clear hrow
  go_enter Try.func44, Try.ntmps44
  go_wp2
  clear hmk hcp
  go_loopw [4] (fun i wr => ∃ k : Nat, n ≤ k ∧ k ≤ n + 3 ∧ i = .int .i64 k ∧ NewRow w wr (n + 3) (fun i => if i < k then lentN n x i else 0)) (fun i _ => (n + 3 - intOf i).toNat)
  case atStart => exact ⟨n, by omega, by omega, rfl, HR.out.congr (fun i _ => by by_cases e : i < n <;> simp [lentN, e])⟩
  case round =>
    obtain ⟨k, hk1, hk2, rfl, hrow⟩ := hrel
    clear HR
    by_cases hlt : k < n + 3
    · have c3 : wr.cell? ⟨w.heap.size, k, none⟩ = some (.int .u8 0) := by rw [hrow.cells k hlt]; simp
      have c4 := hrow.free k
      have HR := hid (hrow.set k (lentN n x k) hlt)
      have HL : Hid (lentN n x k = 160 + k % 90) := if_neg (by omega)
      clear hrow
      go_wp2
      go_roundw
      case rel =>
        refine ⟨k + 1, by omega, by omega, by go_num, ?_⟩
        rw [HL.out] at HR
        have := HR.out.congr (y := fun i => if i < k + 1 then lentN n x i else 0) (fun i _ => by rw [← HL.out]; exact upto_step _ k i)
        rw [byte_mark] at this
        exact this
      case measure => simp [intOf]; omega
    · have e : k = n + 3 := by omega
      have E := hid (hrow.congr (y := lentN n x) (fun i hi => by rw [if_pos (by omega)]))
      clear e hrow
      go_wp2
      go_ret
      exact ⟨rfl, E.out⟩

theorem lent_any (p : Option Addr) (n c : Nat) (x : Nat → Nat) (w : World) (hn : n ≤ 70000) (hx : StrAt w p n x) :
    Calls Try.prog 44 #[.slice p n c] w fun e w' => e = .returned (.slice (some ⟨w.heap.size, 0, none⟩) n (n + 3)) ∧ NewRow w w' (n + 3) (lentN n x) := by
  have hrow := NewRow.made w (n + 3)
  by_cases h0 : n = 0
  · subst h0
    refine lent_core p 0 c x w _ hn (fun ty => ?_) (hrow.congr (fun i _ => by simp))
    exact run_copy_none (P := Try.prog) _ 33 33 ty 5 _ _ _ _ _ _ Try.underlying33 (by kernel_rfl) (by simp)
  · rcases hx with e | ⟨b, o, rfl, hx⟩
    · exact absurd e h0
    · have hb : b < w.heap.size := World.block_lt_of_cell? w _ (hx 0 (by omega))
      have hx1 : RowAt (w.alloc (.cells (madeCells #[.int .u8 0] (n + 3)) 5)) b o n x := fun i hi => by rw [World.cell?_alloc_lt _ _ _ hb]; exact hx i hi
      exact lent_core _ n c x w _ hn (fun ty => run_copy_u8 _ b o n c w.heap.size (n + 3) (n + 3) x (fun _ => 0) w rfl hrow hx1 (by omega) ty) (hrow.copied n x (by omega))
end Go.Proofs.Ytfppmpfmafnfmaa

/- Contract of KeptBytes of the statements' kit: it returns true of a lent list that reads as it was lent. -/
namespace Go.Proofs.Ytfppmpfmafnfmaa
open Go.RowKit

theorem RowAt.below {B : Nat} {w w' : World} {b o n : Nat} {x : Nat → Nat} (h : RowAt w b o n x) (hb : Below B w w') (hlt : b < B) : RowAt w' b o n x :=
  fun i hi => (hb.cell (p := ⟨b, o + i, none⟩) hlt).trans (h i hi)
theorem NewRow.row {w0 w : World} {n : Nat} {x : Nat → Nat} (h : NewRow w0 w n x) : RowAt w w0.heap.size 0 n x :=
  fun i hi => by rw [Nat.zero_add]; exact h.cells i hi

set_option maxRecDepth 100000 in
set_option maxHeartbeats 1000000 in
theorem kept_any (g n c : Nat) (p : Option Addr) (x : Nat → Nat) (w : World) (hn : n ≤ 70000) (hg : g < w.heap.size) (hr : RowAt w g 0 (n + 3) (lentN n x)) (hx : StrAt w p n x) :
    Calls Try.prog 46 #[.slice (some ⟨g, 0, none⟩) n (n + 3), .slice p n c] w fun e w' => e = .returned (.bool true) ∧ Below w.heap.size w w' := by
  have hrd : RowAt w.drew g 0 (n + 3) (lentN n x) := hr
  have h3 : (0 : Int) ≤ (n : Int) + 3 := by omega
  have hw3 : IntKind.i64.wrap ((n : Int) + 3) = (n : Int) + 3 := by rw [IntKind.wrap_i64]; omega
  go_enter Try.func46, Try.ntmps46
  go_wp2_with fail
  go_region_held3 (fun w' => True) (trivial) (first | (go_at_call 44; refine (lent_any p n c x _ hn (by exact hx)).mono ?_; rintro e w1 ⟨rfl, hnew⟩) | (go_at_call 38; refine (same_true _ _ (n + 3) _ _ (lentN n x) _ (.inr ⟨_, _, rfl, by exact hrd.below hnew.below hg⟩) (.inr ⟨_, _, rfl, by exact hnew.row⟩)).mono ?_; rintro e w2 ⟨rfl, rfl⟩))
  go_wp2
  go_ret
  exact ⟨rfl, (Below.refl _ _).drew.trans hnew.below⟩
#print axioms kept_any
end Go.Proofs.Ytfppmpfmafnfmaa

/- Rows all of whose cells are known to be bytes, or short texts. -/
namespace Go.Proofs.Ytfppmpfmafnfmaa
open Go Go.RowKit
open Go.Proofs (encStr)
open Go.Sort

/-- All cells of the row that a slice leads to, its spare room too, are such. -/
def AllQ (Q : Value → Prop) (e : TypeId) (w : World) (v : Value) : Prop := ∀ g, v.ownBlock = some g → ∀ cur, w.heap[g]? = some (.cells cur e (0, 0)) → ∀ u ∈ cur.toList, Q u
theorem AllQ.nil (Q : Value → Prop) (e : TypeId) (w : World) (n c : Nat) : AllQ Q e w (.slice none n c) := fun g h => by cases h
theorem AllQ.keep {Q : Value → Prop} {e : TypeId} {w w' : World} {v : Value} (h : AllQ Q e w v) (hk : ∀ b, v.ownBlock = some b → w'.heap[b]? = w.heap[b]?) : AllQ Q e w' v := fun g hg cur hc => h g hg cur (by rw [← hk g hg]; exact hc)
theorem mem_zeroCells {z : Value} (hz : z.cells = #[z]) {k : Nat} {u : Value} (h : u ∈ (Builtin.zeroCells z.cells k).toList) : u = z := by
  rw [hz] at h
  unfold Builtin.zeroCells at h
  simp at h
  obtain ⟨i, _, rfl⟩ := h
  simp [Nat.mod_one]
theorem append_typed {w : World} {base : Nat} {t ty e : TypeId} {i : TypeInfo} {z : Value} {bytes : Nat} (Q : Value → Prop) (ht : Try.prog.underlying t = some (.slice e)) (hi : Try.prog.info? e = some i) (hz : i.zero = some z) (hsize : i.size = 1) (hby : i.bytes = bytes) (hzc : z.cells = #[z]) (hQz : Q z)
    {v : Value} {n : Nat} {xs : List Value} (hown : w.ownsRow base e 1 v n xs) (hall : AllQ Q e w v) (hxs : ∀ u ∈ xs, Q u) (a : Addr) (m c : Nat) (news : List Value) (hl : news.length = m) (hnews : ∀ j u, news[j]? = some u → w.cell? (a.add j) = some u) (h1 : ∀ u ∈ news, u.oneCell' = true) (hQ : ∀ u ∈ news, Q u)
    (h63 : n + m ≤ maxLen) (hbytes : (n + m) * bytes ≤ 140737488355328) {v' : Value} {w' : World} (hr : (Builtin.append_ #[t, t] ty #[v, .slice (some a) m c]).run Try.prog w = .ok v' w') : AllQ Q e w' v' := by
  subst hby
  have h63' : n + m ≤ 9223372036854775807 := by simpa only [maxLen] using h63
  have hls : news.length = m * i.size := by rw [hsize, Nat.mul_one]; exact hl
  have hnew : ∀ (w0 : World) (cs : Array Value) (k l : Nat), (∀ u ∈ cs.toList, Q u) → AllQ Q e (w0.alloc (.cells cs e)) (.slice (some ⟨w0.heap.size, 0, none⟩) k l) := fun w0 cs k l hq g hg cur hc => by
    cases hg
    have h2 : CAt (w0.alloc (.cells cs e)) w0.heap.size cs e := CAt.made w0 _ _
    unfold CAt at h2
    rw [h2] at hc; cases hc; exact hq
  have hgrown : ∀ old, ∀ u ∈ (xs.toArray ++ news.toArray ++ Builtin.zeroCells z.cells (grownCap w (n + m) old e - (n + m))).toList, Q u := fun old u hu => by
    simp only [Array.toList_append, List.mem_append] at hu
    rcases hu with (hu | hu) | hu
    · exact hxs u hu
    · exact hQ u hu
    · rw [mem_zeroCells hzc hu]; exact hQz
  rcases hown.2 with ⟨rfl, rfl⟩ | ⟨g, cap, cur, rfl, hbg, hg, hnc, hcm, hcs, htake⟩
  · have hx : xs = [] := List.eq_nil_of_length_eq_zero (by simpa using hown.1)
    subst hx
    by_cases hm : m = 0
    · subst hm
      have hn : news = [] := List.eq_nil_of_length_eq_zero hl
      subst hn
      have he : (Builtin.append_ #[t, t] ty #[.slice none 0 0, .slice (some a) 0 c]).run Try.prog w = .ok (.slice none 0 0) w := by
        simp [Builtin.append_, run_underlying ht, sizeOf, typeInfo, hi, Builtin.lenOf, Builtin.firstCells, loadCells, loadCellsFrom]
      rw [he] at hr; cases hr
      exact AllQ.nil _ _ _ _ _
    · have he := run_append_nil (P := Try.prog) w t ty e i z ht hi hz a m c news hls hnews (by omega) (by omega) (by have hb := hbytes; simp only [Nat.zero_add] at hb; omega)
      rw [he] at hr; cases hr
      refine hnew w.drew _ _ _ fun u hu => ?_
      have := hgrown 0 u
      simp only [Nat.zero_add] at this
      exact this (by simpa using hu)
  · by_cases hroom : n + m ≤ cap
    · have hfit : n * i.size + news.length ≤ cur.size := by rw [hls, hcs, hsize, ← Nat.add_mul]; exact Nat.mul_le_mul_right _ hroom
      have he := run_append_room (P := Try.prog) w t ty e i ht hi g n cap cur hg a m c news hls hnews h1 hroom hfit
      rw [he] at hr; cases hr
      intro g2 hg2 cur2 hc2 u hu
      cases hg2
      rw [setRow_heap w g cur _ e _ hg] at hc2
      cases hc2
      have hold := hall g rfl cur hg
      simp only [List.mem_append] at hu
      rcases hu with (hu | hu) | hu
      · exact hold u (List.mem_of_mem_take hu)
      · exact hQ u hu
      · exact hold u (List.mem_of_mem_drop hu)
    · have holds : ∀ j u, xs[j]? = some u → w.cell? ((⟨g, 0, none⟩ : Addr).add j) = some u := hown.cells (g := g) rfl
      have he := run_append_grow (P := Try.prog) w t ty e i z ht hi hz ⟨g, 0, none⟩ n cap xs (by rw [hown.1, hsize]) holds a m c news hls hnews (by omega) (by omega) (growslice_fits (by omega) hbytes)
      rw [he] at hr; cases hr
      exact hnew w.drew _ _ _ (hgrown cap)
def QS (u : Value) : Prop := ∃ s : Nm, u = sv s ∧ s.length ≤ 512
def Q8 (u : Value) : Prop := ∃ k : Nat, u = u8 k ∧ k < 256
structure TxtS (B : Nat) (w : World) (v : Value) (ns : List Nm) : Prop where
  t : TxtL B w v ns
  q : AllQ QS 9 w v
  s : ∀ x ∈ ns, x.length ≤ 512
theorem TxtS.nil (B : Nat) (w : World) : TxtS B w (.slice none 0 0) [] := ⟨World.ownsRow_nil _ _ _ _, AllQ.nil _ _ _ _ _, by simp⟩
theorem TxtS.keep {B : Nat} {w w' : World} {v : Value} {ns : List Nm} (h : TxtS B w v ns) (hk : ∀ b, v.ownBlock = some b → w'.heap[b]? = w.heap[b]?) : TxtS B w' v ns := ⟨h.t.keep hk, h.q.keep hk, h.s⟩
theorem TxtS.below {B : Nat} {w w' : World} {v : Value} {ns : List Nm} (h : TxtS B w v ns) (hb : Below w.heap.size w w') : TxtS B w' v ns := h.keep fun b hb' => hb.block b (own_ge h.t b hb').2
theorem TxtS.base {B B2 : Nat} {w : World} {v : Value} {ns : List Nm} (h : TxtS B w v ns) (hB : B2 ≤ B) : TxtS B2 w v ns := ⟨h.t.base hB, h.q, h.s⟩
theorem TxtS.push {B : Nat} {w : World} {v : Value} {ns : List Nm} (h : TxtS B w v ns) (x : Nm) (hx : x.length ≤ 512) (hn : ns.length ≤ 1000000000000) (hB : B ≤ w.heap.size) :
    ∃ v' w', (Builtin.append_ #[54, 54] 54 #[v, .slice (some ⟨w.heap.size, 0, none⟩) 1 1]).run Try.prog (w.alloc (.cells #[sv x] 9)) = .ok v' w' ∧ TxtS B w' v' (ns ++ [x]) ∧
      (w.alloc (.cells #[sv x] 9)).grownBy w' v.ownBlock ∧ (v'.ownBlock = v.ownBlock ∨ v'.ownBlock = some (w.heap.size + 1)) := by
  obtain ⟨v', w', hr, h1, h2, h3⟩ := h.t.push x hn hB
  obtain ⟨i0, hi0, hz0, hz1, hz2⟩ := info_parts Try.info9
  have hs : ∀ y ∈ ns ++ [x], y.length ≤ 512 := fun y hy => by
    rcases List.mem_append.1 hy with hy | hy
    · exact h.s y hy
    · have : y = x := by simpa using hy
      rw [this]; exact hx
  have hb := h.below ((Below.refl w.heap.size w).alloc (Nat.le_refl _) (.cells #[sv x] 9))
  refine ⟨v', w', hr, ⟨h1, ?_, hs⟩, h2, h3⟩
  refine append_typed QS Try.underlying54 hi0 hz0 hz1 hz2 rfl ⟨[], rfl, by simp⟩ hb.t hb.q (fun u hu => ?_) ⟨w.heap.size, 0, none⟩ 1 1 [sv x] rfl (cell_one_new w (sv x) 9) (by intro u hu; simp at hu; subst hu; rfl) (fun u hu => ?_) (by unfold maxLen; omega) (by omega) hr
  · obtain ⟨y, hy, rfl⟩ := List.mem_map.1 hu; exact ⟨y, rfl, h.s y hy⟩
  · simp at hu; subst hu; exact ⟨x, rfl, hx⟩
theorem sort2_any {w : World} {B : Nat} {v : Value} {ss : List Nm} (h : TxtS B w v ss) (hn : ss.length < 4611686018427387904) :
    Calls Try.prog 77 #[v] w fun e w' => e = .returned (.tuple #[]) ∧ TxtS B w' v (ss.mergeSort fun x y => decide (x ≤ y)) ∧ w.grownBy w' v.ownBlock := by
  have hlen : (ss.mergeSort fun x y => decide (x ≤ y)).length = ss.length := List.length_mergeSort _
  have hs : ∀ x ∈ (ss.mergeSort fun x y => decide (x ≤ y)), x.length ≤ 512 := fun x hx => h.s x (List.mem_mergeSort.1 hx)
  rcases h.t.2 with ⟨rfl, h0⟩ | ⟨g, cap, cur, rfl, hbase, hb, h1, h2, h3, h4⟩
  · have : ss = [] := List.eq_nil_of_length_eq_zero h0
    subst this
    refine (Try.slices_Sort_string_none none 0 w).mono ?_
    rintro e w' ⟨rfl, rfl⟩
    exact ⟨rfl, by simpa using h, ⟨rfl, rfl, rfl, Nat.le_refl _, fun _ _ _ => rfl⟩⟩
  · refine (Try.slices_Sort_string g 0 cap ss w (holds_of_block hb (by simpa using h4)) (Array.getElem?_eq_some_iff.1 hb).1 hn).mono ?_
    rintro e w' ⟨rfl, n, os, rfl⟩
    refine ⟨rfl, ⟨?_, ?_, hs⟩, grownBy_sorted _⟩
    · unfold TxtL
      rw [hlen]
      exact ownsRow_sorted hlen hbase hb h1 h2 h3
    · intro g2 hg2 cur2 hc2 u hu
      cases hg2
      rw [heap_sorted _ hb] at hc2
      cases hc2
      have hu' : u ∈ putCells encStr 0 (ss.mergeSort fun x y => decide (x ≤ y)).toArray cur := by simpa using hu
      unfold putCells at hu'
      rw [Array.mem_mapIdx] at hu'
      obtain ⟨i, hi, rfl⟩ := hu'
      split
      · rename_i hc
        have hi2 : i < (ss.mergeSort fun x y => decide (x ≤ y)).toArray.size := by omega
        have e : (ss.mergeSort fun x y => decide (x ≤ y)).toArray[i - 0]! = (ss.mergeSort fun x y => decide (x ≤ y))[i]'(by simpa using hi2) := by
          rw [Nat.sub_zero, getElem!_pos _ i hi2]; simp
        rw [e]
        exact ⟨_, rfl, hs _ (List.getElem_mem _)⟩
      · exact h.q g rfl cur hb _ (by simp)
#print axioms sort2_any
end Go.Proofs.Ytfppmpfmafnfmaa

/- Contracts of names and List of package drive, with what the spare room holds. (Written by tools/gen_Kp.py.) -/
namespace Go.Proofs.Ytfppmpfmafnfmaa
open Go Go.RowKit
open Go.Proofs (encStr)

def NamesS (w : World) (ns : List Nm) (e : Ending) (w' : World) : Prop :=
  ∃ po c, e = .returned (.slice po ns.length c) ∧ TxtS w.heap.size w' (.slice po ns.length c) ns ∧ Below w.heap.size w w'
structure NmS (w wr : World) (m : Nat) (L : List (Nm × Ent)) (q : Nm → Fi → Bool) (v : Value) (left : Lit → Bool) (cnt : Nat) (ss : List Nm) : Prop where
  rg : wr.ranges Try.prog 9 RF m w.heap.size L.length (mapD L) left cnt
  co : Coll L q left ss
  tx : TxtS w.heap.size wr v ss
  be : Below w.heap.size w wr
theorem okNm_len {s : Nm} (h : okNm s = true) : s.length ≤ 512 := by
  unfold okNm at h; simp at h; exact h.2.1
set_option maxRecDepth 100000 in
theorem names2_l {w : World} {S : Nat → Prop} {p m : Nat} {fu : Option Nat} {d : Pd} {L : List (Nm × Ent)} (h : DrC w S p m fu d L) (q : Nm → Fi → Bool) (x0 : Value) (hqb : ∀ x b b2 l, q x (b, l) = q x (b2, l))
    (hq : ∀ w1, Below w.heap.size w w1 → ∀ x po n c l, Calls Try.prog 62 #[sv x, .agg #[.slice po n c, .bool l], x0] w1 fun e w' => e = .returned (.bool (q x ([], l))) ∧ Below w1.heap.size w1 w') (hl : d.F.length < 1000000000000) :
    Calls Try.prog 61 #[ptr p, .func (.func 62) #[] #[x0]] w (NamesS w (namesOf d.F q)) := by
  have c2 : w.cell? ⟨p, 2, none⟩ = some (.map (some m)) := h.c.cell 2
  have hm := h.mp
  have hml := h.lt m h.sm
  have HQ := hid hq
  have HQB := hid hqb
  have HFS := hid h.fs
  have HSO := hid h.so
  have HNM := hid h.nm
  have HSF := hid h.srtF
  have HL : Hid (L.length < 1000000000000) := hid (by rw [h.lenF]; exact hl)
  clear h hq hqb hl
  go_enter Try.func61, Try.ntmps61
  go_wp2_with (first | (at_range; refine wpList_range_own _ rfl _ 48 rfl 9 78 strLaw underM _ m _ _ rfl hm ?_; intro w0 hrg0 hg0 hs0) | go_in)
  go_frame
  have HI0 : Hid (NmS w w0 m L q (.slice none 0 0) (Maps.has (mapD L)) (Maps.size (mapD L)) []) := hid ⟨hrg0, Coll.start L q, TxtS.nil _ _, ⟨hg0.os, hg0.tape, hg0.output, hg0.size, fun k hk => hg0.block k hk (by simp)⟩⟩
  clear hrg0 hg0 hs0
  go_loopw [5] (fun v wr => ∃ left cnt ss, NmS w wr m L q v left cnt ss) (fun _ wr => wr.rangeLeft m w.heap.size)
  case atStart => exact ⟨_, _, _, HI0.out⟩
  case round =>
    obtain ⟨left, cnt, ss, hI⟩ := hrel
    have HI := hid hI
    obtain ⟨po5, cc5, hv5⟩ := own_form hI.tx.t
    subst hv5
    clear hI HI0
    go_wp2_with (first
      | (at_next; refine wpList_next_ranges _ rfl _ rfl 9 strLaw RF sv mkV invK9 invV9 m w.heap.size L.length _ _ _ rfl HI.out.rg ?_ ?_)
      | go_in)
    · intro hc0 hl0
      have HP := hid ((HI.out.co.end HSO.out hl0))
      have HSL := hid (sort2_any HI.out.tx (by have := HI.out.co.len; have := HL.out; omega))
      have HE : Hid ((ss.mergeSort fun x y => decide (x ≤ y)) = namesOf d.F q) := hid (sort_names HSF.out q (by rw [HFS.out]; exact HP.out))
      clear hl0 hc0
      go_wp2_with (go_at_call 77; refine HSL.out.mono ?_; rintro e w1 ⟨rfl, htx, hgr⟩; rw [HE.out] at htx; have HTX := hid htx; have HGR := hid hgr; clear htx hgr)
      go_ret
      obtain ⟨po, cc, hf⟩ := own_form HTX.out.t
      refine ⟨po, cc, by rw [← hf]; rfl, by rw [← hf]; exact HTX.out, below_on_grown HI.out.be HGR.out (fun b hb => (own_ge HI.out.tx.t b hb).1)⟩
    · intro x c kl yd yp w2 cnt2 hkey hlk hv hat hrg2 hlt hg2 hs2 hen
      clear hs2
      obtain ⟨hkl, en, hgx, hev, hel⟩ := met hkey hv hat
      subst hkl
      obtain ⟨po, n, cc, l⟩ := c
      simp only [mkV] at hen ⊢
      simp only at hel hev
      clear hkey hv hat
      have HB2 := hid (below_on_grown (w := w) HI.out.be hg2 (fun b hb => by cases hb; exact Nat.le_refl _))
      have HTX2 := hid (HI.out.tx.keep (w' := w2) (fun b hb => hg2.block b (own_ge HI.out.tx.t b hb).2 (fun e => row_ne_iter HI.out.tx.t HI.out.rg (by rw [hb, ← e]))))
      have HG := hid hgx
      have HEL := hid hel
      have HLK := hid hlk
      have HLT := hid hlt
      have HRG2 := hid hrg2
      clear hgx hel hev hlk hlt hrg2 hg2
      have hqq : q x en.fi = q x ([], l) := by
        have := HQB.out x en.b [] en.l
        rw [HEL.out] at this
        unfold Ent.fi
        rw [HEL.out]; exact this
      cases hb : q x ([], l)
      · rw [hb] at hqq
        have HCO := hid (HI.out.co.skip HG.out hqq)
        have HQ1 := hid (fun w1 hw1 => HQ.out w1 hw1 x po n cc l)
        rw [hb] at HQ1
        clear hqq
        go_wp2_with (go_at_call 62; refine (HQ1.out _ (below_on _ _ HB2.out ((Below.refl _ _).alloc (Nat.le_refl _) _))).mono ?_; rintro e w3 ⟨rfl, hb3⟩; have HB3 := hid (below_on _ _ ((Below.refl w2.heap.size w2).alloc (Nat.le_refl _) _) hb3); clear hb3)
        go_roundw
        case rel =>
          refine ⟨fun z => left z && !z.sameKey (.string x), cnt2, ss, ?_⟩
          exact ⟨HRG2.out.kept (grown_of_below HB3.out) (by simp) (by simp), HCO.out, HTX2.out.below HB3.out, below_on _ _ HB2.out HB3.out⟩
        case measure =>
          have hr3 := HRG2.out.kept (grown_of_below HB3.out) (by simp) (by simp)
          rw [hr3.left_eq, HI.out.rg.left_eq]; exact HLT.out
      · rw [hb] at hqq
        have HCO := hid (HI.out.co.take HLK.out HG.out hqq)
        have HQ1 := hid (fun w1 hw1 => HQ.out w1 hw1 x po n cc l)
        rw [hb] at HQ1
        clear hqq
        go_wp2_with (first
          | (go_at_call 62; refine (HQ1.out _ (below_on _ _ HB2.out ((Below.refl _ _).alloc (Nat.le_refl _) _))).mono ?_; rintro e w3 ⟨rfl, hb3⟩; have HB3 := hid (below_on _ _ ((Below.refl w2.heap.size w2).alloc (Nat.le_refl _) _) hb3); clear hb3
             obtain ⟨v4, w4, hrun, htx4, hgr4, hloc⟩ := (HTX2.out.below HB3.out).push x (okNm_len (HNM.out _ (gget_mem HG.out))) (by have := HI.out.co.len; have := HL.out; omega) (Nat.le_trans HB2.out.size HB3.out.size)
             have HRUN := hid hrun; have HTX4 := hid htx4; have HGR4 := hid hgr4; have HLOC := hid hloc; clear hrun htx4 hgr4 hloc)
          | (at_builtin; refine wpList_append_run _ _ 54 rfl rfl _ _ v4 rfl rfl HRUN.out ?_))
        go_roundw
        case rel =>
          refine ⟨fun z => left z && !z.sameKey (.string x), cnt2, ss ++ [x], ?_⟩
          have hge := fun b hb => (own_ge HTX2.out.t b hb).1
          have hr3 := HRG2.out.kept (grown_of_below HB3.out) (by simp) (by simp)
          have hr4 := hr3.alloc (.cells #[sv x] 9)
          have hne : some w.heap.size ≠ (Value.slice po5 ss.length cc5).ownBlock := row_ne_iter (HTX2.out.below HB3.out).t hr3
          have hnm : some m ≠ (Value.slice po5 ss.length cc5).ownBlock := fun e => by have := hge m e.symm; omega
          exact ⟨hr4.kept HGR4.out hnm hne, HCO.out, HTX4.out, below_on_grown (below_on _ _ (below_on _ _ HB2.out HB3.out) ((Below.refl _ _).alloc (Nat.le_refl _) _)) HGR4.out (fun b hb => hge b hb)⟩
        case measure =>
          have hge := fun b hb => (own_ge HTX2.out.t b hb).1
          have hr3 := HRG2.out.kept (grown_of_below HB3.out) (by simp) (by simp)
          have hr4 := hr3.alloc (.cells #[sv x] 9)
          have hne : some w.heap.size ≠ (Value.slice po5 ss.length cc5).ownBlock := row_ne_iter (HTX2.out.below HB3.out).t hr3
          have hnm : some m ≠ (Value.slice po5 ss.length cc5).ownBlock := fun e => by have := hge m e.symm; omega
          rw [(hr4.kept HGR4.out hnm hne).left_eq, HI.out.rg.left_eq]; exact HLT.out
def ListS (w : World) (er : Nat) (ns : List Nm) (e : Ending) (w' : World) : Prop :=
  ∃ po c, e = .returned (.tuple #[.slice po ns.length c, .int .i64 (er : Int)]) ∧ TxtS w.heap.size w' (.slice po ns.length c) ns ∧ Below w.heap.size w w'
section
variable {w : World} {S : Nat → Prop} {p m : Nat} {fu : Option Nat} {d : Pd} {L : List (Nm × Ent)}
theorem list2_any (h : DrC w S p m fu d L) {f : Fs} (hf : FuAt w S fu f) (pre : Nm) (hl : d.F.length < 1000000000000) : Calls Try.prog 22 #[ptr p, sv pre] w (ListS w (d.ans f []) (d.list f pre)) := by
  have HA := hid (fun (o : Obj) => answers_any (h.alloc o) (hf.alloc o) (.slice none 0 0) [] (Or.inl ⟨rfl, rfl⟩) (by simp) (by simp))
  have HN := hid (names2_l (h.alloc (.cells #[sv pre] 9)) (fun x _ => pre.isPrefixOf x) (ptr w.heap.size) (fun _ _ _ _ => rfl) (fun w1 hw1 x po n c l => list1_any x pre po n c l w.heap.size w1 (((CAt.made w _ _).below hw1).cell 0)) hl)
  clear h hf
  by_cases ha : d.ans f [] = 0
  · have e : d.list f pre = namesOf d.F (fun x _ => pre.isPrefixOf x) := by unfold Pd.list; rw [if_pos ha]
    rw [e, ha]
    clear e
    go_enter Try.func22, Try.ntmps22
    go_wp2_with (first
      | (go_at_call 60; refine (HA.out _).mono ?_; rintro e w' ⟨rfl, hw'⟩; rw [ha]; have hw2 := hw'.symm; subst hw2)
      | (go_at_call 61; refine HN.out.mono ?_; rintro e w1 ⟨po, c, rfl, htx, hb⟩; have HR := hid (And.intro htx hb); clear htx hb))
    go_ret2
    exact ⟨po, c, rfl, HR.out.1.base (by rw [size_al]; omega), below_on _ _ ((Below.refl _ _).alloc (Nat.le_refl _) _) HR.out.2⟩
  · have e : d.list f pre = [] := by unfold Pd.list; rw [if_neg ha]
    rw [e]
    clear e
    have ha' : ((d.ans f [] : Nat) : Int) ≠ 0 := by omega
    generalize hx : d.ans f [] = x at *
    go_enter Try.func22, Try.ntmps22
    go_wp2_with (first
      | (go_at_call 60; refine (HA.out _).mono ?_; rintro e w' ⟨rfl, hw'⟩; have hw2 := hw'.symm; subst hw2))
    go_ret2
    exact ⟨none, 0, rfl, TxtS.nil _ _, (Below.refl _ _).alloc (Nat.le_refl _) _⟩
end
#print axioms list2_any
end Go.Proofs.Ytfppmpfmafnfmaa

/- Contracts of bytes.Clone and Read with what the spare room holds; of OverBytes and OverTexts. (Read is written by tools/gen_Kq.py.) -/
namespace Go.Proofs.Ytfppmpfmafnfmaa
open Go Go.RowKit

theorem copyB_typed {w : World} {a : Addr} {bs : List Nat} (h : BAt w (some a) bs) (h8 : ∀ y ∈ bs, y < 256) (c : Nat) (hn : bs.length ≤ 1000000000) {v' : Value} {w' : World}
    (hr : (Builtin.append_ #[33, 33] 33 #[.slice (some ⟨w.heap.size, 0, none⟩) 0 0, .slice (some a) bs.length c]).run Try.prog (w.alloc (.cells #[] 5)) = .ok v' w') : AllQ Q8 5 w' v' := by
  have h0 : (w.alloc (.cells #[] 5)).ownsRow w.heap.size 5 1 (.slice (some ⟨w.heap.size, 0, none⟩) 0 0) 0 [] := World.ownsRow_made w #[] 0 (Nat.le_refl _) (by unfold maxLen; omega) (by simp)
  obtain ⟨i0, hi0, hz0, hz1, hz2⟩ := info_parts Try.info5
  rcases h with ⟨h, _⟩ | ⟨a', ha, h⟩
  · cases h
  · cases ha
    refine append_typed Q8 Try.underlying33 hi0 hz0 hz1 hz2 rfl ⟨0, rfl, by omega⟩ h0 (fun g hg cur hc u hu => ?_) (by simp) a bs.length c (bs.map u8) (by simp) (fun j u hj => ?_) (by intro u hu; simp at hu; obtain ⟨k, _, rfl⟩ := hu; rfl) (by intro u hu; obtain ⟨k, hk, rfl⟩ := List.mem_map.1 hu; exact ⟨k, rfl, h8 k hk⟩) (by unfold maxLen; omega) (by omega) hr
    · cases hg
      have h2 : CAt (w.alloc (.cells #[] 5)) w.heap.size #[] 5 := CAt.made w _ _
      unfold CAt at h2
      rw [h2] at hc; cases hc; cases hu
    · have hjl : j < bs.length := by
        rcases Nat.lt_or_ge j bs.length with q | q
        · exact q
        · rw [List.getElem?_eq_none (by simpa using q)] at hj; cases hj
      have e : u = u8 (bs.getD j 0) := by simp [hjl] at hj; rw [← hj]; simp [List.getD, hjl]
      have hc := h j hjl
      rw [e]
      exact (World.cell?_of_block (((Below.refl w.heap.size w).alloc (Nat.le_refl _) _).block (a.add j).block (cell_lt' (by rw [hc]; simp)))).trans hc
def CloneS (w : World) (bs : List Nat) (e : Ending) (w' : World) : Prop :=
  ∃ po c, e = .returned (.slice po bs.length c) ∧ w'.ownsRow w.heap.size 5 1 (.slice po bs.length c) bs.length (bs.map u8) ∧ AllQ Q8 5 w' (.slice po bs.length c) ∧ Below w.heap.size w w'
theorem clone2_any (po : Option Addr) (c : Nat) (bs : List Nat) (w : World) (h : BAt w po bs) (hn : bs.length ≤ 1000000000) (h8 : ∀ y ∈ bs, y < 256) : Calls Try.prog 41 #[.slice po bs.length c] w (CloneS w bs) := by
  have hq := fun (w : World) (a : Option Addr) (n c n' c' : Nat) => Lib.run_eql_slice_nil (P := Try.prog) w 33 5 a n c n' c' Try.underlying33
  by_cases hp : po = none
  · subst hp
    have : bs = [] := by
      rcases h with ⟨_, h⟩ | ⟨a, h, _⟩
      · exact h
      · cases h
    subst this
    go_enter Try.func41, Try.ntmps41
    go_wp2
    go_ret
    exact ⟨none, 0, rfl, World.ownsRow_nil _ _ _ _, AllQ.nil _ _ _ _ _, Below.refl _ _⟩
  · obtain ⟨a, rfl⟩ := Option.ne_none_iff_exists'.1 hp
    obtain ⟨po', c', w', hrun, how, hb⟩ := copyB h c hn
    have HQ := hid (copyB_typed h h8 c hn hrun)
    have HRUN := hid hrun
    have HOW := hid how
    have HB := hid hb
    clear hrun how hb h h8 hp
    go_enter Try.func41, Try.ntmps41
    go_wp2_with (at_builtin; refine wpList_append_run _ _ 33 rfl rfl _ _ _ rfl rfl HRUN.out ?_)
    go_ret
    exact ⟨po', c', rfl, HOW.out, HQ.out, HB.out⟩
def ReadS (w : World) (er : Nat) (bs : List Nat) (e : Ending) (w' : World) : Prop :=
  ∃ po c, e = .returned (.tuple #[.slice po bs.length c, .int .i64 (er : Int)]) ∧ w'.ownsRow w.heap.size 5 1 (.slice po bs.length c) bs.length (bs.map u8) ∧ AllQ Q8 5 w' (.slice po bs.length c) ∧ Below w.heap.size w w'
section
variable {w : World} {S : Nat → Prop} {p m : Nat} {fu : Option Nat} {d : Pd} {L : List (Nm × Ent)}
set_option maxRecDepth 100000 in
theorem read2_any (h : DrC w S p m fu d L) {f : Fs} (hf : FuAt w S fu f) (s : Nm) (hs : s.length ≤ maxLen) :
    Calls Try.prog 21 #[ptr p, sv s] w (ReadS w (d.readE f s) (d.readB f s)) := by
  have H := hid h
  have HFD := hid (find_any h hf s hs)
  have hus := h.us
  have hsz := h.sz
  have HSR := hid h.srtF
  clear h hf
  by_cases hr : d.readE f s = 0
  · obtain ⟨e, po, c, hg, hv, hev, hgF⟩ := H.out.getE hr
    have HV : Hid (fileOf (findV d f L s) = .agg #[.slice po e.b.length c, .bool e.l]) := hid (by rw [hv, ← hev])
    have HEQ := hid (readB_ok hr hgF)
    have hle := used_le HSR.out hgF
    simp only at hle
    have HLE := hid hle
    have HEV := hid hev
    have HOW := hid (H.out.ow _ (gget_mem hg))
    have HSF := hid (H.out.sf _ (gget_mem hg))
    clear hv hev hgF hle
    go_enter Try.func21, Try.ntmps21
    go_wp2_with (first
      | (go_at_call 59; refine HFD.out.mono ?_; rintro e1 w1 ⟨rfl, hb1⟩; rw [hr, HV.out]; have HB1 := hid hb1; have H1 := hid ((H.out.below hb1).alloc (.cells #[.slice po e.b.length c, .bool e.l] 78)); clear hb1)
      | (go_at_call 41; refine (clone2_any po c e.b _ (own_BAt (c := c) (n := e.b.length) (B := 0) (by have := H1.out.ow _ (gget_mem hg); simp only at this; rw [HEV.out] at this; exact this)) (by have := HLE.out; omega) (H1.out.by8 _ (gget_mem hg))).mono ?_; rintro e2 w2 ⟨pv, cv, rfl, ho2, hq2, hb2⟩; have HO2 := hid ho2; have HQ2 := hid hq2; have HB2 := hid hb2; clear ho2 hb2 hq2))
    go_ret2
    rw [hr, HEQ.out]
    have hbb := below_on _ _ HB1.out ((Below.refl w1.heap.size w1).alloc (Nat.le_refl _) (.cells #[.slice po e.b.length c, .bool e.l] 78))
    exact ⟨pv, cv, rfl, own_base HO2.out hbb.size, HQ2.out, below_on _ _ hbb HB2.out⟩
  · have HEQ := hid (readB_bad hr)
    have HV := hid (findV_bad (L := L) hr)
    have hr' : ((d.readE f s : Nat) : Int) ≠ 0 := by omega
    generalize hx : d.readE f s = x at *
    go_enter Try.func21, Try.ntmps21
    go_wp2_with (first
      | (go_at_call 59; refine HFD.out.mono ?_; rintro e1 w1 ⟨rfl, hb1⟩; rw [hx, HV.out]; have HB1 := hid hb1; clear hb1))
    go_ret2
    rw [HEQ.out]
    exact ⟨none, 0, rfl, World.ownsRow_nil _ _ _ _, AllQ.nil _ _ _ _ _, below_on _ _ HB1.out ((Below.refl w1.heap.size w1).alloc (Nat.le_refl _) _)⟩
end
theorem elem8 (w : World) : (sizeOf (Try.prog.elem 33)).run Try.prog w = .ok 1 w := by
  have hi : (Try.prog.info? (Try.prog.elem 33)).map (·.size) = some 1 := by kernel_rfl
  obtain ⟨i, h1, h2⟩ := Option.map_eq_some_iff.1 hi
  simp [sizeOf, typeInfo, h1, h2]
theorem elemT (w : World) : (sizeOf (Try.prog.elem 54)).run Try.prog w = .ok 1 w := by
  have hi : (Try.prog.info? (Try.prog.elem 54)).map (·.size) = some 1 := by kernel_rfl
  obtain ⟨i, h1, h2⟩ := Option.map_eq_some_iff.1 hi
  simp [sizeOf, typeInfo, h1, h2]
theorem underE8 : Try.prog.underlying 33 = some (.slice (Try.prog.elem 33)) := by kernel_rfl
theorem underET : Try.prog.underlying 54 = some (.slice (Try.prog.elem 54)) := by kernel_rfl
theorem run_cap8 (g n c : Nat) (w : World) : (Instr.slice 33 (.slice (some ⟨g, 0, none⟩) n c) none (some (.int .i64 (c : Int))) none).run Try.prog w = .ok (.slice (some ⟨g, 0, none⟩) c c) w := by
  rw [run_slice_h (P := Try.prog) w 33 _ n c underE8 .i64 (c : Int) (by omega) (by omega), elem8]
  by_cases h0 : c = 0
  · simp [Result.andThen, sliced, h0]
  · simp [Result.andThen, sliced, h0, Addr.add]
theorem run_capT (g n c : Nat) (w : World) : (Instr.slice 54 (.slice (some ⟨g, 0, none⟩) n c) none (some (.int .i64 (c : Int))) none).run Try.prog w = .ok (.slice (some ⟨g, 0, none⟩) c c) w := by
  rw [run_slice_h (P := Try.prog) w 54 _ n c underET .i64 (c : Int) (by omega) (by omega), elemT]
  by_cases h0 : c = 0
  · simp [Result.andThen, sliced, h0]
  · simp [Result.andThen, sliced, h0, Addr.add]
/-- c cells of a block, each of which is such, and may be written. -/
structure CellsQ (Q : Value → Prop) (w : World) (g c : Nat) : Prop where
  c : ∀ i, i < c → ∃ u, Q u ∧ w.cell? ⟨g, i, none⟩ = some u
  f : ∀ i, w.frozen? ⟨g, i, none⟩ = false
theorem CellsQ.set {Q : Value → Prop} {w : World} {g c : Nat} (h : CellsQ Q w g c) (k : Nat) (u : Value) (hu : Q u) : CellsQ Q (w.setCell ⟨g, k, none⟩ u) g c :=
  ⟨fun i hi => by
    obtain ⟨x, hx, hc⟩ := h.c i hi
    by_cases e : i = k
    · subst e; exact ⟨u, hu, World.cell?_setCell_same _ _ _ hc⟩
    · exact ⟨x, hx, by rw [World.cell?_setCell_other _ _ _ _ (by intro h2; cases h2; exact e rfl)]; exact hc⟩, fun i => by rw [World.frozen?_setCell]; exact h.f i⟩
set_option maxRecDepth 100000 in
set_option maxHeartbeats 1000000 in
theorem over2_any (g n c : Nat) (w : World) (hn : c ≤ maxLen) (h : CellsQ Q8 w g c) :
    Calls Try.prog 47 #[.slice (some ⟨g, 0, none⟩) n c] w fun e w' => e = .returned (.tuple #[]) ∧ Only (fun b => b = g) w w' := by
  have hs := run_cap8 g n c
  have H := hid h
  have hn' : c ≤ 9223372036854775807 := hn
  clear h hn
  go_enter Try.func47, Try.ntmps47
  go_wp2
  clear hs
  go_loopw [3] (fun i wr => ∃ k : Nat, k ≤ c ∧ i = .int .i64 k ∧ Only (fun b => b = g) w wr ∧ CellsQ Q8 wr g c) (fun i _ => (c - intOf i).toNat)
  case atStart => exact ⟨0, by omega, rfl, Only.refl _ _, H.out⟩
  case round =>
    clear H
    obtain ⟨k, hk, rfl, ho, hr⟩ := hrel
    by_cases hlt : k < c
    · have hlt' : (k : Int) < (c : Int) := by omega
      obtain ⟨u, ⟨z, rfl, hz⟩, hcz⟩ := hr.c k hlt
      have hfz := hr.f k
      have hx : bits BinOp.xor IntKind.u8 (z : Int) 90 = ((z ^^^ 90 : Nat) : Int) := u8_xor_nat z 90 hz (by decide)
      have HO := hid (ho.trans (Only.set (S := fun b => b = g) wr ⟨g, k, none⟩ (.int .u8 ((z ^^^ 90 : Nat) : Int)) rfl))
      have HR := hid (hr.set k (.int .u8 ((z ^^^ 90 : Nat) : Int)) ⟨z ^^^ 90, rfl, xor_lt hz (by decide)⟩)
      have hcz' : wr.cell? ⟨g, k, none⟩ = some (.int .u8 (z : Int)) := hcz
      clear hcz
      clear hr ho
      generalize z ^^^ 90 = y at *
      go_wp2
      go_roundw
      case rel => exact ⟨k + 1, by omega, by go_num, HO.out, HR.out⟩
      case measure => simp [intOf]; omega
    · have hlt' : ¬ (k : Int) < (c : Int) := by omega
      have HO := hid ho
      clear hr ho
      go_wp2
      go_end0
      exact ⟨rfl, HO.out⟩
theorem over2_nil (w : World) : Calls Try.prog 47 #[.slice none 0 0] w fun e w' => e = .returned (.tuple #[]) ∧ w' = w := by
  go_enter Try.func47, Try.ntmps47
  go_wp2
  refine wp_loop_rounds 1 ?_
  rw [rounds_succ]
  go_wp2
  go_end0
  exact ⟨rfl, rfl⟩
theorem overT_nil (w : World) : Calls Try.prog 58 #[.slice none 0 0] w fun e w' => e = .returned (.tuple #[]) ∧ w' = w := by
  go_enter Try.func58, Try.ntmps58
  go_wp2
  refine wp_loop_rounds 1 ?_
  rw [rounds_succ]
  go_wp2
  go_end0
  exact ⟨rfl, rfl⟩
set_option maxRecDepth 100000 in
set_option maxHeartbeats 1000000 in
theorem overT_any (g n c : Nat) (w : World) (hn : c ≤ maxLen) (h : CellsQ QS w g c) :
    Calls Try.prog 58 #[.slice (some ⟨g, 0, none⟩) n c] w fun e w' => e = .returned (.tuple #[]) ∧ Only (fun b => b = g) w w' := by
  have hs := run_capT g n c
  have H := hid h
  have hn' : c ≤ 9223372036854775807 := hn
  clear h hn
  go_enter Try.func58, Try.ntmps58
  go_wp2
  clear hs
  go_loopw [3] (fun i wr => ∃ k : Nat, k ≤ c ∧ i = .int .i64 k ∧ Only (fun b => b = g) w wr ∧ CellsQ (fun _ => True) wr g c ∧ ∀ j, k ≤ j → wr.cell? ⟨g, j, none⟩ = w.cell? ⟨g, j, none⟩) (fun i _ => (c - intOf i).toNat)
  case atStart => exact ⟨0, by omega, rfl, Only.refl _ _, ⟨fun i hi => by obtain ⟨u, _, hc⟩ := H.out.c i hi; exact ⟨u, trivial, hc⟩, H.out.f⟩, fun _ _ => rfl⟩
  case round =>
    obtain ⟨k, hk, rfl, ho, hr, hsame⟩ := hrel
    by_cases hlt : k < c
    · have hlt' : (k : Int) < (c : Int) := by omega
      obtain ⟨u, ⟨s, rfl, hz⟩, hcz⟩ := H.out.c k hlt
      have hcz2 := (hsame k (Nat.le_refl _)).trans hcz
      have hfz := hr.f k
      have hsz : (⟨s.toArray⟩ : ByteArray).size ≤ 512 := by simpa [ByteArray.size] using hz
      unfold sv at hcz2
      generalize (⟨s.toArray⟩ : ByteArray) = X at *
      have HO := hid ho
      have HR := hid hr
      have HS := hid hsame
      clear hr ho hsame hcz
      go_wp2
      go_roundw
      case rel => exact ⟨k + 1, by omega, by go_num, HO.out.trans (Only.set (S := fun b => b = g) wr ⟨g, k, none⟩ _ rfl), HR.out.set k _ trivial, fun j hj => by rw [World.cell?_setCell_other _ _ _ _ (by intro h2; cases h2; omega)]; exact HS.out j (by omega)⟩
      case measure => simp [intOf]; omega
    · have hlt' : ¬ (k : Int) < (c : Int) := by omega
      have HO := hid ho
      clear hr ho hsame
      go_wp2
      go_end0
      exact ⟨rfl, HO.out⟩
/-- A row of one's own is such cells. -/
theorem cells_of {Q : Value → Prop} {w : World} {B e n : Nat} {v : Value} {xs : List Value} (h : w.ownsRow B e 1 v n xs) (hq : AllQ Q e w v) : v = .slice none 0 0 ∨ ∃ g c, v = .slice (some ⟨g, 0, none⟩) n c ∧ B ≤ g ∧ c ≤ maxLen ∧ CellsQ Q w g c := by
  rcases h.2 with ⟨h1, _⟩ | ⟨g, cap, cur, rfl, hB, hg, _, hm, hs, _⟩
  · exact Or.inl h1
  · have hc : CAt w g cur e := hg
    refine Or.inr ⟨g, cap, rfl, hB, hm, fun i hi => ?_, fun i => hc.free i⟩
    have hi2 : i < cur.size := by omega
    exact ⟨cur[i], hq g rfl cur hg _ (by simp), by rw [hc.cell, Array.getElem?_eq_getElem hi2]⟩
theorem over_row {w : World} {B n : Nat} {v : Value} {xs : List Value} (h : w.ownsRow B 5 1 v n xs) (hq : AllQ Q8 5 w v) : Calls Try.prog 47 #[v] w fun e w' => e = .returned (.tuple #[]) ∧ Only (fun b => B ≤ b) w w' := by
  rcases cells_of h hq with rfl | ⟨g, c, rfl, hB, hm, hc⟩
  · exact (over2_nil w).mono fun e w' ⟨h1, h2⟩ => ⟨h1, by rw [h2]; exact Only.refl _ _⟩
  · exact (over2_any g n c w hm hc).mono fun e w' ⟨h1, h2⟩ => ⟨h1, h2.mono fun b (e : b = g) => (by rw [e]; exact hB)⟩
theorem overT_row {w : World} {B : Nat} {v : Value} {ns : List Nm} (h : TxtS B w v ns) : Calls Try.prog 58 #[v] w fun e w' => e = .returned (.tuple #[]) ∧ Only (fun b => B ≤ b) w w' := by
  rcases cells_of h.t h.q with rfl | ⟨g, c, rfl, hB, hm, hc⟩
  · exact (overT_nil w).mono fun e w' ⟨h1, h2⟩ => ⟨h1, by rw [h2]; exact Only.refl _ _⟩
  · exact (overT_any g ns.length c w hm hc).mono fun e w' ⟨h1, h2⟩ => ⟨h1, h2.mono fun b (e : b = g) => (by rw [e]; exact hB)⟩
#print axioms read2_any
#print axioms over_row
#print axioms overT_row
end Go.Proofs.Ytfppmpfmafnfmaa

/- Two drives beside one another, of either kind, with fuses of their own or one together. -/
namespace Go.Proofs.Ytfppmpfmafnfmaa
open Go Go.RowKit

abbrev DrP := World → (Nat → Prop) → Nat → Option Nat → Pd → Prop
structure DOk (DA : DrP) : Prop where
  keep : ∀ {w w' : World} {S : Nat → Prop} {p : Nat} {fu : Option Nat} {d : Pd}, DA w S p fu d → w.heap.size ≤ w'.heap.size → (∀ b, S b → w'.heap[b]? = w.heap[b]?) → DA w' S p fu d
  lt : ∀ {w : World} {S : Nat → Prop} {p : Nat} {fu : Option Nat} {d : Pd}, DA w S p fu d → ∀ b, S b → b < w.heap.size
  sp : ∀ {w : World} {S : Nat → Prop} {p : Nat} {fu : Option Nat} {d : Pd}, DA w S p fu d → S p
theorem dok_p : DOk DrAt := ⟨fun h hs hk => h.keep hs hk, fun ⟨_, _, h⟩ => h.lt, fun ⟨_, _, h⟩ => h.sp⟩
theorem dok_r : DOk RfAt := ⟨fun ⟨v, L, h⟩ hs hk => ⟨v, L, h.keep hs hk⟩, fun ⟨_, _, h⟩ => h.lt, fun ⟨_, _, h⟩ => h.sp⟩
def FuG (tf : TypeId) (w : World) (S : Nat → Prop) : Option Nat → Fs → Prop
  | none, none => True
  | some q, some (n, g) => CAt w q #[.int .i64 (n : Int), .bool g] tf ∧ ¬ S q ∧ n ≤ 9223372036854775807
  | _, _ => False
theorem fug_p {w : World} {S : Nat → Prop} : ∀ {fu : Option Nat} {f : Fs}, FuG 81 w S fu f ↔ FuAt w S fu f
  | none, none => Iff.rfl
  | none, some _ => Iff.rfl
  | some _, none => Iff.rfl
  | some _, some (_, _) => Iff.rfl
theorem fug_r {w : World} {S : Nat → Prop} : ∀ {fu : Option Nat} {f : Fs}, FuG 83 w S fu f ↔ FuR w S fu f
  | none, none => Iff.rfl
  | none, some _ => Iff.rfl
  | some _, none => Iff.rfl
  | some _, some (_, _) => Iff.rfl
def foot (a b : Dl) (Sa Sb : Nat → Prop) (c : Nat) : Prop := Sa c ∨ Sb c ∨ a.fu = some c ∨ b.fu = some c
structure G2 (DA : DrP) (tf : TypeId) (w wr : World) (a b : Dl) (Sa Sb : Nat → Prop) (Z : Nat → Nat × Bool) : Prop where
  da : DA wr Sa a.p a.fu a.d
  db : DA wr Sb b.p b.fu b.d
  fa : ∀ z, a.fu = some z → CAt wr z #[.int .i64 ((Z z).1 : Int), .bool (Z z).2] tf ∧ (Z z).1 ≤ 9223372036854775807 ∧ w.heap.size ≤ z ∧ ¬ Sa z ∧ ¬ Sb z
  fb : ∀ z, b.fu = some z → CAt wr z #[.int .i64 ((Z z).1 : Int), .bool (Z z).2] tf ∧ (Z z).1 ≤ 9223372036854775807 ∧ w.heap.size ≤ z ∧ ¬ Sa z ∧ ¬ Sb z
  dj : ∀ c, Sa c → ¬ Sb c
  ga : ∀ c, Sa c → w.heap.size ≤ c
  gb : ∀ c, Sb c → w.heap.size ≤ c
section
variable {DA : DrP} {tf : TypeId} {w wr w' : World} {a b : Dl} {Sa Sb : Nat → Prop} {Z : Nat → Nat × Bool}
theorem G2.swap (h : G2 DA tf w wr a b Sa Sb Z) : G2 DA tf w wr b a Sb Sa Z :=
  ⟨h.db, h.da, fun z e => by obtain ⟨h1, h2, h3, h4, h5⟩ := h.fb z e; exact ⟨h1, h2, h3, h5, h4⟩, fun z e => by obtain ⟨h1, h2, h3, h4, h5⟩ := h.fa z e; exact ⟨h1, h2, h3, h5, h4⟩, fun c h1 h2 => h.dj c h2 h1, h.gb, h.ga⟩
theorem foot_swap {c : Nat} (h : foot b a Sb Sa c) : foot a b Sa Sb c := by
  rcases h with h | h | h | h
  · exact Or.inr (Or.inl h)
  · exact Or.inl h
  · exact Or.inr (Or.inr (Or.inr h))
  · exact Or.inr (Or.inr (Or.inl h))
theorem G2.flt (h : G2 DA tf w wr a b Sa Sb Z) (hD : DOk DA) {c : Nat} (hc : foot a b Sa Sb c) : c < wr.heap.size := by
  rcases hc with hc | hc | hc | hc
  · exact hD.lt h.da c hc
  · exact hD.lt h.db c hc
  · exact (h.fa c hc).1.lt
  · exact (h.fb c hc).1.lt
theorem G2.fge (h : G2 DA tf w wr a b Sa Sb Z) {c : Nat} (hc : foot a b Sa Sb c) : w.heap.size ≤ c := by
  rcases hc with hc | hc | hc | hc
  · exact h.ga c hc
  · exact h.gb c hc
  · exact (h.fa c hc).2.2.1
  · exact (h.fb c hc).2.2.1
theorem G2.fu (h : G2 DA tf w wr a b Sa Sb Z) : FuG tf wr Sa a.fu (a.fu.map Z) := by
  cases hq : a.fu with
  | none => exact trivial
  | some q => obtain ⟨h1, h2, _, h4, _⟩ := h.fa q hq; exact ⟨h1, h4, h2⟩
/-- What turns elsewhere turns nothing here. -/
theorem G2.frame (h : G2 DA tf w wr a b Sa Sb Z) (hD : DOk DA) {T : Nat → Prop} (ho : Only T wr w') (hT : ∀ c, T c → ¬ foot a b Sa Sb c) : G2 DA tf w w' a b Sa Sb Z := by
  have hk : ∀ c, foot a b Sa Sb c → w'.heap[c]? = wr.heap[c]? := fun c hc => ho.block c (h.flt hD hc) fun ht => hT c ht hc
  refine ⟨hD.keep h.da ho.size fun c hc => hk c (Or.inl hc), hD.keep h.db ho.size fun c hc => hk c (Or.inr (Or.inl hc)), fun z e => ?_, fun z e => ?_, h.dj, h.ga, h.gb⟩
  · obtain ⟨h1, h2⟩ := h.fa z e; exact ⟨h1.keep (hk z (Or.inr (Or.inr (Or.inl e)))), h2⟩
  · obtain ⟨h1, h2⟩ := h.fb z e; exact ⟨h1.keep (hk z (Or.inr (Or.inr (Or.inr e)))), h2⟩
/-- A call of the first drive that may turn its own blocks and its fuse. -/
theorem G2.turn (h : G2 DA tf w wr a b Sa Sb Z) (hD : DOk DA) (hbe : w.heap.size ≤ wr.heap.size) {S2 : Nat → Prop} {p2 : Nat} {fu2 : Option Nat} {d2 : Pd} {f2 : Fs} (hg : ∀ c, S2 c → Sa c ∨ wr.heap.size ≤ c) (hd : DA w' S2 p2 fu2 d2) (hfu : fu2 = a.fu ∨ fu2 = none)
    (hf : FuG tf w' S2 a.fu f2) (ho : Only (fun c => Sa c ∨ a.fu = some c) wr w') : G2 DA tf w w' ⟨p2, fu2, d2⟩ b S2 Sb (setZ Z a.fu f2) := by
  have hcase : ∀ z, a.fu = some z ∨ b.fu = some z → CAt w' z #[.int .i64 ((setZ Z a.fu f2 z).1 : Int), .bool (setZ Z a.fu f2 z).2] tf ∧ (setZ Z a.fu f2 z).1 ≤ 9223372036854775807 ∧ w.heap.size ≤ z ∧ ¬ S2 z ∧ ¬ Sb z := fun z e => by
    have hz := e.elim (h.fa z) (h.fb z)
    obtain ⟨h1, h2, h3, h4, h5⟩ := hz
    have hns : ¬ S2 z := fun hs => (hg z hs).elim h4 (fun hle => by have := h1.lt; omega)
    by_cases eq : a.fu = some z
    · have hz : setZ Z a.fu f2 z = f2.getD (0, false) := by unfold setZ; rw [if_pos eq]
      rw [hz]
      rw [eq] at hf
      match f2, hf with
      | some (n, g), hf => exact ⟨hf.1, hf.2.2, h3, hns, h5⟩
    · have hz : setZ Z a.fu f2 z = Z z := by unfold setZ; rw [if_neg eq]
      rw [hz]
      exact ⟨h1.keep (ho.block z h1.lt fun e2 => e2.elim h4 eq), h2, h3, hns, h5⟩
  refine ⟨hd, hD.keep h.db ho.size fun c hc => ho.block c (hD.lt h.db c hc) fun e => ?_, fun z e => ?_, fun z e => hcase z (Or.inr e), fun c h1 h2 => ?_, fun c hc => ?_, h.gb⟩
  · rcases e with e | e
    · exact h.dj c e hc
    · exact (h.fa c e).2.2.2.2 hc
  · rcases hfu with hfu | hfu
    · exact hcase z (Or.inl (by rw [← hfu]; exact e))
    · simp only at e; rw [hfu] at e; cases e
  · rcases hg c h1 with h3 | h3
    · exact h.dj c h3 h2
    · have := hD.lt h.db c h2; omega
  · rcases hg c hc with h3 | h3
    · exact h.ga c h3
    · omega
def litZ (Z : Nat → Nat × Bool) (z n : Nat) : Nat → Nat × Bool := fun x => if x = z then (n, false) else Z x
theorem G2.lit1 (h : G2 DA tf w wr a b Sa Sb Z) (hD : DOk DA) (hbe : w.heap.size ≤ wr.heap.size) {n z : Nat} {d1 : Pd} (hn : n ≤ 9223372036854775807) (hz : wr.heap.size ≤ z) (h1 : DA w' Sa a.p (some z) d1) (hc : CAt w' z #[.int .i64 (n : Int), .bool false] tf) (ho : Only (fun c => c = a.p) wr w') :
    G2 DA tf w w' ⟨a.p, some z, d1⟩ b Sa Sb (litZ Z z n) := by
  have hSa := hD.sp h.da
  refine ⟨h1, hD.keep h.db ho.size fun c hc => ho.block c (hD.lt h.db c hc) fun e => h.dj a.p hSa (e ▸ hc), fun z2 e => ?_, fun z2 e => ?_, h.dj, h.ga, h.gb⟩
  · cases e
    unfold litZ
    rw [if_pos rfl]
    exact ⟨hc, hn, Nat.le_trans hbe hz, fun hs => by have := hD.lt h.da z hs; omega, fun hs => by have := hD.lt h.db z hs; omega⟩
  · obtain ⟨k1, k2, k3, k4, k5⟩ := h.fb z2 e
    have hl := k1.lt
    unfold litZ
    rw [if_neg (by omega)]
    exact ⟨k1.keep (ho.block z2 hl fun e2 => k4 (e2 ▸ hSa)), k2, k3, k4, k5⟩
theorem G2.lit2 (h : G2 DA tf w wr a b Sa Sb Z) (hD : DOk DA) (hbe : w.heap.size ≤ wr.heap.size) {n z : Nat} {d1 d2 : Pd} (hn : n ≤ 9223372036854775807) (hz : wr.heap.size ≤ z) (h1 : DA w' Sa a.p (some z) d1) (h2 : DA w' Sb b.p (some z) d2) (hc : CAt w' z #[.int .i64 (n : Int), .bool false] tf) :
    G2 DA tf w w' ⟨a.p, some z, d1⟩ ⟨b.p, some z, d2⟩ Sa Sb (litZ Z z n) := by
  have hnew : ∀ z2, some z = some z2 → CAt w' z2 #[.int .i64 ((litZ Z z n z2).1 : Int), .bool (litZ Z z n z2).2] tf ∧ (litZ Z z n z2).1 ≤ 9223372036854775807 ∧ w.heap.size ≤ z2 ∧ ¬ Sa z2 ∧ ¬ Sb z2 := fun z2 e => by
    cases e
    unfold litZ
    rw [if_pos rfl]
    exact ⟨hc, hn, Nat.le_trans hbe hz, fun hs => by have := hD.lt h.da z hs; omega, fun hs => by have := hD.lt h.db z hs; omega⟩
  exact ⟨h1, h2, fun z2 e => hnew z2 e, fun z2 e => hnew z2 e, h.dj, h.ga, h.gb⟩
end
/-- Two drives, and two of the document's; all their blocks are in T. -/
def JB0 (w wr : World) (a b a' b' : Dl) (Z ZR : Nat → Nat × Bool) (T Sa Sb Ra Rb : Nat → Prop) : Prop :=
  G2 DrAt 81 w wr a b Sa Sb Z ∧ G2 RfAt 83 w wr a' b' Ra Rb ZR ∧ (∀ c, foot a b Sa Sb c → ¬ foot a' b' Ra Rb c) ∧ (∀ c, foot a b Sa Sb c ∨ foot a' b' Ra Rb c → T c) ∧ (∀ c, T c → c < wr.heap.size) ∧ (∀ c, T c → w.heap.size ≤ c) ∧ Below w.heap.size w wr
def JB (w wr : World) (a b a' b' : Dl) (Z ZR : Nat → Nat × Bool) (T : Nat → Prop) : Prop := ∃ Sa Sb Ra Rb, JB0 w wr a b a' b' Z ZR T Sa Sb Ra Rb
section
variable {w wr w' : World} {a b a' b' : Dl} {Z ZR : Nat → Nat × Bool} {T Sa Sb Ra Rb : Nat → Prop}
theorem JB.be (h : JB w wr a b a' b' Z ZR T) : Below w.heap.size w wr := by obtain ⟨_, _, _, _, _, _, _, _, _, _, h⟩ := h; exact h
theorem JB.tl (h : JB w wr a b a' b' Z ZR T) : ∀ c, T c → c < wr.heap.size := by obtain ⟨_, _, _, _, _, _, _, _, h, _⟩ := h; exact h
theorem JB.tg (h : JB w wr a b a' b' Z ZR T) : ∀ c, T c → w.heap.size ≤ c := by obtain ⟨_, _, _, _, _, _, _, _, _, h, _⟩ := h; exact h
theorem JB.swap (h : JB w wr a b a' b' Z ZR T) : JB w wr b a b' a' Z ZR T := by
  obtain ⟨Sa, Sb, Ra, Rb, h1, h2, h3, h4, h5⟩ := h
  exact ⟨Sb, Sa, Rb, Ra, h1.swap, h2.swap, fun c k1 k2 => h3 c (foot_swap k1) (foot_swap k2), fun c k => h4 c (k.imp foot_swap foot_swap), h5⟩
/-- What turns outside T turns nothing here. -/
theorem JB.frame (h : JB w wr a b a' b' Z ZR T) {P : Nat → Prop} (ho : Only P wr w') (hP : ∀ c, P c → ¬ T c) (hPg : ∀ c, P c → w.heap.size ≤ c) : JB w w' a b a' b' Z ZR T := by
  obtain ⟨Sa, Sb, Ra, Rb, h1, h2, h3, h4, h5, h6, h7⟩ := h
  refine ⟨Sa, Sb, Ra, Rb, h1.frame dok_p ho fun c hp hf => hP c hp (h4 c (Or.inl hf)), h2.frame dok_r ho fun c hp hf => hP c hp (h4 c (Or.inr hf)), h3, h4, fun c hc => Nat.lt_of_lt_of_le (h5 c hc) ho.size, h6, ?_⟩
  exact ⟨ho.os.trans h7.os, ho.tape.trans h7.tape, ho.output.trans h7.output, Nat.le_trans h7.size ho.size, fun k hk => (ho.block k (Nat.lt_of_lt_of_le hk h7.size) (fun hp => by have := hPg k hp; omega)).trans (h7.block k hk)⟩
theorem JB.below (h : JB w wr a b a' b' Z ZR T) (hb : Below wr.heap.size wr w') : JB w w' a b a' b' Z ZR T := h.frame (P := fun _ => False) (Only.of_below hb) (fun _ h => h.elim) (fun _ h => h.elim)
theorem JB.alloc (h : JB w wr a b a' b' Z ZR T) (o : Obj) : JB w (wr.alloc o) a b a' b' Z ZR T := h.below ((Below.refl _ _).alloc (Nat.le_refl _) _)
/-- The first drive, and its fuse. -/
theorem JB.pd (h : JB w wr a b a' b' Z ZR T) : ∃ S, (∀ c, S c → T c) ∧ DrAt wr S a.p a.fu a.d ∧ FuAt wr S a.fu (a.fu.map Z) := by
  obtain ⟨Sa, Sb, Ra, Rb, h1, _, _, h4, _⟩ := h
  exact ⟨Sa, fun c hc => h4 c (Or.inl (Or.inl hc)), h1.da, fug_p.1 h1.fu⟩
theorem JB.rd (h : JB w wr a b a' b' Z ZR T) : ∃ S, (∀ c, S c → T c) ∧ RfAt wr S a'.p a'.fu a'.d ∧ FuR wr S a'.fu (a'.fu.map ZR) := by
  obtain ⟨Sa, Sb, Ra, Rb, _, h2, _, h4, _⟩ := h
  exact ⟨Ra, fun c hc => h4 c (Or.inr (Or.inl hc)), h2.da, fug_r.1 h2.fu⟩
theorem grw_not {T : Nat → Prop} {c : Nat} (h : ¬ T c) (hl : c < wr.heap.size) : ¬ grw T wr w' c := fun hg => hg.elim h (fun e => by omega)
/-- A step of the first of the drives. -/
theorem JB0.prog (h : JB0 w wr a b a' b' Z ZR T Sa Sb Ra Rb) {p2 : Nat} {fu2 : Option Nat} {d2 : Pd} {f2 : Fs} {S2 : Nat → Prop} (k1 : ∀ c, S2 c → Sa c ∨ wr.heap.size ≤ c) (k2 : DrAt w' S2 p2 fu2 d2) (k3 : fu2 = a.fu ∨ fu2 = none) (k4 : FuAt w' S2 a.fu f2) (k5 : Only (fun c => Sa c ∨ a.fu = some c) wr w') :
    JB w w' ⟨p2, fu2, d2⟩ b a' b' (setZ Z a.fu f2) ZR (grw T wr w') ∧ Only T wr w' := by
  obtain ⟨h1, h2, h3, h4, h5, h6, h7⟩ := h
  have ht := h1.turn dok_p h7.size k1 k2 k3 (fug_p.2 k4) k5
  have hOT : Only T wr w' := k5.mono fun c e => h4 c (Or.inl (e.elim Or.inl fun e => Or.inr (Or.inr (Or.inl e))))
  have hnf : ∀ c, Sa c ∨ a.fu = some c → ¬ foot a' b' Ra Rb c := fun c e => h3 c (e.elim Or.inl fun e => Or.inr (Or.inr (Or.inl e)))
  have hft : ∀ c, foot ⟨p2, fu2, d2⟩ b S2 Sb c → foot a b Sa Sb c ∨ (wr.heap.size ≤ c ∧ c < w'.heap.size) := fun c hc => by
    have hl := ht.flt dok_p hc
    rcases hc with hc | hc | hc | hc
    · exact (k1 c hc).imp Or.inl (fun e => ⟨e, hl⟩)
    · exact Or.inl (Or.inr (Or.inl hc))
    · rcases k3 with k3 | k3
      · exact Or.inl (Or.inr (Or.inr (Or.inl (by rw [← k3]; exact hc))))
      · simp only at hc; rw [k3] at hc; cases hc
    · exact Or.inl (Or.inr (Or.inr (Or.inr hc)))
  refine ⟨⟨S2, Sb, Ra, Rb, ht, h2.frame dok_r k5 hnf, fun c k q => ?_, fun c k => ?_, fun c hc => ?_, fun c hc => ?_, ?_⟩, hOT⟩
  · rcases hft c k with k | k
    · exact h3 c k q
    · have := h2.flt dok_r q; omega
  · rcases k with k | k
    · exact (hft c k).imp (fun e => h4 c (Or.inl e)) id
    · exact Or.inl (h4 c (Or.inr k))
  · exact hc.elim (fun e => Nat.lt_of_lt_of_le (h5 c e) k5.size) (·.2)
  · exact hc.elim (h6 c) (fun e => Nat.le_trans h7.size e.1)
  · exact ⟨k5.os.trans h7.os, k5.tape.trans h7.tape, k5.output.trans h7.output, Nat.le_trans h7.size k5.size, fun k hk => (hOT.block k (Nat.lt_of_lt_of_le hk h7.size) (fun hp => by have := h6 k hp; omega)).trans (h7.block k hk)⟩
/-- A step of the first of the document's drives. -/
theorem JB0.ref (h : JB0 w wr a b a' b' Z ZR T Sa Sb Ra Rb) {p2 : Nat} {fu2 : Option Nat} {d2 : Pd} {f2 : Fs} {S2 : Nat → Prop} (k1 : ∀ c, S2 c → Ra c ∨ wr.heap.size ≤ c) (k2 : RfAt w' S2 p2 fu2 d2) (k3 : fu2 = a'.fu ∨ fu2 = none) (k4 : FuR w' S2 a'.fu f2) (k5 : Only (fun c => Ra c ∨ a'.fu = some c) wr w') :
    JB w w' a b ⟨p2, fu2, d2⟩ b' Z (setZ ZR a'.fu f2) (grw T wr w') ∧ Only T wr w' := by
  obtain ⟨h1, h2, h3, h4, h5, h6, h7⟩ := h
  have ht := h2.turn dok_r h7.size k1 k2 k3 (fug_r.2 k4) k5
  have hOT : Only T wr w' := k5.mono fun c e => h4 c (Or.inr (e.elim Or.inl fun e => Or.inr (Or.inr (Or.inl e))))
  have hnf : ∀ c, Ra c ∨ a'.fu = some c → ¬ foot a b Sa Sb c := fun c e hf => h3 c hf (e.elim Or.inl fun e => Or.inr (Or.inr (Or.inl e)))
  have hft : ∀ c, foot ⟨p2, fu2, d2⟩ b' S2 Rb c → foot a' b' Ra Rb c ∨ (wr.heap.size ≤ c ∧ c < w'.heap.size) := fun c hc => by
    have hl := ht.flt dok_r hc
    rcases hc with hc | hc | hc | hc
    · exact (k1 c hc).imp Or.inl (fun e => ⟨e, hl⟩)
    · exact Or.inl (Or.inr (Or.inl hc))
    · rcases k3 with k3 | k3
      · exact Or.inl (Or.inr (Or.inr (Or.inl (by rw [← k3]; exact hc))))
      · simp only at hc; rw [k3] at hc; cases hc
    · exact Or.inl (Or.inr (Or.inr (Or.inr hc)))
  refine ⟨⟨Sa, Sb, S2, Rb, h1.frame dok_p k5 hnf, ht, fun c k q => ?_, fun c k => ?_, fun c hc => ?_, fun c hc => ?_, ?_⟩, hOT⟩
  · rcases hft c q with q | q
    · exact h3 c k q
    · have := h1.flt dok_p k; omega
  · rcases k with k | k
    · exact Or.inl (h4 c (Or.inl k))
    · exact (hft c k).imp (fun e => h4 c (Or.inr e)) id
  · exact hc.elim (fun e => Nat.lt_of_lt_of_le (h5 c e) k5.size) (·.2)
  · exact hc.elim (h6 c) (fun e => Nat.le_trans h7.size e.1)
  · exact ⟨k5.os.trans h7.os, k5.tape.trans h7.tape, k5.output.trans h7.output, Nat.le_trans h7.size k5.size, fun k hk => (hOT.block k (Nat.lt_of_lt_of_le hk h7.size) (fun hp => by have := h6 k hp; omega)).trans (h7.block k hk)⟩
/-- A call of the first of the drives that may change it. -/
theorem JB.run (h : JB w wr a b a' b' Z ZR T) {g : FuncId} {args : Array Value} {r : Nat × Pd × Fs} (hc : ∀ S m L, DrC wr S a.p m a.fu a.d L → FuAt wr S a.fu (a.fu.map Z) → Calls Try.prog g args wr (Done wr S a.p a.fu r)) :
    Calls Try.prog g args wr fun e w1 => e = .returned (.int .i64 (r.1 : Int)) ∧ JB w w1 ⟨a.p, a.fu, r.2.1⟩ b a' b' (setZ Z a.fu r.2.2) ZR (grw T wr w1) ∧ Only T wr w1 := by
  obtain ⟨Sa, Sb, Ra, Rb, h⟩ := h
  obtain ⟨m, L, hd⟩ := h.1.da
  exact (hc Sa m L hd (fug_p.1 h.1.fu)).mono fun e w1 ⟨e1, S2, hg, hd2, hf, ho⟩ => ⟨e1, h.prog hg.2 hd2 (Or.inl rfl) hf ho⟩
theorem JB.rrun (h : JB w wr a b a' b' Z ZR T) {g : FuncId} {args : Array Value} {r : Nat × Pd × Fs} (hc : ∀ S v L, RfC wr S a'.p v a'.fu a'.d L → FuR wr S a'.fu (a'.fu.map ZR) → Calls Try.prog g args wr (RDone wr S a'.p a'.fu r)) :
    Calls Try.prog g args wr fun e w1 => e = .returned (.int .i64 (r.1 : Int)) ∧ JB w w1 a b ⟨a'.p, a'.fu, r.2.1⟩ b' Z (setZ ZR a'.fu r.2.2) (grw T wr w1) ∧ Only T wr w1 := by
  obtain ⟨Sa, Sb, Ra, Rb, h⟩ := h
  obtain ⟨v, L, hd⟩ := h.2.1.da
  exact (hc Ra v L hd (fug_r.1 h.2.1.fu)).mono fun e w1 ⟨e1, S2, hg, hd2, hf, ho⟩ => ⟨e1, h.ref hg.2 hd2 (Or.inl rfl) hf ho⟩
theorem setZ_map (Z : Nat → Nat × Bool) (fu : Option Nat) : setZ Z fu (fu.map Z) = Z := by
  funext b
  unfold setZ
  split
  · rename_i e; rw [e]; rfl
  · rfl
/-- .. that turns no fuse. -/
theorem JB.runT (h : JB w wr a b a' b' Z ZR T) {g : FuncId} {args : Array Value} {r : Nat × Pd} (hc : ∀ S m L, DrC wr S a.p m a.fu a.d L → Calls Try.prog g args wr (TurnAt wr S a.p a.fu r)) :
    Calls Try.prog g args wr fun e w1 => e = .returned (.int .i64 (r.1 : Int)) ∧ JB w w1 ⟨a.p, a.fu, r.2⟩ b a' b' Z ZR (grw T wr w1) ∧ Only T wr w1 := by
  obtain ⟨Sa, Sb, Ra, Rb, h⟩ := h
  obtain ⟨m, L, hd⟩ := h.1.da
  refine (hc Sa m L hd).mono fun e w1 ⟨e1, hd2, ho⟩ => ⟨e1, ?_⟩
  have hf := fug_p.1 h.1.fu
  have := h.prog (S2 := Sa) (fun c hc => Or.inl hc) hd2 (Or.inl rfl) (hf.kept ho (fun q hq => hf.ne q hq)) (ho.mono fun c hc => Or.inl hc)
  rw [setZ_map] at this
  exact this
theorem JB.rrunT (h : JB w wr a b a' b' Z ZR T) {g : FuncId} {args : Array Value} {r : Nat × Pd} (hc : ∀ S v L, RfC wr S a'.p v a'.fu a'.d L → Calls Try.prog g args wr (RTurnAt wr S a'.p a'.fu r)) :
    Calls Try.prog g args wr fun e w1 => e = .returned (.int .i64 (r.1 : Int)) ∧ JB w w1 a b ⟨a'.p, a'.fu, r.2⟩ b' Z ZR (grw T wr w1) ∧ Only T wr w1 := by
  obtain ⟨Sa, Sb, Ra, Rb, h⟩ := h
  obtain ⟨v, L, hd⟩ := h.2.1.da
  refine (hc Ra v L hd).mono fun e w1 ⟨e1, S2, hg, hd2, ho⟩ => ⟨e1, ?_⟩
  have hf := fug_r.1 h.2.1.fu
  have := h.ref hg.2 hd2 (Or.inl rfl) (hf.grow ho hd.sp hg.2) (ho.mono fun c hc => Or.inl (hc ▸ hd.sp))
  rw [setZ_map] at this
  exact this
end
#print axioms JB.run
#print axioms JB.rrunT
end Go.Proofs.Ytfppmpfmafnfmaa

/- Steps of two drives and of the document's: crashes, clones, fuses. -/
namespace Go.Proofs.Ytfppmpfmafnfmaa
open Go Go.RowKit
section
variable {w wr w' : World} {a b a' b' : Dl} {Z ZR : Nat → Nat × Bool} {T Sa Sb Ra Rb : Nat → Prop}
theorem JB0.newP (h : JB0 w wr a b a' b' Z ZR T Sa Sb Ra Rb) {a2 b2 : Dl} {S2 Sb2 : Nat → Prop} {Z2 : Nat → Nat × Bool} (g : G2 DrAt 81 w w' a2 b2 S2 Sb2 Z2) (hft : ∀ c, foot a2 b2 S2 Sb2 c → foot a b Sa Sb c ∨ wr.heap.size ≤ c) {U : Nat → Prop} (ho : Only U wr w') (hU : ∀ c, U c → foot a b Sa Sb c) :
    JB w w' a2 b2 a' b' Z2 ZR (grw T wr w') ∧ Only T wr w' := by
  obtain ⟨h1, h2, h3, h4, h5, h6, h7⟩ := h
  have hOT : Only T wr w' := ho.mono fun c e => h4 c (Or.inl (hU c e))
  refine ⟨⟨S2, Sb2, Ra, Rb, g, h2.frame dok_r ho fun c hc => h3 c (hU c hc), fun c k q => ?_, fun c k => ?_, fun c hc => ?_, fun c hc => ?_, ?_⟩, hOT⟩
  · rcases hft c k with k | k
    · exact h3 c k q
    · have := h2.flt dok_r q; omega
  · rcases k with k | k
    · exact (hft c k).imp (fun e => h4 c (Or.inl e)) (fun e => ⟨e, g.flt dok_p k⟩)
    · exact Or.inl (h4 c (Or.inr k))
  · exact hc.elim (fun e => Nat.lt_of_lt_of_le (h5 c e) ho.size) (·.2)
  · exact hc.elim (h6 c) (fun e => Nat.le_trans h7.size e.1)
  · exact ⟨ho.os.trans h7.os, ho.tape.trans h7.tape, ho.output.trans h7.output, Nat.le_trans h7.size ho.size, fun k hk => (hOT.block k (Nat.lt_of_lt_of_le hk h7.size) (fun hp => by have := h6 k hp; omega)).trans (h7.block k hk)⟩
theorem JB0.newR (h : JB0 w wr a b a' b' Z ZR T Sa Sb Ra Rb) {a2 b2 : Dl} {S2 Sb2 : Nat → Prop} {Z2 : Nat → Nat × Bool} (g : G2 RfAt 83 w w' a2 b2 S2 Sb2 Z2) (hft : ∀ c, foot a2 b2 S2 Sb2 c → foot a' b' Ra Rb c ∨ wr.heap.size ≤ c) {U : Nat → Prop} (ho : Only U wr w') (hU : ∀ c, U c → foot a' b' Ra Rb c) :
    JB w w' a b a2 b2 Z Z2 (grw T wr w') ∧ Only T wr w' := by
  obtain ⟨h1, h2, h3, h4, h5, h6, h7⟩ := h
  have hOT : Only T wr w' := ho.mono fun c e => h4 c (Or.inr (hU c e))
  refine ⟨⟨Sa, Sb, S2, Sb2, h1.frame dok_p ho fun c hc hf => h3 c hf (hU c hc), g, fun c k q => ?_, fun c k => ?_, fun c hc => ?_, fun c hc => ?_, ?_⟩, hOT⟩
  · rcases hft c q with q | q
    · exact h3 c k q
    · have := h1.flt dok_p k; omega
  · rcases k with k | k
    · exact Or.inl (h4 c (Or.inl k))
    · exact (hft c k).imp (fun e => h4 c (Or.inr e)) (fun e => ⟨e, g.flt dok_r k⟩)
  · exact hc.elim (fun e => Nat.lt_of_lt_of_le (h5 c e) ho.size) (·.2)
  · exact hc.elim (h6 c) (fun e => Nat.le_trans h7.size e.1)
  · exact ⟨ho.os.trans h7.os, ho.tape.trans h7.tape, ho.output.trans h7.output, Nat.le_trans h7.size ho.size, fun k hk => (hOT.block k (Nat.lt_of_lt_of_le hk h7.size) (fun hp => by have := h6 k hp; omega)).trans (h7.block k hk)⟩
theorem JB.crash (h : JB w wr a b a' b' Z ZR T) (po : Option Addr) (c : Nat) (ks : List Bool) (hk : ∀ S : Nat → Prop, (∀ c, S c → T c) → KAt wr S po ks) (hkn : ks.length ≤ 1000000000) (hl : a.d.F.length < 1000000000000) :
    Calls Try.prog 30 #[ptr a.p, .slice po ks.length c] wr fun e w1 => e = .returned (.int .i64 0) ∧ JB w w1 ⟨a.p, none, a.d.crash ks⟩ b a' b' Z ZR (grw T wr w1) ∧ Only T wr w1 := by
  obtain ⟨Sa, Sb, Ra, Rb, h⟩ := h
  obtain ⟨m, L, hd⟩ := h.1.da
  refine (crash_any hd po c ks (hk Sa fun c hc => h.2.2.2.1 c (Or.inl (Or.inl hc))) hkn hl).mono fun e w1 ⟨e1, hd2, ho2⟩ => ⟨e1, ?_⟩
  have ho : Only Sa wr w1 := ho2.mono fun b hb => hb.elim (fun e => e ▸ hd.sp) (fun e => e ▸ hd.sm)
  have hf := fug_p.1 h.1.fu
  have := h.prog (S2 := Sa) (fun c hc => Or.inl hc) hd2 (Or.inr rfl) (hf.kept ho (fun q hq => hf.ne q hq)) (ho.mono fun c hc => Or.inl hc)
  rw [setZ_map] at this
  exact this
theorem JB.rcrash (h : JB w wr a b a' b' Z ZR T) (po : Option Addr) (c : Nat) (ks : List Bool) (hk : KAt wr (fun _ => False) po ks) (hkn : ks.length ≤ 1000000000) (hl : a'.d.F.length < 999000) :
    Calls Try.prog 54 #[ptr a'.p, .slice po ks.length c] wr fun e w1 => e = .returned (.int .i64 0) ∧ JB w w1 a b ⟨a'.p, none, a'.d.crash ks⟩ b' Z ZR (grw T wr w1) ∧ Only T wr w1 := by
  obtain ⟨Sa, Sb, Ra, Rb, h⟩ := h
  obtain ⟨v, L, hd⟩ := h.2.1.da
  refine (rcrash_any hd po c ks hk hkn (by rw [hd.lenF]; exact hl)).mono fun e w1 ⟨e1, R2, hg, hd2, ho⟩ => ⟨e1, ?_⟩
  have hf := fug_r.1 h.2.1.fu
  have := h.ref hg.2 hd2 (Or.inr rfl) (hf.grow ho hd.sp hg.2) (ho.mono fun c hc => Or.inl (hc ▸ hd.sp))
  rw [setZ_map] at this
  exact this
theorem JB.clone (h : JB w wr a b a' b' Z ZR T) (hl : a.d.F.length < 1000000000000) :
    Calls Try.prog 12 #[ptr a.p] wr fun e w1 => ∃ pc, e = .returned (ptr pc) ∧ JB w w1 ⟨pc, none, a.d.lit (a.fu.map Z)⟩ b a' b' Z ZR (grw T wr w1) ∧ Only T wr w1 := by
  obtain ⟨Sa, Sb, Ra, Rb, h⟩ := h
  obtain ⟨m, L, hd⟩ := h.1.da
  refine (dclone_any hd (fug_p.1 h.1.fu) hl).mono fun e w1 ⟨pc, e1, hd2, hb⟩ => ⟨pc, e1, ?_⟩
  have hf := fug_p.1 h.1.fu
  have hf2 : FuAt w1 (fun c => wr.heap.size ≤ c ∧ c < w1.heap.size) a.fu (a.fu.map Z) := by
    cases hq : a.fu with
    | none => exact trivial
    | some z => rw [hq] at hf; exact ⟨hf.1.below hb, fun e => by have := hf.1.lt; omega, hf.2.2⟩
  have := h.prog (S2 := fun c => wr.heap.size ≤ c ∧ c < w1.heap.size) (fun c hc => Or.inr hc.1) hd2 (Or.inr rfl) hf2 (Only.of_below hb)
  rw [setZ_map] at this
  exact this
theorem JB.rclone (h : JB w wr a b a' b' Z ZR T) (hl : a'.d.F.length < 999000) :
    Calls Try.prog 13 #[ptr a'.p] wr fun e w1 => ∃ pc, e = .returned (ptr pc) ∧ JB w w1 a b ⟨pc, none, a'.d.lit (a'.fu.map ZR)⟩ b' Z ZR (grw T wr w1) ∧ Only T wr w1 := by
  obtain ⟨Sa, Sb, Ra, Rb, h⟩ := h
  obtain ⟨v, L, hd⟩ := h.2.1.da
  refine (rclone_any hd (fug_r.1 h.2.1.fu) (by rw [hd.lenF]; exact hl)).mono fun e w1 ⟨pc, e1, hd2, hb, hpc⟩ => ⟨pc, e1, ?_⟩
  have hf := fug_r.1 h.2.1.fu
  have hf2 : FuR w1 (grw Ra wr w1) a'.fu (a'.fu.map ZR) := by
    cases hq : a'.fu with
    | none => exact trivial
    | some z => rw [hq] at hf; exact ⟨hf.1.below hb, fun e => e.elim hf.2.1 (fun e => by have := hf.1.lt; omega), hf.2.2⟩
  have := h.ref (S2 := grw Ra wr w1) (fun c hc => hc.imp id (·.1)) hd2 (Or.inr rfl) hf2 (Only.of_below hb)
  rw [setZ_map] at this
  exact this
theorem JB.fuse1 (h : JB w wr a b a' b' Z ZR T) (bl c : Nat) (hc : CAt wr bl #[ptr a.p] 23) (n : Nat) (hn : n ≤ 9223372036854775807) :
    Calls Try.prog 14 #[.slice (some ⟨bl, 0, none⟩) 1 c, .int .i64 (n : Int)] wr fun e w1 => e = .returned (.int .i64 0) ∧ ∃ z, wr.heap.size ≤ z ∧ JB w w1 ⟨a.p, some z, a.d.lit (a.fu.map Z)⟩ b a' b' (litZ Z z n) ZR (grw T wr w1) ∧ Only T wr w1 := by
  obtain ⟨Sa, Sb, Ra, Rb, h⟩ := h
  obtain ⟨m, L, hd⟩ := h.1.da
  refine (fuse1_any hd (fug_p.1 h.1.fu) bl c hc n hn).mono fun e w1 ⟨e1, z, hz, hd2, hcz, ho⟩ => ⟨e1, z, hz, ?_⟩
  refine h.newP (h.1.lit1 dok_p h.2.2.2.2.2.2.size hn hz hd2 hcz ho) (fun c hc => ?_) ho (fun c hc => Or.inl (hc ▸ hd.sp))
  rcases hc with hc | hc | hc | hc
  · exact Or.inl (Or.inl hc)
  · exact Or.inl (Or.inr (Or.inl hc))
  · cases hc; exact Or.inr hz
  · exact Or.inl (Or.inr (Or.inr (Or.inr hc)))
theorem JB.rfuse1 (h : JB w wr a b a' b' Z ZR T) (bl c : Nat) (hc : CAt wr bl #[ptr a'.p] 27) (n : Nat) (hn : n ≤ 9223372036854775807) :
    Calls Try.prog 15 #[.slice (some ⟨bl, 0, none⟩) 1 c, .int .i64 (n : Int)] wr fun e w1 => e = .returned (.int .i64 0) ∧ ∃ z, wr.heap.size ≤ z ∧ JB w w1 a b ⟨a'.p, some z, a'.d.lit (a'.fu.map ZR)⟩ b' Z (litZ ZR z n) (grw T wr w1) ∧ Only T wr w1 := by
  obtain ⟨Sa, Sb, Ra, Rb, h⟩ := h
  obtain ⟨v, L, hd⟩ := h.2.1.da
  refine (rlight1_any hd (fug_r.1 h.2.1.fu) bl c hc n hn).mono fun e w1 ⟨e1, z, hz, hd2, hcz, ho⟩ => ⟨e1, z, hz, ?_⟩
  refine h.newR (h.2.1.lit1 dok_r h.2.2.2.2.2.2.size hn hz hd2 hcz ho) (fun c hc => ?_) ho (fun c hc => Or.inl (hc ▸ hd.sp))
  rcases hc with hc | hc | hc | hc
  · exact Or.inl (Or.inl hc)
  · exact Or.inl (Or.inr (Or.inl hc))
  · cases hc; exact Or.inr hz
  · exact Or.inl (Or.inr (Or.inr (Or.inr hc)))
theorem JB.fuse2 (h : JB w wr a b a' b' Z ZR T) (bl c : Nat) (hc : CAt wr bl #[ptr a.p, ptr b.p] 23) (n : Nat) (hn : n ≤ 9223372036854775807) :
    Calls Try.prog 14 #[.slice (some ⟨bl, 0, none⟩) 2 c, .int .i64 (n : Int)] wr fun e w1 => e = .returned (.int .i64 0) ∧ ∃ z, wr.heap.size ≤ z ∧ JB w w1 ⟨a.p, some z, a.d.lit (a.fu.map Z)⟩ ⟨b.p, some z, b.d.lit (b.fu.map Z)⟩ a' b' (litZ Z z n) ZR (grw T wr w1) ∧ Only T wr w1 := by
  obtain ⟨Sa, Sb, Ra, Rb, h⟩ := h
  obtain ⟨m, L, hd⟩ := h.1.da
  obtain ⟨m2, L2, hd2⟩ := h.1.db
  refine (fuse2_any hd (fug_p.1 h.1.fu) hd2 (fug_p.1 h.1.swap.fu) h.1.dj bl c hc n hn).mono fun e w1 ⟨e1, z, hz, k1, k2, hcz, ho⟩ => ⟨e1, z, hz, ?_⟩
  refine h.newP (h.1.lit2 dok_p h.2.2.2.2.2.2.size hn hz k1 k2 hcz) (fun c hc => ?_) ho (fun c hc => hc.elim (fun e => Or.inl (e ▸ hd.sp)) (fun e => Or.inr (Or.inl (e ▸ hd2.sp))))
  rcases hc with hc | hc | hc | hc
  · exact Or.inl (Or.inl hc)
  · exact Or.inl (Or.inr (Or.inl hc))
  · cases hc; exact Or.inr hz
  · cases hc; exact Or.inr hz
theorem JB.rfuse2 (h : JB w wr a b a' b' Z ZR T) (bl c : Nat) (hc : CAt wr bl #[ptr a'.p, ptr b'.p] 27) (n : Nat) (hn : n ≤ 9223372036854775807) :
    Calls Try.prog 15 #[.slice (some ⟨bl, 0, none⟩) 2 c, .int .i64 (n : Int)] wr fun e w1 => e = .returned (.int .i64 0) ∧ ∃ z, wr.heap.size ≤ z ∧ JB w w1 a b ⟨a'.p, some z, a'.d.lit (a'.fu.map ZR)⟩ ⟨b'.p, some z, b'.d.lit (b'.fu.map ZR)⟩ Z (litZ ZR z n) (grw T wr w1) ∧ Only T wr w1 := by
  obtain ⟨Sa, Sb, Ra, Rb, h⟩ := h
  obtain ⟨v, L, hd⟩ := h.2.1.da
  obtain ⟨v2, L2, hd2⟩ := h.2.1.db
  refine (rlight2_any hd (fug_r.1 h.2.1.fu) hd2 (fug_r.1 h.2.1.swap.fu) h.2.1.dj bl c hc n hn).mono fun e w1 ⟨e1, z, hz, k1, k2, hcz, ho⟩ => ⟨e1, z, hz, ?_⟩
  refine h.newR (h.2.1.lit2 dok_r h.2.2.2.2.2.2.size hn hz k1 k2 hcz) (fun c hc => ?_) ho (fun c hc => hc.elim (fun e => Or.inl (e ▸ hd.sp)) (fun e => Or.inr (Or.inl (e ▸ hd2.sp))))
  rcases hc with hc | hc | hc | hc
  · exact Or.inl (Or.inl hc)
  · exact Or.inl (Or.inr (Or.inl hc))
  · cases hc; exact Or.inr hz
  · cases hc; exact Or.inr hz
/-- A cell of the document's drive is written. -/
theorem JB.rset (h : JB w wr a b a' b' Z ZR T) (i : Nat) (x : Value) {d2 : Pd} (hc : ∀ v, (rcells v a'.fu a'.d).setIfInBounds i x = rcells v a'.fu d2) (hF : d2.F = a'.d.F) :
    JB w (wr.setCell ⟨a'.p, i, none⟩ x) a b ⟨a'.p, a'.fu, d2⟩ b' Z ZR (grw T wr (wr.setCell ⟨a'.p, i, none⟩ x)) ∧ Only T wr (wr.setCell ⟨a'.p, i, none⟩ x) := by
  obtain ⟨Sa, Sb, Ra, Rb, h⟩ := h
  obtain ⟨v, L, hd⟩ := h.2.1.da
  have ho : Only (fun c => c = a'.p) wr (wr.setCell ⟨a'.p, i, none⟩ x) := Only.set _ _ _ rfl
  have hf := fug_r.1 h.2.1.fu
  have := h.ref (S2 := Ra) (fun c hc => Or.inl hc) ⟨v, L, hd.setq i x (hc v) hF⟩ (Or.inl rfl) (hf.grow ho hd.sp fun c hc => Or.inl hc) (ho.mono fun c hc => Or.inl (hc ▸ hd.sp))
  rw [setZ_map] at this
  exact this
theorem JB.setP (h : JB w wr a b a' b' Z ZR T) {g : FuncId} {args : Array Value} {d2 : Pd} (hc : ∀ S m L, DrC wr S a.p m a.fu a.d L → Calls Try.prog g args wr (SetAt wr S a.p m a.fu d2 L)) :
    Calls Try.prog g args wr fun e w1 => e = .returned (.int .i64 0) ∧ JB w w1 ⟨a.p, a.fu, d2⟩ b a' b' Z ZR (grw T wr w1) ∧ Only T wr w1 :=
  h.runT (r := (0, d2)) fun S m L hd => (hc S m L hd).mono fun e w1 ⟨h1, h2, h3, _⟩ => ⟨h1, ⟨m, L, h2⟩, h3.mono fun b hb => by rw [hb]; exact hd.sp⟩
/-- Calls that only look. -/
theorem JB.look (h : JB w wr a b a' b' Z ZR T) {g : FuncId} {args : Array Value} {Q : Ending → World → Prop} (hc : ∀ S m L, DrC wr S a.p m a.fu a.d L → FuAt wr S a.fu (a.fu.map Z) → Calls Try.prog g args wr Q) : Calls Try.prog g args wr Q := by
  obtain ⟨S, _, ⟨m, L, hd⟩, hf⟩ := h.pd
  exact hc S m L hd hf
theorem JB.rlook (h : JB w wr a b a' b' Z ZR T) {g : FuncId} {args : Array Value} {Q : Ending → World → Prop} (hc : ∀ S v L, RfC wr S a'.p v a'.fu a'.d L → FuR wr S a'.fu (a'.fu.map ZR) → Calls Try.prog g args wr Q) : Calls Try.prog g args wr Q := by
  obtain ⟨S, _, ⟨v, L, hd⟩, hf⟩ := h.rd
  exact hc S v L hd hf
/-- What a drive's files are like. -/
structure Pd.fine (d : Pd) : Prop where
  so : Srt d.F
  us : usedOf d.F ≤ d.size
  sz : d.size ≤ 67108864
  b8 : ∀ x ∈ d.F, ∀ y ∈ x.2.1, y < 256
theorem JB.fine (h : JB w wr a b a' b' Z ZR T) : a.d.fine := by
  obtain ⟨S, _, ⟨m, L, hd⟩, hf⟩ := h.pd
  refine ⟨hd.srtF, hd.us, hd.sz, fun x hx y hy => ?_⟩
  rw [hd.fs] at hx
  obtain ⟨z, hz, rfl⟩ := List.mem_map.1 hx
  exact hd.by8 z hz y hy
theorem RfC.lens {w : World} {R : Nat → Prop} {q : Nat} {v : Value} {fu : Option Nat} {d : Pd} {L : List (Nm × Ent)} (h : RfC w R q v fu d L) (hf : d.fine) : ∀ x ∈ L, x.2.b.length ≤ 1000000000 := fun x hx => by
  have hm : (x.1, x.2.fi) ∈ d.F := by rw [h.fs]; exact List.mem_map.2 ⟨x, hx, rfl⟩
  have := used_le hf.so (gget_of_mem hf.so hm)
  have h2 : x.2.b.length ≤ usedOf d.F := this
  have := hf.us
  have := hf.sz
  omega
theorem RfC.byte {w : World} {R : Nat → Prop} {q : Nat} {v : Value} {fu : Option Nat} {d : Pd} {L : List (Nm × Ent)} (h : RfC w R q v fu d L) (hf : d.fine) : ∀ x ∈ L, ∀ y ∈ x.2.b, y < 256 := fun x hx y hy =>
  hf.b8 (x.1, x.2.fi) (by rw [h.fs]; exact List.mem_map.2 ⟨x, hx, rfl⟩) y hy
end
#print axioms JB.rfuse2
#print axioms JB.rset
end Go.Proofs.Ytfppmpfmafnfmaa

/- What ties two drives to the document's. -/
namespace Go.Proofs.Ytfppmpfmafnfmaa
open Go Go.RowKit

structure Rel (a b a' b' : Dl) (Z ZR : Nat → Nat × Bool) : Prop where
  da : a'.d = a.d
  db : b'.d = b.d
  fa : a'.fu.map ZR = a.fu.map Z
  fb : b'.fu.map ZR = b.fu.map Z
  sh : a.fu = b.fu ↔ a'.fu = b'.fu
structure Pd.few (d : Pd) (n : Nat) : Prop where
  len : d.F.length ≤ n
  ops : d.ops ≤ n
section
variable {a b a' b' : Dl} {Z ZR : Nat → Nat × Bool}
theorem Rel.swap (h : Rel a b a' b' Z ZR) : Rel b a b' a' Z ZR := ⟨h.db, h.da, h.fb, h.fa, ⟨fun e => (h.sh.1 e.symm).symm, fun e => (h.sh.2 e.symm).symm⟩⟩
theorem Rel.step (h : Rel a b a' b' Z ZR) {d2 : Pd} {f2 : Fs} (p q : Nat) : Rel ⟨p, a.fu, d2⟩ b ⟨q, a'.fu, d2⟩ b' (setZ Z a.fu f2) (setZ ZR a'.fu f2) := by
  refine ⟨rfl, h.db, ?_, ?_, h.sh⟩
  · have h1 := h.fa
    show a'.fu.map _ = a.fu.map _
    cases ha : a.fu with
    | none => rw [ha] at h1; cases hb : a'.fu with
      | none => rfl
      | some z => rw [hb] at h1; cases h1
    | some z => rw [ha] at h1; cases hb : a'.fu with
      | none => rw [hb] at h1; cases h1
      | some z' => simp [setZ]
  · have h1 := h.fb
    show b'.fu.map _ = b.fu.map _
    cases hb : b.fu with
    | none => rw [hb] at h1; cases hb' : b'.fu with
      | none => rfl
      | some z => rw [hb'] at h1; cases h1
    | some z => rw [hb] at h1; cases hb' : b'.fu with
      | none => rw [hb'] at h1; cases h1
      | some z' =>
        rw [hb'] at h1
        have e1 : ZR z' = Z z := by simpa using h1
        have hsh := h.sh
        rw [hb, hb'] at hsh
        simp only [Option.map_some, setZ]
        by_cases e : a.fu = some z
        · rw [if_pos e, if_pos (hsh.1 e)]
        · rw [if_neg e, if_neg (fun e2 => e (hsh.2 e2)), e1]
theorem Rel.same (h : Rel a b a' b' Z ZR) (d2 : Pd) (p q : Nat) : Rel ⟨p, a.fu, d2⟩ b ⟨q, a'.fu, d2⟩ b' Z ZR := ⟨rfl, h.db, h.fa, h.fb, h.sh⟩
theorem Rel.none (h : Rel a b a' b' Z ZR) (d2 : Pd) (p q : Nat) : Rel ⟨p, none, d2⟩ b ⟨q, none, d2⟩ b' Z ZR := by
  refine ⟨rfl, h.db, rfl, h.fb, ?_⟩
  have h1 := h.fb
  constructor
  · intro e
    have e' : b.fu = .none := e.symm
    rw [e'] at h1
    show .none = b'.fu
    cases hb : b'.fu with
    | none => rfl
    | some z => rw [hb] at h1; cases h1
  · intro e
    have e' : b'.fu = .none := e.symm
    rw [e'] at h1
    show .none = b.fu
    cases hb : b.fu with
    | none => rfl
    | some z => rw [hb] at h1; cases h1
theorem litZ_ne {fu : Option Nat} {z n : Nat} (h : ∀ y, fu = some y → y ≠ z) : fu.map (litZ Z z n) = fu.map Z := by
  cases hf : fu with
  | none => rfl
  | some y => simp [litZ, h y hf]
theorem Rel.lit1 (h : Rel a b a' b' Z ZR) {z z' n : Nat} (d2 : Pd) (p q : Nat) (hz : ∀ y, b.fu = some y → y ≠ z) (hz' : ∀ y, b'.fu = some y → y ≠ z') : Rel ⟨p, some z, d2⟩ b ⟨q, some z', d2⟩ b' (litZ Z z n) (litZ ZR z' n) := by
  refine ⟨rfl, h.db, by simp [litZ], by rw [litZ_ne hz, litZ_ne hz']; exact h.fb, ?_⟩
  constructor
  · intro e; exact absurd rfl (hz z e.symm)
  · intro e; exact absurd rfl (hz' z' e.symm)
theorem Rel.lit2 (Z ZR : Nat → Nat × Bool) (z z' n : Nat) (d1 d2 : Pd) (p q p2 q2 : Nat) : Rel ⟨p, some z, d1⟩ ⟨p2, some z, d2⟩ ⟨q, some z', d1⟩ ⟨q2, some z', d2⟩ (litZ Z z n) (litZ ZR z' n) :=
  ⟨rfl, rfl, by simp [litZ], by simp [litZ], ⟨fun _ => rfl, fun _ => rfl⟩⟩
end
section
variable {d : Pd} {n : Nat}
theorem Pd.few.more (h : d.few n) : d.few (n + 1) := ⟨Nat.le_succ_of_le h.len, Nat.le_succ_of_le h.ops⟩
theorem chg_few (h : d.few n) (f : Fs) {F : List (Nm × Fi)} (hF : F.length ≤ d.F.length + 1) : (d.chg f F).2.1.few (n + 1) := by
  unfold Pd.chg; split
  · exact ⟨by have := h.len; show F.length ≤ n + 1; omega, by have := h.ops; show d.ops + 1 ≤ n + 1; omega⟩
  · exact h.more
theorem write_few (h : d.few n) (f : Fs) (s : Nm) (bs : List Nat) : (d.write f s bs).2.1.few (n + 1) := by
  unfold Pd.write; split
  · exact h.more
  · split
    · exact h.more
    · exact chg_few h f (put_len _ _ _)
theorem sync_few (h : d.few n) (f : Fs) (s : Nm) : (d.sync f s).2.1.few (n + 1) := by
  unfold Pd.sync; split
  · exact h.more
  · split
    · exact h.more
    · exact chg_few h f (put_len _ _ _)
theorem rename_few (h : d.few n) (f : Fs) (s t : Nm) : (d.rename f s t).2.1.few (n + 1) := by
  unfold Pd.rename; split
  · exact h.more
  · split
    · exact h.more
    · exact chg_few h f (Nat.le_trans (put_len _ _ _) (by have := len_del d.F s; omega))
theorem delete_few (h : d.few n) (f : Fs) (s : Nm) : (d.delete f s).2.1.few (n + 1) := by
  unfold Pd.delete; split
  · exact h.more
  · split
    · exact h.more
    · exact chg_few h f (by have := len_del d.F s; omega)
theorem crash_few (h : d.few n) (ks : List Bool) : (d.crash ks).few (n + 1) := by
  refine ⟨?_, Nat.le_succ_of_le h.ops⟩
  show (crashAll d.F ks).length ≤ n + 1
  rw [crashAll_len]
  have h1 := List.count_le_length (a := true) (l := thereL d.F ks)
  rw [thereL_len] at h1
  have := h.len
  omega
theorem turn_few (h : d.few n) (s : Nm) (a : Int) (mask : Nat) : (d.turn s a mask).2.few (n + 1) := by
  unfold Pd.turn
  split
  · exact h.more
  · split
    · exact h.more
    · exact ⟨by show (gmod d.F s a.toNat mask).length ≤ n + 1; unfold gmod; rw [List.length_map]; exact Nat.le_succ_of_le h.len, Nat.le_succ_of_le h.ops⟩
end
#print axioms Rel.step
end Go.Proofs.Ytfppmpfmafnfmaa
