/- Texts laid into one, cut to what is needed: the remark ahead of each part says what is proved there. -/
import Derived.Test.YtdohmokhfajjpaaGreatDoorPae
import Derived.Test.YtdohmokhfajjpaaGreatDoorPad
import Derived.Laws.OwnMore
import Derived.BigQuiet
import Derived.ChangeKeysEq
import Derived.Laws.StructEq
/- Contracts of Eight and Sum of the document's own answer: a number's eight bytes; the digest of bytes. -/
namespace Go.Proofs.YtdohmokhfajjpaaGreatDoor.H
open Go Go.RowKit

theorem Buf.empty (B : Nat) (w : World) (hB : B ≤ w.heap.size) (x : Nat → Nat) : Buf B (w.alloc (.cells #[] 5)) (.slice (some ⟨w.heap.size, 0, none⟩) 0 0) 0 x :=
 ⟨by simp [valN], .inr ⟨w.heap.size, 0, #[], rfl, hB, heap_alloc_new _ _, by omega, by unfold maxLen; omega, rfl, by simp [valN]⟩⟩
structure RsM (w wr : World) (v : Value) (m : Nat) (f : Nat → Nat) : Prop where
 buf : Buf (w.heap.size + 1) wr v m f
 res : CAt wr w.heap.size (aB 32 zB) 41
 below : Below w.heap.size w wr
theorem RsM.size {w wr : World} {v : Value} {m : Nat} {f : Nat → Nat} (h : RsM w wr v m f) : w.heap.size + 1 ≤ wr.heap.size := h.res.lt
structure LpM (w wr : World) (gh gk ba oa M : Nat) (f : Nat → Nat) (s : St) : Prop where
 h : CAt wr gh (aW 8 s.get) 79
 k : CAt wr gk (aW 64 kk) 117
 row : RowAt wr ba oa M f
 res : CAt wr w.heap.size (aB 32 zB) 41
 below : Below w.heap.size w wr
theorem LpM.on {w wr w' : World} {gh gk ba oa M : Nat} {f : Nat → Nat} {s : St} (h : LpM w wr gh gk ba oa M f s) (hM : 0 < M) (hb : Below wr.heap.size wr w') : LpM w w' gh gk ba oa M f s :=
 ⟨h.h.below hb h.h.lt, h.k.below hb h.k.lt, h.row.below hb (cell_lt (h.row 0 hM)), h.res.below hb h.res.lt, h.below.trans (hb.mono h.below.size)⟩
end Go.Proofs.YtdohmokhfajjpaaGreatDoor.H

/- Buffers of bytes as lists; parts of slices; the file of bytes as a list. -/
namespace Go.Proofs.YtdohmokhfajjpaaGreatDoor.H
open Go Go.RowKit

def u8 (k : Nat) : Value := .int .u8 (k : Int)
/-- The value v owns just the bytes L. -/
def BufL (B : Nat) (w : World) (v : Value) (L : List Nat) : Prop := w.ownsRow B 5 1 v L.length (L.map u8)
theorem BufL.nil (B : Nat) (w : World) : BufL B w (.slice none 0 0) [] := World.ownsRow_nil w B 5 1
theorem BufL.buf {B : Nat} {w : World} {v : Value} {L : List Nat} (h : BufL B w v L) : Buf B w v L.length (fun i => L.getD i 0) := by
 unfold Buf BufL at *
 rwa [show valN L.length (fun i => L.getD i 0) = L.map u8 from by
  apply List.ext_getElem?
  intro i
  by_cases hi : i < L.length
  ·rw [valN_get _ _ _ hi]; simp [hi, u8]
  ·rw [List.getElem?_eq_none (by rw [valN_len]; omega), List.getElem?_eq_none (by simpa using hi)]]
theorem BufL.kept {B : Nat} {w w' : World} {v : Value} {L : List Nat} {row : Option Nat} (h : BufL B w v L) (hg : w.grownBy w' row) (hne : v.ownBlock = none ∨ v.ownBlock ≠ row) : BufL B w' v L := World.ownsRow.kept h hg hne
theorem BufL.below {B : Nat} {w w' : World} {v : Value} {L : List Nat} (h : BufL B w v L) (hb : Below w.heap.size w w') : BufL B w' v L := by
 obtain ⟨hl, h | ⟨g, cap, cur, rfl, hB, hg, hc, hm, hs, ht⟩⟩ := h
 ·exact ⟨hl, .inl h⟩
 ·refine ⟨hl, .inr ⟨g, cap, cur, rfl, hB, ?_, hc, hm, hs, ht⟩⟩
  exact (hb.block g (CAt.lt hg)).trans hg
theorem map_range_u8 (l : Nat) (y : Nat → Nat) : ((List.range l).map y).map u8 = valN l y := by simp [valN, u8]
theorem append_none (v : Value) (L : List Nat) (B : Nat) (w : World) (hv : BufL B w v L) : (Builtin.append_ #[22, 22] 22 #[v, .slice none 0 0]).run Tryz.prog w = .ok v w := by
 obtain ⟨i0, hi0, hz0, hz1, hz2⟩ := info_parts Tryz.info5
 exact run_append_owned_none (P := Tryz.prog) (w := w) B 22 22 5 i0 1 Tryz.underlying22 hi0 v _ _ hv
/-- Bytes behind a buffer: it stays where it is if there is room. -/
theorem BufL.app {B : Nat} {w : World} {v : Value} {L : List Nat} (hv : BufL B w v L) (p : Option Addr) (l c : Nat) (y : Nat → Nat) (hy : StrAt w p l y) (hp : p = none → l = 0 ∧ c = 0) (hn : L.length + l ≤ 2000000) (hB : B ≤ w.heap.size) :
  ∃ v' w', (Builtin.append_ #[22, 22] 22 #[v, .slice p l c]).run Tryz.prog w = .ok v' w' ∧ BufL B w' v' (L ++ (List.range l).map y) ∧ w.grownBy w' v.ownBlock ∧
   (∀ g k c', v = .slice (some ⟨g, 0, none⟩) k c' → L.length + l ≤ c' → v' = .slice (some ⟨g, 0, none⟩) (L.length + l) c') := by
 obtain ⟨i0, hi0, hz0, hz1, hz2⟩ := info_parts Tryz.info5
 cases p with
 | none =>
  obtain ⟨rfl, rfl⟩ := hp rfl
  refine ⟨v, w, append_none v L B w hv, by simpa using hv, ⟨rfl, rfl, rfl, Nat.le_refl _, fun _ _ _ => rfl⟩, ?_⟩
  rintro g k c' rfl _
  obtain ⟨_, h | ⟨g', cap, cur, h, _⟩⟩ := hv
  ·cases h.1
  ·cases h; simp
 | some a =>
  have hcells : ∀ j u, (valN l y)[j]? = some u → w.cell? (a.add j) = some u := fun j u hj => by
    have hlt : j < l := by
     rcases Nat.lt_or_ge j l with h | h
     ·exact h
     ·rw [List.getElem?_eq_none (by rw [valN_len]; exact h)] at hj; cases hj
    rw [valN_get _ _ _ hlt] at hj
    cases hj
    rcases hy with h | ⟨b, o, e, hr⟩
    ·omega
    ·cases e
     rw [add_plain']; exact hr j hlt
  have hone : ∀ u ∈ valN l y, u.oneCell' = true := fun u hu => by
    simp only [valN, List.mem_map] at hu
    obtain ⟨i, _, rfl⟩ := hu; rfl
  have hL : (L ++ (List.range l).map y).length = L.length + l := by simp
  have hM : (L ++ (List.range l).map y).map u8 = L.map u8 ++ valN l y := by rw [List.map_append, map_range_u8]
  by_cases hfit : ∃ g k c', v = .slice (some ⟨g, 0, none⟩) k c' ∧ L.length + l ≤ c'
  ·obtain ⟨g, k, c', rfl, hroom⟩ := hfit
   have hv0 : w.ownsRow B 5 1 (.slice (some ⟨g, 0, none⟩) k c') L.length (L.map u8) := hv
   obtain rfl : k = L.length := by
    obtain ⟨_, h | ⟨g', cap, cur, h, _⟩⟩ := hv0
    ·cases h.1
    ·cases h; rfl
   obtain ⟨w', hr, h2, h3⟩ := run_append_fits (P := Tryz.prog) w B 22 22 5 i0 1 Tryz.underlying22 hi0 hz1 g L.length c' (L.map u8) hv0 a l c (valN l y) (by rw [valN_len, Nat.mul_one]) hcells hone hroom
   refine ⟨_, w', hr, ?_, h3, ?_⟩
   ·unfold BufL; rw [hL, hM]; exact h2
   ·rintro g2 k2 c2 h _; cases h; rfl
  ·obtain ⟨v', w', hr, h2, h3, _, _⟩ := run_append_own_at (P := Tryz.prog) w B 22 22 5 i0 (.int .u8 0) 1 1 Tryz.underlying22 hi0 hz0 hz1 hz2 rfl (by decide) v L.length (L.map u8) hv a l c (valN l y) (by rw [valN_len, Nat.mul_one]) hcells hone (by unfold maxLen; omega) (by omega) hB
   refine ⟨v', w', hr, ?_, h3, ?_⟩
   ·unfold BufL; rw [hL, hM]; exact h2
   ·intro g k c' h h'; exact absurd ⟨g, k, c', h, h'⟩ hfit
theorem BufL.cells {B : Nat} {w : World} {v : Value} {L : List Nat} (h : BufL B w v L) : ∀ (j : Nat) (o : Obj), v.ownBlock = some j → w.heap[j]? = some o → o.isCells = true := by
 intro j o hj ho
 obtain ⟨_, h | ⟨g, cap, cur, rfl, _, hg, _⟩⟩ := h
 ·rw [h.1] at hj; cases hj
 ·cases hj; rw [hg] at ho; cases ho; rfl
theorem BufL.ge {B : Nat} {w : World} {v : Value} {L : List Nat} (h : BufL B w v L) : ∀ j, v.ownBlock = some j → B ≤ j ∧ j < w.heap.size := fun j hj => World.ownsRow.lt h j hj
theorem boxed_notBuf {B C : Nat} {t : TypeId} {w : World} {u v : Value} {L : List Nat} (h : Boxed w C t u) (ht : t ≠ 5) (hv : BufL B w v L) : some C ≠ v.ownBlock := h.not_row ht hv
/-- make([]byte, 0, c) -/
theorem run_make_cap (c : Nat) (hc : c ≤ 100000) (w : World) :
  (Instr.makeSlice 22 (.int .i64 0) (.int .i64 (c : Int))).run Tryz.prog w = .ok (.slice (some ⟨w.heap.size, 0, none⟩) 0 c) (w.alloc (.cells (madeCells #[.int .u8 0] c) 5)) := by
 obtain ⟨i0, hi, hz0, hz1, hz2⟩ := info_parts Tryz.info5
 have h := run_make (P := Tryz.prog) w 22 5 i0 (.int .u8 0) Tryz.underlying22 hi hz0 .i64 .i64 0 c (by omega) (by omega) (by rw [hz2]; omega) (by omega)
 rw [hz1] at h
 simpa [Value.cells] using h
theorem BufL.made (w : World) (B c : Nat) (hB : B ≤ w.heap.size) (hc : c ≤ 100000) : BufL B (w.alloc (.cells (madeCells #[.int .u8 0] c) 5)) (.slice (some ⟨w.heap.size, 0, none⟩) 0 c) [] :=
 ⟨rfl, .inr ⟨_, _, _, rfl, hB, heap_alloc_new _ _, by simp, by unfold maxLen; omega, by simp [madeCells], by simp⟩⟩
/-- s[l:h] -/
theorem run_cut (p : Option Addr) (n c l h : Nat) (hlh : l ≤ h) (hh : h ≤ c) : ∃ p2 : Option Addr, (∀ w : World, (Instr.slice 22 (.slice p n c) (some (.int .i64 (l : Int))) (some (.int .i64 (h : Int))) none).run Tryz.prog w = .ok (.slice p2 (h - l) (c - l)) w) ∧
  (∀ b o, p = some ⟨b, o, none⟩ → l < c → p2 = some ⟨b, o + l, none⟩) ∧ (p2 = none → p = none) := by
 have hr : ∀ w, (Instr.slice 22 (.slice p n c) (some (.int .i64 (l : Int))) (some (.int .i64 (h : Int))) none).run Tryz.prog w = .ok (sliced p l h c 1) w := fun w => by
  rw [run_slice_lh (P := Tryz.prog) w 22 p n c under41 .i64 .i64 (l : Int) (h : Int) (by omega) (by omega) (by omega), size41]
  simp [Result.andThen]
 cases p with
 | none => exact ⟨none, fun w => by rw [hr]; simp [sliced], (fun b o e => by cases e), fun _ => rfl⟩
 | some a =>
  by_cases e : c = l
  ·exact ⟨some a, fun w => by rw [hr]; simp [sliced, e], (fun b o _ q => by omega), fun e => by cases e⟩
  ·refine ⟨some (a.add l), fun w => by rw [hr]; simp [sliced, e], (fun b o q _ => ?_), fun e => by cases e⟩
   cases q
   rw [add_plain']
theorem StrAt.cut {w : World} {p p2 : Option Addr} {n c l h : Nat} {x : Nat → Nat} (hs : StrAt w p n x) (hc : n ≤ c) (hh : h ≤ n) (hp : ∀ b o, p = some ⟨b, o, none⟩ → l < c → p2 = some ⟨b, o + l, none⟩) : StrAt w p2 (h - l) (fun j => x (l + j)) :=
 (hs.drop hc hp).short (by omega)
/-- The block of bytes that begins at 256 i, behind its digest. -/
def blkL (n : Nat) (x : Nat → Nat) (i : Nat) : List Nat := (List.range 32).map (sha (bend n i - 256 * i) (fun j => x (256 * i + j))) ++ (List.range (bend n i - 256 * i)).map (fun j => x (256 * i + j))
def fileL (n : Nat) (x : Nat → Nat) : List Nat := (List.range (cnt n)).flatMap (blkL n x)
def preL (n : Nat) (x : Nat → Nat) (pre : List (Fin (cnt n))) : List Nat := pre.flatMap fun i => blkL n x i.val
theorem blkL_len (n : Nat) (x : Nat → Nat) (i : Nat) : (blkL n x i).length = 32 + (bend n i - 256 * i) := by simp [blkL]
theorem blkL_le (n : Nat) (x : Nat → Nat) (i : Nat) : (blkL n x i).length ≤ 288 := by rw [blkL_len]; unfold bend; omega
theorem preL_snoc (n : Nat) (x : Nat → Nat) (pre : List (Fin (cnt n))) (i : Fin (cnt n)) : preL n x (pre ++ [i]) = preL n x pre ++ blkL n x i.val := by simp [preL]
theorem preL_len (n : Nat) (x : Nat → Nat) : ∀ pre : List (Fin (cnt n)), (preL n x pre).length ≤ 288 * pre.length
 | [] => by simp [preL]
 | i :: pre => by
  have := preL_len n x pre
  have h := blkL_le n x i.val
  unfold preL at *
  rw [List.flatMap_cons, List.length_append, List.length_cons]; omega
theorem preL_all (n : Nat) (x : Nat → Nat) : preL n x (List.finRange (cnt n)) = fileL n x := by
 unfold preL fileL
 have h : (List.finRange (cnt n)).map (fun i => i.val) = List.range (cnt n) := by
  apply List.ext_getElem
  ·simp
  ·intro i h1 h2; simp
 rw [← h, List.flatMap_map]
theorem BufL.form {B : Nat} {w : World} {v : Value} {L : List Nat} (h : BufL B w v L) : ∃ po cc, v = .slice po L.length cc := by
 obtain ⟨_, ⟨h1, h2⟩ | ⟨g, cap, cur, rfl, _⟩⟩ := h
 ·exact ⟨none, 0, by rw [h1, h2]⟩
 ·exact ⟨_, _, rfl⟩
/-- A buffer in a variable's box: bytes put behind it, and the variable set. -/
theorem box_app {W : World} {Bx B : Nat} {v : Value} {L : List Nat} (hv : Boxed W Bx 22 v) (hb : BufL B W v L) (hB : B ≤ W.heap.size) (hBx : B ≤ Bx) (p : Option Addr) (l c : Nat) (y : Nat → Nat) (hy : StrAt W p l y) (hp : p = none → l = 0 ∧ c = 0) (hn : L.length + l ≤ 2000000) :
  ∃ po cc W1, (Builtin.append_ #[22, 22] 22 #[v, .slice p l c]).run Tryz.prog W = .ok (.slice po (L.length + l) cc) W1 ∧ Boxed W1 Bx 22 v ∧
   Boxed (W1.setCell ⟨Bx, 0, none⟩ (.slice po (L.length + l) cc)) Bx 22 (.slice po (L.length + l) cc) ∧ BufL B (W1.setCell ⟨Bx, 0, none⟩ (.slice po (L.length + l) cc)) (.slice po (L.length + l) cc) (L ++ (List.range l).map y) ∧
   KeepsOthers W (W1.setCell ⟨Bx, 0, none⟩ (.slice po (L.length + l) cc)) ∧ (∀ C t u, C ≠ Bx → t ≠ 5 → Boxed W C t u → Boxed (W1.setCell ⟨Bx, 0, none⟩ (.slice po (L.length + l) cc)) C t u) ∧
   Below B W (W1.setCell ⟨Bx, 0, none⟩ (.slice po (L.length + l) cc)) ∧ (∀ g k c', v = .slice (some ⟨g, 0, none⟩) k c' → L.length + l ≤ c' → po = some ⟨g, 0, none⟩ ∧ cc = c') := by
 obtain ⟨v', W1, hr, h2, h3, h4⟩ := hb.app p l c y hy hp hn hB
 obtain ⟨po, cc, rfl⟩ := h2.form
 have hL : (L ++ (List.range l).map y).length = L.length + l := by simp
 rw [hL] at hr h2 h4
 have b1 : Boxed W1 Bx 22 v := hv.kept h3 (boxed_notBuf hv (by decide) hb)
 have hne : some Bx ≠ Value.ownBlock (.slice po (L.length + l) cc) := boxed_notBuf b1 (by decide) h2
 refine ⟨po, cc, W1, hr, b1, b1.set _, h2.kept (grownBy_setCell' W1 Bx _) (.inr hne.symm), (KeepsOthers.of_grownBy h3 hb.cells).trans (KeepsOthers.setCell _ _ _), ?_, ?_, ?_⟩
 ·intro C t u hC ht hb2
  have := hb2.kept h3 (boxed_notBuf hb2 ht hb)
  exact this.other hC _
 ·exact ((Below.refl B W).grown h3 hB (fun k e => (hb.ge k e).1)).setCell (p := ⟨Bx, 0, none⟩) hBx _
 ·intro g k c' e h'
  have := h4 g k c' e h'
  cases this
  exact ⟨rfl, rfl⟩
/-- A row of bytes known whole. -/
def RowL (w : World) (g : Nat) (L : List Nat) : Prop := w.heap[g]? = some (.cells (L.map u8).toArray 5 (0, 0))
theorem BufL.full {B : Nat} {w : World} {g : Nat} {L : List Nat} (h : BufL B w (.slice (some ⟨g, 0, none⟩) L.length L.length) L) : RowL w g L := by
 obtain ⟨_, h | ⟨g', cap, cur, e, _, hg, _, _, hs, ht⟩⟩ := h
 ·cases h.1
 ·cases e
  unfold RowL
  rw [hg]
  congr 2
  have hl : cur.toList.length = L.length := by simpa using hs
  rw [Nat.mul_one, List.take_of_length_le (by omega)] at ht
  rw [← ht]
theorem RowL.lt {w : World} {g : Nat} {L : List Nat} (h : RowL w g L) : g < w.heap.size := (Array.getElem?_eq_some_iff.1 h).1
theorem RowL.below {B : Nat} {w w' : World} {g : Nat} {L : List Nat} (h : RowL w g L) (hb : Below B w w') (hg : g < B) : RowL w' g L := (hb.block g hg).trans h
theorem take_pre {n : Nat} {pre : List (Fin (cnt n))} {i : Fin (cnt n)} (h : ∃ k, k ≤ cnt n ∧ pre ++ [i] = (List.finRange (cnt n)).take k) : ∃ k, k < cnt n ∧ pre = (List.finRange (cnt n)).take k ∧ i.val = k := by
 obtain ⟨k, hk, e⟩ := h
 cases k with
 | zero => simp at e
 | succ k =>
  rw [take_snoc _ k hk] at e
  have h1 := List.append_inj' e rfl
  exact ⟨k, hk, h1.1, by have := h1.2; simp at this; rw [this]⟩
theorem preL_take (n : Nat) (x : Nat → Nat) : ∀ k, k ≤ cnt n → (preL n x ((List.finRange (cnt n)).take k)).length = 32 * k + min n (256 * k)
 | 0, _ => by simp [preL]
 | k + 1, hk => by
  have ih := preL_take n x k (by omega)
  rw [take_snoc _ k hk, preL_snoc, List.length_append, ih, blkL_len]
  show _ + (32 + (bend n k - 256 * k)) = _
  have : cnt n = (n + 255) / 256 := rfl
  unfold bend; omega
theorem fileL_len (n : Nat) (x : Nat → Nat) : (fileL n x).length = n + 32 * cnt n := by
 have h := preL_take n x (cnt n) (Nat.le_refl _)
 rw [List.take_of_length_le (by simp), preL_all] at h
 rw [h]
 have : cnt n = (n + 255) / 256 := rfl
 omega
end Go.Proofs.YtdohmokhfajjpaaGreatDoor.H

/- Contract of Lay of package block: the file of bytes. -/
namespace Go.Proofs.YtdohmokhfajjpaaGreatDoor.H
open Go Go.RowKit

/-- All that is known while the file is laid. -/
structure LayM (w W : World) (p : Option Addr) (n c : Nat) (v : Value) (L : List Nat) : Prop where
 bb : Boxed W w.heap.size 22 (.slice p n c)
 bf : Boxed W (w.heap.size + 1 + 1) 22 v
 bn : Boxed W (w.heap.size + 1 + 1 + 1) 3 (.int .i64 (n : Int))
 buf : BufL (w.heap.size + 1) W v L
 below : Below w.heap.size w W
 sz : w.heap.size + 4 ≤ W.heap.size
theorem LayM.grown {w W W' : World} {p : Option Addr} {n c : Nat} {v : Value} {L : List Nat} {row : Option Nat} (h : LayM w W p n c v L) (hg : W.grownBy W' row)
  (hr : ∀ r, row = some r → w.heap.size + 4 ≤ r ∧ ∃ o : Obj, W.heap[r]? = some o ∧ o.isCells = false) : LayM w W' p n c v L where
 bb := h.bb.kept hg (fun e => by have := (hr _ e.symm).1; omega)
 bf := h.bf.kept hg (fun e => by have := (hr _ e.symm).1; omega)
 bn := h.bn.kept hg (fun e => by have := (hr _ e.symm).1; omega)
 buf := h.buf.kept hg (by
  cases ho : v.ownBlock with
  | none => exact .inl rfl
  | some g =>
   refine .inr fun e => ?_
   obtain ⟨_, o, h1, h2⟩ := hr g e.symm
   rw [h.buf.cells g o ho h1] at h2; cases h2)
 below := h.below.grown hg h.below.size (fun k e => by have := (hr k e).1; omega)
 sz := Nat.le_trans h.sz hg.size
theorem LayM.on {w W W' : World} {p : Option Addr} {n c : Nat} {v : Value} {L : List Nat} (h : LayM w W p n c v L) (hb : Below W.heap.size W W') : LayM w W' p n c v L where
 bb := (hb.block _ h.bb.lt).trans h.bb
 bf := (hb.block _ h.bf.lt).trans h.bf
 bn := (hb.block _ h.bn.lt).trans h.bn
 buf := h.buf.below hb
 below := h.below.trans (hb.mono h.below.size)
 sz := Nat.le_trans h.sz hb.size
theorem LayM.drewN {w W : World} {p : Option Addr} {n c : Nat} {v : Value} {L : List Nat} (h : LayM w W p n c v L) (k : Nat) : LayM w (W.drewN k) p n c v L := h.on (Below.drewN' (Below.refl _ _) k)
theorem keeps_below {W W' : World} (h : Below W.heap.size W W') : KeepsOthers W W' := ⟨h.size, fun k _ hk _ => (h.block k (Array.getElem?_eq_some_iff.1 hk).1).trans hk⟩
def LayI (w : World) (p : Option Addr) (n c : Nat) (x : Nat → Nat) (pre : List (Fin (cnt n))) (W : World) : Prop := ∃ v, LayM w W p n c v (preL n x pre) ∧
 ((∃ k, k ≤ cnt n ∧ pre = (List.finRange (cnt n)).take k) → v = .slice (some ⟨w.heap.size + 1, 0, none⟩) (preL n x pre).length (n + 32 * cnt n))
def LaidG (w : World) (L : List Nat) (e : Ending) (w' : World) : Prop := ∃ g, e = .returned (.tuple #[.slice (some ⟨g, 0, none⟩) L.length L.length, .int .i64 0]) ∧ w.heap.size + 1 ≤ g ∧ RowL w' g L ∧ BufL (w.heap.size + 1) w' (.slice (some ⟨g, 0, none⟩) L.length L.length) L ∧ Below w.heap.size w w'
def LaidAt (w : World) (L : List Nat) (e : Ending) (w' : World) : Prop := ∃ v, e = .returned (.tuple #[v, .int .i64 0]) ∧ BufL (w.heap.size + 1) w' v L ∧ Below w.heap.size w w'

set_option maxRecDepth 100000 in
set_option maxHeartbeats 1000000 in
theorem lay_g (p : Option Addr) (n c : Nat) (x : Nat → Nat) (w : World) (hn : n ≤ 65536) (hc : n ≤ c) (hp : p = none → n = 0 ∧ c = 0) (hx : StrAt w p n x) (hb : ∀ i, i < n → x i < 256) :
  Calls Tryz.prog 18 #[.slice p n c] w (LaidG w (fileL n x)) := by
 have HX := hid hx
 have HB := hid hb
 have HP := hid hp
 have hsz := szV_nat n hn
 have hse := szE_nat n hn
 have hcn : cnt n = (n + 255) / 256 := rfl
 obtain ⟨m, hm⟩ : ∃ m, n + 32 * cnt n = m := ⟨_, rfl⟩
 rw [hm] at hsz
 have hm2 : m ≤ 100000 := by omega
 have hmk := run_make_cap m hm2
 refine (callsIn_wide (n := 5)).1 ?_
 refine callsIn_of_wp_marks Tryz.func18 rfl trivial ?_ rfl
 refine wpIn_wide.2 ?_
 simp only [Tryz.ntmps18, List.size_toArray, List.length_cons, List.length_nil, Nat.reduceAdd, Nat.reduceSub, Array.replicate_succ, Array.replicate_zero, List.push_toArray, List.append_toArray, List.nil_append, List.cons_append]
 clear hx hb hp
 go_wp2_with (first
  | (go_at_call 29; refine (size_any _ _).mono ?_; rintro e w5 ⟨rfl, rfl⟩; rw [hsz, hse])
  | (go_at_call 30; refine (blocks_any _ _).mono ?_; rintro e w5 ⟨rfl, rfl⟩))
 rename_i Kx hKx
 have m0 : LayM w ((((w.alloc (.cells #[.slice p n c] 22)).alloc (.cells (madeCells #[.int .u8 0] m) 5)).alloc (.cells #[.slice (some ⟨w.heap.size + 1, 0, none⟩) 0 m] 22)).alloc (.cells #[.int .i64 (n : Int)] 3)) p n c (.slice (some ⟨w.heap.size + 1, 0, none⟩) 0 m) [] := by
  have b1 := Boxed.new w 22 (.slice p n c)
  have b2 := Boxed.new ((w.alloc (.cells #[.slice p n c] 22)).alloc (.cells (madeCells #[.int .u8 0] m) 5)) 22 (.slice (some ⟨w.heap.size + 1, 0, none⟩) 0 m)
  have f0 := BufL.made (w.alloc (.cells #[.slice p n c] 22)) (w.heap.size + 1) m (by simp) hm2
  simp only [World.size_alloc] at b2 f0
  have b3 := Boxed.new (((w.alloc (.cells #[.slice p n c] 22)).alloc (.cells (madeCells #[.int .u8 0] m) 5)).alloc (.cells #[.slice (some ⟨w.heap.size + 1, 0, none⟩) 0 m] 22)) 3 (.int .i64 (n : Int))
  simp only [World.size_alloc] at b3
  refine ⟨((b1.alloc _).alloc _).alloc _, b2.alloc _, b3, ?_, ((((Below.refl _ w).alloc (by simp) _).alloc (by simp) _).alloc (by simp; omega) _).alloc (by simp; omega) _, by simp⟩
  exact (f0.below ((Below.refl _ _).alloc (by simp) _)).below ((Below.refl _ _).alloc (by simp) _)
 have bn := Boxed.new (((w.alloc (.cells #[.slice p n c] 22)).alloc (.cells (madeCells #[.int .u8 0] m) 5)).alloc (.cells #[.slice (some ⟨w.heap.size + 1, 0, none⟩) 0 m] 22)) 3 (.int .i64 (n : Int))
 simp only [World.size_alloc] at bn
 have hsz0 : ((((w.alloc (.cells #[.slice p n c] 22)).alloc (.cells (madeCells #[.int .u8 0] m) 5)).alloc (.cells #[.slice (some ⟨w.heap.size + 1, 0, none⟩) 0 m] 22)).alloc (.cells #[.int .i64 (n : Int)] 3)).heap.size = w.heap.size + 4 := by simp
 generalize ((((w.alloc (.cells #[.slice p n c] 22)).alloc (.cells (madeCells #[.int .u8 0] m) 5)).alloc (.cells #[.slice (some ⟨w.heap.size + 1, 0, none⟩) 0 m] 22)).alloc (.cells #[.int .i64 (n : Int)] 3)) = W0 at m0 bn hsz0 ⊢
 refine (wpIn_wide (n := 5)).1 ?_
 refine wpIn_rangeFunc_ownG rfl (by omega) (gf := 43) (lb := #[.pointer (some ⟨w.heap.size + 1 + 1 + 1, 0, none⟩)]) rfl trivial (enters_of Tryz.func43 (by kernel_rfl) rfl)
  (blocks_stops 3 (w.heap.size + 1 + 1 + 1) n hn W0 bn) keepsAt_t (keepsAt_b (by omega)) (Below.refl _ _) (fun _ => rfl)
  (LayI w p n c x) (fun _ _ _ => False) ?hI (fun _ _ _ _ _ h _ _ => h) ⟨_, m0, fun _ => by rw [hm]; rfl⟩
  (fun i => { tmps := #[.slice p n c, .pointer (some ⟨w.heap.size, 0, none⟩), .slice none 0 0, .int .i64 0, .int .i64 m, .int .i64 0, .pointer (some ⟨w.heap.size + 1 + 1, 0, none⟩), .int .i64 ((256 * i.val : Nat) : Int), .int .i64 ((bend n i.val : Nat) : Int), undef,
   .tuple #[.int .i64 m, .int .i64 0], .slice p n c, .int .i64 n, .tuple #[.int .i64 m, .int .i64 0], .int .i64 m, .int .i64 0, .int .i64 0, .bool false, .int .i64 m, .slice (some ⟨w.heap.size + 1, 0, none⟩) 0 m, .slice p n c, .int .i64 n,
   .func (.func 43) #[] #[.pointer (some ⟨w.heap.size + 1 + 1 + 1, 0, none⟩)], .int .i64 ((256 * i.val : Nat) : Int), .int .i64 ((bend n i.val : Nat) : Int), undef, undef, undef, undef, undef, undef, undef, undef, undef, undef, undef, undef, undef, undef, undef], defers := [] }) ?assign ?body ?done ?stop
 case hI =>
  rintro pre A B row ⟨v, h, h3⟩ hg hr
  exact ⟨v, h.grown hg (fun r e => by rw [hsz0] at hr; exact hr r e), h3⟩
 case assign =>
  intro l i W K hK
  unfold bEnc
  generalize 256 * i.val = q at *
  generalize bend n i.val = r at *
  refine wpIn_seq (round_list (fun _ _ h => h) (by kernel_rfl) ?_)
  go_wp2
  refine round_list (fun _ _ h => h) (by kernel_rfl) ?_
  go_wp2
  exact hK
 case body =>
  rintro l pre i W ⟨v, hM, hG⟩ hlt
  have HG := hid hG
  have HT := hid (preL_take n x)
  have HMM := hid hm
  have HCN := hid hcn
  have hi := i.isLt
  obtain ⟨q, hq⟩ : ∃ q, 256 * i.val = q := ⟨_, rfl⟩
  obtain ⟨r, hr⟩ : ∃ r, bend n i.val = r := ⟨_, rfl⟩
  have hqr : q ≤ r ∧ r ≤ n ∧ r - q ≤ 256 := by unfold bend at hr; omega
  have HM := hid hM
  have HQR := hid hqr
  have HE := hid (preL_snoc n x pre i)
  have HL := hid (preL_len n x pre)
  have HLT := hid hlt
  obtain ⟨y, hy⟩ : ∃ y : Nat → Nat, (fun j => x (q + j)) = y := ⟨_, rfl⟩
  have hblk : blkL n x i.val = (List.range 32).map (sha (r - q) y) ++ (List.range (r - q)).map y := by unfold blkL; rw [hq, hr, hy]
  have HBK := hid hblk
  obtain ⟨p2, hcut, hp2, hp3⟩ := run_cut p n c q r hqr.1 (by omega)
  have HS2 : Hid (∀ W', Below w.heap.size w W' → StrAt W' p2 (r - q) y) := fun W' hW' => hy ▸ (HX.out.below hW').cut hc hqr.2.1 hp2
  have HP2 : Hid (p2 = none → r - q = 0 ∧ c - q = 0) := fun h => by have := HP.out (hp3 h); omega
  have hbc := hM.bb.cell
  have HBX : Hid (∀ j, j < r - q → y j < 256) := fun j hj => hy ▸ HB.out (q + j) (by omega)
  rw [hq, hr]
  clear hy hM hqr hblk hp2 hp3 hG
  refine wpIn_block (wpIn_seq (round_list (fun _ _ h => h) (by kernel_rfl) ?_))
  go_wp2_with (first
   | (go_at_call 22; refine (sum_any _ _ _ y _ (by have := HQR.out; omega) (by have := HQR.out; omega) (HS2.out _ HM.out.below) HBX.out).mono ?_; rintro e w5 ⟨rfl, hbw⟩; have HB5 := hid hbw; clear hbw)
   | refine wpList_alloc_row rfl 41 rfl _ zero32 ?_
   | refine wpList_store_row rfl 41 _ _ rfl _ _ rfl rfl _ _ (CAt.new _ _ _) (size32 _) (by simp only [aB_size]) (aB_one _ _) ?_)
  have hb6 : Below W.heap.size W ((w5.alloc (.cells (aB 32 zB) 41)).setRow w5.heap.size (aB 32 (sha (r - q) y))) := below_setRow (HB5.out.alloc HB5.out.size _) HB5.out.size _
  have HD : Hid (CAt ((w5.alloc (.cells (aB 32 zB) 41)).setRow w5.heap.size (aB 32 (sha (r - q) y))) w5.heap.size (aB 32 (sha (r - q) y)) 41) := (CAt.new _ _ _).row _
  have HK : Hid (KeepsOthers W ((w5.alloc (.cells (aB 32 zB) 41)).setRow w5.heap.size (aB 32 (sha (r - q) y)))) := keeps_below hb6
  have HM6 := hid (HM.out.on hb6)
  have hg5 : W.heap.size ≤ w5.heap.size := HB5.out.size
  generalize ((w5.alloc (.cells (aB 32 zB) 41)).setRow w5.heap.size (aB 32 (sha (r - q) y))) = W6 at *
  generalize w5.heap.size = g5 at *
  generalize hD : sha (r - q) y = dg at *
  clear hb6 HB5 hbc w5
  have hfc := HM6.out.bf.cell
  simp only [Act.put, List.setIfInBounds_toArray, List.set_cons_zero, List.set_cons_succ]
  refine wpIn_seq (round_tail 2 (by kernel_rfl) (fun _ _ h => h) (by kernel_rfl) rfl (by kernel_rfl) ?_)
  dsimp only [List.take]
  repeat (go_big_quiet_step (fail))
  refine wpQuiet_nil ?_
  intro nr
  have HD := hid (HD.out.drewN nr)
  have HM6 := hid (HM6.out.drewN nr)
  have HK := hid (HK.out.trans (keeps_below (Below.drewN' (Below.refl _ _) nr)))
  clear hfc
  generalize W6.drewN nr = W7 at *
  have hL2 : (preL n x pre).length ≤ 80000 := by have := HL.out; have := HLT.out; omega
  obtain ⟨po, cc, W8, r8, b8, b9, f9, k9, o9, w9, fit⟩ := box_app HM6.out.bf HM6.out.buf (by have := HM6.out.sz; omega) (by omega) (some ⟨g5, 0, none⟩) 32 32 dg (.inr ⟨g5, 0, rfl, fun i hi => by rw [Nat.zero_add]; exact HD.out.cellB i hi⟩) (fun h => by cases h) (by omega)
  have HM9 : Hid (LayM w (W8.setCell ⟨w.heap.size + 1 + 1, 0, none⟩ (.slice po ((preL n x pre).length + 32) cc)) p n c (.slice po ((preL n x pre).length + 32) cc) (preL n x pre ++ (List.range 32).map dg)) :=
   ⟨o9 _ _ _ (by omega) (by decide) HM6.out.bb, b9, o9 _ _ _ (by omega) (by decide) HM6.out.bn, f9, HM6.out.below.trans (w9.mono (by omega)), Nat.le_trans HM6.out.sz k9.size⟩
  have HK := hid (HK.out.trans k9)
  have HR8 := hid r8
  have hc8 := b8.cell
  have hf8 := b8.frozen
  have HFIT := hid fit
  clear r8 b8 b9 f9 k9 o9 w9 HM6 HD fit
  go_wp2_with (refine wpList_append_eq rfl _ _ 22 rfl _ _ rfl rfl _ _ HR8.out ?_)
  clear hc8 hf8 HR8
  generalize (W8.setCell ⟨w.heap.size + 1 + 1, 0, none⟩ (.slice po ((preL n x pre).length + 32) cc)) = W9 at *
  have hfc := HM9.out.bf.cell
  have hbc := HM9.out.bb.cell
  refine round_tail 5 (by kernel_rfl) (fun _ _ h => h) (by kernel_rfl) rfl (by kernel_rfl) ?_
  dsimp only [List.take]
  repeat (go_big_quiet_step (fail))
  refine wpQuiet_nil ?_
  intro nr
  have HM9 := hid (HM9.out.drewN nr)
  have HK := hid (HK.out.trans (keeps_below (Below.drewN' (Below.refl _ _) nr)))
  clear hfc hbc
  generalize W9.drewN nr = W10 at *
  have hL3 : (preL n x pre ++ (List.range 32).map dg).length = (preL n x pre).length + 32 := by simp
  obtain ⟨po2, cc2, W11, r8, b8, b9, f9, k9, o9, w9, fit⟩ := box_app HM9.out.bf HM9.out.buf (by have := HM9.out.sz; omega) (by omega) p2 (r - q) (c - q) y (HS2.out _ HM9.out.below) HP2.out (by have := HQR.out; omega)
  have HM12 : Hid (LayM w (W11.setCell ⟨w.heap.size + 1 + 1, 0, none⟩ (.slice po2 ((preL n x pre ++ (List.range 32).map dg).length + (r - q)) cc2)) p n c (.slice po2 ((preL n x pre ++ (List.range 32).map dg).length + (r - q)) cc2) (preL n x pre ++ (List.range 32).map dg ++ (List.range (r - q)).map y)) :=
   ⟨o9 _ _ _ (by omega) (by decide) HM9.out.bb, b9, o9 _ _ _ (by omega) (by decide) HM9.out.bn, f9, HM9.out.below.trans (w9.mono (by omega)), Nat.le_trans HM9.out.sz k9.size⟩
  have HK := hid (HK.out.trans k9)
  have HR8 := hid r8
  have hc8 := b8.cell
  have hf8 := b8.frozen
  have HFIT2 := hid fit
  clear r8 b8 b9 f9 k9 o9 w9 HM9 fit
  generalize hkk : (preL n x pre ++ (List.range 32).map dg).length + (r - q) = kk at *
  have HKK := hid hkk
  have HL3 := hid hL3
  clear hkk hL3
  go_wp2_with (refine wpList_append_eq rfl _ _ 22 rfl _ _ rfl rfl _ _ HR8.out ?_)
  refine ⟨HK.out.from _, Eq.trans HM12.out.bn (Eq.symm HM.out.bn), .slice po2 kk cc2, ?_, ?_⟩
  ·rw [HE.out, HBK.out, ← List.append_assoc]
   exact HM12.out
  ·intro h
   obtain ⟨k, hk, hp1, hik⟩ := take_pre h
   have hv := HG.out ⟨k, by omega, hp1⟩
   have hlen := HT.out (k + 1) hk
   rw [take_snoc _ k hk, ← hp1, show (⟨k, hk⟩ : Fin (cnt n)) = i from Fin.ext hik.symm, HE.out, HBK.out] at hlen
   simp only [List.length_append, List.length_map, List.length_range] at hlen
   have hkk := HKK.out
   have hl3 := HL3.out
   have hc5 := HCN.out
   have f1 := HFIT.out _ _ _ hv (by omega)
   have f2 := HFIT2.out _ _ _ (by rw [f1.1]) (by rw [f1.2]; omega)
   rw [f2.1, f2.2, f1.2, HE.out, HBK.out]
   simp only [List.length_append, List.length_map, List.length_range]
   congr 1
   omega
 case done =>
  rintro D ys W hD rfl ⟨v, hM, hG⟩ hK
  have hv := hG ⟨cnt n, Nat.le_refl _, (List.take_of_length_le (by simp)).symm⟩
  rw [preL_all, ← fileL_len n x] at hv
  rw [preL_all] at hM
  have hc1 := hM.bf.cell
  have hbb := hM.buf
  rw [hv] at hbb
  have HV := hid hv
  clear hv
  refine hKx _ _ ?_
  go_wp2
  refine ⟨by simp, .inl ⟨_, _, rfl, run_takeDeferred hK, ?_⟩⟩
  have h7 : BufL (w.heap.size + 1) (W.putObj D (.deferred none)) (.slice (some ⟨w.heap.size + 1, 0, none⟩) (fileL n x).length (fileL n x).length) (fileL n x) := ownsRow_putObj hbb _ hK rfl
  refine ⟨_, results_tmp2 rfl _ _ _, w.heap.size + 1, ?_, Nat.le_refl _, h7.full, h7, ?_⟩
  ·rw [← HV.out]; rfl
  ·exact hM.below.trans (belowK_b (w := w) (Nat.le_refl _) W D _ _ (by omega) hK rfl rfl)
 case stop =>
  rintro D c pre W _ _ h _
  exact h.elim
theorem lay_ok (p : Option Addr) (n c : Nat) (x : Nat → Nat) (w : World) (hn : n ≤ 65536) (hc : n ≤ c) (hp : p = none → n = 0 ∧ c = 0) (hx : StrAt w p n x) (hb : ∀ i, i < n → x i < 256) :
  Calls Tryz.prog 18 #[.slice p n c] w (LaidAt w (fileL n x)) := by
 refine (lay_g p n c x w hn hc hp hx hb).mono ?_
 rintro e w' ⟨g, rfl, _, _, h4, h5⟩
 exact ⟨_, rfl, h4, h5⟩
end Go.Proofs.YtdohmokhfajjpaaGreatDoor.H

/- Contracts of blocks, may, Size and Lay of the document's own answer. -/
namespace Go.Proofs.YtdohmokhfajjpaaGreatDoor.H
open Go Go.RowKit

def mayB (z : Int) : Bool := decide (0 ≤ z ∧ z ≤ 65536)
theorem flat_len (n : Nat) (x : Nat → Nat) : ∀ k, ((List.range k).flatMap (blkL n x)).length ≤ 288 * k
 | 0 => by simp
 | k + 1 => by
  have := flat_len n x k
  have h := blkL_le n x k
  rw [List.range_succ, List.flatMap_append, List.length_append]
  simp only [List.flatMap_cons, List.flatMap_nil, List.append_nil]
  omega
end Go.Proofs.YtdohmokhfajjpaaGreatDoor.H

/- Digests held against one another. -/
namespace Go.Proofs.YtdohmokhfajjpaaGreatDoor.H
open Go Go.RowKit
def eqD (n : Nat) (x y : Nat → Nat) : Bool := (List.range n).all fun i => decide (x i = y i)
theorem eqD_iff (n : Nat) (x y : Nat → Nat) : eqD n x y = true ↔ ∀ i, i < n → x i = y i := by unfold eqD; rw [List.all_eq_true]; simp
end Go.Proofs.YtdohmokhfajjpaaGreatDoor.H

/- Contracts of SameBytes and bytes.Equal, of sound of package block, and of stands of the document's own answer. -/
namespace Go.Proofs.YtdohmokhfajjpaaGreatDoor.H
open Go Go.RowKit

theorem strN_inj (n m : Nat) (x y : Nat → Nat) (hx : ∀ i, i < n → x i < 256) (hy : ∀ i, i < m → y i < 256) : strN n x = strN m y ↔ n = m ∧ ∀ i, i < n → x i = y i := by
 constructor
 ·intro h
  unfold strN strOfNums at h
  have h1 := congrArg (fun s : ByteArray => s.data.toList) h
  simp only [List.map_map] at h1
  have hl := congrArg List.length h1
  simp at hl
  refine ⟨hl, fun i hi => ?_⟩
  have h2 := congrArg (fun l : List UInt8 => l[i]?) h1
  simp [hi, show i < m by omega] at h2
  have h3 := congrArg UInt8.toNat h2
  have := hx i hi
  have := hy i (by omega)
  simp at h3
  omega
 ·rintro ⟨rfl, h⟩
  unfold strN; congr 1; apply List.map_congr_left; intro i hi; rw [h i (List.mem_range.1 hi)]
def sameB (n : Nat) (x : Nat → Nat) (m : Nat) (y : Nat → Nat) : Bool := decide (n = m) && eqD n x y
theorem sameB_iff (n : Nat) (x : Nat → Nat) (m : Nat) (y : Nat → Nat) : sameB n x m y = true ↔ n = m ∧ ∀ i, i < n → x i = y i := by
 unfold sameB; rw [Bool.and_eq_true, decide_eq_true_eq, eqD_iff]
theorem str_eq (n m : Nat) (x y : Nat → Nat) (hx : ∀ i, i < n → x i < 256) (hy : ∀ i, i < m → y i < 256) : ((strN n x).toList == (strN m y).toList) = sameB n x m y := by
 rw [Bool.eq_iff_iff, beq_iff_eq, sameB_iff, ← strN_inj n m x y hx hy, Go.ByteArray.toList_eq, Go.ByteArray.toList_eq]
 exact ⟨Go.WideShapes.bytes_inj, fun h => by rw [h]⟩
set_option maxHeartbeats 400000 in
theorem same_any (p q : Option Addr) (n m c d : Nat) (x y : Nat → Nat) (w : World) (hp : StrAt w p n x) (hq : StrAt w q m y) (hx : ∀ i, i < n → x i < 256) (hy : ∀ i, i < m → y i < 256) :
  Calls Tryz.prog 11 #[.slice p n c, .slice q m d] w fun e w' => e = .returned (.bool (sameB n x m y)) ∧ w' = w := by
 have h1 := conv_str w p n c x hp
 have h2 := conv_str w q m d y hq
 have h3 := str_eq n m x y hx hy
 go_enter Tryz.func11, Tryz.ntmps11
 go_wp2
 go_ret
 exact ⟨by first | rfl | (rw [← h3]; rfl), rfl⟩
set_option maxHeartbeats 400000 in
theorem equal_any (p q : Option Addr) (n m c d : Nat) (x y : Nat → Nat) (w : World) (hp : StrAt w p n x) (hq : StrAt w q m y) (hx : ∀ i, i < n → x i < 256) (hy : ∀ i, i < m → y i < 256) :
  Calls Tryz.prog 39 #[.slice p n c, .slice q m d] w fun e w' => e = .returned (.bool (sameB n x m y)) ∧ w' = w := by
 have h1 := conv_str w p n c x hp
 have h2 := conv_str w q m d y hq
 have h3 := str_eq n m x y hx hy
 go_enter Tryz.func39, Tryz.ntmps39
 go_wp2
 go_ret
 exact ⟨by first | rfl | (rw [← h3]; rfl), rfl⟩
/-- Where the bytes of a block end in a file of m bytes. -/
def sEnd (m n i : Nat) : Nat := if bend n i = n then m else 288 * i + 32 + (bend n i - 256 * i)
/-- Is the block sound? -/
def snd (y : Nat → Nat) (m n i : Nat) : Bool := decide (288 * i + 32 + (bend n i - 256 * i) ≤ m) && eqD 32 (sha (sEnd m n i - (288 * i + 32)) (fun j => y (288 * i + 32 + j))) (fun j => y (288 * i + j))
theorem eq32 (x y : Nat → Nat) : sameB 32 x 32 y = eqD 32 x y := by unfold sameB; simp
theorem snd_false {y : Nat → Nat} {m n i : Nat} (h : ¬ 288 * i + 32 + (bend n i - 256 * i) ≤ m) : snd y m n i = false := by unfold snd; simp [h]
theorem snd_eq {y : Nat → Nat} {m n i : Nat} (h : 288 * i + 32 + (bend n i - 256 * i) ≤ m) : snd y m n i = eqD 32 (sha (sEnd m n i - (288 * i + 32)) (fun j => y (288 * i + 32 + j))) (fun j => y (288 * i + j)) := by unfold snd; simp [h]
set_option maxRecDepth 100000 in
set_option maxHeartbeats 1000000 in
theorem sound_any (p : Option Addr) (m c : Nat) (y : Nat → Nat) (n i : Nat) (w : World) (hn : n ≤ 65536) (hi : i < cnt n) (hm : m ≤ 100000) (hc : m ≤ c) (hy : StrAt w p m y) (hb : ∀ j, j < m → y j < 256) :
  Calls Tryz.prog 103 #[.slice p m c, .int .i64 (n : Int), .int .i64 ((256 * i : Nat) : Int), .int .i64 ((bend n i : Nat) : Int)] w fun e w' => e = .returned (.bool (snd y m n i)) ∧ Below w.heap.size w w' := by
 have hcn : cnt n = (n + 255) / 256 := rfl
 have HN := hid hcn
 have HY := hid hy
 have HB := hid hb
 have hF := @snd_false y m n i
 have hT := @snd_eq y m n i
 have hE : sEnd m n i = if bend n i = n then m else 288 * i + 32 + (bend n i - 256 * i) := rfl
 have hbd : bend n i = min (256 * i + 256) n := rfl
 obtain ⟨s, hs⟩ : ∃ s, snd y m n i = s := ⟨_, rfl⟩
 obtain ⟨E, hEe⟩ : ∃ E, sEnd m n i = E := ⟨_, rfl⟩
 obtain ⟨r, hr⟩ : ∃ r, bend n i = r := ⟨_, rfl⟩
 obtain ⟨q, hq⟩ : ∃ q, 256 * i = q := ⟨_, rfl⟩
 obtain ⟨b, hbb⟩ : ∃ b, 288 * i + 32 = b := ⟨_, rfl⟩
 rw [hs, hr, hq, hbb] at hF
 rw [hs, hr, hq, hbb, hEe] at hT
 rw [hr, hq] at hbd
 rw [hEe, hr, hq, hbb] at hE
 rw [hs, hr, hq]
 have hqr : q < r ∧ r ≤ n ∧ r - q ≤ 256 := by omega
 have hpl : q + 32 * i + 32 = b := by omega
 have hqi : q / 256 = i := by omega
 have e1 : IntKind.i64.wrap ((b : Int) + (r : Int)) = (b : Int) + (r : Int) := IntWalk.i64_in _ ⟨by omega, by omega⟩
 obtain ⟨d, hd⟩ : ∃ d, b + (r - q) = d := ⟨_, rfl⟩
 have e2 : IntKind.i64.wrap ((b : Int) + (r : Int) - (q : Int)) = (d : Int) := by rw [IntWalk.i64_in _ ⟨by omega, by omega⟩]; omega
 have e3 : IntKind.i64.wrap ((b : Int) - 32) = ((288 * i : Nat) : Int) := by rw [IntWalk.i64_in _ ⟨by omega, by omega⟩]; omega
 rw [hd] at hF hT hE
 by_cases h1 : d ≤ m
 ·have h1' : ¬ (m : Int) < (d : Int) := by omega
  have hT := hT h1
  obtain ⟨o, ho⟩ : ∃ o, 288 * i = o := ⟨_, rfl⟩
  rw [ho] at e3 hT
  have hEm : b ≤ E ∧ E ≤ m := by split at hE <;> omega
  obtain ⟨p2, hcut, hp2, _⟩ := run_cut p m c b E hEm.1 (by omega)
  obtain ⟨p3, hcut3, hp3, _⟩ := run_cut p m c o b (by omega) (by omega)
  have h32 : b - o = 32 := by omega
  rw [h32] at hcut3
  have HS2 : Hid (StrAt w p2 (E - b) (fun j => y (b + j))) := hy.cut hc hEm.2 hp2
  have HS3 : Hid (∀ W', Below w.heap.size w W' → StrAt W' p3 32 (fun j => y (o + j))) := fun W' hW' => by
   have := (hy.below hW').cut (h := b) hc (by omega) hp3
   rwa [h32] at this
  obtain ⟨dg, hdg⟩ : ∃ dg, sha (E - b) (fun j => y (b + j)) = dg := ⟨_, rfl⟩
  rw [hdg] at hT
  have HSUM : Hid (Calls Tryz.prog 22 #[.slice p2 (E - b) (c - b)] w fun e w' => e = .returned (.agg (aB 32 dg)) ∧ Below w.heap.size w w') := by
   show Calls _ _ _ _ _
   rw [← hdg]; exact sum_any _ _ _ _ _ (by omega) (by omega) HS2.out (fun j hj => hb _ (by omega))
  have HDL : Hid (∀ j, j < 32 → dg j < 256) := fun j _ => by rw [← hdg]; exact sha_lt _ _ _
  have HYL : Hid (∀ j, j < 32 → y (o + j) < 256) := fun j hj => hb _ (by omega)
  have HT := hid hT
  have HBo : Hid (b = o + 32) := by show b = o + 32; omega
  clear hdg hF hT hy hb hp2 hp3 HS2 hEm hbd h32
  by_cases h2 : r = n
  ·rw [if_pos h2] at hE
   subst hE
   have h2' : (r : Int) = (n : Int) := by omega
   go_enter Tryz.func103, Tryz.ntmps103
   go_upto_region 8 with (first
    | (go_at_call 104; refine (place_any q i (by omega) hqi _).mono ?_; rintro e w5 ⟨rfl, hw⟩; have h3 := hw.symm; subst h3; rw [hpl])
    | (go_at_call 22; refine HSUM.out.mono ?_; rintro e w5 ⟨rfl, hbw⟩; have HB5 := hid hbw; clear hbw)
    | refine wpList_alloc_row rfl 41 rfl _ zero32 ?_
    | refine wpList_store_row rfl 41 _ _ rfl _ _ rfl rfl _ _ (CAt.new _ _ _) (size32 _) (by simp only [aB_size]) (aB_one _ _) ?_)
   have hb6 : Below w.heap.size w ((w5.alloc (.cells (aB 32 zB) 41)).setRow w5.heap.size (aB 32 dg)) := below_setRow (HB5.out.alloc HB5.out.size _) HB5.out.size _
   have hd : CAt ((w5.alloc (.cells (aB 32 zB) 41)).setRow w5.heap.size (aB 32 dg)) w5.heap.size (aB 32 dg) 41 := (CAt.new _ _ _).row _
   generalize ((w5.alloc (.cells (aB 32 zB) 41)).setRow w5.heap.size (aB 32 dg)) = W6 at *
   generalize w5.heap.size = g5 at *
   have HA : Hid (∀ k, StrAt (W6.drewN k) (some ⟨g5, 0, none⟩) 32 dg) := fun k => .inr ⟨_, 0, rfl, fun i hi => by rw [Nat.zero_add]; exact (hd.drewN k).cellB i hi⟩
   have HC : Hid (∀ k, StrAt (W6.drewN k) p3 32 (fun j => y (o + j))) := fun k => HS3.out _ (Below.drewN' hb6 k)
   have HB6 := hid hb6
   clear hb6 hd
   have hob : (o : Int) ≤ (b : Int) := by have := HBo.out; omega
   go_quiet ((go_at_call 39; refine Calls.quiet_of_same (equal_any _ _ _ _ _ _ dg (fun j => y (o + j)) _ (HA.out _) (HC.out _) HDL.out HYL.out)))
   go_wp2
   go_ret
   exact ⟨by rw [HT.out, ← eq32]; rfl, Below.drewN' HB6.out _⟩
  ·rw [if_neg h2] at hE
   subst hE
   have h2' : ¬ (r : Int) = (n : Int) := by omega
   go_enter Tryz.func103, Tryz.ntmps103
   go_upto_region 8 with (first
    | (go_at_call 104; refine (place_any q i (by omega) hqi _).mono ?_; rintro e w5 ⟨rfl, hw⟩; have h3 := hw.symm; subst h3; rw [hpl])
    | (go_at_call 22; refine HSUM.out.mono ?_; rintro e w5 ⟨rfl, hbw⟩; have HB5 := hid hbw; clear hbw)
    | refine wpList_alloc_row rfl 41 rfl _ zero32 ?_
    | refine wpList_store_row rfl 41 _ _ rfl _ _ rfl rfl _ _ (CAt.new _ _ _) (size32 _) (by simp only [aB_size]) (aB_one _ _) ?_)
   have hb6 : Below w.heap.size w ((w5.alloc (.cells (aB 32 zB) 41)).setRow w5.heap.size (aB 32 dg)) := below_setRow (HB5.out.alloc HB5.out.size _) HB5.out.size _
   have hd : CAt ((w5.alloc (.cells (aB 32 zB) 41)).setRow w5.heap.size (aB 32 dg)) w5.heap.size (aB 32 dg) 41 := (CAt.new _ _ _).row _
   generalize ((w5.alloc (.cells (aB 32 zB) 41)).setRow w5.heap.size (aB 32 dg)) = W6 at *
   generalize w5.heap.size = g5 at *
   have HA : Hid (∀ k, StrAt (W6.drewN k) (some ⟨g5, 0, none⟩) 32 dg) := fun k => .inr ⟨_, 0, rfl, fun i hi => by rw [Nat.zero_add]; exact (hd.drewN k).cellB i hi⟩
   have HC : Hid (∀ k, StrAt (W6.drewN k) p3 32 (fun j => y (o + j))) := fun k => HS3.out _ (Below.drewN' hb6 k)
   have HB6 := hid hb6
   clear hb6 hd
   have hob : (o : Int) ≤ (b : Int) := by have := HBo.out; omega
   go_quiet ((go_at_call 39; refine Calls.quiet_of_same (equal_any _ _ _ _ _ _ dg (fun j => y (o + j)) _ (HA.out _) (HC.out _) HDL.out HYL.out)))
   go_wp2
   go_ret
   exact ⟨by rw [HT.out, ← eq32]; rfl, Below.drewN' HB6.out _⟩
 ·have h1' : (m : Int) < (d : Int) := by omega
  have hF := hF h1
  go_enter Tryz.func103, Tryz.ntmps103
  go_wp2_with (go_at_call 104; refine (place_any q i (by omega) hqi _).mono ?_; rintro e w5 ⟨rfl, hw⟩; have h3 := hw.symm; subst h3; rw [hpl])
  go_ret
  exact ⟨by rw [hF]; rfl, Below.refl _ _⟩
end Go.Proofs.YtdohmokhfajjpaaGreatDoor.H
