/- Buffers of bytes as lists; parts of slices; the file of bytes as a list. -/
import Derived.Test.YtgmehiidnclgmaaFb
import Derived.Test.YtgmehiidnclgmaaSk
import Derived.Test.YtgmehiidnclgmaaRb
import Derived.Laws.OwnMore
namespace Go.Proofs.Ytgmehiidnclgmaa
open Go Go.RowKit

def u8 (k : Nat) : Value := .int .u8 (k : Int)
/-- The value v owns just the bytes L. -/
def BufL (B : Nat) (w : World) (v : Value) (L : List Nat) : Prop := w.ownsRow B 5 1 v L.length (L.map u8)
theorem BufL.nil (B : Nat) (w : World) : BufL B w (.slice none 0 0) [] := World.ownsRow_nil w B 5 1
theorem BufL.buf {B : Nat} {w : World} {v : Value} {L : List Nat} (h : BufL B w v L) : Buf B w v L.length (fun i => L.getD i 0) := by
  unfold Buf BufL at *
  rwa [show valN L.length (fun i => L.getD i 0) = L.map u8 from by
    apply List.ext_getElem?
    intro i
    by_cases hi : i < L.length
    · rw [valN_get _ _ _ hi]; simp [hi, u8]
    · rw [List.getElem?_eq_none (by rw [valN_len]; omega), List.getElem?_eq_none (by simpa using hi)]]
theorem BufL.kept {B : Nat} {w w' : World} {v : Value} {L : List Nat} {row : Option Nat} (h : BufL B w v L) (hg : w.grownBy w' row) (hne : v.ownBlock = none ∨ v.ownBlock ≠ row) : BufL B w' v L := World.ownsRow.kept h hg hne
theorem BufL.below {B : Nat} {w w' : World} {v : Value} {L : List Nat} (h : BufL B w v L) (hb : Below w.heap.size w w') : BufL B w' v L := by
  obtain ⟨hl, h | ⟨g, cap, cur, rfl, hB, hg, hc, hm, hs, ht⟩⟩ := h
  · exact ⟨hl, .inl h⟩
  · refine ⟨hl, .inr ⟨g, cap, cur, rfl, hB, ?_, hc, hm, hs, ht⟩⟩
    exact (hb.block g (CAt.lt hg)).trans hg
theorem map_range_u8 (l : Nat) (y : Nat → Nat) : ((List.range l).map y).map u8 = valN l y := by simp [valN, u8]
theorem append_none (v : Value) (L : List Nat) (B : Nat) (w : World) (hv : BufL B w v L) : (Builtin.append_ #[22, 22] 22 #[v, .slice none 0 0]).run Try.prog w = .ok v w := by
  obtain ⟨i0, hi0, hz0, hz1, hz2⟩ := info_parts Try.info5
  exact run_append_owned_none (P := Try.prog) (w := w) B 22 22 5 i0 1 Try.underlying22 hi0 v _ _ hv
/-- Bytes behind a buffer: it stays where it is if there is room. -/
theorem BufL.app {B : Nat} {w : World} {v : Value} {L : List Nat} (hv : BufL B w v L) (p : Option Addr) (l c : Nat) (y : Nat → Nat) (hy : StrAt w p l y) (hp : p = none → l = 0 ∧ c = 0) (hn : L.length + l ≤ 2000000) (hB : B ≤ w.heap.size) :
    ∃ v' w', (Builtin.append_ #[22, 22] 22 #[v, .slice p l c]).run Try.prog w = .ok v' w' ∧ BufL B w' v' (L ++ (List.range l).map y) ∧ w.grownBy w' v.ownBlock ∧
      (∀ g k c', v = .slice (some ⟨g, 0, none⟩) k c' → L.length + l ≤ c' → v' = .slice (some ⟨g, 0, none⟩) (L.length + l) c') := by
  obtain ⟨i0, hi0, hz0, hz1, hz2⟩ := info_parts Try.info5
  cases p with
  | none =>
    obtain ⟨rfl, rfl⟩ := hp rfl
    refine ⟨v, w, append_none v L B w hv, by simpa using hv, ⟨rfl, rfl, rfl, Nat.le_refl _, fun _ _ _ => rfl⟩, ?_⟩
    rintro g k c' rfl _
    obtain ⟨_, h | ⟨g', cap, cur, h, _⟩⟩ := hv
    · cases h.1
    · cases h; simp
  | some a =>
    have hcells : ∀ j u, (valN l y)[j]? = some u → w.cell? (a.add j) = some u := fun j u hj => by
        have hlt : j < l := by
          rcases Nat.lt_or_ge j l with h | h
          · exact h
          · rw [List.getElem?_eq_none (by rw [valN_len]; exact h)] at hj; cases hj
        rw [valN_get _ _ _ hlt] at hj
        cases hj
        rcases hy with h | ⟨b, o, e, hr⟩
        · omega
        · cases e
          rw [add_plain']; exact hr j hlt
    have hone : ∀ u ∈ valN l y, u.oneCell' = true := fun u hu => by
        simp only [valN, List.mem_map] at hu
        obtain ⟨i, _, rfl⟩ := hu; rfl
    have hL : (L ++ (List.range l).map y).length = L.length + l := by simp
    have hM : (L ++ (List.range l).map y).map u8 = L.map u8 ++ valN l y := by rw [List.map_append, map_range_u8]
    by_cases hfit : ∃ g k c', v = .slice (some ⟨g, 0, none⟩) k c' ∧ L.length + l ≤ c'
    · obtain ⟨g, k, c', rfl, hroom⟩ := hfit
      have hv0 : w.ownsRow B 5 1 (.slice (some ⟨g, 0, none⟩) k c') L.length (L.map u8) := hv
      obtain rfl : k = L.length := by
        obtain ⟨_, h | ⟨g', cap, cur, h, _⟩⟩ := hv0
        · cases h.1
        · cases h; rfl
      obtain ⟨w', hr, h2, h3⟩ := run_append_fits (P := Try.prog) w B 22 22 5 i0 1 Try.underlying22 hi0 hz1 g L.length c' (L.map u8) hv0 a l c (valN l y) (by rw [valN_len, Nat.mul_one]) hcells hone hroom
      refine ⟨_, w', hr, ?_, h3, ?_⟩
      · unfold BufL; rw [hL, hM]; exact h2
      · rintro g2 k2 c2 h _; cases h; rfl
    · obtain ⟨v', w', hr, h2, h3, _, _⟩ := run_append_own_at (P := Try.prog) w B 22 22 5 i0 (.int .u8 0) 1 1 Try.underlying22 hi0 hz0 hz1 hz2 rfl (by decide) v L.length (L.map u8) hv a l c (valN l y) (by rw [valN_len, Nat.mul_one]) hcells hone (by unfold maxLen; omega) (by omega) hB
      refine ⟨v', w', hr, ?_, h3, ?_⟩
      · unfold BufL; rw [hL, hM]; exact h2
      · intro g k c' h h'; exact absurd ⟨g, k, c', h, h'⟩ hfit
theorem BufL.cells {B : Nat} {w : World} {v : Value} {L : List Nat} (h : BufL B w v L) : ∀ (j : Nat) (o : Obj), v.ownBlock = some j → w.heap[j]? = some o → o.isCells = true := by
  intro j o hj ho
  obtain ⟨_, h | ⟨g, cap, cur, rfl, _, hg, _⟩⟩ := h
  · rw [h.1] at hj; cases hj
  · cases hj; rw [hg] at ho; cases ho; rfl
theorem BufL.ge {B : Nat} {w : World} {v : Value} {L : List Nat} (h : BufL B w v L) : ∀ j, v.ownBlock = some j → B ≤ j ∧ j < w.heap.size := fun j hj => World.ownsRow.lt h j hj
theorem boxed_notBuf {B C : Nat} {t : TypeId} {w : World} {u v : Value} {L : List Nat} (h : Boxed w C t u) (ht : t ≠ 5) (hv : BufL B w v L) : some C ≠ v.ownBlock := h.not_row ht hv
/-- make([]byte, 0, c) -/
theorem run_make_cap (c : Nat) (hc : c ≤ 100000) (w : World) :
    (Instr.makeSlice 22 (.int .i64 0) (.int .i64 (c : Int))).run Try.prog w = .ok (.slice (some ⟨w.heap.size, 0, none⟩) 0 c) (w.alloc (.cells (madeCells #[.int .u8 0] c) 5)) := by
  obtain ⟨i0, hi, hz0, hz1, hz2⟩ := info_parts Try.info5
  have h := run_make (P := Try.prog) w 22 5 i0 (.int .u8 0) Try.underlying22 hi hz0 .i64 .i64 0 c (by omega) (by omega) (by rw [hz2]; omega) (by omega)
  rw [hz1] at h
  simpa [Value.cells] using h
theorem BufL.made (w : World) (B c : Nat) (hB : B ≤ w.heap.size) (hc : c ≤ 100000) : BufL B (w.alloc (.cells (madeCells #[.int .u8 0] c) 5)) (.slice (some ⟨w.heap.size, 0, none⟩) 0 c) [] :=
  ⟨rfl, .inr ⟨_, _, _, rfl, hB, heap_alloc_new _ _, by simp, by unfold maxLen; omega, by simp [madeCells], by simp⟩⟩
/-- s[l:h] -/
theorem run_cut (p : Option Addr) (n c l h : Nat) (hlh : l ≤ h) (hh : h ≤ c) : ∃ p2 : Option Addr, (∀ w : World, (Instr.slice 22 (.slice p n c) (some (.int .i64 (l : Int))) (some (.int .i64 (h : Int))) none).run Try.prog w = .ok (.slice p2 (h - l) (c - l)) w) ∧
    (∀ b o, p = some ⟨b, o, none⟩ → l < c → p2 = some ⟨b, o + l, none⟩) ∧ (p2 = none → p = none) := by
  have hr : ∀ w, (Instr.slice 22 (.slice p n c) (some (.int .i64 (l : Int))) (some (.int .i64 (h : Int))) none).run Try.prog w = .ok (sliced p l h c 1) w := fun w => by
    rw [run_slice_lh (P := Try.prog) w 22 p n c under41 .i64 .i64 (l : Int) (h : Int) (by omega) (by omega) (by omega), size41]
    simp [Result.andThen]
  cases p with
  | none => exact ⟨none, fun w => by rw [hr]; simp [sliced], (fun b o e => by cases e), fun _ => rfl⟩
  | some a =>
    by_cases e : c = l
    · exact ⟨some a, fun w => by rw [hr]; simp [sliced, e], (fun b o _ q => by omega), fun e => by cases e⟩
    · refine ⟨some (a.add l), fun w => by rw [hr]; simp [sliced, e], (fun b o q _ => ?_), fun e => by cases e⟩
      cases q
      rw [add_plain']
theorem StrAt.cut {w : World} {p p2 : Option Addr} {n c l h : Nat} {x : Nat → Nat} (hs : StrAt w p n x) (hc : n ≤ c) (hh : h ≤ n) (hp : ∀ b o, p = some ⟨b, o, none⟩ → l < c → p2 = some ⟨b, o + l, none⟩) : StrAt w p2 (h - l) (fun j => x (l + j)) :=
  (hs.drop hc hp).short (by omega)
/-- The block of bytes that begins at 256 i, behind its digest. -/
def blkL (n : Nat) (x : Nat → Nat) (i : Nat) : List Nat := (List.range 32).map (sha (bend n i - 256 * i) (fun j => x (256 * i + j))) ++ (List.range (bend n i - 256 * i)).map (fun j => x (256 * i + j))
def fileL (n : Nat) (x : Nat → Nat) : List Nat := (List.range (cnt n)).flatMap (blkL n x)
def preL (n : Nat) (x : Nat → Nat) (pre : List (Fin (cnt n))) : List Nat := pre.flatMap fun i => blkL n x i.val
theorem blkL_len (n : Nat) (x : Nat → Nat) (i : Nat) : (blkL n x i).length = 32 + (bend n i - 256 * i) := by simp [blkL]
theorem blkL_le (n : Nat) (x : Nat → Nat) (i : Nat) : (blkL n x i).length ≤ 288 := by rw [blkL_len]; unfold bend; omega
theorem preL_snoc (n : Nat) (x : Nat → Nat) (pre : List (Fin (cnt n))) (i : Fin (cnt n)) : preL n x (pre ++ [i]) = preL n x pre ++ blkL n x i.val := by simp [preL]
theorem preL_len (n : Nat) (x : Nat → Nat) : ∀ pre : List (Fin (cnt n)), (preL n x pre).length ≤ 288 * pre.length
  | [] => by simp [preL]
  | i :: pre => by
    have := preL_len n x pre
    have h := blkL_le n x i.val
    unfold preL at *
    rw [List.flatMap_cons, List.length_append, List.length_cons]; omega
theorem preL_all (n : Nat) (x : Nat → Nat) : preL n x (List.finRange (cnt n)) = fileL n x := by
  unfold preL fileL
  have h : (List.finRange (cnt n)).map (fun i => i.val) = List.range (cnt n) := by
    apply List.ext_getElem
    · simp
    · intro i h1 h2; simp
  rw [← h, List.flatMap_map]
theorem BufL.form {B : Nat} {w : World} {v : Value} {L : List Nat} (h : BufL B w v L) : ∃ po cc, v = .slice po L.length cc := by
  obtain ⟨_, ⟨h1, h2⟩ | ⟨g, cap, cur, rfl, _⟩⟩ := h
  · exact ⟨none, 0, by rw [h1, h2]⟩
  · exact ⟨_, _, rfl⟩
theorem BufL.form3 {B : Nat} {w : World} {v : Value} {L : List Nat} (h : BufL B w v L) : ∃ po k cc, v = .slice po k cc := by
  obtain ⟨po, cc, e⟩ := h.form
  exact ⟨po, _, cc, e⟩
/-- A buffer in a variable's box: bytes put behind it, and the variable set. -/
theorem box_app {W : World} {Bx B : Nat} {v : Value} {L : List Nat} (hv : Boxed W Bx 22 v) (hb : BufL B W v L) (hB : B ≤ W.heap.size) (hBx : B ≤ Bx) (p : Option Addr) (l c : Nat) (y : Nat → Nat) (hy : StrAt W p l y) (hp : p = none → l = 0 ∧ c = 0) (hn : L.length + l ≤ 2000000) :
    ∃ po cc W1, (Builtin.append_ #[22, 22] 22 #[v, .slice p l c]).run Try.prog W = .ok (.slice po (L.length + l) cc) W1 ∧ Boxed W1 Bx 22 v ∧
      Boxed (W1.setCell ⟨Bx, 0, none⟩ (.slice po (L.length + l) cc)) Bx 22 (.slice po (L.length + l) cc) ∧ BufL B (W1.setCell ⟨Bx, 0, none⟩ (.slice po (L.length + l) cc)) (.slice po (L.length + l) cc) (L ++ (List.range l).map y) ∧
      KeepsOthers W (W1.setCell ⟨Bx, 0, none⟩ (.slice po (L.length + l) cc)) ∧ (∀ C t u, C ≠ Bx → t ≠ 5 → Boxed W C t u → Boxed (W1.setCell ⟨Bx, 0, none⟩ (.slice po (L.length + l) cc)) C t u) ∧
      Below B W (W1.setCell ⟨Bx, 0, none⟩ (.slice po (L.length + l) cc)) ∧ (∀ g k c', v = .slice (some ⟨g, 0, none⟩) k c' → L.length + l ≤ c' → po = some ⟨g, 0, none⟩ ∧ cc = c') := by
  obtain ⟨v', W1, hr, h2, h3, h4⟩ := hb.app p l c y hy hp hn hB
  obtain ⟨po, cc, rfl⟩ := h2.form
  have hL : (L ++ (List.range l).map y).length = L.length + l := by simp
  rw [hL] at hr h2 h4
  have b1 : Boxed W1 Bx 22 v := hv.kept h3 (boxed_notBuf hv (by decide) hb)
  have hne : some Bx ≠ Value.ownBlock (.slice po (L.length + l) cc) := boxed_notBuf b1 (by decide) h2
  refine ⟨po, cc, W1, hr, b1, b1.set _, h2.kept (grownBy_setCell' W1 Bx _) (.inr hne.symm), (KeepsOthers.of_grownBy h3 hb.cells).trans (KeepsOthers.setCell _ _ _), ?_, ?_, ?_⟩
  · intro C t u hC ht hb2
    have := hb2.kept h3 (boxed_notBuf hb2 ht hb)
    exact this.other hC _
  · exact ((Below.refl B W).grown h3 hB (fun k e => (hb.ge k e).1)).setCell (p := ⟨Bx, 0, none⟩) hBx _
  · intro g k c' e h'
    have := h4 g k c' e h'
    cases this
    exact ⟨rfl, rfl⟩
/-- A row of bytes known whole. -/
def RowL (w : World) (g : Nat) (L : List Nat) : Prop := w.heap[g]? = some (.cells (L.map u8).toArray 5 (0, 0))
theorem BufL.full {B : Nat} {w : World} {g : Nat} {L : List Nat} (h : BufL B w (.slice (some ⟨g, 0, none⟩) L.length L.length) L) : RowL w g L := by
  obtain ⟨_, h | ⟨g', cap, cur, e, _, hg, _, _, hs, ht⟩⟩ := h
  · cases h.1
  · cases e
    unfold RowL
    rw [hg]
    congr 2
    have hl : cur.toList.length = L.length := by simpa using hs
    rw [Nat.mul_one, List.take_of_length_le (by omega)] at ht
    rw [← ht]
theorem RowL.lt {w : World} {g : Nat} {L : List Nat} (h : RowL w g L) : g < w.heap.size := (Array.getElem?_eq_some_iff.1 h).1
theorem RowL.below {B : Nat} {w w' : World} {g : Nat} {L : List Nat} (h : RowL w g L) (hb : Below B w w') (hg : g < B) : RowL w' g L := (hb.block g hg).trans h
theorem RowL.str {w : World} {g : Nat} {L : List Nat} (h : RowL w g L) : StrAt w (some ⟨g, 0, none⟩) L.length (fun i => L.getD i 0) := by
  refine .inr ⟨g, 0, rfl, fun i hi => ?_⟩
  rw [Nat.zero_add]
  unfold World.cell?
  simp [show w.heap[g]? = _ from h, hi, u8]
theorem take_pre {n : Nat} {pre : List (Fin (cnt n))} {i : Fin (cnt n)} (h : ∃ k, k ≤ cnt n ∧ pre ++ [i] = (List.finRange (cnt n)).take k) : ∃ k, k < cnt n ∧ pre = (List.finRange (cnt n)).take k ∧ i.val = k := by
  obtain ⟨k, hk, e⟩ := h
  cases k with
  | zero => simp at e
  | succ k =>
    rw [take_snoc _ k hk] at e
    have h1 := List.append_inj' e rfl
    exact ⟨k, hk, h1.1, by have := h1.2; simp at this; rw [this]⟩
theorem preL_take (n : Nat) (x : Nat → Nat) : ∀ k, k ≤ cnt n → (preL n x ((List.finRange (cnt n)).take k)).length = 32 * k + min n (256 * k)
  | 0, _ => by simp [preL]
  | k + 1, hk => by
    have ih := preL_take n x k (by omega)
    rw [take_snoc _ k hk, preL_snoc, List.length_append, ih, blkL_len]
    show _ + (32 + (bend n k - 256 * k)) = _
    have : cnt n = (n + 255) / 256 := rfl
    unfold bend; omega
theorem fileL_len (n : Nat) (x : Nat → Nat) : (fileL n x).length = n + 32 * cnt n := by
  have h := preL_take n x (cnt n) (Nat.le_refl _)
  rw [List.take_of_length_le (by simp), preL_all] at h
  rw [h]
  have : cnt n = (n + 255) / 256 := rfl
  omega
end Go.Proofs.Ytgmehiidnclgmaa
