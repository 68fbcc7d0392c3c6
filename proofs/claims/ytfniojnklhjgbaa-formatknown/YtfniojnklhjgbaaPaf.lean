/- Texts laid into one, cut to what is needed: the remark ahead of each part says what is proved there. -/
import Derived.Test.YtfniojnklhjgbaaPae
import Derived.Test.YtfniojnklhjgbaaPab
import Derived.Lib.ConvBytes
import Derived.Deep.MidRow
import Derived.Laws.Tables
import Derived.Laws.Rows
/- Journals: what is added, removed, found. Mathematics alone. -/
namespace Go.Proofs.Ytfniojnklhjgbaa

/-- The records but one's. -/
def wout (l : List Rc) (id : List Nat) : List Rc := l.filter fun r => decide (r.id ≠ id)
/-- May be added to? -/
def okA (j : Jr) : Bool := (decide (j.seq = 0) && j.recs.isEmpty) || okJ j
/-- The error's number, and the journal. -/
def addJ (j : Jr) (r : Rc) : Nat × Option Jr :=
  if okA j = false ∨ okRc r = false then (2, none) else
  if j.seq = 1099511627776 ∨ 64 ≤ (wout j.recs r.id).length then (8, none) else (0, some ⟨j.seq + 1, r :: wout j.recs r.id⟩)
end Go.Proofs.Ytfniojnklhjgbaa

/- Which of the drives' journals counts. Mathematics alone. -/
namespace Go.Proofs.Ytfniojnklhjgbaa

/-- What a drive answers. -/
structure Cp where
  err : Int
  b : List Nat
section
variable (D : List Nat → List Nat)
/-- 'As good as, or less than'. -/
def leC (x y : Int × Nat) : Prop := x.1 < y.1 ∨ x.1 = y.1 ∧ x.2 ≤ y.2
theorem leC.refl (x : Int × Nat) : leC x x := Or.inr ⟨rfl, Nat.le_refl _⟩
theorem leC.trans {x y z : Int × Nat} (h : leC x y) (k : leC y z) : leC x z := by
  unfold leC at *
  omega
variable {D}
end
end Go.Proofs.Ytfniojnklhjgbaa

/- Contracts of what writes numbers and texts: clipped, fresh, appendNumber, appendText, Uint, Text of package record. -/
namespace Go.Proofs.Ytfniojnklhjgbaa
open Go Go.RowKit

theorem wpList_append_run {P : Program} {w w' : World} {ops : Array Oper} {rest : List Oper} {o : Oper} {a : Act} {Q : Exit → Act → World → Prop} (s x : Operand) (t t2 : TypeId)
    (ho : o.op = .call { callee := .builtin .append, args := #[s, x], argTypes := #[t, t2] }) (hw : Region.wanted o (yielded ops a.tmps) = true)
    (v xv v' : Value) (hs : a.eval s = v) (hx : a.eval x = xv) (hr : (Builtin.append_ #[t, t2] o.type #[v, xv]).run P w = .ok v' w') (h : wpList P ops Q rest (a.put o.dst v') w') : wpList P ops Q (o :: rest) a w := by
  refine BigFrame.wpList_want hw fun K hK => ?_
  unfold Oper.wp execOp
  simp only [ho, resolve, invoke, builtin, Sem.run_bind, Sem.run_pure, Result.andThen_ok, List.map_toArray, List.map_cons, List.map_nil, hs, hx, hr]
  exact hK _ _ h
/-- Bytes that are told: in new memory, without spare room. -/
def OutB (B : Nat) (w : World) (v : Value) (bs : List Nat) : Prop := (v = .slice none 0 0 ∧ bs = []) ∨ ∃ g, v = .slice (some ⟨g, 0, none⟩) bs.length bs.length ∧ B ≤ g ∧ g < w.heap.size ∧ (∀ i, i < bs.length → w.cell? ⟨g, i, none⟩ = some (u8 (bs.getD i 0))) ∧ ∀ i, w.frozen? ⟨g, i, none⟩ = false
theorem OutB.form {B : Nat} {w : World} {v : Value} {bs : List Nat} (h : OutB B w v bs) : ∃ po, v = .slice po bs.length bs.length ∧ BL w po bs ∧ (po = none → bs.length = 0) := by
  rcases h with ⟨rfl, rfl⟩ | ⟨g, rfl, _, _, h, _⟩
  · exact ⟨none, rfl, Or.inl rfl, fun _ => rfl⟩
  · exact ⟨_, rfl, Or.inr ⟨g, 0, rfl, fun i hi => by rw [Nat.zero_add]; exact h i hi⟩, fun e => by cases e⟩
theorem OutB.below {B : Nat} {w w' : World} {v : Value} {bs : List Nat} (h : OutB B w v bs) (hb : Below w.heap.size w w') : OutB B w' v bs := by
  rcases h with h | ⟨g, h1, h2, h3, h4, h5⟩
  · exact Or.inl h
  · have e := hb.block g h3
    exact Or.inr ⟨g, h1, h2, by have := hb.size; omega, fun i hi => (World.cell?_of_block e).trans (h4 i hi), fun i => by have := h5 i; unfold World.frozen? at this ⊢; rw [e]; exact this⟩
theorem OutB.base {B C : Nat} {w : World} {v : Value} {bs : List Nat} (h : OutB B w v bs) (hC : C ≤ B) : OutB C w v bs := by
  rcases h with h | ⟨g, h1, h2, h3⟩
  · exact Or.inl h
  · exact Or.inr ⟨g, h1, by omega, h3⟩
theorem elem8 (w : World) : (sizeOf (Try.prog.elem 24)).run Try.prog w = .ok 1 w := by
  have hi : (Try.prog.info? (Try.prog.elem 24)).map (·.size) = some 1 := by kernel_rfl
  obtain ⟨i, h1, h2⟩ := Option.map_eq_some_iff.1 hi
  simp [sizeOf, typeInfo, h1, h2]
theorem underE8 : Try.prog.underlying 24 = some (.slice (Try.prog.elem 24)) := by kernel_rfl
theorem Buf.cap {B : Nat} {w : World} {po : Option Addr} {n c : Nat} {L : List Nat} (h : Buf B w (.slice po n c) L) : n = L.length ∧ n ≤ c := by
  rcases h.2 with ⟨e, h0⟩ | ⟨g, cap, cur, e, _, hg, h1, _, h3, h4⟩
  · cases e; exact ⟨h0.symm, Nat.le_refl _⟩
  · cases e; exact ⟨rfl, h1⟩
theorem Buf.out {B : Nat} {w : World} {po : Option Addr} {n c : Nat} {L : List Nat} (h : Buf B w (.slice po n c) L) : OutB B w (.slice po n n) L := by
  have hbl := h.bl
  have hlt := own_ge h
  rcases h.2 with ⟨e, h0⟩ | ⟨g, cap, cur, e, hB, hg, h1, _, h3, h4⟩
  · cases e; exact Or.inl ⟨rfl, List.eq_nil_of_length_eq_zero h0⟩
  · cases e
    have hc : CAt w g cur 5 := hg
    refine Or.inr ⟨g, rfl, hB, hc.lt, fun i hi => ?_, fun i => hc.free i⟩
    rcases hbl with h | ⟨b, o, e, h⟩
    · subst h; simp at hi
    · cases e; have := h i hi; rwa [Nat.zero_add] at this
end Go.Proofs.Ytfniojnklhjgbaa

/- Contracts of number and text of the reader of package record; of readerOf, told, ReadUint and ReadText. -/
namespace Go.Proofs.Ytfniojnklhjgbaa
open Go Go.RowKit

/-- What the first i bytes, each with more behind it, make of the number. -/
def Acc (L : List Nat) (i acc : Nat) (L' : List Nat) : Prop := acc < 128 ^ i ∧ rdG 6 L = match rdG (6 - i) L' with
  | some (m, r) => if 0 < i ∧ m = 0 then none else some (acc + 128 ^ i * m, r)
  | none => none
theorem Acc.start (L : List Nat) : Acc L 0 0 L := by
  refine ⟨by simp, ?_⟩
  show rdG 6 L = _
  cases h : rdG 6 L with
  | none => simp
  | some p => obtain ⟨m, r⟩ := p; simp
theorem Acc.more {L : List Nat} {i acc c : Nat} {r : List Nat} (h : Acc L i acc (c :: r)) (hi : i < 6) (hc : 128 ≤ c) (hc2 : c < 256) : Acc L (i + 1) (acc + 128 ^ i * (c % 128)) r := by
  obtain ⟨h1, h2⟩ := h
  have hp : 0 < 128 ^ i := Nat.pow_pos (by omega)
  refine ⟨?_, ?_⟩
  · rw [Nat.pow_succ]
    have : 128 ^ i * (c % 128) ≤ 128 ^ i * 127 := Nat.mul_le_mul_left _ (by omega)
    omega
  · rw [h2, show 6 - i = (6 - (i + 1)) + 1 by omega]
    conv => lhs; unfold rdG
    rw [if_neg (by omega)]
    cases hr : rdG (6 - (i + 1)) r with
    | none => rfl
    | some p =>
      obtain ⟨m, t⟩ := p
      by_cases hm : m = 0
      · simp [hm]
      · have h3 : ¬ (c % 128 + 128 * m = 0) := by omega
        simp only [hm, if_false, and_false, h3, Nat.pow_succ]
        congr 2
        rw [Nat.mul_add, Nat.add_assoc, Nat.mul_assoc]
theorem Acc.last {L : List Nat} {i acc c : Nat} {r : List Nat} (h : Acc L i acc (c :: r)) (hi : i < 6) (hc : c < 128) : rdG 6 L = if 0 < i ∧ c = 0 then none else some (acc + 128 ^ i * c, r) := by
  rw [h.2, show 6 - i = (6 - (i + 1)) + 1 by omega]
  unfold rdG
  rw [if_pos hc]
theorem Acc.long {L : List Nat} {acc : Nat} {r : List Nat} (h : Acc L 6 acc r) : rdG 6 L = none := by rw [h.2]; rfl
/- behind number_some -/
end Go.Proofs.Ytfniojnklhjgbaa

/- Contracts of the document's Uint, Text, ReadUint and ReadText. -/
namespace Go.Proofs.Ytfniojnklhjgbaa
open Go Go.RowKit

theorem Buf.one (w : World) (k : Nat) (B : Nat) (hB : B ≤ w.heap.size) : Buf B (w.alloc (.cells #[u8 k] 5)) (.slice (some ⟨w.heap.size, 0, none⟩) 1 1) [k] :=
  ⟨rfl, Or.inr ⟨w.heap.size, 1, #[u8 k], rfl, hB, at_new _ _, Nat.le_refl _, by unfold maxLen; omega, rfl, rfl⟩⟩
theorem Buf.base {B C : Nat} {w : World} {v : Value} {L : List Nat} (h : Buf B w v L) (hC : C ≤ B) : Buf C w v L := own_base h hC
end Go.Proofs.Ytfniojnklhjgbaa

/- Contracts of the document's ReadUint and ReadText. (The rounds of the loop are written by tools/gen_Vg.py.) -/
namespace Go.Proofs.Ytfniojnklhjgbaa
open Go Go.RowKit

/-- A slice leads to these bytes. -/
def SL (w : World) (v : Value) (r : List Nat) : Prop := ∃ po c, v = .slice po r.length c ∧ BL w po r ∧ r.length ≤ c
theorem SL.below {w w' : World} {v : Value} {r : List Nat} (h : SL w v r) (hb : Below w.heap.size w w') : SL w' v r := by
  obtain ⟨po, c, h1, h2, h3⟩ := h; exact ⟨po, c, h1, h2.below hb, h3⟩
/- behind rReadUint_any -/
end Go.Proofs.Ytfniojnklhjgbaa

/- Contracts of the document's ReadText; of SameBytes and CopyBytes of the statements' kit. -/
namespace Go.Proofs.Ytfniojnklhjgbaa
open Go Go.RowKit

theorem sameB_any {w : World} {u v : Value} {x y : List Nat} (hu : SL w u x) (hv : SL w v y) (hx : ∀ z ∈ x, z < 256) (hy : ∀ z ∈ y, z < 256) :
    Calls Try.prog 14 #[u, v] w fun e w' => e = .returned (.bool (decide (x = y))) ∧ w' = w := by
  obtain ⟨p, c, rfl, hp, _⟩ := hu
  obtain ⟨q, d, rfl, hq, _⟩ := hv
  have h1 := hp.conv c
  have h2 := hq.conv d
  have h3 := lst_beq (ba x) (ba y)
  rw [lst_ba hx, lst_ba hy] at h3
  generalize ba x = X at *
  generalize ba y = Y at *
  clear hp hq hx hy
  go_enter Try.func14, Try.ntmps14
  go_wp2
  go_ret
  exact ⟨by first | rfl | (rw [h3]; rfl) | simp [h3], rfl⟩
theorem OutB.sl {B : Nat} {w : World} {v : Value} {bs : List Nat} (h : OutB B w v bs) : SL w v bs := by
  obtain ⟨po, h1, h2, _⟩ := h.form; exact ⟨po, _, h1, h2, Nat.le_refl _⟩
theorem Buf.sl {B : Nat} {w : World} {v : Value} {bs : List Nat} (h : Buf B w v bs) : SL w v bs := by
  obtain ⟨po, c, rfl⟩ := h.form; exact ⟨po, c, rfl, h.bl, h.cap.2⟩
end Go.Proofs.Ytfniojnklhjgbaa

/- Contracts of LentBytes, KeptBytes and OverBytes of the statements' kit. -/
namespace Go.Proofs.Ytfniojnklhjgbaa
open Go.RowKit

/-- A row of n bytes lies at block b from o on. -/
def RowAt (w : World) (b o n : Nat) (x : Nat → Nat) : Prop := ∀ i, i < n → w.cell? ⟨b, o + i, none⟩ = some (.int .u8 (x i : Nat))
/-- The world w has one block more than w0 has: n bytes, x, which may be written; what was there is as it was. -/
structure NewRow (w0 w : World) (n : Nat) (x : Nat → Nat) : Prop where
  size : w.heap.size = w0.heap.size + 1
  below : Below w0.heap.size w0 w
  cells : ∀ i, i < n → w.cell? ⟨w0.heap.size, i, none⟩ = some (.int .u8 (x i : Nat))
  free : ∀ i, w.frozen? ⟨w0.heap.size, i, none⟩ = false

theorem madeCells_get (z : Value) (n i : Nat) (h : i < n) : (madeCells #[z] n)[i]? = some z := by
  simp [madeCells, h, Nat.mod_one]
theorem run_make_u8 (n : Nat) (hn : n ≤ 70003) (w : World) :
    (Instr.makeSlice 24 (.int .i64 (n : Int)) (.int .i64 (n : Int))).run Try.prog w = .ok (.slice (some ⟨w.heap.size, 0, none⟩) n n) (w.alloc (.cells (madeCells #[.int .u8 0] n) 5)) := by
  obtain ⟨i0, hi, hz0, hz1, hz2⟩ := info_parts Try.info5
  have h := run_make (P := Try.prog) w 24 5 i0 (.int .u8 0) Try.underlying24 hi hz0 .i64 .i64 n n (by omega) (Int.le_refl _) (by rw [hz2]; omega) (by omega)
  rw [hz1] at h
  simpa [Value.cells] using h

theorem NewRow.made (w : World) (n : Nat) : NewRow w (w.alloc (.cells (madeCells #[.int .u8 0] n) 5)) n (fun _ => 0) where
  size := by simp
  below := (Below.refl _ _).alloc (Nat.le_refl _) _
  cells := fun i h => by rw [World.cell?_alloc_new, madeCells_get _ _ _ h]; rfl
  free := fun i => World.frozen?_alloc_new _ _ _ _
theorem NewRow.set {w0 w : World} {n : Nat} {x : Nat → Nat} (h : NewRow w0 w n x) (k : Nat) (v : Nat) (hk : k < n) :
    NewRow w0 (w.setCell ⟨w0.heap.size, k, none⟩ (.int .u8 (v : Nat))) n (fun i => if i = k then v else x i) where
  size := by simp [h.size]
  below := h.below.setCell (Nat.le_refl _) _
  cells := fun i hi => by
    by_cases e : i = k
    · subst e
      rw [World.cell?_setCell_same _ _ _ (h.cells i hi)]; simp
    · rw [World.cell?_setCell_other _ _ _ _ (by intro h2; cases h2; exact e rfl), h.cells i hi]; simp [e]
  free := fun i => by rw [World.frozen?_setCell]; exact h.free i
theorem NewRow.congr {w0 w : World} {n : Nat} {x y : Nat → Nat} (h : NewRow w0 w n x) (e : ∀ i, i < n → x i = y i) : NewRow w0 w n y where
  size := h.size
  below := h.below
  cells := fun i hi => by rw [h.cells i hi, e i hi]
  free := h.free

theorem upto_step (f : Nat → Nat) (k i : Nat) : (if i = k then f k else if i < k then f i else 0) = if i < k + 1 then f i else 0 := by
  by_cases e : i = k
  · subst e; rw [if_pos rfl, if_pos (by omega)]
  · rw [if_neg e]
    by_cases h : i < k
    · rw [if_pos h, if_pos (by omega)]
    · rw [if_neg h, if_neg (by omega)]

end Go.Proofs.Ytfniojnklhjgbaa

/- Contract of SameBytes of the statements' kit: of two slices that read alike it returns true, and leaves the world as it was. -/
namespace Go.Proofs.Ytfniojnklhjgbaa
open Go.RowKit

/-- The slice's value leads to n bytes x; one of no byte may lead anywhere. -/
def StrAt (w : World) (p : Option Addr) (n : Nat) (x : Nat → Nat) : Prop := n = 0 ∨ ∃ b o, p = some ⟨b, o, none⟩ ∧ RowAt w b o n x
def strN (n : Nat) (x : Nat → Nat) : ByteArray := strOfNums ((List.range n).map fun i => (x i : Int))
theorem conv_str (w : World) (p : Option Addr) (n c : Nat) (x : Nat → Nat) (h : StrAt w p n x) :
    (convert 24 9 (.slice p n c)).run Try.prog w = .ok (.string (strN n x)) w := by
  rcases h with rfl | ⟨b, o, rfl, h⟩
  · rw [run_convert_bytes_string w 24 9 5 _ 0 c Try.underlying24 Try.underlying5 Try.underlying9]
    cases p <;> simp [Conv.bytesToString, loadCells, strN]
    all_goals rfl
  · exact run_convert_bytes_arg w 24 5 Try.underlying24 Try.underlying5 b o n c _ (by simp) (fun i hi => by rw [h i hi]; simp [List.getD, hi]) 9 Try.underlying9

set_option maxHeartbeats 400000 in
theorem same_true (p q : Option Addr) (n c d : Nat) (x : Nat → Nat) (w : World) (hp : StrAt w p n x) (hq : StrAt w q n x) :
    Calls Try.prog 14 #[.slice p n c, .slice q n d] w fun e w' => e = .returned (.bool true) ∧ w' = w := by
  have h1 := conv_str w p n c x hp
  have h2 := conv_str w q n d x hq
  go_enter Try.func14, Try.ntmps14
  go_wp2
  go_ret
  exact ⟨rfl, rfl⟩
end Go.Proofs.Ytfniojnklhjgbaa

/- Contract of LentBytes of the statements' kit: a copy of the bytes lies in a new block, with three marked bytes of spare room behind it; what was there is as it was. -/
namespace Go.Proofs.Ytfniojnklhjgbaa
open Go.RowKit

theorem size_setCells (b : Nat) : ∀ (vs : List Value) (o : Nat) (w : World), (w.setCells b o vs).heap.size = w.heap.size
  | [], _, _ => rfl
  | v :: r, o, w => by rw [World.setCells, size_setCells b r, World.size_setCell]
theorem below_setCells (b B : Nat) (hB : B ≤ b) : ∀ (vs : List Value) (o : Nat) (w0 w : World), Below B w0 w → Below B w0 (w.setCells b o vs)
  | [], _, _, _, h => h
  | v :: r, o, w0, w, h => by rw [World.setCells]; exact below_setCells b B hB r (o + 1) w0 _ (h.setCell hB _)

/-- n bytes as values. -/
def valN (n : Nat) (x : Nat → Nat) : List Value := (List.range n).map fun i => .int .u8 (x i : Nat)
theorem valN_len (n : Nat) (x : Nat → Nat) : (valN n x).length = n := by simp [valN]
theorem valN_get (n : Nat) (x : Nat → Nat) (i : Nat) (h : i < n) : (valN n x)[i]? = some (.int .u8 (x i : Nat)) := by simp [valN, h]

theorem NewRow.copied {w0 w : World} {n : Nat} {x : Nat → Nat} (h : NewRow w0 w n x) (m : Nat) (y : Nat → Nat) (hm : m ≤ n) :
    NewRow w0 (w.setCells w0.heap.size 0 (valN m y)) n (fun i => if i < m then y i else x i) where
  size := by rw [size_setCells, h.size]
  below := below_setCells _ _ (Nat.le_refl _) _ _ _ _ h.below
  cells := fun i hi => by
    by_cases e : i < m
    · have hin := World.cell?_setCells_in w0.heap.size (valN m y) 0 w (fun j hj => by
        rw [valN_len] at hj
        rw [Nat.zero_add, h.cells j (by omega)]; rfl) i (by rw [valN_len]; exact e)
      rw [Nat.zero_add] at hin
      rw [hin, if_pos e]
      have g := valN_get m y i e
      rw [List.getElem?_eq_getElem (by rw [valN_len]; exact e)] at g
      exact g
    · rw [World.cell?_setCells_out _ _ _ _ _ (fun _ _ => by rw [valN_len]; right; simp; omega), if_neg e, h.cells i hi]
  free := fun i => by rw [World.frozen?_setCells]; exact h.free i

theorem run_copy_u8 (w : World) (b o n c g dl dc : Nat) (x y : Nat → Nat) (w0 : World) (hg : g = w0.heap.size) (h : NewRow w0 w dl y) (hx : RowAt w b o n x) (hn : n ≤ dl) (ty : TypeId) :
    (Builtin.copy_ #[24, 24] ty #[.slice (some ⟨g, 0, none⟩) dl dc, .slice (some ⟨b, o, none⟩) n c]).run Try.prog w = .ok (goInt n) (w.setCells g 0 (valN n x)) := by
  subst hg
  have := run_copy_cells (P := Try.prog) w 24 24 ty 5 w0.heap.size 0 dl dc ⟨b, o, none⟩ n c (valN n x) Try.underlying24 (by kernel_rfl) (by rw [valN_len]; exact (Nat.min_eq_left hn).symm)
    (fun j v hj => by
      have hjn : j < n := by
        rcases Nat.lt_or_ge j n with q | q
        · exact q
        · rw [List.getElem?_eq_none (by rw [valN_len]; exact q)] at hj; cases hj
      rw [valN_get n x j hjn] at hj
      cases hj
      have hadd : (⟨b, o, none⟩ : Addr).add j = ⟨b, o + j, none⟩ := by unfold Addr.add; split <;> simp_all
      rw [hadd]; exact hx j hjn)
    (fun j hj => by rw [valN_len] at hj; rw [Nat.zero_add, h.cells j (by omega)]; rfl)
    (fun j _ => by rw [Nat.zero_add]; exact h.free j)
    (fun v hv => by unfold valN at hv; obtain ⟨i, _, rfl⟩ := List.mem_map.1 hv; rfl)
  rw [valN_len] at this
  exact this

/-- What a lent list reads as, its spare room with it. -/
def lentN (n : Nat) (x : Nat → Nat) (i : Nat) : Nat := if i < n then x i else 160 + i % 90

theorem byte_mark (k : Nat) : ((160 + k % 90 : Nat) : Int) = 160 + (k : Int) % 90 := by omega

set_option maxRecDepth 100000 in
set_option maxHeartbeats 1000000 in
theorem lent_core (p : Option Addr) (n c : Nat) (x : Nat → Nat) (w w1 : World) (hn : n ≤ 70000)
    (hcp : ∀ ty, (Builtin.copy_ #[24, 24] ty #[.slice (some ⟨w.heap.size, 0, none⟩) (n + 3) (n + 3), .slice p n c]).run Try.prog (w.alloc (.cells (madeCells #[.int .u8 0] (n + 3)) 5)) = .ok (goInt n) w1)
    (hrow : NewRow w w1 (n + 3) (fun i => if i < n then x i else 0)) :
    Calls Try.prog 8 #[.slice p n c] w fun e w' => e = .returned (.slice (some ⟨w.heap.size, 0, none⟩) n (n + 3)) ∧ NewRow w w' (n + 3) (lentN n x) := by
  have hmk := run_make_u8 (n + 3) (by omega) w
  rw [show ((n + 3 : Nat) : Int) = (n : Int) + 3 from by omega] at hmk
  have HR := hid hrow
  clear hrow
  go_enter Try.func8, Try.ntmps8
  go_wp2
  clear hmk hcp
  go_loopw [4] (fun i wr => ∃ k : Nat, n ≤ k ∧ k ≤ n + 3 ∧ i = .int .i64 k ∧ NewRow w wr (n + 3) (fun i => if i < k then lentN n x i else 0)) (fun i _ => (n + 3 - intOf i).toNat)
  case atStart => exact ⟨n, by omega, by omega, rfl, HR.out.congr (fun i _ => by by_cases e : i < n <;> simp [lentN, e])⟩
  case round =>
    obtain ⟨k, hk1, hk2, rfl, hrow⟩ := hrel
    clear HR
    by_cases hlt : k < n + 3
    · have c3 : wr.cell? ⟨w.heap.size, k, none⟩ = some (.int .u8 0) := by rw [hrow.cells k hlt]; simp
      have c4 := hrow.free k
      have HR := hid (hrow.set k (lentN n x k) hlt)
      have HL : Hid (lentN n x k = 160 + k % 90) := if_neg (by omega)
      clear hrow
      go_wp2
      go_roundw
      case rel =>
        refine ⟨k + 1, by omega, by omega, by go_num, ?_⟩
        rw [HL.out] at HR
        have := HR.out.congr (y := fun i => if i < k + 1 then lentN n x i else 0) (fun i _ => by rw [← HL.out]; exact upto_step _ k i)
        rw [byte_mark] at this
        exact this
      case measure => simp [intOf]; omega
    · have e : k = n + 3 := by omega
      have E := hid (hrow.congr (y := lentN n x) (fun i hi => by rw [if_pos (by omega)]))
      clear e hrow
      go_wp2
      go_ret
      exact ⟨rfl, E.out⟩

theorem lent_any (p : Option Addr) (n c : Nat) (x : Nat → Nat) (w : World) (hn : n ≤ 70000) (hx : StrAt w p n x) :
    Calls Try.prog 8 #[.slice p n c] w fun e w' => e = .returned (.slice (some ⟨w.heap.size, 0, none⟩) n (n + 3)) ∧ NewRow w w' (n + 3) (lentN n x) := by
  have hrow := NewRow.made w (n + 3)
  by_cases h0 : n = 0
  · subst h0
    refine lent_core p 0 c x w _ hn (fun ty => ?_) (hrow.congr (fun i _ => by simp))
    exact run_copy_none (P := Try.prog) _ 24 24 ty 5 _ _ _ _ _ _ Try.underlying24 (by kernel_rfl) (by simp)
  · rcases hx with e | ⟨b, o, rfl, hx⟩
    · exact absurd e h0
    · have hb : b < w.heap.size := World.block_lt_of_cell? w _ (hx 0 (by omega))
      have hx1 : RowAt (w.alloc (.cells (madeCells #[.int .u8 0] (n + 3)) 5)) b o n x := fun i hi => by rw [World.cell?_alloc_lt _ _ _ hb]; exact hx i hi
      exact lent_core _ n c x w _ hn (fun ty => run_copy_u8 _ b o n c w.heap.size (n + 3) (n + 3) x (fun _ => 0) w rfl hrow hx1 (by omega) ty) (hrow.copied n x (by omega))
end Go.Proofs.Ytfniojnklhjgbaa

/- Contract of KeptBytes of the statements' kit: it returns true of a lent list that reads as it was lent. -/
namespace Go.Proofs.Ytfniojnklhjgbaa
open Go.RowKit

theorem RowAt.below {B : Nat} {w w' : World} {b o n : Nat} {x : Nat → Nat} (h : RowAt w b o n x) (hb : Below B w w') (hlt : b < B) : RowAt w' b o n x :=
  fun i hi => (hb.cell (p := ⟨b, o + i, none⟩) hlt).trans (h i hi)
theorem NewRow.row {w0 w : World} {n : Nat} {x : Nat → Nat} (h : NewRow w0 w n x) : RowAt w w0.heap.size 0 n x :=
  fun i hi => by rw [Nat.zero_add]; exact h.cells i hi

set_option maxRecDepth 100000 in
set_option maxHeartbeats 1000000 in
theorem kept_any (g n c : Nat) (p : Option Addr) (x : Nat → Nat) (w : World) (hn : n ≤ 70000) (hg : g < w.heap.size) (hr : RowAt w g 0 (n + 3) (lentN n x)) (hx : StrAt w p n x) :
    Calls Try.prog 17 #[.slice (some ⟨g, 0, none⟩) n (n + 3), .slice p n c] w fun e w' => e = .returned (.bool true) ∧ Below w.heap.size w w' := by
  have hrd : RowAt w.drew g 0 (n + 3) (lentN n x) := hr
  have h3 : (0 : Int) ≤ (n : Int) + 3 := by omega
  have hw3 : IntKind.i64.wrap ((n : Int) + 3) = (n : Int) + 3 := by rw [IntKind.wrap_i64]; omega
  go_enter Try.func17, Try.ntmps17
  go_wp2_with fail
  go_region_held3 (fun w' => True) (trivial) (first | (go_at_call 8; refine (lent_any p n c x _ hn (by exact hx)).mono ?_; rintro e w1 ⟨rfl, hnew⟩) | (go_at_call 14; refine (same_true _ _ (n + 3) _ _ (lentN n x) _ (.inr ⟨_, _, rfl, by exact hrd.below hnew.below hg⟩) (.inr ⟨_, _, rfl, by exact hnew.row⟩)).mono ?_; rintro e w2 ⟨rfl, rfl⟩))
  go_wp2
  go_ret
  exact ⟨rfl, (Below.refl _ _).drew.trans hnew.below⟩

theorem BL.strAt {w : World} {po : Option Addr} {bs : List Nat} (h : BL w po bs) : StrAt w po bs.length (fun i => bs.getD i 0) := by
  rcases h with rfl | ⟨b, o, rfl, h⟩
  · exact .inl rfl
  · exact .inr ⟨b, o, rfl, h⟩
/-- Bytes that were lent. -/
structure Lent (w : World) (g : Nat) (bs : List Nat) : Prop where
  lt : g < w.heap.size
  row : RowAt w g 0 (bs.length + 3) (lentN bs.length fun i => bs.getD i 0)
theorem Lent.below {w w' : World} {g : Nat} {bs : List Nat} (h : Lent w g bs) (hb : Below w.heap.size w w') : Lent w' g bs := ⟨Nat.lt_of_lt_of_le h.lt hb.size, h.row.below hb h.lt⟩
theorem Lent.only {w w' : World} {g : Nat} {bs : List Nat} {S : Nat → Prop} (h : Lent w g bs) (ho : Only S w w') (hS : ¬ S g) : Lent w' g bs :=
  ⟨Nat.lt_of_lt_of_le h.lt ho.size, fun i hi => (World.cell?_of_block (ho.block g h.lt hS)).trans (h.row i hi)⟩
theorem Lent.bl {w : World} {g : Nat} {bs : List Nat} (h : Lent w g bs) : BL w (some ⟨g, 0, none⟩) bs := Or.inr ⟨g, 0, rfl, fun i hi => by
  have := h.row i (by omega)
  unfold lentN at this
  rw [if_pos hi] at this; exact this⟩
theorem lentB_any (po : Option Addr) (c : Nat) (bs : List Nat) (w : World) (hn : bs.length ≤ 70000) (h : BL w po bs) :
    Calls Try.prog 8 #[.slice po bs.length c] w fun e w' => e = .returned (.slice (some ⟨w.heap.size, 0, none⟩) bs.length (bs.length + 3)) ∧ Lent w' w.heap.size bs ∧ Below w.heap.size w w' :=
  (lent_any po bs.length c _ w hn h.strAt).mono fun e w' ⟨h1, h2⟩ => ⟨h1, ⟨by rw [h2.size]; omega, h2.row⟩, h2.below⟩
theorem keptB_any (g : Nat) (po : Option Addr) (c : Nat) (bs : List Nat) (w : World) (hn : bs.length ≤ 70000) (hl : Lent w g bs) (h : BL w po bs) :
    Calls Try.prog 17 #[.slice (some ⟨g, 0, none⟩) bs.length (bs.length + 3), .slice po bs.length c] w fun e w' => e = .returned (.bool true) ∧ Below w.heap.size w w' :=
  kept_any g bs.length c po _ w hn hl.lt hl.row h.strAt
/-- c cells of a block, each a byte, that may be written. -/
structure CellsU (w : World) (g c : Nat) : Prop where
  c : ∀ i, i < c → ∃ z : Nat, z < 256 ∧ w.cell? ⟨g, i, none⟩ = some (.int .u8 (z : Int))
  f : ∀ i, w.frozen? ⟨g, i, none⟩ = false
theorem CellsU.set {w : World} {g c : Nat} (h : CellsU w g c) (k z : Nat) (hz : z < 256) : CellsU (w.setCell ⟨g, k, none⟩ (.int .u8 (z : Int))) g c :=
  ⟨fun i hi => by
    obtain ⟨x, hx, hc⟩ := h.c i hi
    by_cases e : i = k
    · subst e; exact ⟨z, hz, World.cell?_setCell_same _ _ _ hc⟩
    · exact ⟨x, hx, by rw [World.cell?_setCell_other _ _ _ _ (by intro h2; cases h2; exact e rfl)]; exact hc⟩, fun i => by rw [World.frozen?_setCell]; exact h.f i⟩
theorem run_cap8 (g n c : Nat) (w : World) : (Instr.slice 24 (.slice (some ⟨g, 0, none⟩) n c) none (some (.int .i64 (c : Int))) none).run Try.prog w = .ok (.slice (some ⟨g, 0, none⟩) c c) w := by
  rw [run_slice_h (P := Try.prog) w 24 _ n c underE8 .i64 (c : Int) (by omega) (by omega), elem8]
  by_cases h0 : c = 0
  · simp [Result.andThen, sliced, h0]
  · simp [Result.andThen, sliced, h0, Addr.add]
theorem xor_lt {a b : Nat} (ha : a < 256) (hb : b < 256) : a ^^^ b < 256 := Nat.xor_lt_two_pow (n := 8) ha hb
set_option maxRecDepth 100000 in
set_option maxHeartbeats 1000000 in
theorem over2_any (g n c : Nat) (w : World) (hn : c ≤ maxLen) (h : CellsU w g c) :
    Calls Try.prog 16 #[.slice (some ⟨g, 0, none⟩) n c] w fun e w' => e = .returned (.tuple #[]) ∧ Only (fun b => b = g) w w' := by
  have hs := run_cap8 g n c
  have H := hid h
  have hn' : c ≤ 9223372036854775807 := hn
  clear h hn
  go_enter Try.func16, Try.ntmps16
  go_wp2
  clear hs
  go_loopw [3] (fun i wr => ∃ k : Nat, k ≤ c ∧ i = .int .i64 k ∧ Only (fun b => b = g) w wr ∧ CellsU wr g c) (fun i _ => (c - intOf i).toNat)
  case atStart => exact ⟨0, by omega, rfl, Only.refl _ _, H.out⟩
  case round =>
    clear H
    obtain ⟨k, hk, rfl, ho, hr⟩ := hrel
    by_cases hlt : k < c
    · have hlt' : (k : Int) < (c : Int) := by omega
      obtain ⟨z, hz, hcz⟩ := hr.c k hlt
      have hfz := hr.f k
      have hx : bits BinOp.xor IntKind.u8 (z : Int) 90 = ((z ^^^ 90 : Nat) : Int) := u8_xor_nat z 90 hz (by decide)
      have HO := hid (ho.trans (Only.set (S := fun b => b = g) wr ⟨g, k, none⟩ (.int .u8 ((z ^^^ 90 : Nat) : Int)) rfl))
      have HR := hid (hr.set k (z ^^^ 90) (xor_lt hz (by decide)))
      clear hr ho
      generalize z ^^^ 90 = y at *
      go_wp2
      go_roundw
      case rel => exact ⟨k + 1, by omega, by go_num, HO.out, HR.out⟩
      case measure => simp [intOf]; omega
    · have hlt' : ¬ (k : Int) < (c : Int) := by omega
      have HO := hid ho
      clear hr ho
      go_wp2
      go_end0
      exact ⟨rfl, HO.out⟩
theorem over2_nil (w : World) : Calls Try.prog 16 #[.slice none 0 0] w fun e w' => e = .returned (.tuple #[]) ∧ w' = w := by
  go_enter Try.func16, Try.ntmps16
  go_wp2
  refine wp_loop_rounds 1 ?_
  rw [rounds_succ]
  go_wp2
  go_end0
  exact ⟨rfl, rfl⟩
end Go.Proofs.Ytfniojnklhjgbaa

/- The walk of RecordNumbers. (Written by tools/gen_Vj.py.) -/
namespace Go.Proofs.Ytfniojnklhjgbaa
open Go Go.RowKit

theorem SL.nil (w : World) : SL w (.slice none 0 0) [] := ⟨none, 0, rfl, Or.inl rfl, Nat.le_refl _⟩
theorem OutB.only {B : Nat} {w w' : World} {v : Value} {bs : List Nat} {S : Nat → Prop} (h : OutB B w v bs) (ho : Only S w w') (hS : ∀ b, v.ownBlock = some b → ¬ S b) : OutB B w' v bs := by
  rcases h with h | ⟨g, h1, h2, h3, h4, h5⟩
  · exact Or.inl h
  · have e := ho.block g h3 (hS g (by rw [h1]; rfl))
    exact Or.inr ⟨g, h1, h2, by have := ho.size; omega, fun i hi => (World.cell?_of_block e).trans (h4 i hi), fun i => by have := h5 i; unfold World.frozen? at this ⊢; rw [e]; exact this⟩
theorem sameB_true {w : World} {u v : Value} {x : List Nat} (hu : SL w u x) (hv : SL w v x) (hx : ∀ z ∈ x, z < 256) : Calls Try.prog 14 #[u, v] w fun e w' => e = .returned (.bool true) ∧ w' = w :=
  (sameB_any hu hv hx hx).mono fun e w' ⟨h1, h2⟩ => ⟨by rw [h1]; simp, h2⟩
end Go.Proofs.Ytfniojnklhjgbaa

/- Records and their parts in memory. Contracts of slices.Equal over parts. -/

namespace Go.Proofs.Ytfniojnklhjgbaa
open Go Go.RowKit

theorem run_loadVar_at (w : World) (g off : Nat) (ty : TypeId) (cs : Array Value) (d : TypeDesc) (hc : ∀ j v, cs[j]? = some v → w.cell? ⟨g, off + j, none⟩ = some v)
    (hu : Try.prog.underlying ty = some d) (hd : (match d with | .struct _ | .array _ _ => true | _ => false) = true) (hi : (Try.prog.info? ty).map (·.size) = some cs.size) :
    (loadVar ty ⟨g, off, none⟩).run Try.prog w = .ok (.agg cs) w := by
  have hl : (loadCells ⟨g, off, none⟩ cs.toList.length).run Try.prog w = .ok cs.toList.toArray w :=
    run_loadCells_list (P := Try.prog) w ⟨g, off, none⟩ cs.toList (fun j v hv => by
      rw [add_none]; exact hc j v (by simpa using hv))
  cases hq : Try.prog.info? ty with
  | none => simp [hq] at hi
  | some i =>
    have hs : i.size = cs.size := by simpa [hq] using hi
    have hagg : (isAgg ty).run Try.prog w = .ok true w := by
      unfold isAgg
      rw [Sem.run_bind, run_underlying hu w]
      cases d <;> simp_all
    simp only [Array.length_toList, Array.toArray_toList] at hl
    simp [loadVar, Sem.run_bind, hagg, sizeOf, typeInfo, hq, hs, hl]
theorem wpList_load_at {ops : Array Oper} {rest : List Oper} {o : Oper} {a : Act} {w : World} {Q : Exit → Act → World → Prop} (ty : TypeId) (x : Operand) (ho : o.op = .load ty x) (hw : Region.wanted o (yielded ops a.tmps) = true)
    (g off : Nat) (hx : a.eval x = .pointer (some ⟨g, off, none⟩)) (cs : Array Value) (d : TypeDesc) (hc : ∀ j v, cs[j]? = some v → w.cell? ⟨g, off + j, none⟩ = some v)
    (hu : Try.prog.underlying ty = some d) (hd : (match d with | .struct _ | .array _ _ => true | _ => false) = true) (hi : (Try.prog.info? ty).map (·.size) = some cs.size)
    (h : wpList Try.prog ops Q rest (a.put o.dst (.agg cs)) w) : wpList Try.prog ops Q (o :: rest) a w := by
  refine BigFrame.wpList_want hw fun K hK => ?_
  unfold Oper.wp execOp
  simp only [ho, hx, Instr.loadAt, Instr.sureAddr, Sem.run_bind, Sem.run_pure, Result.andThen_ok, run_loadVar_at w g off ty cs d hc hu hd hi]
  exact hK _ _ h
/-- Parts of a version. -/
abbrev Ps := List (Int × Int)
def PCells (w : World) (b o : Nat) (ps : Ps) : Prop := ∀ i, i < ps.length → w.cell? ⟨b, o + i * 2, none⟩ = some (i64 (ps.getD i (0, 0)).1) ∧ w.cell? ⟨b, o + i * 2 + 1, none⟩ = some (i64 (ps.getD i (0, 0)).2)
def PL (w : World) (v : Value) (ps : Ps) : Prop := ∃ po c, v = .slice po ps.length c ∧ ps.length ≤ c ∧ ps.length ≤ 100000 ∧ (ps = [] ∨ ∃ b o, po = some ⟨b, o, none⟩ ∧ PCells w b o ps)
theorem PL.keep {w w' : World} {v : Value} {ps : Ps} (h : PL w v ps) (hk : ∀ a, w.cell? a ≠ none → w'.cell? a = w.cell? a) : PL w' v ps := by
  obtain ⟨po, c, h1, h2, h3, h⟩ := h
  refine ⟨po, c, h1, h2, h3, ?_⟩
  rcases h with h | ⟨b, o, hp, h⟩
  · exact Or.inl h
  · exact Or.inr ⟨b, o, hp, fun i hi => ⟨(hk _ (by rw [(h i hi).1]; simp)).trans (h i hi).1, (hk _ (by rw [(h i hi).2]; simp)).trans (h i hi).2⟩⟩
theorem PL.below {w w' : World} {v : Value} {ps : Ps} (h : PL w v ps) (hb : Below w.heap.size w w') : PL w' v ps :=
  h.keep fun a ha => World.cell?_of_block (hb.block a.block (cell_lt' ha))
end Go.Proofs.Ytfniojnklhjgbaa

/- Records in memory. -/
namespace Go.Proofs.Ytfniojnklhjgbaa
open Go Go.RowKit

/-- A record as a value: texts, numbers, and the slice that leads to its parts. -/
structure Rv where
  id : ByteArray
  time : Int
  mark : Bool
  size : Int
  etag : ByteArray
  k : Int
  m : Int
  data : ByteArray
  sum : List Nat
  pv : Value
  up : ByteArray
def sumC (x : List Nat) : Array Value := (x.map u8).toArray
def Rv.cs (r : Rv) : Array Value := #[.string r.id, i64 r.time, .bool r.mark, i64 r.size, .string r.etag, i64 r.k, i64 r.m, .string r.data] ++ (sumC r.sum ++ #[r.pv, .string r.up])
structure Rv.ok (r : Rv) : Prop where
  sl : r.sum.length = 32
  s8 : ∀ x ∈ r.sum, x < 256
  i : r.id.size ≤ 100000
  e : r.etag.size ≤ 100000
  d : r.data.size ≤ 100000
  u : r.up.size ≤ 100000
theorem sumC_size (x : List Nat) : (sumC x).size = x.length := by simp [sumC]
theorem sumC_get {x : List Nat} {j : Nat} (h : j < x.length) : (sumC x)[j]? = some (u8 (x.getD j 0)) := by simp [sumC, h, List.getD]
section
variable {r : Rv} (h : r.ok)
include h
theorem Rv.ok.size : r.cs.size = 42 := by simp [Rv.cs, sumC_size, h.sl]
theorem Rv.ok.sum {j : Nat} (hj : j < 32) : r.cs[8 + j]? = some (u8 (r.sum.getD j 0)) := by
  unfold Rv.cs
  rw [Array.getElem?_append_right (by simp), Array.getElem?_append_left (by rw [sumC_size, h.sl]; simp; omega)]
  rw [show 8 + j - #[Value.string r.id, i64 r.time, .bool r.mark, i64 r.size, .string r.etag, i64 r.k, i64 r.m, .string r.data].size = j by simp]
  exact sumC_get (by rw [h.sl]; exact hj)
theorem Rv.ok.pv : r.cs[40]? = some r.pv := by
  unfold Rv.cs
  rw [Array.getElem?_append_right (by simp), Array.getElem?_append_right (by rw [sumC_size, h.sl]; simp), sumC_size, h.sl]
  rfl
theorem Rv.ok.up : r.cs[41]? = some (.string r.up) := by
  unfold Rv.cs
  rw [Array.getElem?_append_right (by simp), Array.getElem?_append_right (by rw [sumC_size, h.sl]; simp), sumC_size, h.sl]
  rfl
end
theorem sizeD : (Try.prog.info? 61).map (·.size) = some 32 := by kernel_rfl
end Go.Proofs.Ytfniojnklhjgbaa

/- Which parts may be: contracts of partsMake of package record and of the document's parts. -/
namespace Go.Proofs.Ytfniojnklhjgbaa
open Go Go.RowKit

theorem PL.at {w : World} {po : Option Addr} {n c : Nat} {ps : Ps} (h : PL w (.slice po n c) ps) {k : Nat} (hk : k < ps.length) : ∃ b o, po = some ⟨b, o, none⟩ ∧ w.cell? ⟨b, o + k * 2, none⟩ = some (i64 (ps.getD k (0, 0)).1) ∧ w.cell? ⟨b, o + k * 2 + 1, none⟩ = some (i64 (ps.getD k (0, 0)).2) := by
  obtain ⟨po', c', e, _, _, h⟩ := h
  cases e
  rcases h with h | ⟨b, o, hp, h⟩
  · subst h; simp at hk
  · exact ⟨b, o, hp, h k hk⟩
end Go.Proofs.Ytfniojnklhjgbaa

/- Contract of Check of package record. -/
namespace Go.Proofs.Ytfniojnklhjgbaa
open Go Go.RowKit

theorem PL.nil (w : World) : PL w (.slice none 0 0) [] := ⟨none, 0, rfl, Nat.le_refl _, by simp, Or.inl rfl⟩
theorem wpList_build_want {ops : Array Oper} {rest : List Oper} {o : Oper} {a : Act} {w : World} {Q : Exit → Act → World → Prop} (t : TypeId) (parts : Array (Nat × Operand)) (ho : o.op = .build t parts) (hw : Region.wanted o (yielded ops a.tmps) = true) (cs : Array Value)
    (hf : Try.prog.built t (parts.toList.map fun (i, x) => (i, a.eval x)) = some cs) (h : wpList Try.prog ops Q rest (a.put o.dst (.agg cs)) w) : wpList Try.prog ops Q (o :: rest) a w := by
  rw [← Array.toList_map] at hf
  exact BigFrame.wpList_want hw fun _ hK => wp_build t parts ho (by rw [hf]; rfl) (hK _ _ (by rw [hf]; exact h))

end Go.Proofs.Ytfniojnklhjgbaa

/- Contract of parts of the reader of package record: the loop. -/
namespace Go.Proofs.Ytfniojnklhjgbaa
open Go Go.RowKit

/-- So many parts have been read; what is left of them. -/
def PAcc (n : Nat) (c : List Nat) (k : Nat) (qs : Ps) (st : Option (List Nat)) : Prop := qs.length = k ∧ match st with
  | none => rdPs n c = none
  | some d => rdPs n c = (rdPs (n - k) d).map fun q => (qs ++ q.1, q.2)
theorem PAcc.start (n : Nat) (c : List Nat) : PAcc n c 0 [] (some c) := ⟨rfl, by simp⟩
end Go.Proofs.Ytfniojnklhjgbaa

/- A record in memory, field by field written. -/
namespace Go.Proofs.Ytfniojnklhjgbaa
open Go Go.RowKit

theorem Rv.toL (r : Rv) : r.cs.toList = [.string r.id, i64 r.time, .bool r.mark, i64 r.size, .string r.etag, i64 r.k, i64 r.m, .string r.data] ++ (r.sum.map u8 ++ [r.pv, .string r.up]) := by simp [Rv.cs, sumC]
section


end
/-- Cells set one behind the other. -/
def setAll (cs : List Value) (o : Nat) : List Value → List Value
  | [] => cs
  | v :: r => setAll (cs.set o v) (o + 1) r
theorem CAt.setCells {b : Nat} {t : TypeId} : ∀ (vs : List Value) (o : Nat) (cs : Array Value) (w : World), CAt w b cs t → CAt (w.setCells b o vs) b (setAll cs.toList o vs).toArray t
  | [], o, cs, w, h => by simpa [World.setCells, setAll] using h
  | v :: r, o, cs, w, h => by
    rw [World.setCells, setAll]
    have := CAt.setCells r (o + 1) _ _ (h.set o v)
    rw [Array.toList_setIfInBounds] at this
    exact this
theorem setAll_app (pre : List Value) : ∀ (vs mid suf : List Value), vs.length = mid.length → setAll (pre ++ (mid ++ suf)) pre.length vs = pre ++ (vs ++ suf)
  | [], mid, suf, h => by
    have : mid = [] := List.eq_nil_of_length_eq_zero (by simpa using h.symm)
    subst this; rfl
  | v :: r, [], suf, h => by simp at h
  | v :: r, m :: mid, suf, h => by
    rw [setAll]
    have e : (pre ++ (m :: mid ++ suf)).set pre.length v = (pre ++ [v]) ++ (mid ++ suf) := by
      rw [List.set_append_right _ _ (Nat.le_refl _)]; simp
    rw [e]
    have := setAll_app (pre ++ [v]) r mid suf (by simpa using h)
    rw [List.length_append] at this
    rw [show pre.length + 1 = pre.length + [v].length from rfl, this]
    simp
end Go.Proofs.Ytfniojnklhjgbaa

/- What is appended turns nothing else; numbers and texts laid behind bytes once more, by this. -/
namespace Go.Proofs.Ytfniojnklhjgbaa
open Go Go.RowKit

/-- From w0 on the bytes v0 have been appended to: they are L at v now; nothing else that was there has turned. -/
structure AppZ (B : Nat) (v0 : Value) (w0 : World) (L : List Nat) (v : Value) (w : World) : Prop where
  buf : Buf B w v L
  only : Only (fun b => v0.ownBlock = some b) w0 w
  own : ∀ b, v.ownBlock = some b → v0.ownBlock = some b ∨ w0.heap.size ≤ b
theorem AppZ.refl {B : Nat} {v : Value} {w : World} {L : List Nat} (h : Buf B w v L) : AppZ B v w L v w := ⟨h, Only.refl _ _, fun _ h => Or.inl h⟩
theorem AppZ.trans {B : Nat} {v0 v1 v2 : Value} {w0 w1 w2 : World} {L M : List Nat} (h : AppZ B v0 w0 L v1 w1) (k : AppZ B v1 w1 M v2 w2) : AppZ B v0 w0 M v2 w2 :=
  ⟨k.buf, h.only.then k.only fun i hi e => (h.own i e).elim id fun q => by omega, fun b hb => (k.own b hb).elim (h.own b) fun q => Or.inr (Nat.le_trans h.only.size q)⟩
theorem AppZ.below {B : Nat} {v0 v : Value} {w0 w w' : World} {L : List Nat} (h : AppZ B v0 w0 L v w) (hb : Below w.heap.size w w') : AppZ B v0 w0 L v w' :=
  ⟨h.buf.below hb, h.only.trans (Only.of_below hb), h.own⟩
theorem AppZ.start {B : Nat} {v0 v : Value} {w0 w1 w : World} {L : List Nat} (hb : Below w0.heap.size w0 w1) (h : AppZ B v0 w1 L v w) : AppZ B v0 w0 L v w :=
  ⟨h.buf, (Only.of_below hb).trans h.only, fun b e => (h.own b e).imp id fun q => by have := hb.size; omega⟩
end Go.Proofs.Ytfniojnklhjgbaa

/- Contract of appendVersion of package record. -/
namespace Go.Proofs.Ytfniojnklhjgbaa
open Go Go.RowKit

theorem below_drewN (w : World) (n : Nat) : Below w.heap.size w (w.drewN n) := ⟨rfl, rfl, rfl, Nat.le_refl _, fun _ _ => rfl⟩
theorem below_drew (w : World) : Below w.heap.size w w.drew := (Below.refl _ _).drew
section
variable {B : Nat} {v0 v : Value} {w0 w : World} {L : List Nat}
end
end Go.Proofs.Ytfniojnklhjgbaa

/- Contract of Bytes of package record. -/
namespace Go.Proofs.Ytfniojnklhjgbaa
open Go Go.RowKit

theorem exec_load {a : Act} {o : Oper} {ty : TypeId} {x : Operand} {p v : Value} {W : World} (ho : o.op = .load ty x) (hx : a.eval x = p) (h : (Instr.loadAt ty p).run Try.prog W = .ok v W) : (execOp a.eval o).run Try.prog W = .ok (.value v) W := by
  unfold execOp
  simp only [ho, hx, Sem.run_bind, h, Result.andThen_ok, Sem.run_pure]
end Go.Proofs.Ytfniojnklhjgbaa

/- Contract of record of the reader of package record. -/
namespace Go.Proofs.Ytfniojnklhjgbaa
open Go Go.RowKit

theorem Rv.one {r : Rv} (h : r.pv.oneCell' = true) : r.cs.all (·.oneCell') = true := by
  rw [Array.all_eq_true_iff_forall_mem]
  intro v hv
  rw [← Array.mem_toList_iff, Rv.toL] at hv
  simp only [List.mem_append, List.mem_cons, List.not_mem_nil, or_false, List.mem_map] at hv
  rcases hv with (rfl | rfl | rfl | rfl | rfl | rfl | rfl | rfl) | ⟨_, _, rfl⟩ | rfl | rfl <;> first | rfl | exact h
theorem only_setRow {S : Nat → Prop} (w : World) (g : Nat) (cs : Array Value) (h : S g) : Only S w (w.setRow g cs) := ⟨rfl, rfl, rfl, by simp, fun k _ hk => setRow_other w g k cs fun e => hk (e ▸ h)⟩
section


end
end Go.Proofs.Ytfniojnklhjgbaa
