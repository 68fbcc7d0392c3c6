/- Texts laid into one: the remark ahead of each part says what is proved there. -/
import Derived.Test.YtcbmimjjpkkoeaaQaa
import Derived.Lib.ConvBytes
/- Contracts of the reader of package record: need, take, one. -/
namespace Go.Proofs.Ytcbmimjjpkkoeaa
open Go Go.RowKit

theorem run_from8 (po : Option Addr) (n c l : Nat) (hl : l ≤ n) (hc : n ≤ c) : ∃ p2 : Option Addr, (∀ w : World, (Instr.slice 68 (.slice po n c) (some (.int .i64 (l : Int))) none none).run Try.prog w = .ok (.slice p2 (n - l) (c - l)) w) ∧
    (∀ b o, po = some ⟨b, o, none⟩ → l < n → p2 = some ⟨b, o + l, none⟩) ∧ (p2 = none → po = none) ∧ (∀ a, p2 = some a → ∃ a', po = some a' ∧ a.block = a'.block) := by
  have hr : ∀ w, (Instr.slice 68 (.slice po n c) (some (.int .i64 (l : Int))) none none).run Try.prog w = .ok (sliced po l n c 1) w := fun w => by
    rw [run_slice_l (P := Try.prog) w 68 po n c underE8 .i64 (l : Int) (by omega) (by omega), elem8]
    simp [Result.andThen]
  cases po with
  | none => exact ⟨none, fun w => by rw [hr]; simp [sliced], (fun b o e => by cases e), fun _ => rfl, fun a e => by cases e⟩
  | some a =>
    by_cases e : c = l
    · exact ⟨some a, fun w => by rw [hr]; simp [sliced, e], (fun b o _ q => by omega), (fun e => by cases e), fun a2 e2 => ⟨a, rfl, by cases e2; rfl⟩⟩
    · refine ⟨some (a.add l), fun w => by rw [hr]; simp [sliced, e], (fun b o q _ => by cases q; rw [add_none]), (fun e => by cases e), fun a2 e2 => ⟨a, rfl, by cases e2; unfold Addr.add; split <;> rfl⟩⟩
theorem run_head8 (po : Option Addr) (n c h : Nat) (hh : h ≤ c) (w : World) : (Instr.slice 68 (.slice po n c) none (some (.int .i64 (h : Int))) (some (.int .i64 (h : Int)))).run Try.prog w = .ok (.slice po h h) w := by
  rw [run_slice_hm (P := Try.prog) w 68 po n c underE8 .i64 .i64 (h : Int) (h : Int) (by omega) (by omega) (by omega), elem8]
  cases po with
  | none => simp [Result.andThen, sliced]
  | some a =>
    by_cases h0 : h = 0
    · simp [Result.andThen, sliced, h0]
    · simp [Result.andThen, sliced, h0, add_zero']
def oneV : Option (List Nat) → Nat | some (c :: _) => c | _ => 0
def oneR : Option (List Nat) → Option (List Nat) | some (_ :: r) => some r | _ => none

end Go.Proofs.Ytcbmimjjpkkoeaa

/- Contracts of number and text of the reader of package record; of readerOf, told, ReadUint and ReadText. -/
namespace Go.Proofs.Ytcbmimjjpkkoeaa
open Go Go.RowKit

theorem ofInt_i64n (a : Nat) (h : a < 9223372036854775808) : (BitVec.ofInt 64 (a : Int)).toNat = a := by
  rw [BitVec.toNat_ofInt]; omega
theorem i64_or_nat (a b : Nat) (ha : a < 9223372036854775808) (hb : b < 9223372036854775808) : bits .or .i64 (a : Int) (b : Int) = ((a ||| b : Nat) : Int) := by
  have hx : a ||| b < 2 ^ 63 := Nat.or_lt_two_pow (by omega) (by omega)
  show IntKind.i64.wrap ((BitVec.ofInt 64 (a : Int) ||| BitVec.ofInt 64 (b : Int)).toNat : Int) = _
  rw [BitVec.toNat_or, ofInt_i64n a ha, ofInt_i64n b hb]
  rw [IntKind.wrap_i64]
  omega
theorem or_add (a x i : Nat) (ha : a < 2 ^ i) : a ||| (2 ^ i * x) = a + 2 ^ i * x := by
  rw [Nat.or_comm, ← Nat.two_pow_add_eq_or_of_lt ha]; omega
/-- What the first i bytes, each with more behind it, make of the number. -/
def Acc (L : List Nat) (i acc : Nat) (L' : List Nat) : Prop := acc < 128 ^ i ∧ rdG 6 L = match rdG (6 - i) L' with
  | some (m, r) => if 0 < i ∧ m = 0 then none else some (acc + 128 ^ i * m, r)
  | none => none
theorem Acc.start (L : List Nat) : Acc L 0 0 L := by
  refine ⟨by simp, ?_⟩
  show rdG 6 L = _
  cases h : rdG 6 L with
  | none => simp
  | some p => obtain ⟨m, r⟩ := p; simp
theorem Acc.more {L : List Nat} {i acc c : Nat} {r : List Nat} (h : Acc L i acc (c :: r)) (hi : i < 6) (hc : 128 ≤ c) (hc2 : c < 256) : Acc L (i + 1) (acc + 128 ^ i * (c % 128)) r := by
  obtain ⟨h1, h2⟩ := h
  have hp : 0 < 128 ^ i := Nat.pow_pos (by omega)
  refine ⟨?_, ?_⟩
  · rw [Nat.pow_succ]
    have : 128 ^ i * (c % 128) ≤ 128 ^ i * 127 := Nat.mul_le_mul_left _ (by omega)
    omega
  · rw [h2, show 6 - i = (6 - (i + 1)) + 1 by omega]
    conv => lhs; unfold rdG
    rw [if_neg (by omega)]
    cases hr : rdG (6 - (i + 1)) r with
    | none => rfl
    | some p =>
      obtain ⟨m, t⟩ := p
      by_cases hm : m = 0
      · simp [hm]
      · have h3 : ¬ (c % 128 + 128 * m = 0) := by omega
        simp only [hm, if_false, and_false, h3, Nat.pow_succ]
        congr 2
        rw [Nat.mul_add, Nat.add_assoc, Nat.mul_assoc]
theorem Acc.last {L : List Nat} {i acc c : Nat} {r : List Nat} (h : Acc L i acc (c :: r)) (hi : i < 6) (hc : c < 128) : rdG 6 L = if 0 < i ∧ c = 0 then none else some (acc + 128 ^ i * c, r) := by
  rw [h.2, show 6 - i = (6 - (i + 1)) + 1 by omega]
  unfold rdG
  rw [if_pos hc]
theorem Acc.short {L : List Nat} {i acc : Nat} (h : Acc L i acc []) (hi : i < 6) : rdG 6 L = none := by
  rw [h.2, show 6 - i = (6 - (i + 1)) + 1 by omega]; rfl
theorem Acc.long {L : List Nat} {acc : Nat} {r : List Nat} (h : Acc L 6 acc r) : rdG 6 L = none := by rw [h.2]; rfl
theorem rdU_none {L : List Nat} (h : rdG 6 L = none) : rdU L = none := by unfold rdU; rw [h]
theorem rdU_at {L : List Nat} {n : Nat} {r : List Nat} (h : rdG 6 L = some (n, r)) : rdU L = if n ≤ 1099511627776 then some (n, r) else none := by unfold rdU; rw [h]
/- behind number_some -/
end Go.Proofs.Ytcbmimjjpkkoeaa

/- Contracts of number and text of the reader, whatever it has; of readerOf, told, ReadUint and ReadText. -/
namespace Go.Proofs.Ytcbmimjjpkkoeaa
open Go Go.RowKit

theorem rdT_bad {s : Option (List Nat)} (h : s.bind rdU = none) : s.bind rdT = none := by
  cases s with
  | none => rfl
  | some L => have h' : rdU L = none := h; show rdT L = none; unfold rdT; rw [h']
theorem rdT_of {s : Option (List Nat)} {n : Nat} {r : List Nat} (h : s.bind rdU = some (n, r)) : s.bind rdT = if n ≤ 65536 ∧ n ≤ r.length then some (r.take n, r.drop n) else none := by
  cases s with
  | none => cases h
  | some L => have h' : rdU L = some (n, r) := h; show rdT L = _; unfold rdT; rw [h']
def TolS (w : World) (L : List Nat) (v : Value) (e : Ending) (w' : World) : Prop := ∃ out, e = .returned (.tuple #[v, out, i64 0]) ∧ OutB w.heap.size w' out L ∧ Below w.heap.size w w'
def readUintS (w : World) (x : Nat) (r : List Nat) (e : Ending) (w' : World) : Prop := ∃ out, e = .returned (.tuple #[i64 x, out, i64 0]) ∧ OutB w.heap.size w' out r ∧ Below w.heap.size w w'
def readTextS (w : World) (x : List Nat) (r : List Nat) (e : Ending) (w' : World) : Prop := ∃ t : ByteArray, ∃ out, lst t = x ∧ t.size ≤ 65536 ∧ e = .returned (.tuple #[.string t, out, i64 0]) ∧ OutB w.heap.size w' out r ∧ Below w.heap.size w w'


end Go.Proofs.Ytcbmimjjpkkoeaa

/- Contracts of the document's Uint, Text, ReadUint and ReadText. -/
namespace Go.Proofs.Ytcbmimjjpkkoeaa
open Go Go.RowKit

theorem Buf.one (w : World) (k : Nat) (B : Nat) (hB : B ≤ w.heap.size) : Buf B (w.alloc (.cells #[u8 k] 5)) (.slice (some ⟨w.heap.size, 0, none⟩) 1 1) [k] :=
  ⟨rfl, Or.inr ⟨w.heap.size, 1, #[u8 k], rfl, hB, at_new _ _, Nat.le_refl _, by unfold maxLen; omega, rfl, rfl⟩⟩
theorem Buf.base {B C : Nat} {w : World} {v : Value} {L : List Nat} (h : Buf B w v L) (hC : C ≤ B) : Buf C w v L := own_base h hC
theorem Buf.capn {B : Nat} {w : World} {n c : Nat} {L : List Nat} (h : Buf B w (.slice none n c) L) : c = 0 := by
  rcases h.2 with ⟨h, _⟩ | ⟨g, _, _, h, _⟩
  · simp at h; exact h.2
  · simp at h

end Go.Proofs.Ytcbmimjjpkkoeaa

/- Contracts of the document's ReadUint and ReadText. (The rounds of the loop are written by tools/gen_Vg.py.) -/
namespace Go.Proofs.Ytcbmimjjpkkoeaa
open Go Go.RowKit

/-- A slice leads to these bytes. -/
def SL (w : World) (v : Value) (r : List Nat) : Prop := ∃ po c, v = .slice po r.length c ∧ BL w po r ∧ r.length ≤ c
theorem SL.below {w w' : World} {v : Value} {r : List Nat} (h : SL w v r) (hb : Below w.heap.size w w') : SL w' v r := by
  obtain ⟨po, c, h1, h2, h3⟩ := h; exact ⟨po, c, h1, h2.below hb, h3⟩
def RuS (w : World) (q : Option (Nat × List Nat)) (e : Ending) (w' : World) : Prop := Below w.heap.size w w' ∧ match q with
  | none => e = .returned (.tuple #[i64 0, .slice none 0 0, .bool false])
  | some (n, r) => ∃ v, e = .returned (.tuple #[i64 n, v, .bool true]) ∧ SL w' v r
theorem BL.from8 {w : World} {po : Option Addr} {bs : List Nat} (h : BL w po bs) (c l : Nat) (hl : l ≤ bs.length) (hc : bs.length ≤ c) : ∃ p2 : Option Addr, (∀ w : World, (Instr.slice 68 (.slice po bs.length c) (some (.int .i64 (l : Int))) none none).run Try.prog w = .ok (.slice p2 (bs.length - l) (c - l)) w) ∧ SL w (.slice p2 (bs.length - l) (c - l)) (bs.drop l) := by
  obtain ⟨p2, h1, h2, _, _⟩ := run_from8 po bs.length c l hl hc
  refine ⟨p2, h1, p2, c - l, by rw [List.length_drop], ?_, by rw [List.length_drop]; omega⟩
  rcases Nat.lt_or_ge l bs.length with hlt | hge
  · rcases h with e | ⟨b, o, hpo, hc⟩
    · subst e; simp at hlt
    · rw [h2 b o hpo hlt]
      exact BL.drop (Or.inr ⟨b, o, rfl, hc⟩) l
  · exact Or.inl (List.drop_eq_nil_of_le hge)
theorem drop_cons {bs : List Nat} {i : Nat} (h : i < bs.length) : bs.drop i = bs.getD i 0 :: bs.drop (i + 1) := by
  rw [List.drop_eq_getElem_cons h]; simp [List.getD, h]
/- behind rReadUint_any -/
end Go.Proofs.Ytcbmimjjpkkoeaa

/- Contracts of the document's ReadText; of SameBytes and CopyBytes of the statements' kit. -/
namespace Go.Proofs.Ytcbmimjjpkkoeaa
open Go Go.RowKit

def RtS (w : World) (q : Option (List Nat × List Nat)) (e : Ending) (w' : World) : Prop := Below w.heap.size w w' ∧ match q with
  | none => e = .returned (.tuple #[.string ⟨#[]⟩, .slice none 0 0, .bool false])
  | some (x, r) => ∃ t v, e = .returned (.tuple #[.string t, v, .bool true]) ∧ lst t = x ∧ SL w' v r
theorem run_h8 (po : Option Addr) (n c h : Nat) (hh : h ≤ c) (w : World) : (Instr.slice 68 (.slice po n c) none (some (.int .i64 (h : Int))) none).run Try.prog w = .ok (.slice po h c) w := by
  rw [run_slice_h (P := Try.prog) w 68 po n c underE8 .i64 (h : Int) (by omega) (by omega), elem8]
  cases po with
  | none => simp [Result.andThen, sliced]
  | some a =>
    by_cases h0 : c = 0
    · simp [Result.andThen, sliced, h0]
    · simp [Result.andThen, sliced, h0, add_zero']
theorem rdU_less {bs : List Nat} (h8 : ∀ x ∈ bs, x < 256) {n : Nat} {r : List Nat} (h : rdU bs = some (n, r)) : r.length ≤ bs.length ∧ (∀ x ∈ r, x < 256) ∧ n ≤ 1099511627776 := by
  obtain ⟨e, hn⟩ := rdU_some h8 h
  rw [e] at h8 ⊢
  exact ⟨by simp, (sub256 h8).2, hn⟩
theorem OutB.sl {B : Nat} {w : World} {v : Value} {bs : List Nat} (h : OutB B w v bs) : SL w v bs := by
  obtain ⟨po, h1, h2, _⟩ := h.form; exact ⟨po, _, h1, h2, Nat.le_refl _⟩
theorem Buf.sl {B : Nat} {w : World} {v : Value} {bs : List Nat} (h : Buf B w v bs) : SL w v bs := by
  obtain ⟨po, c, rfl⟩ := h.form; exact ⟨po, c, rfl, h.bl, h.cap.2⟩
theorem Buf.made0 (w : World) (B : Nat) (hB : B ≤ w.heap.size) : Buf B (w.alloc (.cells #[] 5)) (.slice (some ⟨w.heap.size, 0, none⟩) 0 0) [] := World.ownsRow_made w #[] 0 hB (by unfold maxLen; omega) (by simp)


end Go.Proofs.Ytcbmimjjpkkoeaa

/- Contracts of LentBytes, KeptBytes and OverBytes of the statements' kit. -/
namespace Go.Proofs.Ytcbmimjjpkkoeaa
open Go.RowKit

/-- A row of n bytes lies at block b from o on. -/
def RowAt (w : World) (b o n : Nat) (x : Nat → Nat) : Prop := ∀ i, i < n → w.cell? ⟨b, o + i, none⟩ = some (.int .u8 (x i : Nat))
/-- The world w has one block more than w0 has: n bytes, x, which may be written; what was there is as it was. -/
structure NewRow (w0 w : World) (n : Nat) (x : Nat → Nat) : Prop where
  size : w.heap.size = w0.heap.size + 1
  below : Below w0.heap.size w0 w
  cells : ∀ i, i < n → w.cell? ⟨w0.heap.size, i, none⟩ = some (.int .u8 (x i : Nat))
  free : ∀ i, w.frozen? ⟨w0.heap.size, i, none⟩ = false

theorem madeCells_get (z : Value) (n i : Nat) (h : i < n) : (madeCells #[z] n)[i]? = some z := by
  simp [madeCells, h, Nat.mod_one]
theorem run_make_u8 (n : Nat) (hn : n ≤ 70003) (w : World) :
    (Instr.makeSlice 68 (.int .i64 (n : Int)) (.int .i64 (n : Int))).run Try.prog w = .ok (.slice (some ⟨w.heap.size, 0, none⟩) n n) (w.alloc (.cells (madeCells #[.int .u8 0] n) 5)) := by
  obtain ⟨i0, hi, hz0, hz1, hz2⟩ := info_parts Try.info5
  have h := run_make (P := Try.prog) w 68 5 i0 (.int .u8 0) Try.underlying68 hi hz0 .i64 .i64 n n (by omega) (Int.le_refl _) (by rw [hz2]; omega) (by omega)
  rw [hz1] at h
  simpa [Value.cells] using h

theorem NewRow.made (w : World) (n : Nat) : NewRow w (w.alloc (.cells (madeCells #[.int .u8 0] n) 5)) n (fun _ => 0) where
  size := by simp
  below := (Below.refl _ _).alloc (Nat.le_refl _) _
  cells := fun i h => by rw [World.cell?_alloc_new, madeCells_get _ _ _ h]; rfl
  free := fun i => World.frozen?_alloc_new _ _ _ _
theorem NewRow.set {w0 w : World} {n : Nat} {x : Nat → Nat} (h : NewRow w0 w n x) (k : Nat) (v : Nat) (hk : k < n) :
    NewRow w0 (w.setCell ⟨w0.heap.size, k, none⟩ (.int .u8 (v : Nat))) n (fun i => if i = k then v else x i) where
  size := by simp [h.size]
  below := h.below.setCell (Nat.le_refl _) _
  cells := fun i hi => by
    by_cases e : i = k
    · subst e
      rw [World.cell?_setCell_same _ _ _ (h.cells i hi)]; simp
    · rw [World.cell?_setCell_other _ _ _ _ (by intro h2; cases h2; exact e rfl), h.cells i hi]; simp [e]
  free := fun i => by rw [World.frozen?_setCell]; exact h.free i
theorem NewRow.congr {w0 w : World} {n : Nat} {x y : Nat → Nat} (h : NewRow w0 w n x) (e : ∀ i, i < n → x i = y i) : NewRow w0 w n y where
  size := h.size
  below := h.below
  cells := fun i hi => by rw [h.cells i hi, e i hi]
  free := h.free

theorem upto_step (f : Nat → Nat) (k i : Nat) : (if i = k then f k else if i < k then f i else 0) = if i < k + 1 then f i else 0 := by
  by_cases e : i = k
  · subst e; rw [if_pos rfl, if_pos (by omega)]
  · rw [if_neg e]
    by_cases h : i < k
    · rw [if_pos h, if_pos (by omega)]
    · rw [if_neg h, if_neg (by omega)]

end Go.Proofs.Ytcbmimjjpkkoeaa

/- Contract of SameBytes of the statements' kit: of two slices that read alike it returns true, and leaves the world as it was. -/
namespace Go.Proofs.Ytcbmimjjpkkoeaa
open Go.RowKit

/-- The slice's value leads to n bytes x; one of no byte may lead anywhere. -/
def StrAt (w : World) (p : Option Addr) (n : Nat) (x : Nat → Nat) : Prop := n = 0 ∨ ∃ b o, p = some ⟨b, o, none⟩ ∧ RowAt w b o n x
def strN (n : Nat) (x : Nat → Nat) : ByteArray := strOfNums ((List.range n).map fun i => (x i : Int))
theorem conv_str (w : World) (p : Option Addr) (n c : Nat) (x : Nat → Nat) (h : StrAt w p n x) :
    (convert 68 9 (.slice p n c)).run Try.prog w = .ok (.string (strN n x)) w := by
  rcases h with rfl | ⟨b, o, rfl, h⟩
  · rw [run_convert_bytes_string w 68 9 5 _ 0 c Try.underlying68 Try.underlying5 Try.underlying9]
    cases p <;> simp [Conv.bytesToString, loadCells, strN]
    all_goals rfl
  · exact run_convert_bytes_arg w 68 5 Try.underlying68 Try.underlying5 b o n c _ (by simp) (fun i hi => by rw [h i hi]; simp [List.getD, hi]) 9 Try.underlying9

end Go.Proofs.Ytcbmimjjpkkoeaa

/- Contract of LentBytes of the statements' kit: a copy of the bytes lies in a new block, with three marked bytes of spare room behind it; what was there is as it was. -/
namespace Go.Proofs.Ytcbmimjjpkkoeaa
open Go.RowKit

theorem size_setCells (b : Nat) : ∀ (vs : List Value) (o : Nat) (w : World), (w.setCells b o vs).heap.size = w.heap.size
  | [], _, _ => rfl
  | v :: r, o, w => by rw [World.setCells, size_setCells b r, World.size_setCell]
theorem below_setCells (b B : Nat) (hB : B ≤ b) : ∀ (vs : List Value) (o : Nat) (w0 w : World), Below B w0 w → Below B w0 (w.setCells b o vs)
  | [], _, _, _, h => h
  | v :: r, o, w0, w, h => by rw [World.setCells]; exact below_setCells b B hB r (o + 1) w0 _ (h.setCell hB _)

/-- n bytes as values. -/
def valN (n : Nat) (x : Nat → Nat) : List Value := (List.range n).map fun i => .int .u8 (x i : Nat)
theorem valN_len (n : Nat) (x : Nat → Nat) : (valN n x).length = n := by simp [valN]
theorem valN_get (n : Nat) (x : Nat → Nat) (i : Nat) (h : i < n) : (valN n x)[i]? = some (.int .u8 (x i : Nat)) := by simp [valN, h]

theorem NewRow.copied {w0 w : World} {n : Nat} {x : Nat → Nat} (h : NewRow w0 w n x) (m : Nat) (y : Nat → Nat) (hm : m ≤ n) :
    NewRow w0 (w.setCells w0.heap.size 0 (valN m y)) n (fun i => if i < m then y i else x i) where
  size := by rw [size_setCells, h.size]
  below := below_setCells _ _ (Nat.le_refl _) _ _ _ _ h.below
  cells := fun i hi => by
    by_cases e : i < m
    · have hin := World.cell?_setCells_in w0.heap.size (valN m y) 0 w (fun j hj => by
        rw [valN_len] at hj
        rw [Nat.zero_add, h.cells j (by omega)]; rfl) i (by rw [valN_len]; exact e)
      rw [Nat.zero_add] at hin
      rw [hin, if_pos e]
      have g := valN_get m y i e
      rw [List.getElem?_eq_getElem (by rw [valN_len]; exact e)] at g
      exact g
    · rw [World.cell?_setCells_out _ _ _ _ _ (fun _ _ => by rw [valN_len]; right; simp; omega), if_neg e, h.cells i hi]
  free := fun i => by rw [World.frozen?_setCells]; exact h.free i

theorem run_copy_u8 (w : World) (b o n c g dl dc : Nat) (x y : Nat → Nat) (w0 : World) (hg : g = w0.heap.size) (h : NewRow w0 w dl y) (hx : RowAt w b o n x) (hn : n ≤ dl) (ty : TypeId) :
    (Builtin.copy_ #[68, 68] ty #[.slice (some ⟨g, 0, none⟩) dl dc, .slice (some ⟨b, o, none⟩) n c]).run Try.prog w = .ok (goInt n) (w.setCells g 0 (valN n x)) := by
  subst hg
  have := run_copy_cells (P := Try.prog) w 68 68 ty 5 w0.heap.size 0 dl dc ⟨b, o, none⟩ n c (valN n x) Try.underlying68 (by kernel_rfl) (by rw [valN_len]; exact (Nat.min_eq_left hn).symm)
    (fun j v hj => by
      have hjn : j < n := by
        rcases Nat.lt_or_ge j n with q | q
        · exact q
        · rw [List.getElem?_eq_none (by rw [valN_len]; exact q)] at hj; cases hj
      rw [valN_get n x j hjn] at hj
      cases hj
      have hadd : (⟨b, o, none⟩ : Addr).add j = ⟨b, o + j, none⟩ := by unfold Addr.add; split <;> simp_all
      rw [hadd]; exact hx j hjn)
    (fun j hj => by rw [valN_len] at hj; rw [Nat.zero_add, h.cells j (by omega)]; rfl)
    (fun j _ => by rw [Nat.zero_add]; exact h.free j)
    (fun v hv => by unfold valN at hv; obtain ⟨i, _, rfl⟩ := List.mem_map.1 hv; rfl)
  rw [valN_len] at this
  exact this

/-- What a lent list reads as, its spare room with it. -/
def lentN (n : Nat) (x : Nat → Nat) (i : Nat) : Nat := if i < n then x i else 160 + i % 90

theorem byte_mark (k : Nat) : ((160 + k % 90 : Nat) : Int) = 160 + (k : Int) % 90 := by omega

end Go.Proofs.Ytcbmimjjpkkoeaa

/- Contract of KeptBytes of the statements' kit: it returns true of a lent list that reads as it was lent. -/
namespace Go.Proofs.Ytcbmimjjpkkoeaa
open Go.RowKit

theorem RowAt.below {B : Nat} {w w' : World} {b o n : Nat} {x : Nat → Nat} (h : RowAt w b o n x) (hb : Below B w w') (hlt : b < B) : RowAt w' b o n x :=
  fun i hi => (hb.cell (p := ⟨b, o + i, none⟩) hlt).trans (h i hi)
theorem NewRow.row {w0 w : World} {n : Nat} {x : Nat → Nat} (h : NewRow w0 w n x) : RowAt w w0.heap.size 0 n x :=
  fun i hi => by rw [Nat.zero_add]; exact h.cells i hi

theorem BL.strAt {w : World} {po : Option Addr} {bs : List Nat} (h : BL w po bs) : StrAt w po bs.length (fun i => bs.getD i 0) := by
  rcases h with rfl | ⟨b, o, rfl, h⟩
  · exact .inl rfl
  · exact .inr ⟨b, o, rfl, h⟩
/-- Bytes that were lent. -/
structure Lent (w : World) (g : Nat) (bs : List Nat) : Prop where
  lt : g < w.heap.size
  row : RowAt w g 0 (bs.length + 3) (lentN bs.length fun i => bs.getD i 0)
theorem Lent.below {w w' : World} {g : Nat} {bs : List Nat} (h : Lent w g bs) (hb : Below w.heap.size w w') : Lent w' g bs := ⟨Nat.lt_of_lt_of_le h.lt hb.size, h.row.below hb h.lt⟩
theorem Lent.only {w w' : World} {g : Nat} {bs : List Nat} {S : Nat → Prop} (h : Lent w g bs) (ho : Only S w w') (hS : ¬ S g) : Lent w' g bs :=
  ⟨Nat.lt_of_lt_of_le h.lt ho.size, fun i hi => (World.cell?_of_block (ho.block g h.lt hS)).trans (h.row i hi)⟩
theorem Lent.bl {w : World} {g : Nat} {bs : List Nat} (h : Lent w g bs) : BL w (some ⟨g, 0, none⟩) bs := Or.inr ⟨g, 0, rfl, fun i hi => by
  have := h.row i (by omega)
  unfold lentN at this
  rw [if_pos hi] at this; exact this⟩
/-- c cells of a block, each a byte, that may be written. -/
structure CellsU (w : World) (g c : Nat) : Prop where
  c : ∀ i, i < c → ∃ z : Nat, z < 256 ∧ w.cell? ⟨g, i, none⟩ = some (.int .u8 (z : Int))
  f : ∀ i, w.frozen? ⟨g, i, none⟩ = false
theorem CellsU.set {w : World} {g c : Nat} (h : CellsU w g c) (k z : Nat) (hz : z < 256) : CellsU (w.setCell ⟨g, k, none⟩ (.int .u8 (z : Int))) g c :=
  ⟨fun i hi => by
    obtain ⟨x, hx, hc⟩ := h.c i hi
    by_cases e : i = k
    · subst e; exact ⟨z, hz, World.cell?_setCell_same _ _ _ hc⟩
    · exact ⟨x, hx, by rw [World.cell?_setCell_other _ _ _ _ (by intro h2; cases h2; exact e rfl)]; exact hc⟩, fun i => by rw [World.frozen?_setCell]; exact h.f i⟩
theorem run_cap8 (g n c : Nat) (w : World) : (Instr.slice 68 (.slice (some ⟨g, 0, none⟩) n c) none (some (.int .i64 (c : Int))) none).run Try.prog w = .ok (.slice (some ⟨g, 0, none⟩) c c) w := by
  rw [run_slice_h (P := Try.prog) w 68 _ n c underE8 .i64 (c : Int) (by omega) (by omega), elem8]
  by_cases h0 : c = 0
  · simp [Result.andThen, sliced, h0]
  · simp [Result.andThen, sliced, h0, Addr.add]
theorem xor_lt {a b : Nat} (ha : a < 256) (hb : b < 256) : a ^^^ b < 256 := Nat.xor_lt_two_pow (n := 8) ha hb


end Go.Proofs.Ytcbmimjjpkkoeaa

/- The walk of RecordNumbers. (Written by tools/gen_Vj.py.) -/
namespace Go.Proofs.Ytcbmimjjpkkoeaa
open Go Go.RowKit

theorem SL.nil (w : World) : SL w (.slice none 0 0) [] := ⟨none, 0, rfl, Or.inl rfl, Nat.le_refl _⟩
theorem OutB.blk {B : Nat} {w : World} {v : Value} {bs : List Nat} (h : OutB B w v bs) : ∀ b, v.ownBlock = some b → B ≤ b ∧ b < w.heap.size := fun b hb => by
  rcases h with ⟨rfl, _⟩ | ⟨g, rfl, h1, h2, _⟩
  · cases hb
  · cases hb; exact ⟨h1, h2⟩
theorem OutB.only {B : Nat} {w w' : World} {v : Value} {bs : List Nat} {S : Nat → Prop} (h : OutB B w v bs) (ho : Only S w w') (hS : ∀ b, v.ownBlock = some b → ¬ S b) : OutB B w' v bs := by
  rcases h with h | ⟨g, h1, h2, h3, h4, h5⟩
  · exact Or.inl h
  · have e := ho.block g h3 (hS g (by rw [h1]; rfl))
    exact Or.inr ⟨g, h1, h2, by have := ho.size; omega, fun i hi => (World.cell?_of_block e).trans (h4 i hi), fun i => by have := h5 i; unfold World.frozen? at this ⊢; rw [e]; exact this⟩
theorem rdT_less {bs : List Nat} (h8 : ∀ x ∈ bs, x < 256) {x r : List Nat} (h : rdT bs = some (x, r)) : r.length ≤ bs.length ∧ (∀ z ∈ r, z < 256) ∧ (∀ z ∈ x, z < 256) := by
  obtain ⟨e, hn⟩ := rdT_some h8 h
  rw [e] at h8 ⊢
  refine ⟨by simp, (sub256 h8).2, fun z hz => (sub256 h8).1 z ?_⟩
  unfold tb; exact List.mem_append_right _ hz
theorem tb_lt (s : ByteArray) : ∀ z ∈ tb (lst s), z < 256 := fun z hz => by
  unfold tb at hz
  rcases List.mem_append.1 hz with h | h
  · exact nb_byte _ z h
  · exact lst_lt s z h
theorem nil_lt : ∀ z ∈ ([] : List Nat), z < 256 := by simp
end Go.Proofs.Ytcbmimjjpkkoeaa

/- Which texts may be IDs, tags, data names, by the program and by the document. (Written by tools/gen_Vk.py.) -/
namespace Go.Proofs.Ytcbmimjjpkkoeaa
open Go Go.RowKit

theorem toBytes (s : ByteArray) (w : World) : ∃ c w1, (convert 9 68 (.string s)).run Try.prog w = .ok (.slice (some ⟨w.heap.size, 0, none⟩) s.size c) w1 ∧ Below w.heap.size w w1 ∧ BL w1 (some ⟨w.heap.size, 0, none⟩) (lst s) ∧ s.size ≤ c := by
  refine ⟨_, _, Lib.run_convert_string_bytes (P := Try.prog) w 9 68 5 s Try.underlying9 Try.underlying68 Try.underlying5, ⟨rfl, rfl, rfl, by rw [Lib.bytesWorld_size]; omega, fun k hk => Lib.bytesWorld_at_old w 5 s k hk⟩, Or.inr ⟨_, 0, rfl, fun i hi => ?_⟩, by have := grownCap_ge w s.size 0 5; omega⟩
  rw [lst_len] at hi
  rw [Nat.zero_add, Lib.bytesWorld_cell w 5 s i hi]
  have h2 : i < s.data.toList.length := by rw [Array.length_toList]; exact hi
  unfold lst u8
  rw [List.getD_eq_getElem?_getD, List.getD_eq_getElem?_getD, List.getElem?_map, List.getElem?_eq_getElem h2]
  rfl
theorem getD_all {l : List Nat} {f : Nat → Bool} : l.all f = true ↔ ∀ i, i < l.length → f (l.getD i 0) = true := by
  rw [List.all_eq_true]
  constructor
  · intro h i hi
    rw [List.getD_eq_getElem?_getD, List.getElem?_eq_getElem hi]
    exact h _ (List.getElem_mem hi)
  · intro h x hx
    obtain ⟨i, hi, rfl⟩ := List.mem_iff_getElem.1 hx
    have := h i hi
    rwa [List.getD_eq_getElem?_getD, List.getElem?_eq_getElem hi] at this
theorem all_not {l : List Nat} {last : Nat} {dash : Bool} {k : Nat} (hk : k < l.length) (h : isOf last dash (l.getD k 0) = false) : l.all (isOf last dash) = false := by
  cases e : l.all (isOf last dash)
  · rfl
  · have := getD_all.1 e k hk; rw [h] at this; cases this
theorem okOf_not {l : List Nat} {least most last : Nat} {dash : Bool} {k : Nat} (hk : k < l.length) (h : isOf last dash (l.getD k 0) = false) : okOf l least most last dash = false := by
  unfold okOf; rw [all_not hk h]; rfl
theorem lst_getD (s : ByteArray) (i : Nat) : (lst s).getD i 0 < 256 := by
  by_cases hi : i < (lst s).length
  · rw [List.getD_eq_getElem?_getD, List.getElem?_eq_getElem hi]; exact lst_lt s _ (List.getElem_mem hi)
  · rw [List.getD_eq_getElem?_getD, List.getElem?_eq_none (by omega)]; decide
set_option maxRecDepth 100000 in
set_option maxHeartbeats 2000000 in
theorem allOf_any (s : ByteArray) (last : Nat) (dash : Bool) (w : World) (hs : s.size ≤ 1000000) : Calls Try.prog 45 #[.string s, .int .u8 (last : Int), .bool dash] w fun e w' => e = .returned (.bool ((lst s).all (isOf last dash))) ∧ Below w.heap.size w w' := by
  obtain ⟨cc, w1, hconv, hb, hbl, _⟩ := toBytes s w
  have HB := hid hb
  have HBL := hid hbl
  have HZ := hid (lst_len s)
  clear hb hbl
  go_enter Try.func45, Try.ntmps45
  go_wp2
  clear hconv
  go_loopw [14] (fun v wr => ∃ k : Nat, k ≤ s.size ∧ v = .int .i64 (k : Int) ∧ w1 = wr ∧ ∀ i, i < k → isOf last dash ((lst s).getD i 0) = true) (fun v _ => (s.size - intOf v).toNat)
  case atStart => exact ⟨0, by omega, rfl, rfl, fun i hi => by omega⟩
  case round =>
    obtain ⟨k, hk, rfl, hw, hok⟩ := hrel
    have HOK := hid hok
    subst hw
    clear hok
    by_cases hlt0 : k < s.size
    · have hlt : k < (lst s).length := by rw [lst_len]; exact hlt0
      have hlt' : (k : Int) < (s.size : Int) := by omega
      have hcell : w1.cell? ⟨w.heap.size, k, none⟩ = some (.int .u8 (((lst s).getD k 0 : Nat) : Int)) := by
        rcases HBL.out with h | ⟨b, o, e, h⟩
        · rw [h] at hlt; simp at hlt
        · cases e; have := h k hlt; rwa [Nat.zero_add] at this
      have hc8 := lst_getD s k
      generalize hc : (lst s).getD k 0 = c at hcell hc8
      have HC := hid hc
      clear hc
      by_cases hd : 48 ≤ c ∧ c ≤ 57
      · have hok : isOf last dash c = true := by simp [isOf, dgt, hd]
        obtain ⟨hd1, hd2⟩ := hd
        go_wp2
        go_roundw
        case rel => exact ⟨k + 1, by omega, by go_num, by trivial, fun i hi => (by
            by_cases e : i = k
            · rw [e, HC.out]; exact hok
            · exact HOK.out i (by omega))⟩
        case measure => simp [intOf]; omega
      by_cases hl : 97 ≤ c ∧ c ≤ last
      · have hok : isOf last dash c = true := by simp [isOf, hl]
        obtain ⟨hl1, hl2⟩ := hl
        have h5 : ¬ (c : Int) ≤ 57 := by omega
        go_wp2
        go_roundw
        case rel => exact ⟨k + 1, by omega, by go_num, by trivial, fun i hi => (by
            by_cases e : i = k
            · rw [e, HC.out]; exact hok
            · exact HOK.out i (by omega))⟩
        case measure => simp [intOf]; omega
      have h3 : c < 48 ∨ (57 < c ∧ c < 97) ∨ (97 ≤ c ∧ last < c) := by omega
      cases dash with
      | false =>
        have hok : isOf last false c = false := by simp [isOf, dgt]; omega
        rcases h3 with h3 | ⟨h3, h4⟩ | ⟨h3, h4⟩
        · clear hd hl
          go_wp2
          go_ret
          exact ⟨by rw [all_not (last := last) hlt (by rw [HC.out]; exact hok)]; rfl, HB.out⟩
        · have h5 : ¬ (c : Int) ≤ 57 := by omega
          clear hd hl
          go_wp2
          go_ret
          exact ⟨by rw [all_not (last := last) hlt (by rw [HC.out]; exact hok)]; rfl, HB.out⟩
        · have h5 : ¬ (c : Int) ≤ 57 := by omega
          have h6 : ¬ (c : Int) ≤ (last : Int) := by omega
          clear hd hl
          go_wp2
          go_ret
          exact ⟨by rw [all_not (last := last) hlt (by rw [HC.out]; exact hok)]; rfl, HB.out⟩
      | true =>
        by_cases h45 : c = 45
        · have hok : isOf last true c = true := by simp [isOf, h45]
          subst h45
          clear hd hl h3
          go_wp2
          go_roundw
          case rel => exact ⟨k + 1, by omega, by go_num, by trivial, fun i hi => (by
              by_cases e : i = k
              · rw [e, HC.out]; exact hok
              · exact HOK.out i (by omega))⟩
          case measure => simp [intOf]; omega
        · have hok : isOf last true c = false := by simp [isOf, dgt]; omega
          have h45' : ((c : Int) == 45) = false := by simp; omega
          rcases h3 with h3 | ⟨h3, h4⟩ | ⟨h3, h4⟩
          · clear hd hl
            go_wp2
            go_ret
            exact ⟨by rw [all_not (last := last) hlt (by rw [HC.out]; exact hok)]; rfl, HB.out⟩
          · have h5 : ¬ (c : Int) ≤ 57 := by omega
            clear hd hl
            go_wp2
            go_ret
            exact ⟨by rw [all_not (last := last) hlt (by rw [HC.out]; exact hok)]; rfl, HB.out⟩
          · have h5 : ¬ (c : Int) ≤ 57 := by omega
            have h6 : ¬ (c : Int) ≤ (last : Int) := by omega
            clear hd hl
            go_wp2
            go_ret
            exact ⟨by rw [all_not (last := last) hlt (by rw [HC.out]; exact hok)]; rfl, HB.out⟩
    · have hlt' : ¬ (k : Int) < (s.size : Int) := by omega
      have e : Hid ((lst s).all (isOf last dash) = true) := getD_all.2 fun i hi => HOK.out i (by rw [lst_len] at hi; omega)
      go_wp2
      go_ret
      exact ⟨by rw [e.out]; rfl, HB.out⟩
theorem from_any (n a b : Int) (w : World) : Calls Try.prog 40 #[i64 n, i64 a, i64 b] w fun e w' => e = .returned (.bool (inR n a b)) ∧ w' = w := by
  by_cases h1 : a ≤ n
  · by_cases h2 : n ≤ b
    · have e : inR n a b = true := inR_iff.2 ⟨h1, h2⟩
      rw [e]
      go_enter Try.func40, Try.ntmps40
      go_wp2
      go_ret
      simp
    · have e : inR n a b = false := by simp [inR, h2]
      rw [e]
      go_enter Try.func40, Try.ntmps40
      go_wp2
      go_ret
      simp
  · have e : inR n a b = false := by simp [inR, h1]
    rw [e]
    go_enter Try.func40, Try.ntmps40
    go_wp2
    go_ret
    simp
theorem idx_lst (s : ByteArray) (i : Nat) (hi : i < s.size) (w : World) : (Instr.index 9 (.string s) (.int .i64 (i : Int))).run Try.prog w = .ok (.int .u8 (((lst s).getD i 0 : Nat) : Int)) w := by
  rw [run_index_string w 9 s .i64 (i : Int) under9, dif_pos ⟨by omega, by omega⟩]
  congr 3
  have h2 : i < s.data.toList.length := by rw [Array.length_toList]; exact hi
  unfold lst
  rw [List.getD_eq_getElem?_getD, List.getElem?_map, List.getElem?_eq_getElem h2]
  simp [ByteArray.getElem_eq_getElem_data]
theorem okOf_all {l : List Nat} {least most last : Nat} {dash : Bool} (h : l.all (isOf last dash) = true) : okOf l least most last dash = inR (l.length : Int) (least : Int) (most : Int) := by
  unfold okOf inR; rw [h]
  simp only [Bool.true_and]
  congr 1 <;> simp
set_option maxRecDepth 100000 in
set_option maxHeartbeats 2000000 in
theorem of_any (s : ByteArray) (least most last : Nat) (dash : Bool) (w : World) (hs : s.size ≤ 1000000) : Calls Try.prog 54 #[.string s, i64 least, i64 most, .int .u8 (last : Int), .bool dash] w fun e w' => e = .returned (.bool (okOf (lst s) least most last dash)) ∧ w' = w := by
  have HX := hid (idx_lst s)
  have HZ := hid (lst_len s)
  go_enter Try.func54, Try.ntmps54
  go_wp2
  go_loopw [11] (fun v wr => ∃ k : Nat, k ≤ s.size ∧ v = .int .i64 (k : Int) ∧ w = wr ∧ ∀ i, i < k → isOf last dash ((lst s).getD i 0) = true) (fun v _ => (s.size - intOf v).toNat)
  case atStart => exact ⟨0, by omega, rfl, rfl, fun i hi => by omega⟩
  case round =>
    obtain ⟨k, hk, rfl, hw, hok⟩ := hrel
    have HOK := hid hok
    subst hw
    clear hok
    by_cases hlt0 : k < s.size
    · have hlt : k < (lst s).length := by rw [lst_len]; exact hlt0
      have hlt' : (k : Int) < (s.size : Int) := by omega
      have hx := HX.out k hlt0
      have hc8 := lst_getD s k
      generalize hc : (lst s).getD k 0 = c at hx hc8
      have HC := hid hc
      clear hc
      by_cases hd : 48 ≤ c ∧ c ≤ 57
      · have hok : isOf last dash c = true := by simp [isOf, dgt, hd]
        obtain ⟨hd1, hd2⟩ := hd
        go_wp2
        go_roundw
        case rel => exact ⟨k + 1, by omega, by go_num, by trivial, fun i hi => (by
            by_cases e : i = k
            · rw [e, HC.out]; exact hok
            · exact HOK.out i (by omega))⟩
        case measure => simp [intOf]; omega
      by_cases hl : 97 ≤ c ∧ c ≤ last
      · have hok : isOf last dash c = true := by simp [isOf, hl]
        obtain ⟨hl1, hl2⟩ := hl
        have h5 : ¬ (c : Int) ≤ 57 := by omega
        go_wp2
        go_roundw
        case rel => exact ⟨k + 1, by omega, by go_num, by trivial, fun i hi => (by
            by_cases e : i = k
            · rw [e, HC.out]; exact hok
            · exact HOK.out i (by omega))⟩
        case measure => simp [intOf]; omega
      have h3 : c < 48 ∨ (57 < c ∧ c < 97) ∨ (97 ≤ c ∧ last < c) := by omega
      cases dash with
      | false =>
        have hok : isOf last false c = false := by simp [isOf, dgt]; omega
        rcases h3 with h3 | ⟨h3, h4⟩ | ⟨h3, h4⟩
        · clear hd hl
          go_wp2
          go_ret
          exact ⟨by rw [okOf_not (least := least) (most := most) (last := last) hlt (by rw [HC.out]; exact hok)]; rfl, by trivial⟩
        · have h5 : ¬ (c : Int) ≤ 57 := by omega
          clear hd hl
          go_wp2
          go_ret
          exact ⟨by rw [okOf_not (least := least) (most := most) (last := last) hlt (by rw [HC.out]; exact hok)]; rfl, by trivial⟩
        · have h5 : ¬ (c : Int) ≤ 57 := by omega
          have h6 : ¬ (c : Int) ≤ (last : Int) := by omega
          clear hd hl
          go_wp2
          go_ret
          exact ⟨by rw [okOf_not (least := least) (most := most) (last := last) hlt (by rw [HC.out]; exact hok)]; rfl, by trivial⟩
      | true =>
        by_cases h45 : c = 45
        · have hok : isOf last true c = true := by simp [isOf, h45]
          subst h45
          clear hd hl h3
          go_wp2
          go_roundw
          case rel => exact ⟨k + 1, by omega, by go_num, by trivial, fun i hi => (by
              by_cases e : i = k
              · rw [e, HC.out]; exact hok
              · exact HOK.out i (by omega))⟩
          case measure => simp [intOf]; omega
        · have hok : isOf last true c = false := by simp [isOf, dgt]; omega
          have h45' : ((c : Int) == 45) = false := by simp; omega
          rcases h3 with h3 | ⟨h3, h4⟩ | ⟨h3, h4⟩
          · clear hd hl
            go_wp2
            go_ret
            exact ⟨by rw [okOf_not (least := least) (most := most) (last := last) hlt (by rw [HC.out]; exact hok)]; rfl, by trivial⟩
          · have h5 : ¬ (c : Int) ≤ 57 := by omega
            clear hd hl
            go_wp2
            go_ret
            exact ⟨by rw [okOf_not (least := least) (most := most) (last := last) hlt (by rw [HC.out]; exact hok)]; rfl, by trivial⟩
          · have h5 : ¬ (c : Int) ≤ 57 := by omega
            have h6 : ¬ (c : Int) ≤ (last : Int) := by omega
            clear hd hl
            go_wp2
            go_ret
            exact ⟨by rw [okOf_not (least := least) (most := most) (last := last) hlt (by rw [HC.out]; exact hok)]; rfl, by trivial⟩
    · have hlt' : ¬ (k : Int) < (s.size : Int) := by omega
      have HE := hid (okOf_all (least := least) (most := most) (getD_all.2 fun i hi => HOK.out i (by rw [lst_len] at hi; omega)) : okOf (lst s) least most last dash = _)
      go_wp2_with (go_at_call 40; refine (from_any _ _ _ _).mono ?_; rintro e w' ⟨rfl, hw'⟩; have hw2 := hw'.symm; subst hw2)
      go_ret
      exact ⟨by rw [HE.out, HZ.out]; rfl, by trivial⟩
theorem okOf_in (l : List Nat) (least most last : Nat) (dash : Bool) : okOf l least most last dash = (inR (l.length : Int) (least : Int) (most : Int) && l.all (isOf last dash)) := by
  cases h : l.all (isOf last dash)
  · unfold okOf; rw [h]; simp
  · rw [okOf_all h]; simp
theorem isID_any (s : ByteArray) (w : World) (hs : s.size ≤ 1000000) : Calls Try.prog 29 #[.string s] w fun e w' => e = .returned (.bool (okId (lst s))) ∧ Below w.heap.size w w' := by
  have hal := allOf_any s 122 false w hs
  have hle : okId (lst s) = (inR (s.size : Int) 1 32 && (lst s).all (isOf 122 false)) := by unfold okId; rw [okOf_in, lst_len]; rfl
  rw [hle]
  clear hle
  generalize (lst s).all (isOf 122 false) = bb at *
  cases hin : inR (s.size : Int) 1 32
  · go_enter Try.func29, Try.ntmps29
    go_wp2_with (go_at_call 30; refine (between_any _ _ _ _).mono ?_; rintro e w' ⟨rfl, hw'⟩; rw [hin]; have hw2 := hw'.symm; subst hw2)
    go_ret
    exact ⟨rfl, Below.refl _ _⟩
  · go_enter Try.func29, Try.ntmps29
    go_wp2_with (first
      | (go_at_call 30; refine (between_any _ _ _ _).mono ?_; rintro e w' ⟨rfl, hw'⟩; rw [hin]; have hw2 := hw'.symm; subst hw2)
      | (go_at_call 45; refine hal.mono ?_; rintro e w1 ⟨rfl, hb⟩))
    go_ret
    exact ⟨by simp, hb⟩
theorem isTag_any (s : ByteArray) (w : World) (hs : s.size ≤ 1000000) : Calls Try.prog 47 #[.string s] w fun e w' => e = .returned (.bool (okTag (lst s))) ∧ Below w.heap.size w w' := by
  have hal := allOf_any s 102 true w hs
  have hle : okTag (lst s) = (inR (s.size : Int) 1 40 && (lst s).all (isOf 102 true)) := by unfold okTag; rw [okOf_in, lst_len]; rfl
  rw [hle]
  clear hle
  generalize (lst s).all (isOf 102 true) = bb at *
  cases hin : inR (s.size : Int) 1 40
  · go_enter Try.func47, Try.ntmps47
    go_wp2_with (go_at_call 30; refine (between_any _ _ _ _).mono ?_; rintro e w' ⟨rfl, hw'⟩; rw [hin]; have hw2 := hw'.symm; subst hw2)
    go_ret
    exact ⟨rfl, Below.refl _ _⟩
  · go_enter Try.func47, Try.ntmps47
    go_wp2_with (first
      | (go_at_call 30; refine (between_any _ _ _ _).mono ?_; rintro e w' ⟨rfl, hw'⟩; rw [hin]; have hw2 := hw'.symm; subst hw2)
      | (go_at_call 45; refine hal.mono ?_; rintro e w1 ⟨rfl, hb⟩))
    go_ret
    exact ⟨by simp, hb⟩
theorem isDataName_any (s : ByteArray) (w : World) (hs : s.size ≤ 1000000) : Calls Try.prog 48 #[.string s] w fun e w' => e = .returned (.bool (okData (lst s))) ∧ Below w.heap.size w w' := by
  have hal := allOf_any s 102 false w hs
  have hle : okData (lst s) = (inR (s.size : Int) 32 32 && (lst s).all (isOf 102 false)) := by unfold okData; rw [okOf_in, lst_len]; rfl
  rw [hle]
  clear hle
  generalize (lst s).all (isOf 102 false) = bb at *
  by_cases hin : (s.size : Int) = 32
  · have hi : inR (s.size : Int) 32 32 = true := inR_iff.2 (by omega)
    rw [hi]
    have hin' : ((s.size : Int) == 32) = true := by simpa using hin
    go_enter Try.func48, Try.ntmps48
    go_wp2_with (go_at_call 45; refine hal.mono ?_; rintro e w1 ⟨rfl, hb⟩)
    go_ret
    exact ⟨by simp, hb⟩
  · have hi : inR (s.size : Int) 32 32 = false := by simp [inR]; omega
    rw [hi]
    have hin' : ((s.size : Int) == 32) = false := by simpa using hin
    go_enter Try.func48, Try.ntmps48
    go_wp2_with fail
    go_ret
    exact ⟨rfl, Below.refl _ _⟩
theorem rID_any (s : ByteArray) (w : World) (hs : s.size ≤ 1000000) : Calls Try.prog 39 #[.string s] w fun e w' => e = .returned (.bool (okId (lst s))) ∧ w' = w := by
  have hal := of_any s 1 32 122 false w hs
  unfold okId
  generalize okOf (lst s) 1 32 122 false = bb at *
  go_enter Try.func39, Try.ntmps39
  go_wp2_with (go_at_call 54; refine hal.mono ?_; rintro e w1 ⟨rfl, hw'⟩; have hw2 := hw'.symm; subst hw2)
  go_ret
  exact ⟨rfl, by trivial⟩
theorem rTag_any (s : ByteArray) (w : World) (hs : s.size ≤ 1000000) : Calls Try.prog 41 #[.string s] w fun e w' => e = .returned (.bool (okTag (lst s))) ∧ w' = w := by
  have hal := of_any s 1 40 102 true w hs
  unfold okTag
  generalize okOf (lst s) 1 40 102 true = bb at *
  go_enter Try.func41, Try.ntmps41
  go_wp2_with (go_at_call 54; refine hal.mono ?_; rintro e w1 ⟨rfl, hw'⟩; have hw2 := hw'.symm; subst hw2)
  go_ret
  exact ⟨rfl, by trivial⟩
theorem rData_any (s : ByteArray) (w : World) (hs : s.size ≤ 1000000) : Calls Try.prog 42 #[.string s] w fun e w' => e = .returned (.bool (okData (lst s))) ∧ w' = w := by
  have hal := of_any s 32 32 102 false w hs
  unfold okData
  generalize okOf (lst s) 32 32 102 false = bb at *
  go_enter Try.func42, Try.ntmps42
  go_wp2_with (go_at_call 54; refine hal.mono ?_; rintro e w1 ⟨rfl, hw'⟩; have hw2 := hw'.symm; subst hw2)
  go_ret
  exact ⟨rfl, by trivial⟩
#print axioms isDataName_any
#print axioms rData_any
end Go.Proofs.Ytcbmimjjpkkoeaa
