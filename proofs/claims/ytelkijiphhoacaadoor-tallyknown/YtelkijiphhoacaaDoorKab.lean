/- Texts laid into one, cut to what is needed: the remark ahead of each part says what is proved there. -/
import Derived.Test.YtelkijiphhoacaaDoorRows
import Derived.Test.YtelkijiphhoacaaDoorKaa
import Derived.WalkKit
import Derived.WalkSpells
import Derived.WalkLawsBesides
import Derived.OwnWalk
import Derived.Laws.Rows
import Derived.Laws.CopyOwn
import Derived.Laws.NewBlocks
import Derived.Laws.ResultCell
import Derived.Laws.BytesArg
import Derived.Laws.BytesString
import Derived.Laws.OwnMore
import Derived.Laws.AppendOwnNone
import Derived.Maps.AppendAt
import Derived.Lib.AppendStr
import Derived.Lib.SliceRun
import Derived.Laws.BitsAllLaws
import Derived.Deep.RegionHeld3
import Derived.Deep.QuietTactic
import Derived.Maps.OwnSet
/- What memory holds: blocks, what stays, bytes in slices, texts; rows of bytes of one's own and what is appended to them. -/
namespace Go.Proofs.YtelkijiphhoacaaDoor
open Go Go.RowKit

theorem hid {p : Prop} (h : p) : Hid p := h
def u8 (k : Nat) : Value := .int .u8 (k : Int)
abbrev ptr (p : Nat) : Value := .pointer (some ⟨p, 0, none⟩)
abbrev i64 (k : Int) : Value := .int .i64 k
theorem under9 : Tryd.prog.underlying 9 = some .string := by kernel_rfl
theorem Tryd.info5 : (Tryd.prog.info? 5).map (fun i => (i.zero, i.size, i.bytes)) = some (some (.int .u8 0), 1, 1) := by kernel_rfl
theorem add_zero' (a : Addr) : a.add 0 = a := by simp [Addr.add]
theorem add_none (b o n : Nat) : (⟨b, o, none⟩ : Addr).add n = ⟨b, o + n, none⟩ := by unfold Addr.add; split <;> simp_all

/-- Block b has these cells, none of them frozen. -/
def CAt (w : World) (b : Nat) (cs : Array Value) (t : TypeId) : Prop := w.heap[b]? = some (.cells cs t (0, 0))
theorem CAt.lt {w : World} {b : Nat} {cs : Array Value} {t : TypeId} (h : CAt w b cs t) : b < w.heap.size := (Array.getElem?_eq_some_iff.1 h).1
theorem CAt.cell {w : World} {b : Nat} {cs : Array Value} {t : TypeId} (h : CAt w b cs t) (i : Nat) : w.cell? ⟨b, i, none⟩ = cs[i]? := by
  simp [World.cell?, show w.heap[b]? = _ from h]
theorem CAt.free {w : World} {b : Nat} {cs : Array Value} {t : TypeId} (h : CAt w b cs t) (i : Nat) : w.frozen? ⟨b, i, none⟩ = false := by
  simp [World.frozen?, show w.heap[b]? = _ from h]
theorem CAt.set {w : World} {b : Nat} {cs : Array Value} {t : TypeId} (h : CAt w b cs t) (i : Nat) (v : Value) : CAt (w.setCell ⟨b, i, none⟩ v) b (cs.setIfInBounds i v) t := by
  unfold CAt at *
  simp [World.setCell, Array.getElem?_modify, h]
theorem CAt.keep {w w' : World} {b : Nat} {cs : Array Value} {t : TypeId} (h : CAt w b cs t) (e : w'.heap[b]? = w.heap[b]?) : CAt w' b cs t := e.trans h
theorem CAt.made (w : World) (cs : Array Value) (t : TypeId) : CAt (w.alloc (.cells cs t)) w.heap.size cs t := (MapKept.heap_alloc w _).1
theorem CAt.below {w w' : World} {b : Nat} {cs : Array Value} {t : TypeId} (h : CAt w b cs t) (hb : Below w.heap.size w w') : CAt w' b cs t := h.keep (hb.block b h.lt)
theorem heap_setCell_ne (w : World) (a : Addr) (v : Value) (b : Nat) (h : b ≠ a.block) : (w.setCell a v).heap[b]? = w.heap[b]? := RowKit.Below.heap_setCell _ _ _ _ h
theorem setCell_size (w : World) (a : Addr) (v : Value) : (w.setCell a v).heap.size = w.heap.size := by
  unfold World.setCell; split <;> simp
theorem size_al (w : World) (o : Obj) : (w.alloc o).heap.size = w.heap.size + 1 := by simp
theorem heap_alloc_old (w : World) (o : Obj) {b : Nat} (h : b < w.heap.size) : (w.alloc o).heap[b]? = w.heap[b]? := (MapKept.heap_alloc w o).2 b h
theorem below_al (w : World) (o : Obj) : Below w.heap.size w (w.alloc o) := (Below.refl _ _).alloc (Nat.le_refl _) _
theorem below_on {w0 : World} {w w' : World} (h : Below w0.heap.size w0 w) (hb : Below w.heap.size w w') : Below w0.heap.size w0 w' :=
  ⟨hb.os.trans h.os, hb.tape.trans h.tape, hb.output.trans h.output, Nat.le_trans h.size hb.size, fun k hk => (hb.block k (Nat.lt_of_lt_of_le hk h.size)).trans (h.block k hk)⟩
theorem cell_lt' {w : World} {a : Addr} (h : w.cell? a ≠ none) : a.block < w.heap.size := by
  rcases Nat.lt_or_ge a.block w.heap.size with h1 | h1
  · exact h1
  · exact absurd (by simp [World.cell?, Array.getElem?_eq_none h1]) h

/-- Of what was there nothing has turned but blocks of S. -/
structure Only (S : Nat → Prop) (w w' : World) : Prop where
  os : w'.os = w.os
  tape : w'.tape = w.tape
  output : w'.output = w.output
  size : w.heap.size ≤ w'.heap.size
  block : ∀ k, k < w.heap.size → ¬ S k → w'.heap[k]? = w.heap[k]?
theorem Only.refl (S : Nat → Prop) (w : World) : Only S w w := ⟨rfl, rfl, rfl, Nat.le_refl _, fun _ _ _ => rfl⟩
theorem Only.trans {S : Nat → Prop} {a b c : World} (h : Only S a b) (k : Only S b c) : Only S a c :=
  ⟨k.os.trans h.os, k.tape.trans h.tape, k.output.trans h.output, Nat.le_trans h.size k.size, fun i hi hs => (k.block i (Nat.lt_of_lt_of_le hi h.size) hs).trans (h.block i hi hs)⟩
theorem Only.then {S T : Nat → Prop} {a b c : World} (h : Only S a b) (k : Only T b c) (hT : ∀ i, i < a.heap.size → T i → S i) : Only S a c :=
  ⟨k.os.trans h.os, k.tape.trans h.tape, k.output.trans h.output, Nat.le_trans h.size k.size, fun i hi hs => (k.block i (Nat.lt_of_lt_of_le hi h.size) (fun ht => hs (hT i hi ht))).trans (h.block i hi hs)⟩
theorem Only.mono {S T : Nat → Prop} {a b : World} (h : Only S a b) (hS : ∀ i, S i → T i) : Only T a b := ⟨h.os, h.tape, h.output, h.size, fun i hi hs => h.block i hi fun k => hs (hS i k)⟩
theorem Only.of_below {S : Nat → Prop} {a b : World} (h : Below a.heap.size a b) : Only S a b := ⟨h.os, h.tape, h.output, h.size, fun i hi _ => h.block i hi⟩
theorem Only.below {S : Nat → Prop} {a b : World} {B : Nat} (h : Only S a b) (hB : B ≤ a.heap.size) (hS : ∀ i, S i → B ≤ i) : Below B a b :=
  ⟨h.os, h.tape, h.output, h.size, fun i hi => h.block i (by omega) fun k => by have := hS i k; omega⟩
theorem Only.of_grown {S : Nat → Prop} {a b : World} {r : Option Nat} (h : a.grownBy b r) (hr : ∀ k, r = some k → k < a.heap.size → S k) : Only S a b :=
  ⟨h.os, h.tape, h.output, h.size, fun i hi hs => h.block i hi fun e => hs (hr i e.symm hi)⟩
theorem Only.set {S : Nat → Prop} (w : World) (a : Addr) (v : Value) (h : S a.block) : Only S w (w.setCell a v) := by
  exact ⟨rfl, rfl, rfl, Nat.le_of_eq (setCell_size w a v).symm, fun k _ hk => heap_setCell_ne _ _ _ _ fun e => hk (e ▸ h)⟩
theorem Only.alloc {S : Nat → Prop} (w : World) (o : Obj) : Only S w (w.alloc o) := Only.of_grown (World.grownBy_alloc w o none) (by simp)
theorem below_grown {B : Nat} {w w1 w2 : World} {r : Option Nat} (h : Below B w w1) (hg : w1.grownBy w2 r) (hB : B ≤ w.heap.size) (hr : ∀ b, r = some b → B ≤ b) : Below B w w2 :=
  ⟨hg.os.trans h.os, hg.tape.trans h.tape, hg.output.trans h.output, Nat.le_trans h.size hg.size, fun k hk => (hg.block k (by have := h.size; omega) fun e => by have := hr k e.symm; omega).trans (h.block k hk)⟩
theorem below_tr {B : Nat} {w w1 w2 : World} (h : Below B w w1) (k : Below B w1 w2) : Below B w w2 :=
  ⟨k.os.trans h.os, k.tape.trans h.tape, k.output.trans h.output, Nat.le_trans h.size k.size, fun i hi => (k.block i hi).trans (h.block i hi)⟩
theorem below_less {B C : Nat} {w w1 : World} (h : Below B w w1) (hC : C ≤ B) : Below C w w1 := ⟨h.os, h.tape, h.output, h.size, fun i hi => h.block i (by omega)⟩
theorem ownsRow_keep {w w' : World} {B e n s : Nat} {v : Value} {xs : List Value} (h : w.ownsRow B e s v n xs) (hk : ∀ b, v.ownBlock = some b → w'.heap[b]? = w.heap[b]?) : w'.ownsRow B e s v n xs := by
  obtain ⟨h1, h2⟩ := h
  refine ⟨h1, ?_⟩
  rcases h2 with h2 | ⟨g, cap, cur, rfl, hB, hb, r⟩
  · exact Or.inl h2
  · exact Or.inr ⟨g, cap, cur, rfl, hB, (hk g rfl).trans hb, r⟩
theorem own_form {w : World} {B e sz n : Nat} {v : Value} {xs : List Value} (h : w.ownsRow B e sz v n xs) : ∃ po cc, v = .slice po n cc := by
  rcases h.2 with ⟨rfl, rfl⟩ | ⟨g, cap, cur, rfl, _⟩
  · exact ⟨_, _, rfl⟩
  · exact ⟨_, _, rfl⟩
theorem own_ge {w : World} {B e sz n : Nat} {v : Value} {xs : List Value} (h : w.ownsRow B e sz v n xs) : ∀ b, v.ownBlock = some b → B ≤ b ∧ b < w.heap.size := fun b hb => World.ownsRow.lt h b hb
theorem own_base {w : World} {B B2 e sz n : Nat} {v : Value} {xs : List Value} (h : w.ownsRow B e sz v n xs) (hB : B2 ≤ B) : w.ownsRow B2 e sz v n xs := by
  refine ⟨h.1, ?_⟩
  rcases h.2 with h2 | ⟨g, cap, cur, rfl, hb, r⟩
  · exact Or.inl h2
  · exact Or.inr ⟨g, cap, cur, rfl, Nat.le_trans hB hb, r⟩

/-- A text's bytes. -/
def lst (s : ByteArray) : List Nat := s.data.toList.map UInt8.toNat
theorem lst_len (s : ByteArray) : (lst s).length = s.size := by unfold lst; rw [List.length_map, Array.length_toList]; rfl
theorem lst_lt (s : ByteArray) : ∀ x ∈ lst s, x < 256 := fun x hx => by
  obtain ⟨c, _, rfl⟩ := List.mem_map.1 hx; exact c.toNat_lt
theorem lst_inj {s t : ByteArray} (h : lst s = lst t) : s = t := by
  have : s.data.toList = t.data.toList := by
    unfold lst at h
    exact (List.map_inj_right (f := UInt8.toNat) (fun x y e => UInt8.toNat_inj.1 e)).1 h
  cases s; cases t; simp at this; rw [this]
def ba (l : List Nat) : ByteArray := strOfNums (l.map fun (k : Nat) => (k : Int))
theorem lst_ba {l : List Nat} (h : ∀ x ∈ l, x < 256) : lst (ba l) = l := by
  unfold lst ba
  rw [strOfNums_data, List.map_map, List.map_map]
  refine (List.map_congr_left fun x hx => ?_).trans (List.map_id l)
  have := h x hx
  simp only [Function.comp_apply, Int.toNat_natCast, id_eq]
  rw [UInt8.toNat_ofNat']; omega
theorem strCells_lst (s : ByteArray) : Lib.strCells s = (lst s).map u8 := by simp [Lib.strCells, lst, u8, Function.comp_def]
theorem lst_nil : lst ⟨#[]⟩ = [] := rfl
theorem lst_beq (s t : ByteArray) : (s.toList == t.toList) = decide (lst s = lst t) := by
  rw [ByteArray.toList_eq, ByteArray.toList_eq]
  by_cases h : lst s = lst t
  · have := lst_inj h; subst this; simp
  · have : s.data.toList ≠ t.data.toList := fun e => h (by unfold lst; rw [e])
    rw [decide_eq_false h]
    exact Bool.eq_false_iff.2 fun e => this (eq_of_beq e)

/-- The slice leads to the bytes bs. -/
def BL (w : World) (po : Option Addr) (bs : List Nat) : Prop := bs = [] ∨ ∃ b o, po = some ⟨b, o, none⟩ ∧ ∀ i, i < bs.length → w.cell? ⟨b, o + i, none⟩ = some (u8 (bs.getD i 0))
theorem BL.keep {w w' : World} {po : Option Addr} {bs : List Nat} (h : BL w po bs) (hk : ∀ a, w.cell? a ≠ none → w'.cell? a = w.cell? a) : BL w' po bs := by
  rcases h with h | ⟨b, o, rfl, h⟩
  · exact Or.inl h
  · exact Or.inr ⟨b, o, rfl, fun i hi => (hk _ (by rw [h i hi]; simp)).trans (h i hi)⟩
theorem BL.below {w w' : World} {po : Option Addr} {bs : List Nat} (h : BL w po bs) (hb : Below w.heap.size w w') : BL w' po bs :=
  h.keep fun a ha => World.cell?_of_block (hb.block a.block (cell_lt' ha))
theorem BL.onlyAt {w w' : World} {po : Option Addr} {bs : List Nat} {S : Nat → Prop} (h : BL w po bs) (ho : Only S w w') (hS : bs ≠ [] → ∀ a, po = some a → ¬ S a.block) : BL w' po bs := by
  rcases h with h | ⟨b, o, rfl, h⟩
  · exact Or.inl h
  · refine Or.inr ⟨b, o, rfl, fun i hi => ?_⟩
    have hne : bs ≠ [] := fun e => by subst e; simp at hi
    have hc := h i hi
    exact (World.cell?_of_block (ho.block b (cell_lt' (a := ⟨b, o + i, none⟩) (by rw [hc]; simp)) (hS hne _ rfl))).trans hc
theorem BL.nil (w : World) (po : Option Addr) : BL w po [] := Or.inl rfl
theorem BL.conv {w : World} {po : Option Addr} {bs : List Nat} (h : BL w po bs) (c : Nat) : (convert 29 9 (.slice po bs.length c)).run Tryd.prog w = .ok (.string (ba bs)) w := by
  rcases h with rfl | ⟨b, o, rfl, h⟩
  · rw [run_convert_bytes_string w 29 9 5 _ _ c Tryd.underlying29 Tryd.underlying5 Tryd.underlying9]
    cases po <;> simp [Conv.bytesToString, loadCells, ba]
    all_goals rfl
  · exact run_convert_bytes_arg w 29 5 Tryd.underlying29 Tryd.underlying5 b o bs.length c _ (by simp) (fun i hi => by rw [h i hi]; simp [List.getD, hi, u8]) 9 Tryd.underlying9
theorem getD_drop (bs : List Nat) (n i : Nat) : (bs.drop n).getD i 0 = bs.getD (n + i) 0 := by simp [List.getD]
theorem getD_take {bs : List Nat} {n i : Nat} (h : i < n) : (bs.take n).getD i 0 = bs.getD i 0 := by simp [List.getD, h]
theorem BL.drop {w : World} {b o : Nat} {bs : List Nat} (h : BL w (some ⟨b, o, none⟩) bs) (n : Nat) : BL w (some ⟨b, o + n, none⟩) (bs.drop n) := by
  rcases h with rfl | ⟨b', o', e, h⟩
  · exact Or.inl (by simp)
  · cases e
    refine Or.inr ⟨b, o + n, rfl, fun i hi => ?_⟩
    rw [List.length_drop] at hi
    rw [getD_drop, show o + n + i = o + (n + i) by omega]
    exact h (n + i) (by omega)
theorem BL.take {w : World} {po : Option Addr} {bs : List Nat} (h : BL w po bs) (n : Nat) : BL w po (bs.take n) := by
  rcases h with rfl | ⟨b, o, rfl, h⟩
  · exact Or.inl (by simp)
  · refine Or.inr ⟨b, o, rfl, fun i hi => ?_⟩
    rw [List.length_take] at hi
    rw [getD_take (by omega)]
    exact h i (by omega)
/-- Bytes in a row of their own. -/
def Buf (B : Nat) (w : World) (v : Value) (L : List Nat) : Prop := w.ownsRow B 5 1 v L.length (L.map u8)
theorem Buf.nil (B : Nat) (w : World) : Buf B w (.slice none 0 0) [] := World.ownsRow_nil w B 5 1
theorem Buf.form {B : Nat} {w : World} {v : Value} {L : List Nat} (h : Buf B w v L) : ∃ po cc, v = .slice po L.length cc := own_form h
theorem Buf.below {B : Nat} {w w' : World} {v : Value} {L : List Nat} (h : Buf B w v L) (hb : Below w.heap.size w w') : Buf B w' v L :=
  ownsRow_keep h fun b hv => hb.block b (own_ge h b hv).2
theorem Buf.bl {B : Nat} {w : World} {po : Option Addr} {n c : Nat} {L : List Nat} (h : Buf B w (.slice po n c) L) : BL w po L := by
  rcases h.2 with ⟨e, h0⟩ | ⟨g, cap, cur, e, _, hg, h1, _, h3, h4⟩
  · exact Or.inl (List.eq_nil_of_length_eq_zero h0)
  · cases e
    refine Or.inr ⟨g, 0, rfl, fun i hi => ?_⟩
    have hc : CAt w g cur 5 := hg
    rw [Nat.zero_add, hc.cell]
    have := congrArg (fun l => l[i]?) h4
    simp [hi] at this
    rw [this]
    simp [u8, List.getD, List.getElem?_eq_getElem hi]
/-- append(v, b...), the bytes anywhere. -/
theorem Buf.app {B : Nat} {w : World} {v : Value} {L : List Nat} (hv : Buf B w v L) (po : Option Addr) (c : Nat) (bs : List Nat) (hb : BL w po bs) (hc : po = none → c = 0) (hn : L.length + bs.length ≤ 2000000) (hB : B ≤ w.heap.size) :
    ∃ v' w', (Builtin.append_ #[29, 29] 29 #[v, .slice po bs.length c]).run Tryd.prog w = .ok v' w' ∧ Buf B w' v' (L ++ bs) ∧ w.grownBy w' v.ownBlock := by
  obtain ⟨i0, hi0, hz0, hz1, hz2⟩ := info_parts Tryd.info5
  cases po with
  | none =>
    have : bs = [] := by rcases hb with h | ⟨b, o, h, _⟩
                         · exact h
                         · cases h
    subst this
    obtain rfl := hc rfl
    refine ⟨v, w, run_append_owned_none (P := Tryd.prog) (w := w) B 29 29 5 i0 1 Tryd.underlying29 hi0 v _ _ hv, by simpa using hv, ⟨rfl, rfl, rfl, Nat.le_refl _, fun _ _ _ => rfl⟩⟩
  | some a =>
    obtain ⟨v', w', hr, h2, h3, _, _⟩ := run_append_own_at (P := Tryd.prog) w B 29 29 5 i0 (.int .u8 0) 1 1 Tryd.underlying29 hi0 hz0 hz1 hz2 rfl (by decide) v L.length (L.map u8) hv a bs.length c (bs.map u8) (by simp) (fun j u hj => by
        have hjl : j < bs.length := by
          rcases Nat.lt_or_ge j bs.length with q | q
          · exact q
          · rw [List.getElem?_eq_none (by simpa using q)] at hj; cases hj
        have e : u = u8 (bs.getD j 0) := by simp [hjl] at hj; rw [← hj]; simp [List.getD, hjl]
        rcases hb with h | ⟨b, o, e2, h⟩
        · subst h; simp at hjl
        · cases e2
          rw [add_none, e]; exact h j hjl) (by intro u hu; simp at hu; obtain ⟨k, _, rfl⟩ := hu; rfl) (by unfold maxLen; omega) (by omega) hB
    refine ⟨v', w', hr, ?_, h3⟩
    unfold Buf; rw [List.length_append, List.map_append]; exact h2
/-- append(v, x), the value laid in a new block first. -/
theorem Buf.push {B : Nat} {w : World} {v : Value} {L : List Nat} (hv : Buf B w v L) (k : Nat) (hn : L.length + 1 ≤ 2000000) (hB : B ≤ w.heap.size) :
    ∃ v' w', (Builtin.append_ #[29, 29] 29 #[v, .slice (some ⟨w.heap.size, 0, none⟩) 1 1]).run Tryd.prog (w.alloc (.cells #[u8 k] 5)) = .ok v' w' ∧ Buf B w' v' (L ++ [k]) ∧ Below B w w' := by
  have h2 := hv.below (below_al w (.cells #[u8 k] 5))
  have hc : CAt (w.alloc (.cells #[u8 k] 5)) w.heap.size #[u8 k] 5 := CAt.made w _ _
  obtain ⟨v', w', h3, h4, h5⟩ := h2.app (some ⟨w.heap.size, 0, none⟩) 1 [k] (Or.inr ⟨w.heap.size, 0, rfl, fun i hi => by
    have : i = 0 := by simpa using hi
    subst this; rw [Nat.zero_add, hc.cell]; rfl⟩) (by simp) (by simpa using hn) (by rw [size_al]; omega)
  exact ⟨v', w', h3, h4, below_grown (below_less (below_al w _) hB) h5 hB fun b hb => (own_ge h2 b hb).1⟩
end Go.Proofs.YtelkijiphhoacaaDoor

/- Contracts of what writes numbers and texts: clipped, fresh, appendNumber, appendText, Uint, Text of package record. -/
namespace Go.Proofs.YtelkijiphhoacaaDoor
open Go Go.RowKit

theorem wpList_append_run {P : Program} {w w' : World} {ops : Array Oper} {rest : List Oper} {o : Oper} {a : Act} {Q : Exit → Act → World → Prop} (s x : Operand) (t t2 : TypeId)
    (ho : o.op = .call { callee := .builtin .append, args := #[s, x], argTypes := #[t, t2] }) (hw : Region.wanted o (yielded ops a.tmps) = true)
    (v xv v' : Value) (hs : a.eval s = v) (hx : a.eval x = xv) (hr : (Builtin.append_ #[t, t2] o.type #[v, xv]).run P w = .ok v' w') (h : wpList P ops Q rest (a.put o.dst v') w') : wpList P ops Q (o :: rest) a w := by
  refine BigFrame.wpList_want hw fun K hK => ?_
  unfold Oper.wp execOp
  simp only [ho, resolve, invoke, builtin, Sem.run_bind, Sem.run_pure, Result.andThen_ok, List.map_toArray, List.map_cons, List.map_nil, hs, hx, hr]
  exact hK _ _ h
def BufS (B : Nat) (w : World) (L : List Nat) (e : Ending) (w' : World) : Prop := ∃ v', e = .returned v' ∧ Buf B w' v' L ∧ Below B w w'
theorem nb_le {n : Nat} (h : n ≤ 1099511627776) : (nb n).length ≤ 6 := nb_len 5 n (by omega)
theorem or128 : ∀ x : Fin 256, x.val ||| 128 = x.val % 128 + 128 := by decide +kernel
theorem or_128 (m : Nat) : bits .or .u8 ((m : Int) % 256) 128 = ((m % 128 + 128 : Nat) : Int) := by
  rw [u8_or _ _ (by omega) (by omega) (by omega) (by omega)]
  have h1 : ((m : Int) % 256).toNat = m % 256 := by omega
  have h2 := or128 ⟨m % 256, by omega⟩
  simp only at h2
  have h3 : m % 256 % 128 = m % 128 := by omega
  rw [h1, show (128 : Int).toNat = 128 from rfl, h2, h3]
set_option maxRecDepth 100000 in
set_option maxHeartbeats 400000 in
theorem appNum (B : Nat) (L : List Nat) (v : Value) (n : Nat) (w : World) (hn : n ≤ 1099511627776) (hv : Buf B w v L) (hL : L.length ≤ 1000000) (hB : B ≤ w.heap.size) :
    Calls Tryd.prog 38 #[v, i64 n] w (BufS B w (L ++ nb n)) := by
  have HV := hid hv
  have HN := hid (nb_le hn)
  have HB := hid hB
  clear hv hB
  go_enter Tryd.func38, Tryd.ntmps38
  go_wp2
  go_loopw [0, 1] (fun b i wr => ∃ (m : Nat) (L' : List Nat), m ≤ n ∧ i = i64 m ∧ L' ++ nb m = L ++ nb n ∧ Buf B wr b L' ∧ Below B w wr) (fun b i _ => (intOf i).toNat)
  case atStart => exact ⟨n, L, Nat.le_refl _, rfl, rfl, HV.out, Below.refl _ _⟩
  case round =>
    obtain ⟨m, L', hm, rfl, hl, hb, hw⟩ := hrel
    have HR := hid hb
    have HW := hid hw
    have HE := hid hl
    have hlen := congrArg List.length hl
    rw [List.length_append, List.length_append] at hlen
    have HLN := hid hlen
    have HSZ := hid (show B ≤ wr.heap.size by have := hw.size; have := HB.out; omega)
    clear hb hw hl hlen
    by_cases hlt : (128 : Int) ≤ (m : Int)
    · have hp1 : L'.length + 1 ≤ 2000000 := by have := HLN.out; have := HN.out; omega
      obtain ⟨v', w', hr, hq, hbw⟩ := HR.out.push (m % 128 + 128) hp1 HSZ.out
      have HRUN := hid hr
      clear hr hp1
      have hor := or_128 m
      generalize hc : m % 128 + 128 = c at *
      have HC := hid hc
      clear hc
      go_wp2_with (at_builtin; refine wpList_append_run _ _ 29 29 rfl rfl _ _ _ rfl rfl HRUN.out ?_)
      refine ⟨⟨m / 128, L' ++ [c], by omega, by simp, ?_, hq, below_tr HW.out hbw⟩, by simp [intOf]; omega⟩
      rw [← HE.out, nb_ge (n := m) (by omega), HC.out, List.append_assoc]; rfl
    · have hp1 : L'.length + 1 ≤ 2000000 := by have := HLN.out; have := HN.out; omega
      obtain ⟨v', w', hr, hq, hbw⟩ := HR.out.push m hp1 HSZ.out
      have HRUN := hid hr
      clear hr hp1
      go_wp2_with (at_builtin; refine wpList_append_run _ _ 29 29 rfl rfl _ _ _ rfl rfl HRUN.out ?_)
      go_ret
      have e : nb m = [m] := nb_lt (by omega)
      refine ⟨_, rfl, ?_, below_tr HW.out hbw⟩
      rw [← HE.out, e]; exact hq
/-- Bytes that are told: in new memory, without spare room. -/
def OutB (B : Nat) (w : World) (v : Value) (bs : List Nat) : Prop := (v = .slice none 0 0 ∧ bs = []) ∨ ∃ g, v = .slice (some ⟨g, 0, none⟩) bs.length bs.length ∧ B ≤ g ∧ g < w.heap.size ∧ (∀ i, i < bs.length → w.cell? ⟨g, i, none⟩ = some (u8 (bs.getD i 0))) ∧ ∀ i, w.frozen? ⟨g, i, none⟩ = false
theorem OutB.form {B : Nat} {w : World} {v : Value} {bs : List Nat} (h : OutB B w v bs) : ∃ po, v = .slice po bs.length bs.length ∧ BL w po bs ∧ (po = none → bs.length = 0) := by
  rcases h with ⟨rfl, rfl⟩ | ⟨g, rfl, _, _, h, _⟩
  · exact ⟨none, rfl, Or.inl rfl, fun _ => rfl⟩
  · exact ⟨_, rfl, Or.inr ⟨g, 0, rfl, fun i hi => by rw [Nat.zero_add]; exact h i hi⟩, fun e => by cases e⟩
theorem OutB.below {B : Nat} {w w' : World} {v : Value} {bs : List Nat} (h : OutB B w v bs) (hb : Below w.heap.size w w') : OutB B w' v bs := by
  rcases h with h | ⟨g, h1, h2, h3, h4, h5⟩
  · exact Or.inl h
  · have e := hb.block g h3
    exact Or.inr ⟨g, h1, h2, by have := hb.size; omega, fun i hi => (World.cell?_of_block e).trans (h4 i hi), fun i => by have := h5 i; unfold World.frozen? at this ⊢; rw [e]; exact this⟩
theorem OutB.base {B C : Nat} {w : World} {v : Value} {bs : List Nat} (h : OutB B w v bs) (hC : C ≤ B) : OutB C w v bs := by
  rcases h with h | ⟨g, h1, h2, h3⟩
  · exact Or.inl h
  · exact Or.inr ⟨g, h1, by omega, h3⟩
theorem elem8 (w : World) : (sizeOf (Tryd.prog.elem 29)).run Tryd.prog w = .ok 1 w := by
  have hi : (Tryd.prog.info? (Tryd.prog.elem 29)).map (·.size) = some 1 := by kernel_rfl
  obtain ⟨i, h1, h2⟩ := Option.map_eq_some_iff.1 hi
  simp [sizeOf, typeInfo, h1, h2]
theorem underE8 : Tryd.prog.underlying 29 = some (.slice (Tryd.prog.elem 29)) := by kernel_rfl
theorem run_clip8 (po : Option Addr) (n c : Nat) (h : n ≤ c) (w : World) : (Instr.slice 29 (.slice po n c) none (some (.int .i64 (n : Int))) (some (.int .i64 (n : Int)))).run Tryd.prog w = .ok (.slice po n n) w := by
  rw [run_slice_hm (P := Tryd.prog) w 29 po n c underE8 .i64 .i64 (n : Int) (n : Int) (by omega) (by omega) (by omega), elem8]
  cases po with
  | none => simp [Result.andThen, sliced]
  | some a =>
    by_cases h0 : n = 0
    · simp [Result.andThen, sliced, h0]
    · simp [Result.andThen, sliced, h0, add_zero']
theorem Buf.cap {B : Nat} {w : World} {po : Option Addr} {n c : Nat} {L : List Nat} (h : Buf B w (.slice po n c) L) : n = L.length ∧ n ≤ c := by
  rcases h.2 with ⟨e, h0⟩ | ⟨g, cap, cur, e, _, hg, h1, _, h3, h4⟩
  · cases e; exact ⟨h0.symm, Nat.le_refl _⟩
  · cases e; exact ⟨rfl, h1⟩
theorem Buf.out {B : Nat} {w : World} {po : Option Addr} {n c : Nat} {L : List Nat} (h : Buf B w (.slice po n c) L) : OutB B w (.slice po n n) L := by
  have hbl := h.bl
  have hlt := own_ge h
  rcases h.2 with ⟨e, h0⟩ | ⟨g, cap, cur, e, hB, hg, h1, _, h3, h4⟩
  · cases e; exact Or.inl ⟨rfl, List.eq_nil_of_length_eq_zero h0⟩
  · cases e
    have hc : CAt w g cur 5 := hg
    refine Or.inr ⟨g, rfl, hB, hc.lt, fun i hi => ?_, fun i => hc.free i⟩
    rcases hbl with h | ⟨b, o, e, h⟩
    · subst h; simp at hi
    · cases e; have := h i hi; rwa [Nat.zero_add] at this
theorem clip_any (B : Nat) (v : Value) (L : List Nat) (w : World) (h : Buf B w v L) : Calls Tryd.prog 37 #[v] w fun e w' => (∃ v', e = .returned v' ∧ OutB B w v' L) ∧ w' = w := by
  obtain ⟨po, c, rfl⟩ := h.form
  have hcap := h.cap.2
  have hs := run_clip8 po L.length c hcap
  have H := hid h.out
  clear h
  go_enter Tryd.func37, Tryd.ntmps37
  go_wp2
  go_ret
  exact ⟨⟨_, rfl, H.out⟩, rfl⟩
def OutS (w : World) (bs : List Nat) (e : Ending) (w' : World) : Prop := ∃ v, e = .returned v ∧ OutB w.heap.size w' v bs ∧ Below w.heap.size w w'
def OutE (w : World) (bs : List Nat) (er : Nat) (e : Ending) (w' : World) : Prop := ∃ v, e = .returned (.tuple #[v, i64 er]) ∧ OutB w.heap.size w' v bs ∧ Below w.heap.size w w'
theorem between_any (n a b : Int) (w : World) : Calls Tryd.prog 36 #[i64 n, i64 a, i64 b] w fun e w' => e = .returned (.bool (inR n a b)) ∧ w' = w := by
  by_cases h1 : a ≤ n
  · by_cases h2 : n ≤ b
    · have e : inR n a b = true := inR_iff.2 ⟨h1, h2⟩
      rw [e]
      go_enter Tryd.func36, Tryd.ntmps36
      go_wp2
      go_ret
      simp
    · have e : inR n a b = false := by simp [inR, h2]
      rw [e]
      go_enter Tryd.func36, Tryd.ntmps36
      go_wp2
      go_ret
      simp
  · have e : inR n a b = false := by simp [inR, h1]
    rw [e]
    go_enter Tryd.func36, Tryd.ntmps36
    go_wp2
    go_ret
    simp
theorem uint_ok (n : Nat) (w : World) (hn : n ≤ 1099511627776) : Calls Tryd.prog 21 #[i64 n] w (OutE w (nb n) 0) := by
  go_enter Tryd.func21, Tryd.ntmps21
  go_wp2_with (first
    | (go_at_call 36; refine (between_any _ _ _ _).mono ?_; rintro e w0 ⟨rfl, hw0⟩; rw [show inR (n : Int) 0 1099511627776 = true from inR_iff.2 ⟨by omega, by omega⟩]; have hw2 := hw0.symm; subst hw2)
    | (go_at_call 38; refine (appNum w.heap.size [] _ n w hn (Buf.nil _ _) (by simp) (Nat.le_refl _)).mono ?_; rintro e w1 ⟨v1, rfl, hb1, hw1⟩)
    | (go_at_call 37; refine (clip_any w.heap.size _ (nb n) _ (by simpa using hb1)).mono ?_; rintro e w2 ⟨⟨v2, rfl, ho⟩, rfl⟩))
  go_ret2
  exact ⟨v2, rfl, ho, hw1⟩
theorem fresh_any (po : Option Addr) (c : Nat) (bs : List Nat) (w : World) (h : BL w po bs) (hc : po = none → c = 0) (hn : bs.length ≤ 1000000) : Calls Tryd.prog 83 #[.slice po bs.length c] w (OutS w bs) := by
  obtain ⟨v1, w1, hr, hb1, hg⟩ := (Buf.nil w.heap.size w).app po c bs h hc (by simpa using by omega) (Nat.le_refl _)
  have HRUN := hid hr
  have hw1 : Below w.heap.size w w1 := below_grown (Below.refl _ _) hg (Nat.le_refl _) (by intro b hb; cases hb)
  clear hr
  go_enter Tryd.func83, Tryd.ntmps83
  go_wp2_with (first
    | (at_builtin; refine wpList_append_run _ _ 29 29 rfl rfl _ _ _ rfl rfl HRUN.out ?_)
    | (go_at_call 37; refine (clip_any w.heap.size _ bs _ (by simpa using hb1)).mono ?_; rintro e w2 ⟨⟨v2, rfl, ho⟩, rfl⟩))
  go_ret
  exact ⟨v2, rfl, ho, hw1⟩
end Go.Proofs.YtelkijiphhoacaaDoor

/- Contracts of the reader of package record: need, take, one. -/
namespace Go.Proofs.YtelkijiphhoacaaDoor
open Go Go.RowKit

/-- A reader lies at block p: it has the bytes s still, or (none) a fault. -/
def Rd (w : World) (p : Nat) (s : Option (List Nat)) : Prop := ∃ po L, CAt w p #[.slice po L.length L.length, i64 (if s.isSome then 0 else 4)] 147 ∧ BL w po L ∧ (L ≠ [] → ∀ a, po = some a → a.block < p) ∧ (po = none → L = []) ∧ (s = none ∨ s = some L) ∧ L.length ≤ 100000 ∧ ∀ x ∈ L, x < 256
theorem Rd.lt {w : World} {p : Nat} {s : Option (List Nat)} (h : Rd w p s) : p < w.heap.size := by obtain ⟨_, _, h, _⟩ := h; exact h.lt
theorem Rd.only {w w' : World} {p : Nat} {s : Option (List Nat)} {S : Nat → Prop} (h : Rd w p s) (ho : Only S w w') (hS : ∀ i, S i → p < i) : Rd w' p s := by
  obtain ⟨po, L, h1, h2, h3, h4⟩ := h
  have hp := h1.lt
  exact ⟨po, L, h1.keep (ho.block p hp fun e => by have := hS _ e; omega), h2.onlyAt ho (fun hne a ha e => by have := hS _ e; have := h3 hne a ha; omega), h3, h4⟩
theorem Rd.below {w w' : World} {p : Nat} {s : Option (List Nat)} (h : Rd w p s) (hb : Below w.heap.size w w') : Rd w' p s := h.only (S := fun _ => False) (Only.of_below hb) (fun _ h => h.elim)
def ReS (w : World) (p : Nat) (s : Option (List Nat)) (v : Value) (e : Ending) (w' : World) : Prop := e = .returned v ∧ Rd w' p s ∧ Only (fun b => b = p) w w'
theorem need_any (w : World) (p : Nat) (s : Option (List Nat)) (b : Bool) (h : Rd w p s) : Calls Tryd.prog 86 #[ptr p, .bool b] w (ReS w p (if b then s else none) (.tuple #[])) := by
  have H := hid h
  obtain ⟨po, L, h1, h2, h3, h4, h5, h6⟩ := h
  have HC := hid h1
  have c1 := h1.cell 1
  have z1 := h1.free 1
  simp at c1
  cases b with
  | true =>
    clear h1 h2 h3 h4 h5 h6
    go_enter Tryd.func86, Tryd.ntmps86
    go_wp2
    go_end0
    exact ⟨rfl, H.out, Only.refl _ _⟩
  | false =>
    cases s with
    | none =>
      simp at c1
      clear h1 h2 h3 h4 h5 h6
      go_enter Tryd.func86, Tryd.ntmps86
      go_wp2
      go_end0
      exact ⟨rfl, H.out, Only.refl _ _⟩
    | some K =>
      simp at c1
      have HX : Hid (Rd (w.setCell ⟨p, 1, none⟩ (i64 4)) p none) := by
        refine ⟨po, L, ?_, h2.onlyAt (Only.set (S := fun b => b = p) w ⟨p, 1, none⟩ _ rfl) (fun hne a ha e => by have := h3 hne a ha; omega), h3, h4, Or.inl rfl, h6⟩
        have := h1.set 1 (i64 4)
        simpa using this
      clear h1 h2 h3 h4 h5 h6
      go_enter Tryd.func86, Tryd.ntmps86
      go_wp2
      go_end0
      exact ⟨rfl, HX.out, Only.set _ _ _ rfl⟩
theorem need_true (w : World) (p : Nat) : Calls Tryd.prog 86 #[ptr p, .bool true] w fun e w' => e = .returned (.tuple #[]) ∧ w' = w := by
  go_enter Tryd.func86, Tryd.ntmps86
  go_wp2
  go_end0
  exact ⟨rfl, rfl⟩
theorem need_gone (w : World) (p : Nat) (b : Bool) (h : Rd w p none) : Calls Tryd.prog 86 #[ptr p, .bool b] w fun e w' => e = .returned (.tuple #[]) ∧ w' = w := by
  obtain ⟨po, L, h1, _⟩ := h
  have c1 := h1.cell 1
  simp at c1
  clear h1
  cases b <;>
  · go_enter Tryd.func86, Tryd.ntmps86
    go_wp2
    go_end0
    exact ⟨rfl, rfl⟩
theorem run_from8 (po : Option Addr) (n c l : Nat) (hl : l ≤ n) (hc : n ≤ c) : ∃ p2 : Option Addr, (∀ w : World, (Instr.slice 29 (.slice po n c) (some (.int .i64 (l : Int))) none none).run Tryd.prog w = .ok (.slice p2 (n - l) (c - l)) w) ∧
    (∀ b o, po = some ⟨b, o, none⟩ → l < n → p2 = some ⟨b, o + l, none⟩) ∧ (p2 = none → po = none) ∧ (∀ a, p2 = some a → ∃ a', po = some a' ∧ a.block = a'.block) := by
  have hr : ∀ w, (Instr.slice 29 (.slice po n c) (some (.int .i64 (l : Int))) none none).run Tryd.prog w = .ok (sliced po l n c 1) w := fun w => by
    rw [run_slice_l (P := Tryd.prog) w 29 po n c underE8 .i64 (l : Int) (by omega) (by omega), elem8]
    simp [Result.andThen]
  cases po with
  | none => exact ⟨none, fun w => by rw [hr]; simp [sliced], (fun b o e => by cases e), fun _ => rfl, fun a e => by cases e⟩
  | some a =>
    by_cases e : c = l
    · exact ⟨some a, fun w => by rw [hr]; simp [sliced, e], (fun b o _ q => by omega), (fun e => by cases e), fun a2 e2 => ⟨a, rfl, by cases e2; rfl⟩⟩
    · refine ⟨some (a.add l), fun w => by rw [hr]; simp [sliced, e], (fun b o q _ => by cases q; rw [add_none]), (fun e => by cases e), fun a2 e2 => ⟨a, rfl, by cases e2; unfold Addr.add; split <;> rfl⟩⟩
theorem run_head8 (po : Option Addr) (n c h : Nat) (hh : h ≤ c) (w : World) : (Instr.slice 29 (.slice po n c) none (some (.int .i64 (h : Int))) (some (.int .i64 (h : Int)))).run Tryd.prog w = .ok (.slice po h h) w := by
  rw [run_slice_hm (P := Tryd.prog) w 29 po n c underE8 .i64 .i64 (h : Int) (h : Int) (by omega) (by omega) (by omega), elem8]
  cases po with
  | none => simp [Result.andThen, sliced]
  | some a =>
    by_cases h0 : h = 0
    · simp [Result.andThen, sliced, h0]
    · simp [Result.andThen, sliced, h0, add_zero']
def TakS (w : World) (p n : Nat) (L : List Nat) (e : Ending) (w' : World) : Prop := ∃ po, e = .returned (.slice po n n) ∧ BL w' po (L.take n) ∧ Rd w' p (some (L.drop n)) ∧ Only (fun b => b = p) w w' ∧ (po = none → n = 0)
set_option maxRecDepth 100000 in
theorem take_ok (w : World) (p n : Nat) (L : List Nat) (h : Rd w p (some L)) (hn : n ≤ L.length) : Calls Tryd.prog 88 #[ptr p, i64 n] w (TakS w p n L) := by
  have H := hid h
  obtain ⟨po, L', h1, h2, h3, h4, h5, h6, h7⟩ := h
  have e : L' = L := by rcases h5 with h | h <;> cases h; rfl
  subst e
  have c0 := h1.cell 0
  have c1 := h1.cell 1
  have z0 := h1.free 0
  simp at c0 c1
  obtain ⟨p2, hfrom, hp2, hp3, hp4⟩ := run_from8 po L'.length L'.length n hn (Nat.le_refl _)
  have hhead := run_head8 po L'.length L'.length n hn
  have HX : Hid (Rd (w.setCell ⟨p, 0, none⟩ (.slice p2 (L'.length - n) (L'.length - n))) p (some (L'.drop n))) := by
    refine ⟨p2, L'.drop n, ?_, ?_, fun hne a ha => ?_, fun hn2 => ?_, Or.inr rfl, by rw [List.length_drop]; omega, fun x hx => h7 x (List.mem_of_mem_drop hx)⟩
    · have := h1.set 0 (.slice p2 (L'.length - n) (L'.length - n))
      rw [List.length_drop]; simpa using this
    · rcases Nat.lt_or_ge n L'.length with hlt | hge
      · have h2' := h2.onlyAt (Only.set (S := fun b => b = p) w ⟨p, 0, none⟩ (.slice p2 (L'.length - n) (L'.length - n)) rfl) (fun hne a ha e => by have := h3 hne a ha; omega)
        rcases h2' with h | ⟨b, o, hpo, hc⟩
        · subst h; simp at hlt
        · have hq := hp2 b o hpo hlt
          have hd := BL.drop (Or.inr ⟨b, o, rfl, hc⟩) n
          rw [← hq] at hd
          exact hd
      · exact Or.inl (List.drop_eq_nil_of_le hge)
    · obtain ⟨a', ha', he⟩ := hp4 a ha
      rw [he]; exact h3 (fun e => hne (by rw [e]; simp)) a' ha'
    · rw [h4 (hp3 hn2)]; simp
  have HT := hid ((h2.onlyAt (Only.set (S := fun b => b = p) w ⟨p, 0, none⟩ (.slice p2 (L'.length - n) (L'.length - n)) rfl) (fun hne a ha e => by have := h3 hne a ha; omega)).take n)
  have HPN : Hid (po = none → n = 0) := fun e => by have := h4 e; subst this; simpa using hn
  clear h1 h2 h3 h4 h5 h6 h7 hp2 hp3 hp4
  have hle : (n : Int) ≤ (L'.length : Int) := by omega
  go_enter Tryd.func88, Tryd.ntmps88
  go_wp2_with (go_at_call 86; refine (need_true w p).mono ?_; rintro e w' ⟨rfl, hw'⟩; have hw2 := hw'.symm; subst hw2)
  go_ret
  exact ⟨po, rfl, HT.out, HX.out, Only.set _ _ _ rfl, HPN.out⟩
set_option maxRecDepth 100000 in
theorem take_bad (w : World) (p : Nat) (n : Int) (s : Option (List Nat)) (h : Rd w p s) (hn : ∀ L, s = some L → (L.length : Int) < n) : Calls Tryd.prog 88 #[ptr p, i64 n] w (ReS w p none (.slice none 0 0)) := by
  have H := hid h
  obtain ⟨po, L, h1, h2, h3, h4, h5, h6, h7⟩ := h
  have c0 := h1.cell 0
  simp at c0
  clear h1 h2 h3 h4 h6 h7
  cases s with
  | none =>
    clear h5
    by_cases hle : n ≤ (L.length : Int)
    · go_enter Tryd.func88, Tryd.ntmps88
      go_wp2_with (go_at_call 86; refine (need_gone w p _ H.out).mono ?_; rintro e w' ⟨rfl, hw'⟩; have hw2 := hw'.symm; subst hw2; obtain ⟨po2, L2, k1, _⟩ := H.out; have c1 := k1.cell 1; simp at c1; clear k1)
      go_ret
      exact ⟨rfl, H.out, Only.refl _ _⟩
    · go_enter Tryd.func88, Tryd.ntmps88
      go_wp2_with (go_at_call 86; refine (need_gone w p _ H.out).mono ?_; rintro e w' ⟨rfl, hw'⟩; have hw2 := hw'.symm; subst hw2; obtain ⟨po2, L2, k1, _⟩ := H.out; have c1 := k1.cell 1; simp at c1; clear k1)
      go_ret
      exact ⟨rfl, H.out, Only.refl _ _⟩
  | some K =>
    have e : K = L := by rcases h5 with h | h <;> cases h; rfl
    subst e
    have hgt := hn K rfl
    clear hn h5
    have hle : ¬ n ≤ (K.length : Int) := by omega
    go_enter Tryd.func88, Tryd.ntmps88
    go_wp2_with (go_at_call 86; refine (need_any w p (some K) false H.out).mono ?_; rintro e w' ⟨rfl, hr, ho⟩; have HR := hid hr; have HO := hid ho; obtain ⟨po2, L2, k1, _⟩ := hr; have c1 := k1.cell 1; simp at c1; clear k1 ho)
    go_ret
    exact ⟨rfl, by simpa using HR.out, HO.out⟩
def oneV : Option (List Nat) → Nat | some (c :: _) => c | _ => 0
def oneR : Option (List Nat) → Option (List Nat) | some (_ :: r) => some r | _ => none
theorem one_any (w : World) (p : Nat) (s : Option (List Nat)) (h : Rd w p s) : Calls Tryd.prog 85 #[ptr p] w (ReS w p (oneR s) (u8 (oneV s))) := by
  by_cases hs : ∃ c r, s = some (c :: r)
  · obtain ⟨c, r, rfl⟩ := hs
    have ht := take_ok w p 1 (c :: r) h (by simp)
    clear h
    go_enter Tryd.func85, Tryd.ntmps85
    go_wp2_with (go_at_call 88; refine ht.mono ?_; rintro e w1 ⟨po, rfl, hb, hr, ho, hn⟩; have HR := hid hr; have HO := hid ho; obtain ⟨po2, L2, k1, _⟩ := hr; have c1 := k1.cell 1; simp at c1; clear k1 ho; have hb' : ∃ b o, po = some ⟨b, o, none⟩ ∧ w1.cell? ⟨b, o, none⟩ = some (u8 c) := (by
      rcases hb with h | ⟨b, o, h1, h2⟩
      · simp at h
      · exact ⟨b, o, h1, by have := h2 0 (by simp); simpa using this⟩); obtain ⟨b, o, rfl, hcell⟩ := hb'; clear hb hn)
    go_ret
    exact ⟨rfl, by simpa [oneR] using HR.out, HO.out⟩
  · have e1 : oneV s = 0 := by match s, hs with | none, _ => rfl | some [], _ => rfl | some (c :: r), hs => exact absurd ⟨c, r, rfl⟩ hs
    have e2 : oneR s = none := by match s, hs with | none, _ => rfl | some [], _ => rfl | some (c :: r), hs => exact absurd ⟨c, r, rfl⟩ hs
    have ht := take_bad w p 1 s h (fun L hL => by
      match L, hL with
      | [], _ => simp
      | c :: r, hL => exact absurd ⟨c, r, hL⟩ hs)
    rw [e1, e2]
    clear h
    go_enter Tryd.func85, Tryd.ntmps85
    go_wp2_with (go_at_call 88; refine ht.mono ?_; rintro e w1 ⟨rfl, hr, ho⟩; have HR := hid hr; have HO := hid ho; obtain ⟨po2, L2, k1, _⟩ := hr; have c1 := k1.cell 1; simp at c1; clear k1 ho)
    go_ret
    exact ⟨rfl, HR.out, HO.out⟩
end Go.Proofs.YtelkijiphhoacaaDoor
