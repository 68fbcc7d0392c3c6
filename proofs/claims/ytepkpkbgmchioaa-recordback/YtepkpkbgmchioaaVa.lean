/- What memory holds: blocks, what stays, bytes in slices, texts; rows of bytes of one's own and what is appended to them. -/
import Derived.Test.YtepkpkbgmchioaaRows
import Derived.Test.YtepkpkbgmchioaaTb
import Derived.WalkKit
import Derived.WalkSpells
import Derived.WalkLawsBesides
import Derived.OwnWalk
import Derived.Laws.Rows
import Derived.Laws.CopyOwn
import Derived.Laws.NewBlocks
import Derived.Laws.ResultCell
import Derived.Laws.BytesArg
import Derived.Laws.BytesString
import Derived.Laws.OwnMore
import Derived.Laws.AppendOwnNone
import Derived.Maps.AppendAt
import Derived.Lib.AppendStr
import Derived.Lib.SliceRun
import Derived.Laws.BitsAllLaws
import Derived.Deep.RegionHeld3
import Derived.Deep.QuietTactic
import Derived.Maps.OwnSet
namespace Go.Proofs.Ytepkpkbgmchioaa
open Go Go.RowKit

theorem hid {p : Prop} (h : p) : Hid p := h
def u8 (k : Nat) : Value := .int .u8 (k : Int)
abbrev ptr (p : Nat) : Value := .pointer (some ⟨p, 0, none⟩)
abbrev i64 (k : Int) : Value := .int .i64 k
theorem under9 : Try.prog.underlying 9 = some .string := by kernel_rfl
theorem Try.info5 : (Try.prog.info? 5).map (fun i => (i.zero, i.size, i.bytes)) = some (some (.int .u8 0), 1, 1) := by kernel_rfl
theorem add_zero' (a : Addr) : a.add 0 = a := by simp [Addr.add]
theorem add_none (b o n : Nat) : (⟨b, o, none⟩ : Addr).add n = ⟨b, o + n, none⟩ := by unfold Addr.add; split <;> simp_all

/-- Block b has these cells, none of them frozen. -/
def CAt (w : World) (b : Nat) (cs : Array Value) (t : TypeId) : Prop := w.heap[b]? = some (.cells cs t (0, 0))
theorem CAt.lt {w : World} {b : Nat} {cs : Array Value} {t : TypeId} (h : CAt w b cs t) : b < w.heap.size := (Array.getElem?_eq_some_iff.1 h).1
theorem CAt.cell {w : World} {b : Nat} {cs : Array Value} {t : TypeId} (h : CAt w b cs t) (i : Nat) : w.cell? ⟨b, i, none⟩ = cs[i]? := by
  simp [World.cell?, show w.heap[b]? = _ from h]
theorem CAt.free {w : World} {b : Nat} {cs : Array Value} {t : TypeId} (h : CAt w b cs t) (i : Nat) : w.frozen? ⟨b, i, none⟩ = false := by
  simp [World.frozen?, show w.heap[b]? = _ from h]
theorem CAt.set {w : World} {b : Nat} {cs : Array Value} {t : TypeId} (h : CAt w b cs t) (i : Nat) (v : Value) : CAt (w.setCell ⟨b, i, none⟩ v) b (cs.setIfInBounds i v) t := by
  unfold CAt at *
  simp [World.setCell, Array.getElem?_modify, h]
theorem CAt.keep {w w' : World} {b : Nat} {cs : Array Value} {t : TypeId} (h : CAt w b cs t) (e : w'.heap[b]? = w.heap[b]?) : CAt w' b cs t := e.trans h
theorem CAt.made (w : World) (cs : Array Value) (t : TypeId) : CAt (w.alloc (.cells cs t)) w.heap.size cs t := (MapKept.heap_alloc w _).1
theorem CAt.below {w w' : World} {b : Nat} {cs : Array Value} {t : TypeId} (h : CAt w b cs t) (hb : Below w.heap.size w w') : CAt w' b cs t := h.keep (hb.block b h.lt)
theorem heap_setCell_ne (w : World) (a : Addr) (v : Value) (b : Nat) (h : b ≠ a.block) : (w.setCell a v).heap[b]? = w.heap[b]? := RowKit.Below.heap_setCell _ _ _ _ h
theorem setCell_size (w : World) (a : Addr) (v : Value) : (w.setCell a v).heap.size = w.heap.size := by
  unfold World.setCell; split <;> simp
theorem size_al (w : World) (o : Obj) : (w.alloc o).heap.size = w.heap.size + 1 := by simp
theorem at_new (w : World) (o : Obj) : (w.alloc o).heap[w.heap.size]? = some o := (MapKept.heap_alloc w o).1
theorem heap_alloc_old (w : World) (o : Obj) {b : Nat} (h : b < w.heap.size) : (w.alloc o).heap[b]? = w.heap[b]? := (MapKept.heap_alloc w o).2 b h
theorem below_al (w : World) (o : Obj) : Below w.heap.size w (w.alloc o) := (Below.refl _ _).alloc (Nat.le_refl _) _
theorem below_on {w0 : World} {w w' : World} (h : Below w0.heap.size w0 w) (hb : Below w.heap.size w w') : Below w0.heap.size w0 w' :=
  ⟨hb.os.trans h.os, hb.tape.trans h.tape, hb.output.trans h.output, Nat.le_trans h.size hb.size, fun k hk => (hb.block k (Nat.lt_of_lt_of_le hk h.size)).trans (h.block k hk)⟩
theorem cell_lt' {w : World} {a : Addr} (h : w.cell? a ≠ none) : a.block < w.heap.size := by
  rcases Nat.lt_or_ge a.block w.heap.size with h1 | h1
  · exact h1
  · exact absurd (by simp [World.cell?, Array.getElem?_eq_none h1]) h

/-- Of what was there nothing has turned but blocks of S. -/
structure Only (S : Nat → Prop) (w w' : World) : Prop where
  os : w'.os = w.os
  tape : w'.tape = w.tape
  output : w'.output = w.output
  size : w.heap.size ≤ w'.heap.size
  block : ∀ k, k < w.heap.size → ¬ S k → w'.heap[k]? = w.heap[k]?
theorem Only.refl (S : Nat → Prop) (w : World) : Only S w w := ⟨rfl, rfl, rfl, Nat.le_refl _, fun _ _ _ => rfl⟩
theorem Only.trans {S : Nat → Prop} {a b c : World} (h : Only S a b) (k : Only S b c) : Only S a c :=
  ⟨k.os.trans h.os, k.tape.trans h.tape, k.output.trans h.output, Nat.le_trans h.size k.size, fun i hi hs => (k.block i (Nat.lt_of_lt_of_le hi h.size) hs).trans (h.block i hi hs)⟩
theorem Only.then {S T : Nat → Prop} {a b c : World} (h : Only S a b) (k : Only T b c) (hT : ∀ i, i < a.heap.size → T i → S i) : Only S a c :=
  ⟨k.os.trans h.os, k.tape.trans h.tape, k.output.trans h.output, Nat.le_trans h.size k.size, fun i hi hs => (k.block i (Nat.lt_of_lt_of_le hi h.size) (fun ht => hs (hT i hi ht))).trans (h.block i hi hs)⟩
theorem Only.mono {S T : Nat → Prop} {a b : World} (h : Only S a b) (hS : ∀ i, S i → T i) : Only T a b := ⟨h.os, h.tape, h.output, h.size, fun i hi hs => h.block i hi fun k => hs (hS i k)⟩
theorem Only.of_below {S : Nat → Prop} {a b : World} (h : Below a.heap.size a b) : Only S a b := ⟨h.os, h.tape, h.output, h.size, fun i hi _ => h.block i hi⟩
theorem Only.below {S : Nat → Prop} {a b : World} {B : Nat} (h : Only S a b) (hB : B ≤ a.heap.size) (hS : ∀ i, S i → B ≤ i) : Below B a b :=
  ⟨h.os, h.tape, h.output, h.size, fun i hi => h.block i (by omega) fun k => by have := hS i k; omega⟩
theorem Only.of_grown {S : Nat → Prop} {a b : World} {r : Option Nat} (h : a.grownBy b r) (hr : ∀ k, r = some k → k < a.heap.size → S k) : Only S a b :=
  ⟨h.os, h.tape, h.output, h.size, fun i hi hs => h.block i hi fun e => hs (hr i e.symm hi)⟩
theorem Only.set {S : Nat → Prop} (w : World) (a : Addr) (v : Value) (h : S a.block) : Only S w (w.setCell a v) := by
  exact ⟨rfl, rfl, rfl, Nat.le_of_eq (setCell_size w a v).symm, fun k _ hk => heap_setCell_ne _ _ _ _ fun e => hk (e ▸ h)⟩
theorem Only.alloc {S : Nat → Prop} (w : World) (o : Obj) : Only S w (w.alloc o) := Only.of_grown (World.grownBy_alloc w o none) (by simp)
theorem below_grown {B : Nat} {w w1 w2 : World} {r : Option Nat} (h : Below B w w1) (hg : w1.grownBy w2 r) (hB : B ≤ w.heap.size) (hr : ∀ b, r = some b → B ≤ b) : Below B w w2 :=
  ⟨hg.os.trans h.os, hg.tape.trans h.tape, hg.output.trans h.output, Nat.le_trans h.size hg.size, fun k hk => (hg.block k (by have := h.size; omega) fun e => by have := hr k e.symm; omega).trans (h.block k hk)⟩
theorem below_tr {B : Nat} {w w1 w2 : World} (h : Below B w w1) (k : Below B w1 w2) : Below B w w2 :=
  ⟨k.os.trans h.os, k.tape.trans h.tape, k.output.trans h.output, Nat.le_trans h.size k.size, fun i hi => (k.block i hi).trans (h.block i hi)⟩
theorem below_less {B C : Nat} {w w1 : World} (h : Below B w w1) (hC : C ≤ B) : Below C w w1 := ⟨h.os, h.tape, h.output, h.size, fun i hi => h.block i (by omega)⟩
theorem ownsRow_keep {w w' : World} {B e n s : Nat} {v : Value} {xs : List Value} (h : w.ownsRow B e s v n xs) (hk : ∀ b, v.ownBlock = some b → w'.heap[b]? = w.heap[b]?) : w'.ownsRow B e s v n xs := by
  obtain ⟨h1, h2⟩ := h
  refine ⟨h1, ?_⟩
  rcases h2 with h2 | ⟨g, cap, cur, rfl, hB, hb, r⟩
  · exact Or.inl h2
  · exact Or.inr ⟨g, cap, cur, rfl, hB, (hk g rfl).trans hb, r⟩
theorem own_form {w : World} {B e sz n : Nat} {v : Value} {xs : List Value} (h : w.ownsRow B e sz v n xs) : ∃ po cc, v = .slice po n cc := by
  rcases h.2 with ⟨rfl, rfl⟩ | ⟨g, cap, cur, rfl, _⟩
  · exact ⟨_, _, rfl⟩
  · exact ⟨_, _, rfl⟩
theorem own_ge {w : World} {B e sz n : Nat} {v : Value} {xs : List Value} (h : w.ownsRow B e sz v n xs) : ∀ b, v.ownBlock = some b → B ≤ b ∧ b < w.heap.size := fun b hb => World.ownsRow.lt h b hb
theorem own_base {w : World} {B B2 e sz n : Nat} {v : Value} {xs : List Value} (h : w.ownsRow B e sz v n xs) (hB : B2 ≤ B) : w.ownsRow B2 e sz v n xs := by
  refine ⟨h.1, ?_⟩
  rcases h.2 with h2 | ⟨g, cap, cur, rfl, hb, r⟩
  · exact Or.inl h2
  · exact Or.inr ⟨g, cap, cur, rfl, Nat.le_trans hB hb, r⟩

/-- A text's bytes. -/
def lst (s : ByteArray) : List Nat := s.data.toList.map UInt8.toNat
theorem lst_len (s : ByteArray) : (lst s).length = s.size := by unfold lst; rw [List.length_map, Array.length_toList]; rfl
theorem lst_lt (s : ByteArray) : ∀ x ∈ lst s, x < 256 := fun x hx => by
  obtain ⟨c, _, rfl⟩ := List.mem_map.1 hx; exact c.toNat_lt
theorem lst_inj {s t : ByteArray} (h : lst s = lst t) : s = t := by
  have : s.data.toList = t.data.toList := by
    unfold lst at h
    exact (List.map_inj_right (f := UInt8.toNat) (fun x y e => UInt8.toNat_inj.1 e)).1 h
  cases s; cases t; simp at this; rw [this]
def ba (l : List Nat) : ByteArray := strOfNums (l.map fun (k : Nat) => (k : Int))
theorem lst_ba {l : List Nat} (h : ∀ x ∈ l, x < 256) : lst (ba l) = l := by
  unfold lst ba
  rw [strOfNums_data, List.map_map, List.map_map]
  refine (List.map_congr_left fun x hx => ?_).trans (List.map_id l)
  have := h x hx
  simp only [Function.comp_apply, Int.toNat_natCast, id_eq]
  rw [UInt8.toNat_ofNat']; omega
theorem ba_lst (s : ByteArray) : ba (lst s) = s := lst_inj (lst_ba (lst_lt s))
theorem strCells_lst (s : ByteArray) : Lib.strCells s = (lst s).map u8 := by simp [Lib.strCells, lst, u8, Function.comp_def]
theorem lst_nil : lst ⟨#[]⟩ = [] := rfl
theorem lst_beq (s t : ByteArray) : (s.toList == t.toList) = decide (lst s = lst t) := by
  rw [ByteArray.toList_eq, ByteArray.toList_eq]
  by_cases h : lst s = lst t
  · have := lst_inj h; subst this; simp
  · have : s.data.toList ≠ t.data.toList := fun e => h (by unfold lst; rw [e])
    rw [decide_eq_false h]
    exact Bool.eq_false_iff.2 fun e => this (eq_of_beq e)

/-- The slice leads to the bytes bs. -/
def BL (w : World) (po : Option Addr) (bs : List Nat) : Prop := bs = [] ∨ ∃ b o, po = some ⟨b, o, none⟩ ∧ ∀ i, i < bs.length → w.cell? ⟨b, o + i, none⟩ = some (u8 (bs.getD i 0))
theorem BL.keep {w w' : World} {po : Option Addr} {bs : List Nat} (h : BL w po bs) (hk : ∀ a, w.cell? a ≠ none → w'.cell? a = w.cell? a) : BL w' po bs := by
  rcases h with h | ⟨b, o, rfl, h⟩
  · exact Or.inl h
  · exact Or.inr ⟨b, o, rfl, fun i hi => (hk _ (by rw [h i hi]; simp)).trans (h i hi)⟩
theorem BL.below {w w' : World} {po : Option Addr} {bs : List Nat} (h : BL w po bs) (hb : Below w.heap.size w w') : BL w' po bs :=
  h.keep fun a ha => World.cell?_of_block (hb.block a.block (cell_lt' ha))
theorem BL.onlyAt {w w' : World} {po : Option Addr} {bs : List Nat} {S : Nat → Prop} (h : BL w po bs) (ho : Only S w w') (hS : bs ≠ [] → ∀ a, po = some a → ¬ S a.block) : BL w' po bs := by
  rcases h with h | ⟨b, o, rfl, h⟩
  · exact Or.inl h
  · refine Or.inr ⟨b, o, rfl, fun i hi => ?_⟩
    have hne : bs ≠ [] := fun e => by subst e; simp at hi
    have hc := h i hi
    exact (World.cell?_of_block (ho.block b (cell_lt' (a := ⟨b, o + i, none⟩) (by rw [hc]; simp)) (hS hne _ rfl))).trans hc
theorem BL.nil (w : World) (po : Option Addr) : BL w po [] := Or.inl rfl
theorem BL.conv {w : World} {po : Option Addr} {bs : List Nat} (h : BL w po bs) (c : Nat) : (convert 22 9 (.slice po bs.length c)).run Try.prog w = .ok (.string (ba bs)) w := by
  rcases h with rfl | ⟨b, o, rfl, h⟩
  · rw [run_convert_bytes_string w 22 9 5 _ _ c Try.underlying22 Try.underlying5 Try.underlying9]
    cases po <;> simp [Conv.bytesToString, loadCells, ba]
    all_goals rfl
  · exact run_convert_bytes_arg w 22 5 Try.underlying22 Try.underlying5 b o bs.length c _ (by simp) (fun i hi => by rw [h i hi]; simp [List.getD, hi, u8]) 9 Try.underlying9
theorem getD_drop (bs : List Nat) (n i : Nat) : (bs.drop n).getD i 0 = bs.getD (n + i) 0 := by simp [List.getD]
theorem getD_take {bs : List Nat} {n i : Nat} (h : i < n) : (bs.take n).getD i 0 = bs.getD i 0 := by simp [List.getD, h]
theorem BL.drop {w : World} {b o : Nat} {bs : List Nat} (h : BL w (some ⟨b, o, none⟩) bs) (n : Nat) : BL w (some ⟨b, o + n, none⟩) (bs.drop n) := by
  rcases h with rfl | ⟨b', o', e, h⟩
  · exact Or.inl (by simp)
  · cases e
    refine Or.inr ⟨b, o + n, rfl, fun i hi => ?_⟩
    rw [List.length_drop] at hi
    rw [getD_drop, show o + n + i = o + (n + i) by omega]
    exact h (n + i) (by omega)
theorem BL.take {w : World} {po : Option Addr} {bs : List Nat} (h : BL w po bs) (n : Nat) : BL w po (bs.take n) := by
  rcases h with rfl | ⟨b, o, rfl, h⟩
  · exact Or.inl (by simp)
  · refine Or.inr ⟨b, o, rfl, fun i hi => ?_⟩
    rw [List.length_take] at hi
    rw [getD_take (by omega)]
    exact h i (by omega)
/-- Bytes in a row of their own. -/
def Buf (B : Nat) (w : World) (v : Value) (L : List Nat) : Prop := w.ownsRow B 5 1 v L.length (L.map u8)
theorem Buf.nil (B : Nat) (w : World) : Buf B w (.slice none 0 0) [] := World.ownsRow_nil w B 5 1
theorem Buf.form {B : Nat} {w : World} {v : Value} {L : List Nat} (h : Buf B w v L) : ∃ po cc, v = .slice po L.length cc := own_form h
theorem Buf.below {B : Nat} {w w' : World} {v : Value} {L : List Nat} (h : Buf B w v L) (hb : Below w.heap.size w w') : Buf B w' v L :=
  ownsRow_keep h fun b hv => hb.block b (own_ge h b hv).2
theorem Buf.bl {B : Nat} {w : World} {po : Option Addr} {n c : Nat} {L : List Nat} (h : Buf B w (.slice po n c) L) : BL w po L := by
  rcases h.2 with ⟨e, h0⟩ | ⟨g, cap, cur, e, _, hg, h1, _, h3, h4⟩
  · exact Or.inl (List.eq_nil_of_length_eq_zero h0)
  · cases e
    refine Or.inr ⟨g, 0, rfl, fun i hi => ?_⟩
    have hc : CAt w g cur 5 := hg
    rw [Nat.zero_add, hc.cell]
    have := congrArg (fun l => l[i]?) h4
    simp [hi] at this
    rw [this]
    simp [u8, List.getD, List.getElem?_eq_getElem hi]
/-- append(v, b...), the bytes anywhere. -/
theorem Buf.app {B : Nat} {w : World} {v : Value} {L : List Nat} (hv : Buf B w v L) (po : Option Addr) (c : Nat) (bs : List Nat) (hb : BL w po bs) (hc : po = none → c = 0) (hn : L.length + bs.length ≤ 2000000) (hB : B ≤ w.heap.size) :
    ∃ v' w', (Builtin.append_ #[22, 22] 22 #[v, .slice po bs.length c]).run Try.prog w = .ok v' w' ∧ Buf B w' v' (L ++ bs) ∧ w.grownBy w' v.ownBlock := by
  obtain ⟨i0, hi0, hz0, hz1, hz2⟩ := info_parts Try.info5
  cases po with
  | none =>
    have : bs = [] := by rcases hb with h | ⟨b, o, h, _⟩
                         · exact h
                         · cases h
    subst this
    obtain rfl := hc rfl
    refine ⟨v, w, run_append_owned_none (P := Try.prog) (w := w) B 22 22 5 i0 1 Try.underlying22 hi0 v _ _ hv, by simpa using hv, ⟨rfl, rfl, rfl, Nat.le_refl _, fun _ _ _ => rfl⟩⟩
  | some a =>
    obtain ⟨v', w', hr, h2, h3, _, _⟩ := run_append_own_at (P := Try.prog) w B 22 22 5 i0 (.int .u8 0) 1 1 Try.underlying22 hi0 hz0 hz1 hz2 rfl (by decide) v L.length (L.map u8) hv a bs.length c (bs.map u8) (by simp) (fun j u hj => by
        have hjl : j < bs.length := by
          rcases Nat.lt_or_ge j bs.length with q | q
          · exact q
          · rw [List.getElem?_eq_none (by simpa using q)] at hj; cases hj
        have e : u = u8 (bs.getD j 0) := by simp [hjl] at hj; rw [← hj]; simp [List.getD, hjl]
        rcases hb with h | ⟨b, o, e2, h⟩
        · subst h; simp at hjl
        · cases e2
          rw [add_none, e]; exact h j hjl) (by intro u hu; simp at hu; obtain ⟨k, _, rfl⟩ := hu; rfl) (by unfold maxLen; omega) (by omega) hB
    refine ⟨v', w', hr, ?_, h3⟩
    unfold Buf; rw [List.length_append, List.map_append]; exact h2
/-- append(v, x), the value laid in a new block first. -/
theorem Buf.push {B : Nat} {w : World} {v : Value} {L : List Nat} (hv : Buf B w v L) (k : Nat) (hn : L.length + 1 ≤ 2000000) (hB : B ≤ w.heap.size) :
    ∃ v' w', (Builtin.append_ #[22, 22] 22 #[v, .slice (some ⟨w.heap.size, 0, none⟩) 1 1]).run Try.prog (w.alloc (.cells #[u8 k] 5)) = .ok v' w' ∧ Buf B w' v' (L ++ [k]) ∧ Below B w w' := by
  have h2 := hv.below (below_al w (.cells #[u8 k] 5))
  have hc : CAt (w.alloc (.cells #[u8 k] 5)) w.heap.size #[u8 k] 5 := CAt.made w _ _
  obtain ⟨v', w', h3, h4, h5⟩ := h2.app (some ⟨w.heap.size, 0, none⟩) 1 [k] (Or.inr ⟨w.heap.size, 0, rfl, fun i hi => by
    have : i = 0 := by simpa using hi
    subst this; rw [Nat.zero_add, hc.cell]; rfl⟩) (by simp) (by simpa using hn) (by rw [size_al]; omega)
  exact ⟨v', w', h3, h4, below_grown (below_less (below_al w _) hB) h5 hB fun b hb => (own_ge h2 b hb).1⟩
/-- append(v, s...), of a text. -/
theorem Buf.appS {B : Nat} {w : World} {v : Value} {L : List Nat} (hv : Buf B w v L) (s : ByteArray) (hn : L.length + s.size ≤ 2000000) (hB : B ≤ w.heap.size) :
    ∃ v' w', (Builtin.append_ #[22, 9] 22 #[v, .string s]).run Try.prog w = .ok v' w' ∧ Buf B w' v' (L ++ lst s) ∧ Below B w w' := by
  obtain ⟨i0, hi0, hz0, hz1, hz2⟩ := info_parts Try.info5
  obtain ⟨v', w', hr, h2, h3, _⟩ := Lib.run_append_own_string (P := Try.prog) w B 22 9 22 5 i0 Try.underlying22 Try.underlying9 hi0 hz0 hz1 hz2 v L.length (L.map u8) hv s (by unfold maxLen; omega) (by omega) hB
  refine ⟨v', w', hr, ?_, below_grown (Below.refl _ _) h3 hB fun b hb => (own_ge hv b hb).1⟩
  unfold Buf; rw [List.length_append, List.map_append, lst_len, ← strCells_lst]; exact h2
#print axioms Buf.appS
end Go.Proofs.Ytepkpkbgmchioaa
