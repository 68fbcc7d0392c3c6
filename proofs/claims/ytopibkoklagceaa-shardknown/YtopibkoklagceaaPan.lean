/- Texts laid into one, cut to what is needed: the remark ahead of each part says what is proved there. -/
import Derived.Test.YtopibkoklagceaaRows
import Derived.Test.YtopibkoklagceaaPam
import Derived.WalkKit
import Derived.WalkSpells
import Derived.WalkLawsBesides
import Derived.OwnWalk
import Derived.Laws.Rows
import Derived.Laws.CopyOwn
import Derived.Laws.NewBlocks
import Derived.Laws.ResultCell
import Derived.Laws.BytesArg
import Derived.Laws.BytesString
import Derived.Laws.OwnMore
import Derived.Laws.AppendOwnNone
import Derived.Maps.AppendAt
import Derived.Lib.AppendStr
import Derived.Lib.SliceRun
import Derived.Laws.BitsAllLaws
import Derived.Deep.RegionHeld3
import Derived.Deep.QuietTactic
import Derived.Maps.OwnSet
import Derived.Test.YtopibkoklagceaaPad
import Derived.Test.YtopibkoklagceaaPag
import Derived.Test.YtopibkoklagceaaPaa
import Derived.RangeFuncNested
import Derived.RangeFuncBound
import Derived.RangeFuncCalls
import Derived.RangeFuncLeaves
import Derived.OrdersIn
import Derived.TacticsIn
/- What memory holds: blocks, what stays, bytes in slices, texts; rows of bytes of one's own and what is appended to them. -/
namespace Go.Proofs.Ytopibkoklagceaa
open Go Go.RowKit

theorem hid {p : Prop} (h : p) : Hid p := h
def u8 (k : Nat) : Value := .int .u8 (k : Int)
abbrev ptr (p : Nat) : Value := .pointer (some ⟨p, 0, none⟩)
abbrev i64 (k : Int) : Value := .int .i64 k
theorem Try.info5 : (Try.prog.info? 5).map (fun i => (i.zero, i.size, i.bytes)) = some (some (.int .u8 0), 1, 1) := by kernel_rfl
theorem add_none (b o n : Nat) : (⟨b, o, none⟩ : Addr).add n = ⟨b, o + n, none⟩ := by unfold Addr.add; split <;> simp_all

/-- Block b has these cells, none of them frozen. -/
def CAt (w : World) (b : Nat) (cs : Array Value) (t : TypeId) : Prop := w.heap[b]? = some (.cells cs t (0, 0))
theorem CAt.lt {w : World} {b : Nat} {cs : Array Value} {t : TypeId} (h : CAt w b cs t) : b < w.heap.size := (Array.getElem?_eq_some_iff.1 h).1
theorem CAt.cell {w : World} {b : Nat} {cs : Array Value} {t : TypeId} (h : CAt w b cs t) (i : Nat) : w.cell? ⟨b, i, none⟩ = cs[i]? := by
  simp [World.cell?, show w.heap[b]? = _ from h]
theorem CAt.free {w : World} {b : Nat} {cs : Array Value} {t : TypeId} (h : CAt w b cs t) (i : Nat) : w.frozen? ⟨b, i, none⟩ = false := by
  simp [World.frozen?, show w.heap[b]? = _ from h]
theorem CAt.set {w : World} {b : Nat} {cs : Array Value} {t : TypeId} (h : CAt w b cs t) (i : Nat) (v : Value) : CAt (w.setCell ⟨b, i, none⟩ v) b (cs.setIfInBounds i v) t := by
  unfold CAt at *
  simp [World.setCell, Array.getElem?_modify, h]
theorem CAt.keep {w w' : World} {b : Nat} {cs : Array Value} {t : TypeId} (h : CAt w b cs t) (e : w'.heap[b]? = w.heap[b]?) : CAt w' b cs t := e.trans h
theorem CAt.made (w : World) (cs : Array Value) (t : TypeId) : CAt (w.alloc (.cells cs t)) w.heap.size cs t := (MapKept.heap_alloc w _).1
theorem CAt.below {w w' : World} {b : Nat} {cs : Array Value} {t : TypeId} (h : CAt w b cs t) (hb : Below w.heap.size w w') : CAt w' b cs t := h.keep (hb.block b h.lt)
theorem heap_setCell_ne (w : World) (a : Addr) (v : Value) (b : Nat) (h : b ≠ a.block) : (w.setCell a v).heap[b]? = w.heap[b]? := RowKit.Below.heap_setCell _ _ _ _ h
theorem setCell_size (w : World) (a : Addr) (v : Value) : (w.setCell a v).heap.size = w.heap.size := by
  unfold World.setCell; split <;> simp
theorem size_al (w : World) (o : Obj) : (w.alloc o).heap.size = w.heap.size + 1 := by simp
theorem at_new (w : World) (o : Obj) : (w.alloc o).heap[w.heap.size]? = some o := (MapKept.heap_alloc w o).1
theorem heap_alloc_old (w : World) (o : Obj) {b : Nat} (h : b < w.heap.size) : (w.alloc o).heap[b]? = w.heap[b]? := (MapKept.heap_alloc w o).2 b h
theorem below_al (w : World) (o : Obj) : Below w.heap.size w (w.alloc o) := (Below.refl _ _).alloc (Nat.le_refl _) _
theorem below_on {w0 : World} {w w' : World} (h : Below w0.heap.size w0 w) (hb : Below w.heap.size w w') : Below w0.heap.size w0 w' :=
  ⟨hb.os.trans h.os, hb.tape.trans h.tape, hb.output.trans h.output, Nat.le_trans h.size hb.size, fun k hk => (hb.block k (Nat.lt_of_lt_of_le hk h.size)).trans (h.block k hk)⟩
theorem cell_lt' {w : World} {a : Addr} (h : w.cell? a ≠ none) : a.block < w.heap.size := by
  rcases Nat.lt_or_ge a.block w.heap.size with h1 | h1
  · exact h1
  · exact absurd (by simp [World.cell?, Array.getElem?_eq_none h1]) h

/-- Of what was there nothing has turned but blocks of S. -/
structure Only (S : Nat → Prop) (w w' : World) : Prop where
  os : w'.os = w.os
  tape : w'.tape = w.tape
  output : w'.output = w.output
  size : w.heap.size ≤ w'.heap.size
  block : ∀ k, k < w.heap.size → ¬ S k → w'.heap[k]? = w.heap[k]?
theorem Only.refl (S : Nat → Prop) (w : World) : Only S w w := ⟨rfl, rfl, rfl, Nat.le_refl _, fun _ _ _ => rfl⟩
theorem Only.trans {S : Nat → Prop} {a b c : World} (h : Only S a b) (k : Only S b c) : Only S a c :=
  ⟨k.os.trans h.os, k.tape.trans h.tape, k.output.trans h.output, Nat.le_trans h.size k.size, fun i hi hs => (k.block i (Nat.lt_of_lt_of_le hi h.size) hs).trans (h.block i hi hs)⟩
theorem Only.then {S T : Nat → Prop} {a b c : World} (h : Only S a b) (k : Only T b c) (hT : ∀ i, i < a.heap.size → T i → S i) : Only S a c :=
  ⟨k.os.trans h.os, k.tape.trans h.tape, k.output.trans h.output, Nat.le_trans h.size k.size, fun i hi hs => (k.block i (Nat.lt_of_lt_of_le hi h.size) (fun ht => hs (hT i hi ht))).trans (h.block i hi hs)⟩
theorem Only.mono {S T : Nat → Prop} {a b : World} (h : Only S a b) (hS : ∀ i, S i → T i) : Only T a b := ⟨h.os, h.tape, h.output, h.size, fun i hi hs => h.block i hi fun k => hs (hS i k)⟩
theorem Only.of_below {S : Nat → Prop} {a b : World} (h : Below a.heap.size a b) : Only S a b := ⟨h.os, h.tape, h.output, h.size, fun i hi _ => h.block i hi⟩
theorem Only.below {S : Nat → Prop} {a b : World} {B : Nat} (h : Only S a b) (hB : B ≤ a.heap.size) (hS : ∀ i, S i → B ≤ i) : Below B a b :=
  ⟨h.os, h.tape, h.output, h.size, fun i hi => h.block i (by omega) fun k => by have := hS i k; omega⟩
theorem Only.of_grown {S : Nat → Prop} {a b : World} {r : Option Nat} (h : a.grownBy b r) (hr : ∀ k, r = some k → k < a.heap.size → S k) : Only S a b :=
  ⟨h.os, h.tape, h.output, h.size, fun i hi hs => h.block i hi fun e => hs (hr i e.symm hi)⟩
theorem Only.set {S : Nat → Prop} (w : World) (a : Addr) (v : Value) (h : S a.block) : Only S w (w.setCell a v) := by
  exact ⟨rfl, rfl, rfl, Nat.le_of_eq (setCell_size w a v).symm, fun k _ hk => heap_setCell_ne _ _ _ _ fun e => hk (e ▸ h)⟩
theorem Only.alloc {S : Nat → Prop} (w : World) (o : Obj) : Only S w (w.alloc o) := Only.of_grown (World.grownBy_alloc w o none) (by simp)
theorem below_grown {B : Nat} {w w1 w2 : World} {r : Option Nat} (h : Below B w w1) (hg : w1.grownBy w2 r) (hB : B ≤ w.heap.size) (hr : ∀ b, r = some b → B ≤ b) : Below B w w2 :=
  ⟨hg.os.trans h.os, hg.tape.trans h.tape, hg.output.trans h.output, Nat.le_trans h.size hg.size, fun k hk => (hg.block k (by have := h.size; omega) fun e => by have := hr k e.symm; omega).trans (h.block k hk)⟩
theorem below_tr {B : Nat} {w w1 w2 : World} (h : Below B w w1) (k : Below B w1 w2) : Below B w w2 :=
  ⟨k.os.trans h.os, k.tape.trans h.tape, k.output.trans h.output, Nat.le_trans h.size k.size, fun i hi => (k.block i hi).trans (h.block i hi)⟩
theorem below_less {B C : Nat} {w w1 : World} (h : Below B w w1) (hC : C ≤ B) : Below C w w1 := ⟨h.os, h.tape, h.output, h.size, fun i hi => h.block i (by omega)⟩
theorem ownsRow_keep {w w' : World} {B e n s : Nat} {v : Value} {xs : List Value} (h : w.ownsRow B e s v n xs) (hk : ∀ b, v.ownBlock = some b → w'.heap[b]? = w.heap[b]?) : w'.ownsRow B e s v n xs := by
  obtain ⟨h1, h2⟩ := h
  refine ⟨h1, ?_⟩
  rcases h2 with h2 | ⟨g, cap, cur, rfl, hB, hb, r⟩
  · exact Or.inl h2
  · exact Or.inr ⟨g, cap, cur, rfl, hB, (hk g rfl).trans hb, r⟩
theorem own_form {w : World} {B e sz n : Nat} {v : Value} {xs : List Value} (h : w.ownsRow B e sz v n xs) : ∃ po cc, v = .slice po n cc := by
  rcases h.2 with ⟨rfl, rfl⟩ | ⟨g, cap, cur, rfl, _⟩
  · exact ⟨_, _, rfl⟩
  · exact ⟨_, _, rfl⟩
theorem own_ge {w : World} {B e sz n : Nat} {v : Value} {xs : List Value} (h : w.ownsRow B e sz v n xs) : ∀ b, v.ownBlock = some b → B ≤ b ∧ b < w.heap.size := fun b hb => World.ownsRow.lt h b hb
theorem own_base {w : World} {B B2 e sz n : Nat} {v : Value} {xs : List Value} (h : w.ownsRow B e sz v n xs) (hB : B2 ≤ B) : w.ownsRow B2 e sz v n xs := by
  refine ⟨h.1, ?_⟩
  rcases h.2 with h2 | ⟨g, cap, cur, rfl, hb, r⟩
  · exact Or.inl h2
  · exact Or.inr ⟨g, cap, cur, rfl, Nat.le_trans hB hb, r⟩

/-- A text's bytes. -/
def lst (s : ByteArray) : List Nat := s.data.toList.map UInt8.toNat
theorem lst_len (s : ByteArray) : (lst s).length = s.size := by unfold lst; rw [List.length_map, Array.length_toList]; rfl
theorem lst_lt (s : ByteArray) : ∀ x ∈ lst s, x < 256 := fun x hx => by
  obtain ⟨c, _, rfl⟩ := List.mem_map.1 hx; exact c.toNat_lt
theorem lst_inj {s t : ByteArray} (h : lst s = lst t) : s = t := by
  have : s.data.toList = t.data.toList := by
    unfold lst at h
    exact (List.map_inj_right (f := UInt8.toNat) (fun x y e => UInt8.toNat_inj.1 e)).1 h
  cases s; cases t; simp at this; rw [this]
def ba (l : List Nat) : ByteArray := strOfNums (l.map fun (k : Nat) => (k : Int))
theorem lst_ba {l : List Nat} (h : ∀ x ∈ l, x < 256) : lst (ba l) = l := by
  unfold lst ba
  rw [strOfNums_data, List.map_map, List.map_map]
  refine (List.map_congr_left fun x hx => ?_).trans (List.map_id l)
  have := h x hx
  simp only [Function.comp_apply, Int.toNat_natCast, id_eq]
  rw [UInt8.toNat_ofNat']; omega
theorem lst_nil : lst ⟨#[]⟩ = [] := rfl
theorem lst_beq (s t : ByteArray) : (s.toList == t.toList) = decide (lst s = lst t) := by
  rw [ByteArray.toList_eq, ByteArray.toList_eq]
  by_cases h : lst s = lst t
  · have := lst_inj h; subst this; simp
  · have : s.data.toList ≠ t.data.toList := fun e => h (by unfold lst; rw [e])
    rw [decide_eq_false h]
    exact Bool.eq_false_iff.2 fun e => this (eq_of_beq e)

/-- The slice leads to the bytes bs. -/
def BL (w : World) (po : Option Addr) (bs : List Nat) : Prop := bs = [] ∨ ∃ b o, po = some ⟨b, o, none⟩ ∧ ∀ i, i < bs.length → w.cell? ⟨b, o + i, none⟩ = some (u8 (bs.getD i 0))
theorem BL.keep {w w' : World} {po : Option Addr} {bs : List Nat} (h : BL w po bs) (hk : ∀ a, w.cell? a ≠ none → w'.cell? a = w.cell? a) : BL w' po bs := by
  rcases h with h | ⟨b, o, rfl, h⟩
  · exact Or.inl h
  · exact Or.inr ⟨b, o, rfl, fun i hi => (hk _ (by rw [h i hi]; simp)).trans (h i hi)⟩
theorem BL.below {w w' : World} {po : Option Addr} {bs : List Nat} (h : BL w po bs) (hb : Below w.heap.size w w') : BL w' po bs :=
  h.keep fun a ha => World.cell?_of_block (hb.block a.block (cell_lt' ha))
theorem BL.nil (w : World) (po : Option Addr) : BL w po [] := Or.inl rfl
theorem BL.conv {w : World} {po : Option Addr} {bs : List Nat} (h : BL w po bs) (c : Nat) : (convert 27 9 (.slice po bs.length c)).run Try.prog w = .ok (.string (ba bs)) w := by
  rcases h with rfl | ⟨b, o, rfl, h⟩
  · rw [run_convert_bytes_string w 27 9 5 _ _ c Try.underlying27 Try.underlying5 Try.underlying9]
    cases po <;> simp [Conv.bytesToString, loadCells, ba]
    all_goals rfl
  · exact run_convert_bytes_arg w 27 5 Try.underlying27 Try.underlying5 b o bs.length c _ (by simp) (fun i hi => by rw [h i hi]; simp [List.getD, hi, u8]) 9 Try.underlying9
theorem getD_drop (bs : List Nat) (n i : Nat) : (bs.drop n).getD i 0 = bs.getD (n + i) 0 := by simp [List.getD]
theorem getD_take {bs : List Nat} {n i : Nat} (h : i < n) : (bs.take n).getD i 0 = bs.getD i 0 := by simp [List.getD, h]
theorem BL.drop {w : World} {b o : Nat} {bs : List Nat} (h : BL w (some ⟨b, o, none⟩) bs) (n : Nat) : BL w (some ⟨b, o + n, none⟩) (bs.drop n) := by
  rcases h with rfl | ⟨b', o', e, h⟩
  · exact Or.inl (by simp)
  · cases e
    refine Or.inr ⟨b, o + n, rfl, fun i hi => ?_⟩
    rw [List.length_drop] at hi
    rw [getD_drop, show o + n + i = o + (n + i) by omega]
    exact h (n + i) (by omega)
theorem BL.take {w : World} {po : Option Addr} {bs : List Nat} (h : BL w po bs) (n : Nat) : BL w po (bs.take n) := by
  rcases h with rfl | ⟨b, o, rfl, h⟩
  · exact Or.inl (by simp)
  · refine Or.inr ⟨b, o, rfl, fun i hi => ?_⟩
    rw [List.length_take] at hi
    rw [getD_take (by omega)]
    exact h i (by omega)
/-- Bytes in a row of their own. -/
def Buf (B : Nat) (w : World) (v : Value) (L : List Nat) : Prop := w.ownsRow B 5 1 v L.length (L.map u8)
theorem Buf.nil (B : Nat) (w : World) : Buf B w (.slice none 0 0) [] := World.ownsRow_nil w B 5 1
theorem Buf.form {B : Nat} {w : World} {v : Value} {L : List Nat} (h : Buf B w v L) : ∃ po cc, v = .slice po L.length cc := own_form h
theorem Buf.below {B : Nat} {w w' : World} {v : Value} {L : List Nat} (h : Buf B w v L) (hb : Below w.heap.size w w') : Buf B w' v L :=
  ownsRow_keep h fun b hv => hb.block b (own_ge h b hv).2
theorem Buf.bl {B : Nat} {w : World} {po : Option Addr} {n c : Nat} {L : List Nat} (h : Buf B w (.slice po n c) L) : BL w po L := by
  rcases h.2 with ⟨e, h0⟩ | ⟨g, cap, cur, e, _, hg, h1, _, h3, h4⟩
  · exact Or.inl (List.eq_nil_of_length_eq_zero h0)
  · cases e
    refine Or.inr ⟨g, 0, rfl, fun i hi => ?_⟩
    have hc : CAt w g cur 5 := hg
    rw [Nat.zero_add, hc.cell]
    have := congrArg (fun l => l[i]?) h4
    simp [hi] at this
    rw [this]
    simp [u8, List.getD, List.getElem?_eq_getElem hi]
/-- append(v, b...), the bytes anywhere. -/
theorem Buf.app {B : Nat} {w : World} {v : Value} {L : List Nat} (hv : Buf B w v L) (po : Option Addr) (c : Nat) (bs : List Nat) (hb : BL w po bs) (hc : po = none → c = 0) (hn : L.length + bs.length ≤ 2000000) (hB : B ≤ w.heap.size) :
    ∃ v' w', (Builtin.append_ #[27, 27] 27 #[v, .slice po bs.length c]).run Try.prog w = .ok v' w' ∧ Buf B w' v' (L ++ bs) ∧ w.grownBy w' v.ownBlock := by
  obtain ⟨i0, hi0, hz0, hz1, hz2⟩ := info_parts Try.info5
  cases po with
  | none =>
    have : bs = [] := by rcases hb with h | ⟨b, o, h, _⟩
                         · exact h
                         · cases h
    subst this
    obtain rfl := hc rfl
    refine ⟨v, w, run_append_owned_none (P := Try.prog) (w := w) B 27 27 5 i0 1 Try.underlying27 hi0 v _ _ hv, by simpa using hv, ⟨rfl, rfl, rfl, Nat.le_refl _, fun _ _ _ => rfl⟩⟩
  | some a =>
    obtain ⟨v', w', hr, h2, h3, _, _⟩ := run_append_own_at (P := Try.prog) w B 27 27 5 i0 (.int .u8 0) 1 1 Try.underlying27 hi0 hz0 hz1 hz2 rfl (by decide) v L.length (L.map u8) hv a bs.length c (bs.map u8) (by simp) (fun j u hj => by
        have hjl : j < bs.length := by
          rcases Nat.lt_or_ge j bs.length with q | q
          · exact q
          · rw [List.getElem?_eq_none (by simpa using q)] at hj; cases hj
        have e : u = u8 (bs.getD j 0) := by simp [hjl] at hj; rw [← hj]; simp [List.getD, hjl]
        rcases hb with h | ⟨b, o, e2, h⟩
        · subst h; simp at hjl
        · cases e2
          rw [add_none, e]; exact h j hjl) (by intro u hu; simp at hu; obtain ⟨k, _, rfl⟩ := hu; rfl) (by unfold maxLen; omega) (by omega) hB
    refine ⟨v', w', hr, ?_, h3⟩
    unfold Buf; rw [List.length_append, List.map_append]; exact h2
end Go.Proofs.Ytopibkoklagceaa

/- Digests of bytes in slices, by lists. -/
namespace Go.Proofs.Ytopibkoklagceaa
open Go Go.RowKit

/-- The digest's 32 bytes. -/
def dig (x : List Nat) : List Nat := (List.range 32).map fun i => H.sha x.length (fun j => x.getD j 0) i
theorem dig_len (x : List Nat) : (dig x).length = 32 := by simp [dig]
theorem dig_lt (x : List Nat) : ∀ z ∈ dig x, z < 256 := fun z hz => by
  obtain ⟨i, _, rfl⟩ := List.mem_map.1 hz
  exact H.sha_lt _ _ _
theorem dig_arr (x : List Nat) : H.aB 32 (H.sha x.length fun j => x.getD j 0) = ((dig x).map u8).toArray := by
  unfold H.aB dig
  apply Array.ext
  · simp
  · intro i h1 h2
    simp [u8]
theorem BL.str {w : World} {po : Option Addr} {x : List Nat} (h : BL w po x) : H.StrAt w po x.length fun j => x.getD j 0 := by
  rcases h with rfl | ⟨b, o, e, h⟩
  · exact Or.inl rfl
  · exact Or.inr ⟨b, o, e, fun i hi => h i hi⟩
theorem get256 {x : List Nat} (h8 : ∀ z ∈ x, z < 256) (i : Nat) (hi : i < x.length) : x.getD i 0 < 256 := by
  rw [List.getD_eq_getElem?_getD, List.getElem?_eq_getElem hi]; exact h8 _ (List.getElem_mem hi)
/-- digest.Sum -/
theorem dsum_any (po : Option Addr) (c : Nat) (x : List Nat) (w : World) (hn : x.length ≤ 1000000) (hc : x.length ≤ c) (h : BL w po x) (h8 : ∀ z ∈ x, z < 256) :
    Calls Try.prog 21 #[.slice po x.length c] w fun e w' => e = .returned (.agg ((dig x).map u8).toArray) ∧ Below w.heap.size w w' := by
  rw [← dig_arr]
  exact H.sum_any po x.length c _ w hn hc h.str (get256 h8)
end Go.Proofs.Ytopibkoklagceaa

/- Journals as bytes: mathematics alone. D: the digest, of which nothing is asked but its length. -/
namespace Go.Proofs.Ytopibkoklagceaa

def rsB (l : List Rc) : List Nat := (l.map rcB).flatten
section
variable {D : List Nat → List Nat}
end
end Go.Proofs.Ytopibkoklagceaa

/- Journals: what is added, removed, found. Mathematics alone. -/
namespace Go.Proofs.Ytopibkoklagceaa

/-- The place of a record. -/
def atI : List Rc → List Nat → Option Nat
  | [], _ => none
  | r :: l, id => if r.id = id then some 0 else (atI l id).map (· + 1)
theorem atI_some : ∀ {l : List Rc} {id : List Nat} {i : Nat}, atI l id = some i → ∃ h : i < l.length, l[i].id = id ∧ ∀ j (hj : j < i), (l[j]'(by omega)).id ≠ id
  | [], _, _, h => by cases h
  | r :: l, id, i, h => by
    rw [atI] at h
    by_cases h1 : r.id = id
    · rw [if_pos h1] at h
      cases h
      exact ⟨by simp, h1, fun j hj => absurd hj (Nat.not_lt_zero _)⟩
    · rw [if_neg h1] at h
      obtain ⟨k, hk, e⟩ := Option.map_eq_some_iff.1 h
      subst e
      obtain ⟨h2, h3, h4⟩ := atI_some hk
      refine ⟨by simp; omega, by simpa using h3, fun j hj => ?_⟩
      cases j with
      | zero => simpa using h1
      | succ j => simpa using h4 j (by omega)
end Go.Proofs.Ytopibkoklagceaa

/- Which of the drives' journals counts. Mathematics alone. -/
namespace Go.Proofs.Ytopibkoklagceaa

/-- What a drive answers. -/
structure Cp where
  err : Int
  b : List Nat
section
variable (D : List Nat → List Nat)
/-- 'As good as, or less than'. -/
def leC (x y : Int × Nat) : Prop := x.1 < y.1 ∨ x.1 = y.1 ∧ x.2 ≤ y.2
theorem leC.refl (x : Int × Nat) : leC x x := Or.inr ⟨rfl, Nat.le_refl _⟩
theorem leC.trans {x y z : Int × Nat} (h : leC x y) (k : leC y z) : leC x z := by
  unfold leC at *
  omega
variable {D}
end
end Go.Proofs.Ytopibkoklagceaa

/- Shard files as mathematics: the shards and files of bytes; what a file is read as; which drives' files are sound and taken; what they make; any k of them make the bytes. No conditions but bounds. -/
namespace Go.Proofs.Ytopibkoklagceaa
open Go Go.RowKit

/-- Bytes as the stripe's mathematics has them. -/
def kx (b : List Nat) (j : Nat) : U.K := U.kb (b.getD j 0)
theorem getD_lt8 {b : List Nat} (h8 : ∀ z ∈ b, z < 256) (j : Nat) : b.getD j 0 < 256 := by
  rcases Nat.lt_or_ge j b.length with h | h
  · exact get256 h8 j h
  · rw [List.getD_eq_getElem?_getD, List.getElem?_eq_none h]; decide
theorem kx_val {b : List Nat} (h8 : ∀ z ∈ b, z < 256) (j : Nat) : (kx b j).val = b.getD j 0 := U.kb_val _ (getD_lt8 h8 j)
theorem list_range (b : List Nat) : (List.range b.length).map (fun j => b.getD j 0) = b := by
  apply List.ext_getElem?
  intro i
  rcases Nat.lt_or_ge i b.length with h | h
  · simp [h]
  · simp [h]
theorem range_getD (n : Nat) (f : Nat → Nat) (j : Nat) (hj : j < n) : ((List.range n).map f).getD j 0 = f j := by simp [hj]
theorem map_range_eq {n : Nat} {f g : Nat → Nat} (h : ∀ j, j < n → f j = g j) : (List.range n).map f = (List.range n).map g := by
  apply List.map_congr_left; intro j hj; exact h j (List.mem_range.1 hj)

/-- The shards of bytes, by their places. -/
def shd (k : Nat) (b : List Nat) (i : Nat) : List Nat := (List.range (U.lgt b.length k)).map fun j => (U.ash k (U.lgt b.length k) b.length (kx b) i j).val
theorem shd_len (k : Nat) (b : List Nat) (i : Nat) : (shd k b i).length = U.lgt b.length k := by simp [shd]
theorem shd_lt (k : Nat) (b : List Nat) (i : Nat) : ∀ z ∈ shd k b i, z < 256 := fun z hz => by
  unfold shd at hz
  obtain ⟨j, _, rfl⟩ := List.mem_map.1 hz
  exact U.K.lt _
/-- The file of bytes. -/
def flL (s : List Nat) : List Nat := H.fileL s.length fun j => s.getD j 0
/-- All shard files of bytes. -/
def fls (k m : Nat) (b : List Nat) : List (List Nat) := (List.range (k + m)).map fun i => flL (shd k b i)
theorem fls_len (k m : Nat) (b : List Nat) : (fls k m b).length = k + m := by simp [fls]
theorem fls_get (k m : Nat) (b : List Nat) (i : Nat) (hi : i < k + m) : (fls k m b)[i]? = some (flL (shd k b i)) := by simp [fls, hi]

/-- What a file is read as, of so many bytes; the error's number. -/
def rdE (f : List Nat) (n : Nat) : Int := H.partE (fun j => f.getD j 0) f.length n 0 n
def rdB (f : List Nat) (n : Nat) : List Nat := H.partL (fun j => f.getD j 0) f.length n 0 n
theorem rdB_ok {f : List Nat} {n : Nat} (h : rdE f n = 0) : rdB f n = (List.range n).map fun j => H.dat (fun j => f.getD j 0) j := by
  unfold rdE H.partE at h
  unfold rdB H.partL
  split at h
  · rename_i h1
    split at h
    · rename_i h2
      split at h
      · rename_i h3
        rw [if_pos ⟨h1, h2, h3⟩, H.parL_dat _ _ _ _ (by simp) (by simp)]
        simp
      · cases h
    · cases h
  · cases h
theorem rdB_len {f : List Nat} {n : Nat} (h : rdE f n = 0) : (rdB f n).length = n := by rw [rdB_ok h]; simp
theorem rdB_lt {f : List Nat} (h8 : ∀ z ∈ f, z < 256) {n : Nat} (h : rdE f n = 0) : ∀ z ∈ rdB f n, z < 256 := fun z hz => by
  rw [rdB_ok h] at hz
  obtain ⟨j, _, rfl⟩ := List.mem_map.1 hz
  exact getD_lt8 h8 _
theorem flL_len (s : List Nat) : (flL s).length = s.length + 32 * H.cnt s.length := by
  unfold flL
  exact H.fileL_len _ _
theorem rd_fl (s : List Nat) (hs : s.length ≤ 65536) : rdE (flL s) s.length = 0 ∧ rdB (flL s) s.length = s := by
  have h := H.part_fil s.length (fun j => s.getD j 0) hs 0 s.length (Nat.zero_le _) (Nat.le_refl _)
  have e : (fun j => (flL s).getD j 0) = H.fil s.length (fun j => s.getD j 0) := rfl
  unfold rdE rdB
  rw [e, flL_len s]
  refine ⟨by simpa using h.2, ?_⟩
  have h1 := h.1
  simp only [Nat.sub_zero, Nat.zero_add] at h1
  rw [list_range] at h1
  simpa using h1

/-- Is a drive's file sound? How many are, of the first i? Is the one at i taken? -/
def sdB (n : Nat) (c : Cp) : Bool := decide (c.err = 0) && decide (rdE c.b n = 0)
def csN (n : Nat) (l : List Cp) : Nat → Nat
  | 0 => 0
  | i + 1 => csN n l i + (match l[i]? with | some c => if sdB n c = true then 1 else 0 | none => 0)
def hvB (n k : Nat) (l : List Cp) (i : Nat) : Bool := (match l[i]? with | some c => sdB n c | none => false) && decide (csN n l i < k)
def rdS (n : Nat) (l : List Cp) (i : Nat) : List Nat := match l[i]? with | some c => rdB c.b n | none => []
theorem cn_hv (n k : Nat) (l : List Cp) : ∀ i, U.cn (hvB n k l) i = min k (csN n l i)
  | 0 => by simp [U.cn, csN]
  | i + 1 => by
    have ih := cn_hv n k l i
    show U.cn (hvB n k l) i + (if ((match l[i]? with | some c => sdB n c | none => false) && decide (csN n l i < k)) = true then 1 else 0) = min k (csN n l i + (match l[i]? with | some c => if sdB n c = true then 1 else 0 | none => 0))
    rw [ih]
    cases l[i]? with
    | none => simp
    | some c =>
      cases h : sdB n c
      · simp [h]
      · simp only [h, Bool.true_and, decide_eq_true_eq, if_true]
        split <;> omega
theorem cs_mono (n : Nat) (l : List Cp) (i : Nat) : ∀ d, csN n l i ≤ csN n l (i + d)
  | 0 => Nat.le_refl _
  | d + 1 => Nat.le_trans (cs_mono n l i d) (by show _ ≤ csN n l (i + d) + _; omega)
theorem hv_past {n k : Nat} {l : List Cp} {i j : Nat} (h : k ≤ csN n l i) (hj : i ≤ j) : hvB n k l j = false := by
  obtain ⟨d, rfl⟩ := Nat.le.dest hj
  have := cs_mono n l i d
  unfold hvB
  have h2 : ¬ csN n l (i + d) < k := by omega
  simp [h2]
/-- What those make that are taken. -/
def jnB (k m s : Nat) (l : List Cp) : List Nat := (List.range s).map fun j => (U.jnd (U.lgt s k) (U.mdd k (k + m) (hvB (U.lgt s k) k l) (fun i => kx (rdS (U.lgt s k) l i))) j).val
theorem jnB_len (k m s : Nat) (l : List Cp) : (jnB k m s l).length = s := by simp [jnB]
theorem jnB_lt (k m s : Nat) (l : List Cp) : ∀ z ∈ jnB k m s l, z < 256 := fun z hz => by
  unfold jnB at hz
  obtain ⟨j, _, rfl⟩ := List.mem_map.1 hz
  exact U.K.lt _
/-- The bytes of a version by what drives answer; the error's number. -/
def whE (k m s : Nat) (sum : List Nat) (l : List Cp) : Int := if csN (U.lgt s k) l l.length < k then 10 else if dig (jnB k m s l) = sum then 0 else 14
def whB (k m s : Nat) (sum : List Nat) (l : List Cp) : List Nat := if whE k m s sum l = 0 then jnB k m s l else []
/-- Any k that are sound and have the bytes' shards make the bytes. -/
theorem jn_all {k m : Nat} {b : List Nat} {l : List Cp} (h8 : ∀ z ∈ b, z < 256) (h0 : 1 ≤ k) (h : k + m ≤ 16) (hl : l.length = k + m) (hc : k ≤ csN (U.lgt b.length k) l l.length)
    (hs : ∀ i c, l[i]? = some c → sdB (U.lgt b.length k) c = true → rdB c.b (U.lgt b.length k) = shd k b i) : jnB k m b.length l = b := by
  have hcn : k ≤ U.cn (hvB (U.lgt b.length k) k l) (k + m) := by rw [cn_hv, ← hl]; omega
  have key : ∀ r j, j < U.lgt b.length k → U.mdd k (k + m) (hvB (U.lgt b.length k) k l) (fun i => kx (rdS (U.lgt b.length k) l i)) r j = U.ash k (U.lgt b.length k) b.length (kx b) r j := by
    intro r j hj
    refine U.mdd_all (by omega) (by omega) hcn r j ?_
    intro i hi hv
    unfold hvB at hv
    cases hq : l[i]? with
    | none => rw [hq] at hv; simp at hv
    | some c =>
      rw [hq] at hv
      have hv : sdB (U.lgt b.length k) c = true := by simp at hv; exact hv.1
      have e := hs i c hq hv
      have e2 : rdS (U.lgt b.length k) l i = shd k b i := by unfold rdS; rw [hq]; exact e
      rw [e2]
      unfold kx shd
      rw [range_getD _ _ _ hj]
      apply U.K.ext
      rw [U.kb_val _ (U.K.lt _)]
      rfl
  have hroom := U.lgt_room b.length k h0
  unfold jnB
  conv => rhs; rw [← list_range b]
  apply map_range_eq
  intro j hj
  rw [U.jnd_congr (k := k) hroom (fun i _ j hj => key i j hj) j hj, U.jnd_ash j hj hroom, kx_val h8]
end Go.Proofs.Ytopibkoklagceaa

/- A range over a function whose iterator may hold such ranges itself, and yields what it has just read: all that lies from the loop's beginning on lies as it lay. -/
namespace Go.Proofs.Ytopibkoklagceaa.Rg
open Go Go.RowKit
open Go.Proofs.Ytopibkoklagceaa.H (rndF calls_rnd rows_rnd noDefer noDefer_at list_rnd round_list round_any)

/-! ### A range over a function whose iterator may hold such ranges itself -/
/-- What keeps a loop's books. -/
def bkO : Obj → Bool
  | .loop _ => true
  | .deferred _ => true
  | _ => false
/-- New blocks, and at most one block from B on that keeps a loop's books has turned. -/
def Tn (B : Nat) (A C : World) : Prop := ∃ row : Option Nat, A.grownBy C row ∧ ∀ r, row = some r → B ≤ r ∧ ∃ o : Obj, A.heap[r]? = some o ∧ bkO o = true
theorem Tn.mono {B B' : Nat} {A C : World} (h : Tn B A C) (hB : B' ≤ B) : Tn B' A C := by
  obtain ⟨row, hg, hr⟩ := h
  exact ⟨row, hg, fun r e => ⟨Nat.le_trans hB (hr r e).1, (hr r e).2⟩⟩
theorem Tn.alloc (B : Nat) (A : World) (o : Obj) : Tn B A (A.alloc o) := ⟨none, World.grownBy_alloc A o none, fun _ e => by cases e⟩
theorem Tn.put {B : Nat} {A : World} {r : Nat} {o : Obj} (o' : Obj) (hB : B ≤ r) (h : A.heap[r]? = some o) (hb : bkO o = true) : Tn B A (A.putObj r o') :=
  ⟨some r, grownBy_putObj' A r o', fun q e => by cases e; exact ⟨hB, o, h, hb⟩⟩
theorem Tn.low {B : Nat} {A C : World} (h : Tn B A C) {k : Nat} (hk : k < B) (hA : k < A.heap.size) : C.heap[k]? = A.heap[k]? := by
  obtain ⟨row, hg, hr⟩ := h
  exact hg.block k hA fun e => by have := (hr k e.symm).1; omega
theorem Tn.other {B : Nat} {A C : World} (h : Tn B A C) {k : Nat} {o : Obj} (hk : A.heap[k]? = some o) (ho : bkO o = false) : C.heap[k]? = A.heap[k]? := by
  obtain ⟨row, hg, hr⟩ := h
  refine hg.block k (Array.getElem?_eq_some_iff.1 hk).1 fun e => ?_
  obtain ⟨_, o', h1, h2⟩ := hr k e.symm
  rw [hk] at h1; cases h1; rw [ho] at h2; cases h2
theorem Tn.size {B : Nat} {A C : World} (h : Tn B A C) : A.heap.size ≤ C.heap.size := by obtain ⟨_, hg, _⟩ := h; exact hg.size
theorem grown_below {A C : World} (h : Below A.heap.size A C) : A.grownBy C none := ⟨h.os, h.tape, h.output, h.size, fun i hi _ => h.block i hi⟩
theorem Tn.below {B : Nat} {A C : World} (h : Below A.heap.size A C) : Tn B A C := ⟨none, grown_below h, fun _ e => by cases e⟩
/-- I abides that. -/
def OwL (B : Nat) (I : World → Prop) : Prop := ∀ A C, I A → Tn B A C → I C
/-- All from B on lies as it lay. -/
structure KpL (B : Nat) (W W' : World) : Prop where
  size : W.heap.size ≤ W'.heap.size
  same : ∀ (r : Nat) (o : Obj), B ≤ r → W.heap[r]? = some o → W'.heap[r]? = some o
theorem KpL.refl (B : Nat) (W : World) : KpL B W W := ⟨Nat.le_refl _, fun _ _ _ h => h⟩
theorem KpL.trans {B : Nat} {X Y Z : World} (h : KpL B X Y) (k : KpL B Y Z) : KpL B X Z := ⟨Nat.le_trans h.size k.size, fun r o hB hr => k.same r o hB (h.same r o hB hr)⟩
theorem KpL.mono {B B' : Nat} {X Y : World} (h : KpL B X Y) (hB : B ≤ B') : KpL B' X Y := ⟨h.size, fun r _o hr => h.same r _o (Nat.le_trans hB hr)⟩
theorem KpL.below {B : Nat} {X Y : World} (h : Below X.heap.size X Y) : KpL B X Y := ⟨h.size, fun r _ _ hr => (h.block r (Array.getElem?_eq_some_iff.1 hr).1).trans hr⟩
/-- How a round may be left. -/
def rdP (B : Nat) (Go : World → Prop) (Ix : Code → World → Prop) (W : World) : Exit → Act → World → Prop
  | .normal, _, W' => KpL B W W' ∧ Go W'
  | .ret, _, W' => KpL B W W' ∧ Ix .ret W'
  | .exit id, _, W' => KpL B W W' ∧ Ix (.exit id) W'
  | .goto t, _, W' => KpL B W W' ∧ Ix (.goto t) W'
  | .panic _, _, _ => False
  | .outgrown, _, _ => False
/-- What a call of yield comes to. -/
def Yld (P : Program) (l : Nat) (args : Array Value) (B : Nat) (W : World) (Go St : World → Prop) : Prop :=
  YieldAt Fence.wide 0 P l args W fun e W' => KpL B W W' ∧ ((e = .returned (.bool true) ∧ Go W') ∨ (e = .returned (.bool false) ∧ St W'))
/-- What an iterator gf with the captured values lb does that is called in W1, for the caller's I: it goes on from J i to J (i + 1) by a call of yield where En i holds, or for itself. -/
def ItC (P : Program) (gf : Nat) (lb : Array Value) (k ns : Nat) (En : Nat → Array Value → World → Prop) (I : Nat → World → Prop) (B : Nat) : Prop :=
  ∀ (l : Nat) (W1 : World) (J : Nat → World → Prop) (Jx : World → Prop), B ≤ W1.heap.size → (∀ i, OwL W1.heap.size (J i)) → OwL W1.heap.size Jx → (∀ i W, J i W → I i W) → (∀ i i' W, J i W → I i' W → J i' W) →
    (∀ i vs W, i < k → vs.size = ns → J i W → En i vs W → Yld P l vs W1.heap.size W (J (i + 1)) Jx) → J 0 W1 → Calls P gf (#[.func (.yield l) #[] #[]] ++ lb) W1 fun e W' => (∃ v, e = .returned v) ∧ (J k W' ∨ Jx W')
def endAct (a : Act) (D : Nat) : Act := { a with defers := { target := .collected D, args := #[] } :: a.defers }
theorem range_law {P : Program} {g : Operand} {ps : Array Tmp} {assign body : Code} {Q : Exit → Act → World → Prop} {a : Act} {w : World} {gf : Nat} {lb : Array Value}
    (hg : a.eval g = .func (.func gf) #[] lb) (eg : ∀ args w, (callFunc gf args).run P w = .ok (.enter gf args) w) (k : Nat)
    (En : Nat → Array Value → World → Prop) (I : Nat → World → Prop) (Ix : Code → World → Prop) (hI : ∀ i, OwL w.heap.size (I i)) (hIx : ∀ c, OwL w.heap.size (Ix c)) (h0 : I 0 w) (hseq : ItC P gf lb k ps.size En I w.heap.size)
    (Ax : Nat → Act → World → Prop) (hAx : ∀ i a', OwL w.heap.size (Ax i a'))
    (hassign : ∀ (l i : Nat) (vs : Array Value) (W : World) (K : Act → World → Prop), i < k → vs.size = ps.size → I i W → En i vs W → (∀ a' W', KpL w.heap.size W W' → I i W' → Ax i a' W' → K a' W') →
      assign.wpIn (rndF l) 0 P (Exit.then K (fun _ _ _ => False)) { tmps := (ps.zip vs).foldl (fun t (p, v) => t.setIfInBounds p v) a.tmps, defers := [] } W)
    (hbody : ∀ (l i : Nat) (a' : Act) (W : World), i < k → I i W → Ax i a' W → body.wpIn (rndF l) 0 P (rdP w.heap.size (I (i + 1)) Ix W) a' W)
    (hdone : ∀ (D : Nat) (W : World), w.heap.size ≤ D → I k W → W.heap[D]? = some (.deferred (some [])) → Q .normal (endAct a D) W)
    (hstop : ∀ (D : Nat) (c : Code) (W : World), w.heap.size ≤ D → Ix c W → W.heap[D]? = some (.deferred (some [])) → c.wpIn Fence.wide 0 P Q (endAct a D) W) :
    (Code.rangeFunc g ps assign body).wpIn Fence.wide 0 P Q a w := by
  refine wpIn_rangeFunc fun fn hfn => ?_
  let bk : LoopState → Option Code → Loop := fun st pe => { state := st, pending := pe, fn, tmps := a.tmps, params := ps, assign, body, defers := w.heap.size }
  obtain ⟨W1, hW1⟩ : ∃ W1, (w.alloc (.deferred (some []))).alloc (.loop (bk .ready none)) = W1 := ⟨_, rfl⟩
  have hsz : W1.heap.size = w.heap.size + 2 := by rw [← hW1]; simp
  have hd1 : W1.heap[w.heap.size]? = some (.deferred (some [])) := by rw [← hW1]; exact (Below.heap_alloc _ _ _ (by simp)).trans (World.alloc_heap_new w _)
  have hl1 : W1.heap[w.heap.size + 1]? = some (.loop (bk .ready none)) := by
    rw [← hW1]; have := World.alloc_heap_new (w.alloc (.deferred (some []))) (.loop (bk .ready none)); rwa [World.size_alloc] at this
  have hi1 : I 0 W1 := by rw [← hW1]; exact hI 0 _ _ (hI 0 _ _ h0 (Tn.alloc _ _ _)) (Tn.alloc _ _ _)
  let J : Nat → World → Prop := fun i W => I i W ∧ W.heap[w.heap.size + 1]? = some (.loop (bk .ready none)) ∧ W.heap[w.heap.size]? = some (.deferred (some []))
  let Jx : World → Prop := fun W => ∃ c, Ix c W ∧ W.heap[w.heap.size + 1]? = some (.loop (bk .done (some c))) ∧ W.heap[w.heap.size]? = some (.deferred (some []))
  have kept : ∀ {A C : World} {r : Nat} {o : Obj}, Tn W1.heap.size A C → r < w.heap.size + 2 → A.heap[r]? = some o → C.heap[r]? = some o := fun ht hr h => (ht.low (by omega) (Array.getElem?_eq_some_iff.1 h).1).trans h
  refine ⟨w.heap.size + 1, [{ target := .collected w.heap.size, args := #[] }], W1, { target := .fn (.func gf) lb, args := #[.func (.yield (w.heap.size + 1)) #[] #[]] }, W1, gf, #[.func (.yield (w.heap.size + 1)) #[] #[]] ++ lb, W1, ?_, ?_, fun _ _ => trivial, ?_, fun h => (by cases h), ?_⟩
  · rw [← hW1]; exact run_enterLoop_outer _ _ _ _ _
  · simp only [resolve, hg]; simp [go_sem]
  · simp [invoke, go_sem, eg]
  refine callsIn_wide.2 ((hseq (w.heap.size + 1) W1 J Jx (by omega) (fun i A C hA ht => ⟨hI i A C hA.1 (ht.mono (by omega)), kept ht (by omega) hA.2.1, kept ht (by omega) hA.2.2⟩)
    (fun A C hA ht => by obtain ⟨c, h1, h2, h3⟩ := hA; exact ⟨c, hIx c A C h1 (ht.mono (by omega)), kept ht (by omega) h2, kept ht (by omega) h3⟩)
    (fun i W h => h.1) (fun i i' W h h' => ⟨h', h.2⟩) ?_ ⟨hi1, hl1, hd1⟩).mono ?_)
  · rintro i vs W hik hvs ⟨hi, hl, hd⟩ hen
    have hy := run_yield (P := P) (args := vs) hl hvs
    refine ⟨fn, _, assign, body, hy, roundIn_of_wpIn hfn (hassign _ i vs W _ hik hvs hi hen ?_)⟩
    clear hy
    intro a' Wa hka hia hax
    have hla := hka.same _ _ (by omega) hl
    have hda := hka.same _ _ (Nat.le_refl _) hd
    have hlt : w.heap.size + 1 < Wa.heap.size := (Array.getElem?_eq_some_iff.1 hla).1
    refine ⟨_, run_beginRound hla rfl, ?_⟩
    have tb : Tn w.heap.size Wa (Wa.putObj (w.heap.size + 1) (.loop { bk .ready none with state := .busy })) := Tn.put _ (by omega) hla rfl
    have hl2 : (Wa.putObj (w.heap.size + 1) (.loop { bk .ready none with state := .busy })).heap[w.heap.size + 1]? = some (.loop { bk .ready none with state := .busy }) := World.putObj_heap_same hlt
    have hd2 : (Wa.putObj (w.heap.size + 1) (.loop { bk .ready none with state := .busy })).heap[w.heap.size]? = some (.deferred (some [])) := (World.putObj_heap_other (by omega)).trans hda
    have far : ∀ (r : Nat) (o : Obj), W1.heap.size ≤ r → Wa.heap[r]? = some o → (Wa.putObj (w.heap.size + 1) (.loop { bk .ready none with state := .busy })).heap[r]? = some o := fun r o hr h => (World.putObj_heap_other (by omega)).trans h
    refine wpIn_mono (hbody _ i a' _ hik (hI i _ _ hia tb) (hAx i a' _ _ hax tb)) ?_
    have fin : ∀ (jump : Option Code) (W3 : World), KpL w.heap.size (Wa.putObj (w.heap.size + 1) (.loop { bk .ready none with state := .busy })) W3 →
        (Instr.endRound (w.heap.size + 1) jump).run P W3 = .ok (.bool jump.isNone) (W3.putObj (w.heap.size + 1) (.loop (bk (if jump.isNone then .ready else .done) jump))) ∧
        Tn w.heap.size W3 (W3.putObj (w.heap.size + 1) (.loop (bk (if jump.isNone then .ready else .done) jump))) ∧
        (W3.putObj (w.heap.size + 1) (.loop (bk (if jump.isNone then .ready else .done) jump))).heap[w.heap.size + 1]? = some (.loop (bk (if jump.isNone then .ready else .done) jump)) ∧
        (W3.putObj (w.heap.size + 1) (.loop (bk (if jump.isNone then .ready else .done) jump))).heap[w.heap.size]? = some (.deferred (some [])) ∧
        KpL W1.heap.size W (W3.putObj (w.heap.size + 1) (.loop (bk (if jump.isNone then .ready else .done) jump))) := fun jump W3 hk3 => by
      have hl3 := hk3.same _ _ (by omega) hl2
      exact ⟨run_endRound (P := P) jump hl3, Tn.put _ (by omega) hl3 rfl, World.putObj_heap_same (Array.getElem?_eq_some_iff.1 hl3).1, (World.putObj_heap_other (by omega)).trans (hk3.same _ _ (Nat.le_refl _) hd2),
        ⟨by have := hka.size; have := hk3.size; simp at this ⊢; omega, fun r o hr h => (World.putObj_heap_other (by omega)).trans (hk3.same r o (by omega) (far r o hr (hka.same r o (by omega) h)))⟩⟩
    rintro e a3 W3 hp
    cases e with
    | normal =>
      obtain ⟨hk3, hi3⟩ := hp
      obtain ⟨hr, ht, hl4, hd4, hkp⟩ := fin none W3 hk3
      exact ⟨_, _, hr, hkp, .inl ⟨rfl, hI _ _ _ hi3 ht, hl4, hd4⟩⟩
    | ret =>
      obtain ⟨hk3, hi3⟩ := hp
      obtain ⟨hr, ht, hl4, hd4, hkp⟩ := fin (some .ret) W3 hk3
      exact ⟨_, _, hr, hkp, .inr ⟨rfl, .ret, hIx _ _ _ hi3 ht, hl4, hd4⟩⟩
    | exit id =>
      obtain ⟨hk3, hi3⟩ := hp
      obtain ⟨hr, ht, hl4, hd4, hkp⟩ := fin (some (.exit id)) W3 hk3
      exact ⟨_, _, hr, hkp, .inr ⟨rfl, .exit id, hIx _ _ _ hi3 ht, hl4, hd4⟩⟩
    | goto t =>
      obtain ⟨hk3, hi3⟩ := hp
      obtain ⟨hr, ht, hl4, hd4, hkp⟩ := fin (some (.goto t)) W3 hk3
      exact ⟨_, _, hr, hkp, .inr ⟨rfl, .goto t, hIx _ _ _ hi3 ht, hl4, hd4⟩⟩
    | panic ch => exact hp.elim
    | outgrown => exact hp.elim
  · rintro e W2 ⟨⟨v, rfl⟩, (⟨hi, hl, hd⟩ | ⟨c, hi, hl, hd⟩)⟩
    · exact ⟨none, _, run_endLoop (P := P) hl (by simp [bk]), hdone _ _ (Nat.le_refl _) (hI k _ _ hi (Tn.put _ (by omega) hl rfl)) ((World.putObj_heap_other (by omega)).trans hd)⟩
    · exact ⟨some c, _, run_endLoop (P := P) hl (by simp [bk]), hstop _ c _ (Nat.le_refl _) (hIx c _ _ hi (Tn.put _ (by omega) hl rfl)) ((World.putObj_heap_other (by omega)).trans hd)⟩
/-- .. of two values, where the loop's variables are no boxes. -/
theorem range_two {P : Program} {g : Operand} {ps : Array Tmp} {assign body : Code} {Q : Exit → Act → World → Prop} {a : Act} {w : World} {gf : Nat} {lb : Array Value}
    (hg : a.eval g = .func (.func gf) #[] lb) (eg : ∀ args w, (callFunc gf args).run P w = .ok (.enter gf args) w) (k : Nat) (hps : ps.size = 2)
    (En : Nat → Value → Value → World → Prop) (I : Nat → World → Prop) (Ix : Code → World → Prop) (hEn : ∀ i x y, OwL w.heap.size (En i x y)) (hI : ∀ i, OwL w.heap.size (I i)) (hIx : ∀ c, OwL w.heap.size (Ix c)) (h0 : I 0 w)
    (hseq : ItC P gf lb k 2 (fun i vs W => ∃ x y, vs = #[x, y] ∧ En i x y W) I w.heap.size) (asg : Nat → Value → Value → Act)
    (hassign : ∀ (l i : Nat) (x y : Value) (W : World) (K : Act → World → Prop), i < k → K (asg i x y) W → assign.wpIn (rndF l) 0 P (Exit.then K (fun _ _ _ => False)) { tmps := (ps.zip #[x, y]).foldl (fun t (p, v) => t.setIfInBounds p v) a.tmps, defers := [] } W)
    (hbody : ∀ (l i : Nat) (x y : Value) (W : World), i < k → I i W → En i x y W → body.wpIn (rndF l) 0 P (rdP w.heap.size (I (i + 1)) Ix W) (asg i x y) W)
    (hdone : ∀ (D : Nat) (W : World), w.heap.size ≤ D → I k W → W.heap[D]? = some (.deferred (some [])) → Q .normal (endAct a D) W)
    (hstop : ∀ (D : Nat) (c : Code) (W : World), w.heap.size ≤ D → Ix c W → W.heap[D]? = some (.deferred (some [])) → c.wpIn Fence.wide 0 P Q (endAct a D) W) :
    (Code.rangeFunc g ps assign body).wpIn Fence.wide 0 P Q a w :=
  range_law hg eg k (fun i vs W => ∃ x y, vs = #[x, y] ∧ En i x y W) I Ix hI hIx h0 (hps ▸ hseq) (fun i a' W => ∃ x y, a' = asg i x y ∧ En i x y W) (fun i _ A C h ht => by obtain ⟨x, y, h1, h2⟩ := h; exact ⟨x, y, h1, hEn i x y A C h2 ht⟩)
    (fun l i vs W K hik _ hi hen hK => by obtain ⟨x, y, rfl, hen⟩ := hen; exact hassign l i x y W K hik (hK _ _ (KpL.refl _ _) hi ⟨x, y, rfl, hen⟩)) (fun l i a' W hik hi hax => by obtain ⟨x, y, rfl, hen⟩ := hax; exact hbody l i x y W hik hi hen) hdone hstop
/-! ### A region in a round that calls another loop's yield -/
section
variable {P : Program} {ops : Array Oper} {Q : Exit → Act → World → Prop} {l n : Nat}
end
end Go.Proofs.Ytopibkoklagceaa.Rg

/- Contracts of what writes numbers and texts: clipped, fresh, appendNumber, appendText, Uint, Text of package record. -/
namespace Go.Proofs.Ytopibkoklagceaa
open Go Go.RowKit

theorem wpList_append_run {P : Program} {w w' : World} {ops : Array Oper} {rest : List Oper} {o : Oper} {a : Act} {Q : Exit → Act → World → Prop} (s x : Operand) (t t2 : TypeId)
    (ho : o.op = .call { callee := .builtin .append, args := #[s, x], argTypes := #[t, t2] }) (hw : Region.wanted o (yielded ops a.tmps) = true)
    (v xv v' : Value) (hs : a.eval s = v) (hx : a.eval x = xv) (hr : (Builtin.append_ #[t, t2] o.type #[v, xv]).run P w = .ok v' w') (h : wpList P ops Q rest (a.put o.dst v') w') : wpList P ops Q (o :: rest) a w := by
  refine BigFrame.wpList_want hw fun K hK => ?_
  unfold Oper.wp execOp
  simp only [ho, resolve, invoke, builtin, Sem.run_bind, Sem.run_pure, Result.andThen_ok, List.map_toArray, List.map_cons, List.map_nil, hs, hx, hr]
  exact hK _ _ h
/-- Bytes that are told: in new memory, without spare room. -/
def OutB (B : Nat) (w : World) (v : Value) (bs : List Nat) : Prop := (v = .slice none 0 0 ∧ bs = []) ∨ ∃ g, v = .slice (some ⟨g, 0, none⟩) bs.length bs.length ∧ B ≤ g ∧ g < w.heap.size ∧ (∀ i, i < bs.length → w.cell? ⟨g, i, none⟩ = some (u8 (bs.getD i 0))) ∧ ∀ i, w.frozen? ⟨g, i, none⟩ = false
theorem OutB.form {B : Nat} {w : World} {v : Value} {bs : List Nat} (h : OutB B w v bs) : ∃ po, v = .slice po bs.length bs.length ∧ BL w po bs ∧ (po = none → bs.length = 0) := by
  rcases h with ⟨rfl, rfl⟩ | ⟨g, rfl, _, _, h, _⟩
  · exact ⟨none, rfl, Or.inl rfl, fun _ => rfl⟩
  · exact ⟨_, rfl, Or.inr ⟨g, 0, rfl, fun i hi => by rw [Nat.zero_add]; exact h i hi⟩, fun e => by cases e⟩
theorem OutB.below {B : Nat} {w w' : World} {v : Value} {bs : List Nat} (h : OutB B w v bs) (hb : Below w.heap.size w w') : OutB B w' v bs := by
  rcases h with h | ⟨g, h1, h2, h3, h4, h5⟩
  · exact Or.inl h
  · have e := hb.block g h3
    exact Or.inr ⟨g, h1, h2, by have := hb.size; omega, fun i hi => (World.cell?_of_block e).trans (h4 i hi), fun i => by have := h5 i; unfold World.frozen? at this ⊢; rw [e]; exact this⟩
theorem OutB.base {B C : Nat} {w : World} {v : Value} {bs : List Nat} (h : OutB B w v bs) (hC : C ≤ B) : OutB C w v bs := by
  rcases h with h | ⟨g, h1, h2, h3⟩
  · exact Or.inl h
  · exact Or.inr ⟨g, h1, by omega, h3⟩
theorem Buf.cap {B : Nat} {w : World} {po : Option Addr} {n c : Nat} {L : List Nat} (h : Buf B w (.slice po n c) L) : n = L.length ∧ n ≤ c := by
  rcases h.2 with ⟨e, h0⟩ | ⟨g, cap, cur, e, _, hg, h1, _, h3, h4⟩
  · cases e; exact ⟨h0.symm, Nat.le_refl _⟩
  · cases e; exact ⟨rfl, h1⟩
theorem Buf.out {B : Nat} {w : World} {po : Option Addr} {n c : Nat} {L : List Nat} (h : Buf B w (.slice po n c) L) : OutB B w (.slice po n n) L := by
  have hbl := h.bl
  have hlt := own_ge h
  rcases h.2 with ⟨e, h0⟩ | ⟨g, cap, cur, e, hB, hg, h1, _, h3, h4⟩
  · cases e; exact Or.inl ⟨rfl, List.eq_nil_of_length_eq_zero h0⟩
  · cases e
    have hc : CAt w g cur 5 := hg
    refine Or.inr ⟨g, rfl, hB, hc.lt, fun i hi => ?_, fun i => hc.free i⟩
    rcases hbl with h | ⟨b, o, e, h⟩
    · subst h; simp at hi
    · cases e; have := h i hi; rwa [Nat.zero_add] at this
theorem between_any (n a b : Int) (w : World) : Calls Try.prog 38 #[i64 n, i64 a, i64 b] w fun e w' => e = .returned (.bool (inR n a b)) ∧ w' = w := by
  by_cases h1 : a ≤ n
  · by_cases h2 : n ≤ b
    · have e : inR n a b = true := inR_iff.2 ⟨h1, h2⟩
      rw [e]
      go_enter Try.func38, Try.ntmps38
      go_wp2
      go_ret
      simp
    · have e : inR n a b = false := by simp [inR, h2]
      rw [e]
      go_enter Try.func38, Try.ntmps38
      go_wp2
      go_ret
      simp
  · have e : inR n a b = false := by simp [inR, h1]
    rw [e]
    go_enter Try.func38, Try.ntmps38
    go_wp2
    go_ret
    simp


end Go.Proofs.Ytopibkoklagceaa
