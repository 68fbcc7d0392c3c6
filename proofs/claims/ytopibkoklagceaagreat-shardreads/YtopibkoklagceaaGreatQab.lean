/- Texts laid into one, cut to what is needed: the remark ahead of each part says what is proved there. -/
import Derived.WalkKit
import Derived.Test.YtopibkoklagceaaGreatRows
import Derived.WalkSpells
import Derived.WalkLawsBesides
import Derived.OwnWalk
import Derived.Laws.Rows
import Derived.Laws.CopyOwn
import Derived.Laws.NewBlocks
import Derived.Laws.ResultCell
import Derived.Laws.BytesArg
import Derived.Laws.BytesString
import Derived.Laws.OwnMore
import Derived.Laws.AppendOwnNone
import Derived.Maps.AppendAt
import Derived.Lib.AppendStr
import Derived.Lib.SliceRun
import Derived.Laws.BitsAllLaws
import Derived.Deep.RegionHeld3
import Derived.Deep.QuietTactic
import Derived.Maps.OwnSet
/- Numbers and texts as bytes: mathematics alone. -/
namespace Go.Proofs.YtopibkoklagceaaGreat

/-- A number's bytes. -/
def nb (n : Nat) : List Nat := if n < 128 then [n] else (n % 128 + 128) :: nb (n / 128)
 termination_by n
 decreasing_by omega
/-- A number of at most k bytes from the front. -/
def rdG : Nat → List Nat → Option (Nat × List Nat)
 | 0, _ => none
 | _ + 1, [] => none
 | k + 1, c :: r => if c < 128 then some (c, r) else match rdG k r with
  | some (n, r') => if n = 0 then none else some (c % 128 + 128 * n, r')
  | none => none
def rdU (b : List Nat) : Option (Nat × List Nat) := match rdG 6 b with
 | some (n, r) => if n ≤ 1099511627776 then some (n, r) else none
 | none => none
/-- A text's bytes. -/
def tb (s : List Nat) : List Nat := nb s.length ++ s
end Go.Proofs.YtopibkoklagceaaGreat

/- Records as bytes: mathematics alone. -/
namespace Go.Proofs.YtopibkoklagceaaGreat

/-- A record. Texts are lists of bytes. -/
structure Rc where
 id : List Nat
 time : Int
 mark : Bool
 size : Int
 etag : List Nat
 k : Int
 m : Int
 data : List Nat
 sum : List Nat
 parts : List (Int × Int)
 up : List Nat
 deriving DecidableEq
def dgt (c : Nat) : Bool := decide (48 ≤ c) && decide (c ≤ 57)
def isOf (last : Nat) (dash : Bool) (c : Nat) : Bool := dgt c || (decide (97 ≤ c) && decide (c ≤ last)) || (dash && decide (c = 45))
def okOf (s : List Nat) (least most last : Nat) (dash : Bool) : Bool := s.all (isOf last dash) && decide (least ≤ s.length) && decide (s.length ≤ most)
def okId (s : List Nat) : Bool := okOf s 1 32 122 false
def okData (s : List Nat) : Bool := okOf s 32 32 102 false
def okTag (s : List Nat) : Bool := okOf s 1 40 102 true
def inR (n least most : Int) : Bool := decide (least ≤ n) && decide (n ≤ most)
def okPs : Int → List (Int × Int) → Bool
 | _, [] => true
 | last, p :: r => decide (last < p.1) && decide (p.1 ≤ 10000) && inR p.2 0 65536 && okPs p.1 r
def sumPs (l : List (Int × Int)) : Int := (l.map (·.2)).sum
def okParts (l : List (Int × Int)) (size : Int) : Bool := decide (l.length ≤ 32) && okPs 0 l && (l.isEmpty || decide (sumPs l = size))
def zeroD : List Nat := List.replicate 32 0
def okRc (r : Rc) : Bool := okId r.id && inR r.time 0 1048576 && (if r.mark then decide (r.size = 0) && r.etag.isEmpty && decide (r.k = 0) && decide (r.m = 0) && r.data.isEmpty && decide (r.sum = zeroD) && r.parts.isEmpty && r.up.isEmpty
 else inR r.size 0 65536 && okTag r.etag && inR r.k 1 15 && inR r.m 1 15 && decide (r.k + r.m ≤ 16) && okData r.data && okParts r.parts r.size && (r.up.isEmpty || okId r.up) && decide (r.sum.length = 32))
def ib (n : Int) : List Nat := nb n.toNat
def psB (l : List (Int × Int)) : List Nat := (l.map fun p => ib p.1 ++ ib p.2).flatten
def rcB (r : Rc) : List Nat := tb r.id ++ ib r.time ++ (if r.mark then [1] else [0] ++ ib r.size ++ tb r.etag ++ ib r.k ++ ib r.m ++ tb r.data ++ r.sum ++ nb r.parts.length ++ psB r.parts ++ tb r.up)
/-- So many pairs of numbers from the front. -/
def rdPs : Nat → List Nat → Option (List (Int × Int) × List Nat)
 | 0, b => some ([], b)
 | n + 1, b => do
  let (x, b) ← rdU b
  let (y, b) ← rdU b
  let (l, b) ← rdPs n b
  return (((x : Int), (y : Int)) :: l, b)
section
variable {b : List Nat}
theorem inR_iff {n least most : Int} : inR n least most = true ↔ least ≤ n ∧ n ≤ most := by simp [inR]
end
end Go.Proofs.YtopibkoklagceaaGreat

/- Journals as bytes: mathematics alone. D: the digest, of which nothing is asked but its length. -/
namespace Go.Proofs.YtopibkoklagceaaGreat

def rsB (l : List Rc) : List Nat := (l.map rcB).flatten
section
variable {D : List Nat → List Nat}
end
end Go.Proofs.YtopibkoklagceaaGreat

/- Journals: what is added, removed, found. Mathematics alone. -/
namespace Go.Proofs.YtopibkoklagceaaGreat

/-- The place of a record. -/
def atI : List Rc → List Nat → Option Nat
 | [], _ => none
 | r :: l, id => if r.id = id then some 0 else (atI l id).map (· + 1)
theorem atI_some : ∀ {l : List Rc} {id : List Nat} {i : Nat}, atI l id = some i → ∃ h : i < l.length, l[i].id = id ∧ ∀ j (hj : j < i), (l[j]'(by omega)).id ≠ id
 | [], _, _, h => by cases h
 | r :: l, id, i, h => by
  rw [atI] at h
  by_cases h1 : r.id = id
  ·rw [if_pos h1] at h
   cases h
   exact ⟨by simp, h1, fun j hj => absurd hj (Nat.not_lt_zero _)⟩
  ·rw [if_neg h1] at h
   obtain ⟨k, hk, e⟩ := Option.map_eq_some_iff.1 h
   subst e
   obtain ⟨h2, h3, h4⟩ := atI_some hk
   refine ⟨by simp; omega, by simpa using h3, fun j hj => ?_⟩
   cases j with
   | zero => simpa using h1
   | succ j => simpa using h4 j (by omega)
end Go.Proofs.YtopibkoklagceaaGreat

/- Which of the drives' journals counts. Mathematics alone. -/
namespace Go.Proofs.YtopibkoklagceaaGreat

/-- What a drive answers. -/
structure Cp where
 err : Int
 b : List Nat
section
variable (D : List Nat → List Nat)
/-- 'As good as, or less than'. -/
def leC (x y : Int × Nat) : Prop := x.1 < y.1 ∨ x.1 = y.1 ∧ x.2 ≤ y.2
theorem leC.refl (x : Int × Nat) : leC x x := Or.inr ⟨rfl, Nat.le_refl _⟩
theorem leC.trans {x y z : Int × Nat} (h : leC x y) (k : leC y z) : leC x z := by
 unfold leC at *
 omega
variable {D}
end
end Go.Proofs.YtopibkoklagceaaGreat

/- What memory holds: blocks, what stays, bytes in slices, texts; rows of bytes of one's own and what is appended to them. -/
namespace Go.Proofs.YtopibkoklagceaaGreat
open Go Go.RowKit

theorem hid {p : Prop} (h : p) : Hid p := h
def u8 (k : Nat) : Value := .int .u8 (k : Int)
abbrev ptr (p : Nat) : Value := .pointer (some ⟨p, 0, none⟩)
abbrev i64 (k : Int) : Value := .int .i64 k
theorem under9 : Tryz.prog.underlying 9 = some .string := by kernel_rfl
theorem Tryz.info5 : (Tryz.prog.info? 5).map (fun i => (i.zero, i.size, i.bytes)) = some (some (.int .u8 0), 1, 1) := by kernel_rfl
theorem add_zero' (a : Addr) : a.add 0 = a := by simp [Addr.add]
theorem add_none (b o n : Nat) : (⟨b, o, none⟩ : Addr).add n = ⟨b, o + n, none⟩ := by unfold Addr.add; split <;> simp_all

/-- Block b has these cells, none of them frozen. -/
def CAt (w : World) (b : Nat) (cs : Array Value) (t : TypeId) : Prop := w.heap[b]? = some (.cells cs t (0, 0))
theorem CAt.lt {w : World} {b : Nat} {cs : Array Value} {t : TypeId} (h : CAt w b cs t) : b < w.heap.size := (Array.getElem?_eq_some_iff.1 h).1
theorem CAt.cell {w : World} {b : Nat} {cs : Array Value} {t : TypeId} (h : CAt w b cs t) (i : Nat) : w.cell? ⟨b, i, none⟩ = cs[i]? := by
 simp [World.cell?, show w.heap[b]? = _ from h]
theorem CAt.free {w : World} {b : Nat} {cs : Array Value} {t : TypeId} (h : CAt w b cs t) (i : Nat) : w.frozen? ⟨b, i, none⟩ = false := by
 simp [World.frozen?, show w.heap[b]? = _ from h]
theorem CAt.set {w : World} {b : Nat} {cs : Array Value} {t : TypeId} (h : CAt w b cs t) (i : Nat) (v : Value) : CAt (w.setCell ⟨b, i, none⟩ v) b (cs.setIfInBounds i v) t := by
 unfold CAt at *
 simp [World.setCell, Array.getElem?_modify, h]
theorem CAt.keep {w w' : World} {b : Nat} {cs : Array Value} {t : TypeId} (h : CAt w b cs t) (e : w'.heap[b]? = w.heap[b]?) : CAt w' b cs t := e.trans h
theorem CAt.made (w : World) (cs : Array Value) (t : TypeId) : CAt (w.alloc (.cells cs t)) w.heap.size cs t := (MapKept.heap_alloc w _).1
theorem CAt.below {w w' : World} {b : Nat} {cs : Array Value} {t : TypeId} (h : CAt w b cs t) (hb : Below w.heap.size w w') : CAt w' b cs t := h.keep (hb.block b h.lt)
theorem heap_setCell_ne (w : World) (a : Addr) (v : Value) (b : Nat) (h : b ≠ a.block) : (w.setCell a v).heap[b]? = w.heap[b]? := RowKit.Below.heap_setCell _ _ _ _ h
theorem setCell_size (w : World) (a : Addr) (v : Value) : (w.setCell a v).heap.size = w.heap.size := by
 unfold World.setCell; split <;> simp
theorem size_al (w : World) (o : Obj) : (w.alloc o).heap.size = w.heap.size + 1 := by simp
theorem at_new (w : World) (o : Obj) : (w.alloc o).heap[w.heap.size]? = some o := (MapKept.heap_alloc w o).1
theorem heap_alloc_old (w : World) (o : Obj) {b : Nat} (h : b < w.heap.size) : (w.alloc o).heap[b]? = w.heap[b]? := (MapKept.heap_alloc w o).2 b h
theorem below_al (w : World) (o : Obj) : Below w.heap.size w (w.alloc o) := (Below.refl _ _).alloc (Nat.le_refl _) _
theorem below_on {w0 : World} {w w' : World} (h : Below w0.heap.size w0 w) (hb : Below w.heap.size w w') : Below w0.heap.size w0 w' :=
 ⟨hb.os.trans h.os, hb.tape.trans h.tape, hb.output.trans h.output, Nat.le_trans h.size hb.size, fun k hk => (hb.block k (Nat.lt_of_lt_of_le hk h.size)).trans (h.block k hk)⟩
theorem cell_lt' {w : World} {a : Addr} (h : w.cell? a ≠ none) : a.block < w.heap.size := by
 rcases Nat.lt_or_ge a.block w.heap.size with h1 | h1
 ·exact h1
 ·exact absurd (by simp [World.cell?, Array.getElem?_eq_none h1]) h

/-- Of what was there nothing has turned but blocks of S. -/
structure Only (S : Nat → Prop) (w w' : World) : Prop where
 os : w'.os = w.os
 tape : w'.tape = w.tape
 output : w'.output = w.output
 size : w.heap.size ≤ w'.heap.size
 block : ∀ k, k < w.heap.size → ¬ S k → w'.heap[k]? = w.heap[k]?
theorem Only.refl (S : Nat → Prop) (w : World) : Only S w w := ⟨rfl, rfl, rfl, Nat.le_refl _, fun _ _ _ => rfl⟩
theorem Only.trans {S : Nat → Prop} {a b c : World} (h : Only S a b) (k : Only S b c) : Only S a c :=
 ⟨k.os.trans h.os, k.tape.trans h.tape, k.output.trans h.output, Nat.le_trans h.size k.size, fun i hi hs => (k.block i (Nat.lt_of_lt_of_le hi h.size) hs).trans (h.block i hi hs)⟩
theorem Only.then {S T : Nat → Prop} {a b c : World} (h : Only S a b) (k : Only T b c) (hT : ∀ i, i < a.heap.size → T i → S i) : Only S a c :=
 ⟨k.os.trans h.os, k.tape.trans h.tape, k.output.trans h.output, Nat.le_trans h.size k.size, fun i hi hs => (k.block i (Nat.lt_of_lt_of_le hi h.size) (fun ht => hs (hT i hi ht))).trans (h.block i hi hs)⟩
theorem Only.mono {S T : Nat → Prop} {a b : World} (h : Only S a b) (hS : ∀ i, S i → T i) : Only T a b := ⟨h.os, h.tape, h.output, h.size, fun i hi hs => h.block i hi fun k => hs (hS i k)⟩
theorem Only.of_below {S : Nat → Prop} {a b : World} (h : Below a.heap.size a b) : Only S a b := ⟨h.os, h.tape, h.output, h.size, fun i hi _ => h.block i hi⟩
theorem Only.below {S : Nat → Prop} {a b : World} {B : Nat} (h : Only S a b) (hB : B ≤ a.heap.size) (hS : ∀ i, S i → B ≤ i) : Below B a b :=
 ⟨h.os, h.tape, h.output, h.size, fun i hi => h.block i (by omega) fun k => by have := hS i k; omega⟩
theorem Only.of_grown {S : Nat → Prop} {a b : World} {r : Option Nat} (h : a.grownBy b r) (hr : ∀ k, r = some k → k < a.heap.size → S k) : Only S a b :=
 ⟨h.os, h.tape, h.output, h.size, fun i hi hs => h.block i hi fun e => hs (hr i e.symm hi)⟩
theorem Only.set {S : Nat → Prop} (w : World) (a : Addr) (v : Value) (h : S a.block) : Only S w (w.setCell a v) := by
 exact ⟨rfl, rfl, rfl, Nat.le_of_eq (setCell_size w a v).symm, fun k _ hk => heap_setCell_ne _ _ _ _ fun e => hk (e ▸ h)⟩
theorem Only.alloc {S : Nat → Prop} (w : World) (o : Obj) : Only S w (w.alloc o) := Only.of_grown (World.grownBy_alloc w o none) (by simp)
theorem below_grown {B : Nat} {w w1 w2 : World} {r : Option Nat} (h : Below B w w1) (hg : w1.grownBy w2 r) (hB : B ≤ w.heap.size) (hr : ∀ b, r = some b → B ≤ b) : Below B w w2 :=
 ⟨hg.os.trans h.os, hg.tape.trans h.tape, hg.output.trans h.output, Nat.le_trans h.size hg.size, fun k hk => (hg.block k (by have := h.size; omega) fun e => by have := hr k e.symm; omega).trans (h.block k hk)⟩
theorem below_tr {B : Nat} {w w1 w2 : World} (h : Below B w w1) (k : Below B w1 w2) : Below B w w2 :=
 ⟨k.os.trans h.os, k.tape.trans h.tape, k.output.trans h.output, Nat.le_trans h.size k.size, fun i hi => (k.block i hi).trans (h.block i hi)⟩
theorem below_less {B C : Nat} {w w1 : World} (h : Below B w w1) (hC : C ≤ B) : Below C w w1 := ⟨h.os, h.tape, h.output, h.size, fun i hi => h.block i (by omega)⟩
theorem ownsRow_keep {w w' : World} {B e n s : Nat} {v : Value} {xs : List Value} (h : w.ownsRow B e s v n xs) (hk : ∀ b, v.ownBlock = some b → w'.heap[b]? = w.heap[b]?) : w'.ownsRow B e s v n xs := by
 obtain ⟨h1, h2⟩ := h
 refine ⟨h1, ?_⟩
 rcases h2 with h2 | ⟨g, cap, cur, rfl, hB, hb, r⟩
 ·exact Or.inl h2
 ·exact Or.inr ⟨g, cap, cur, rfl, hB, (hk g rfl).trans hb, r⟩
theorem own_form {w : World} {B e sz n : Nat} {v : Value} {xs : List Value} (h : w.ownsRow B e sz v n xs) : ∃ po cc, v = .slice po n cc := by
 rcases h.2 with ⟨rfl, rfl⟩ | ⟨g, cap, cur, rfl, _⟩
 ·exact ⟨_, _, rfl⟩
 ·exact ⟨_, _, rfl⟩
theorem own_ge {w : World} {B e sz n : Nat} {v : Value} {xs : List Value} (h : w.ownsRow B e sz v n xs) : ∀ b, v.ownBlock = some b → B ≤ b ∧ b < w.heap.size := fun b hb => World.ownsRow.lt h b hb
theorem own_base {w : World} {B B2 e sz n : Nat} {v : Value} {xs : List Value} (h : w.ownsRow B e sz v n xs) (hB : B2 ≤ B) : w.ownsRow B2 e sz v n xs := by
 refine ⟨h.1, ?_⟩
 rcases h.2 with h2 | ⟨g, cap, cur, rfl, hb, r⟩
 ·exact Or.inl h2
 ·exact Or.inr ⟨g, cap, cur, rfl, Nat.le_trans hB hb, r⟩

/-- A text's bytes. -/
def lst (s : ByteArray) : List Nat := s.data.toList.map UInt8.toNat
theorem lst_len (s : ByteArray) : (lst s).length = s.size := by unfold lst; rw [List.length_map, Array.length_toList]; rfl
theorem lst_lt (s : ByteArray) : ∀ x ∈ lst s, x < 256 := fun x hx => by
 obtain ⟨c, _, rfl⟩ := List.mem_map.1 hx; exact c.toNat_lt
theorem lst_inj {s t : ByteArray} (h : lst s = lst t) : s = t := by
 have : s.data.toList = t.data.toList := by
  unfold lst at h
  exact (List.map_inj_right (f := UInt8.toNat) (fun x y e => UInt8.toNat_inj.1 e)).1 h
 cases s; cases t; simp at this; rw [this]
def ba (l : List Nat) : ByteArray := strOfNums (l.map fun (k : Nat) => (k : Int))
theorem lst_ba {l : List Nat} (h : ∀ x ∈ l, x < 256) : lst (ba l) = l := by
 unfold lst ba
 rw [strOfNums_data, List.map_map, List.map_map]
 refine (List.map_congr_left fun x hx => ?_).trans (List.map_id l)
 have := h x hx
 simp only [Function.comp_apply, Int.toNat_natCast, id_eq]
 rw [UInt8.toNat_ofNat']; omega
theorem lst_nil : lst ⟨#[]⟩ = [] := rfl
theorem lst_beq (s t : ByteArray) : (s.toList == t.toList) = decide (lst s = lst t) := by
 rw [ByteArray.toList_eq, ByteArray.toList_eq]
 by_cases h : lst s = lst t
 ·have := lst_inj h; subst this; simp
 ·have : s.data.toList ≠ t.data.toList := fun e => h (by unfold lst; rw [e])
  rw [decide_eq_false h]
  exact Bool.eq_false_iff.2 fun e => this (eq_of_beq e)

/-- The slice leads to the bytes bs. -/
def BL (w : World) (po : Option Addr) (bs : List Nat) : Prop := bs = [] ∨ ∃ b o, po = some ⟨b, o, none⟩ ∧ ∀ i, i < bs.length → w.cell? ⟨b, o + i, none⟩ = some (u8 (bs.getD i 0))
theorem BL.keep {w w' : World} {po : Option Addr} {bs : List Nat} (h : BL w po bs) (hk : ∀ a, w.cell? a ≠ none → w'.cell? a = w.cell? a) : BL w' po bs := by
 rcases h with h | ⟨b, o, rfl, h⟩
 ·exact Or.inl h
 ·exact Or.inr ⟨b, o, rfl, fun i hi => (hk _ (by rw [h i hi]; simp)).trans (h i hi)⟩
theorem BL.below {w w' : World} {po : Option Addr} {bs : List Nat} (h : BL w po bs) (hb : Below w.heap.size w w') : BL w' po bs :=
 h.keep fun a ha => World.cell?_of_block (hb.block a.block (cell_lt' ha))
theorem BL.onlyAt {w w' : World} {po : Option Addr} {bs : List Nat} {S : Nat → Prop} (h : BL w po bs) (ho : Only S w w') (hS : bs ≠ [] → ∀ a, po = some a → ¬ S a.block) : BL w' po bs := by
 rcases h with h | ⟨b, o, rfl, h⟩
 ·exact Or.inl h
 ·refine Or.inr ⟨b, o, rfl, fun i hi => ?_⟩
  have hne : bs ≠ [] := fun e => by subst e; simp at hi
  have hc := h i hi
  exact (World.cell?_of_block (ho.block b (cell_lt' (a := ⟨b, o + i, none⟩) (by rw [hc]; simp)) (hS hne _ rfl))).trans hc
theorem BL.nil (w : World) (po : Option Addr) : BL w po [] := Or.inl rfl
theorem BL.conv {w : World} {po : Option Addr} {bs : List Nat} (h : BL w po bs) (c : Nat) : (convert 22 9 (.slice po bs.length c)).run Tryz.prog w = .ok (.string (ba bs)) w := by
 rcases h with rfl | ⟨b, o, rfl, h⟩
 ·rw [run_convert_bytes_string w 22 9 5 _ _ c Tryz.underlying22 Tryz.underlying5 Tryz.underlying9]
  cases po <;> simp [Conv.bytesToString, loadCells, ba]
  all_goals rfl
 ·exact run_convert_bytes_arg w 22 5 Tryz.underlying22 Tryz.underlying5 b o bs.length c _ (by simp) (fun i hi => by rw [h i hi]; simp [List.getD, hi, u8]) 9 Tryz.underlying9
theorem getD_drop (bs : List Nat) (n i : Nat) : (bs.drop n).getD i 0 = bs.getD (n + i) 0 := by simp [List.getD]
theorem getD_take {bs : List Nat} {n i : Nat} (h : i < n) : (bs.take n).getD i 0 = bs.getD i 0 := by simp [List.getD, h]
theorem BL.drop {w : World} {b o : Nat} {bs : List Nat} (h : BL w (some ⟨b, o, none⟩) bs) (n : Nat) : BL w (some ⟨b, o + n, none⟩) (bs.drop n) := by
 rcases h with rfl | ⟨b', o', e, h⟩
 ·exact Or.inl (by simp)
 ·cases e
  refine Or.inr ⟨b, o + n, rfl, fun i hi => ?_⟩
  rw [List.length_drop] at hi
  rw [getD_drop, show o + n + i = o + (n + i) by omega]
  exact h (n + i) (by omega)
theorem BL.take {w : World} {po : Option Addr} {bs : List Nat} (h : BL w po bs) (n : Nat) : BL w po (bs.take n) := by
 rcases h with rfl | ⟨b, o, rfl, h⟩
 ·exact Or.inl (by simp)
 ·refine Or.inr ⟨b, o, rfl, fun i hi => ?_⟩
  rw [List.length_take] at hi
  rw [getD_take (by omega)]
  exact h i (by omega)
/-- Bytes in a row of their own. -/
def Buf (B : Nat) (w : World) (v : Value) (L : List Nat) : Prop := w.ownsRow B 5 1 v L.length (L.map u8)
theorem Buf.nil (B : Nat) (w : World) : Buf B w (.slice none 0 0) [] := World.ownsRow_nil w B 5 1
theorem Buf.form {B : Nat} {w : World} {v : Value} {L : List Nat} (h : Buf B w v L) : ∃ po cc, v = .slice po L.length cc := own_form h
theorem Buf.below {B : Nat} {w w' : World} {v : Value} {L : List Nat} (h : Buf B w v L) (hb : Below w.heap.size w w') : Buf B w' v L :=
 ownsRow_keep h fun b hv => hb.block b (own_ge h b hv).2
theorem Buf.bl {B : Nat} {w : World} {po : Option Addr} {n c : Nat} {L : List Nat} (h : Buf B w (.slice po n c) L) : BL w po L := by
 rcases h.2 with ⟨e, h0⟩ | ⟨g, cap, cur, e, _, hg, h1, _, h3, h4⟩
 ·exact Or.inl (List.eq_nil_of_length_eq_zero h0)
 ·cases e
  refine Or.inr ⟨g, 0, rfl, fun i hi => ?_⟩
  have hc : CAt w g cur 5 := hg
  rw [Nat.zero_add, hc.cell]
  have := congrArg (fun l => l[i]?) h4
  simp [hi] at this
  rw [this]
  simp [u8, List.getD, List.getElem?_eq_getElem hi]
/-- append(v, b...), the bytes anywhere. -/
theorem Buf.app {B : Nat} {w : World} {v : Value} {L : List Nat} (hv : Buf B w v L) (po : Option Addr) (c : Nat) (bs : List Nat) (hb : BL w po bs) (hc : po = none → c = 0) (hn : L.length + bs.length ≤ 2000000) (hB : B ≤ w.heap.size) :
  ∃ v' w', (Builtin.append_ #[22, 22] 22 #[v, .slice po bs.length c]).run Tryz.prog w = .ok v' w' ∧ Buf B w' v' (L ++ bs) ∧ w.grownBy w' v.ownBlock := by
 obtain ⟨i0, hi0, hz0, hz1, hz2⟩ := info_parts Tryz.info5
 cases po with
 | none =>
  have : bs = [] := by rcases hb with h | ⟨b, o, h, _⟩
                       ·exact h
                       ·cases h
  subst this
  obtain rfl := hc rfl
  refine ⟨v, w, run_append_owned_none (P := Tryz.prog) (w := w) B 22 22 5 i0 1 Tryz.underlying22 hi0 v _ _ hv, by simpa using hv, ⟨rfl, rfl, rfl, Nat.le_refl _, fun _ _ _ => rfl⟩⟩
 | some a =>
  obtain ⟨v', w', hr, h2, h3, _, _⟩ := run_append_own_at (P := Tryz.prog) w B 22 22 5 i0 (.int .u8 0) 1 1 Tryz.underlying22 hi0 hz0 hz1 hz2 rfl (by decide) v L.length (L.map u8) hv a bs.length c (bs.map u8) (by simp) (fun j u hj => by
    have hjl : j < bs.length := by
     rcases Nat.lt_or_ge j bs.length with q | q
     ·exact q
     ·rw [List.getElem?_eq_none (by simpa using q)] at hj; cases hj
    have e : u = u8 (bs.getD j 0) := by simp [hjl] at hj; rw [← hj]; simp [List.getD, hjl]
    rcases hb with h | ⟨b, o, e2, h⟩
    ·subst h; simp at hjl
    ·cases e2
     rw [add_none, e]; exact h j hjl) (by intro u hu; simp at hu; obtain ⟨k, _, rfl⟩ := hu; rfl) (by unfold maxLen; omega) (by omega) hB
  refine ⟨v', w', hr, ?_, h3⟩
  unfold Buf; rw [List.length_append, List.map_append]; exact h2
end Go.Proofs.YtopibkoklagceaaGreat

/- Contracts of what writes numbers and texts: clipped, fresh, appendNumber, appendText, Uint, Text of package record. -/
namespace Go.Proofs.YtopibkoklagceaaGreat
open Go Go.RowKit

theorem wpList_append_run {P : Program} {w w' : World} {ops : Array Oper} {rest : List Oper} {o : Oper} {a : Act} {Q : Exit → Act → World → Prop} (s x : Operand) (t t2 : TypeId)
  (ho : o.op = .call { callee := .builtin .append, args := #[s, x], argTypes := #[t, t2] }) (hw : Region.wanted o (yielded ops a.tmps) = true)
  (v xv v' : Value) (hs : a.eval s = v) (hx : a.eval x = xv) (hr : (Builtin.append_ #[t, t2] o.type #[v, xv]).run P w = .ok v' w') (h : wpList P ops Q rest (a.put o.dst v') w') : wpList P ops Q (o :: rest) a w := by
 refine BigFrame.wpList_want hw fun K hK => ?_
 unfold Oper.wp execOp
 simp only [ho, resolve, invoke, builtin, Sem.run_bind, Sem.run_pure, Result.andThen_ok, List.map_toArray, List.map_cons, List.map_nil, hs, hx, hr]
 exact hK _ _ h
def BufS (B : Nat) (w : World) (L : List Nat) (e : Ending) (w' : World) : Prop := ∃ v', e = .returned v' ∧ Buf B w' v' L ∧ Below B w w'
/-- Bytes that are told: in new memory, without spare room. -/
def OutB (B : Nat) (w : World) (v : Value) (bs : List Nat) : Prop := (v = .slice none 0 0 ∧ bs = []) ∨ ∃ g, v = .slice (some ⟨g, 0, none⟩) bs.length bs.length ∧ B ≤ g ∧ g < w.heap.size ∧ (∀ i, i < bs.length → w.cell? ⟨g, i, none⟩ = some (u8 (bs.getD i 0))) ∧ ∀ i, w.frozen? ⟨g, i, none⟩ = false
theorem OutB.form {B : Nat} {w : World} {v : Value} {bs : List Nat} (h : OutB B w v bs) : ∃ po, v = .slice po bs.length bs.length ∧ BL w po bs ∧ (po = none → bs.length = 0) := by
 rcases h with ⟨rfl, rfl⟩ | ⟨g, rfl, _, _, h, _⟩
 ·exact ⟨none, rfl, Or.inl rfl, fun _ => rfl⟩
 ·exact ⟨_, rfl, Or.inr ⟨g, 0, rfl, fun i hi => by rw [Nat.zero_add]; exact h i hi⟩, fun e => by cases e⟩
theorem OutB.below {B : Nat} {w w' : World} {v : Value} {bs : List Nat} (h : OutB B w v bs) (hb : Below w.heap.size w w') : OutB B w' v bs := by
 rcases h with h | ⟨g, h1, h2, h3, h4, h5⟩
 ·exact Or.inl h
 ·have e := hb.block g h3
  exact Or.inr ⟨g, h1, h2, by have := hb.size; omega, fun i hi => (World.cell?_of_block e).trans (h4 i hi), fun i => by have := h5 i; unfold World.frozen? at this ⊢; rw [e]; exact this⟩
theorem OutB.base {B C : Nat} {w : World} {v : Value} {bs : List Nat} (h : OutB B w v bs) (hC : C ≤ B) : OutB C w v bs := by
 rcases h with h | ⟨g, h1, h2, h3⟩
 ·exact Or.inl h
 ·exact Or.inr ⟨g, h1, by omega, h3⟩
theorem elem8 (w : World) : (sizeOf (Tryz.prog.elem 22)).run Tryz.prog w = .ok 1 w := by
 have hi : (Tryz.prog.info? (Tryz.prog.elem 22)).map (·.size) = some 1 := by kernel_rfl
 obtain ⟨i, h1, h2⟩ := Option.map_eq_some_iff.1 hi
 simp [sizeOf, typeInfo, h1, h2]
theorem underE8 : Tryz.prog.underlying 22 = some (.slice (Tryz.prog.elem 22)) := by kernel_rfl
theorem Buf.cap {B : Nat} {w : World} {po : Option Addr} {n c : Nat} {L : List Nat} (h : Buf B w (.slice po n c) L) : n = L.length ∧ n ≤ c := by
 rcases h.2 with ⟨e, h0⟩ | ⟨g, cap, cur, e, _, hg, h1, _, h3, h4⟩
 ·cases e; exact ⟨h0.symm, Nat.le_refl _⟩
 ·cases e; exact ⟨rfl, h1⟩
theorem Buf.out {B : Nat} {w : World} {po : Option Addr} {n c : Nat} {L : List Nat} (h : Buf B w (.slice po n c) L) : OutB B w (.slice po n n) L := by
 have hbl := h.bl
 have hlt := own_ge h
 rcases h.2 with ⟨e, h0⟩ | ⟨g, cap, cur, e, hB, hg, h1, _, h3, h4⟩
 ·cases e; exact Or.inl ⟨rfl, List.eq_nil_of_length_eq_zero h0⟩
 ·cases e
  have hc : CAt w g cur 5 := hg
  refine Or.inr ⟨g, rfl, hB, hc.lt, fun i hi => ?_, fun i => hc.free i⟩
  rcases hbl with h | ⟨b, o, e, h⟩
  ·subst h; simp at hi
  ·cases e; have := h i hi; rwa [Nat.zero_add] at this
theorem between_any (n a b : Int) (w : World) : Calls Tryz.prog 81 #[i64 n, i64 a, i64 b] w fun e w' => e = .returned (.bool (inR n a b)) ∧ w' = w := by
 by_cases h1 : a ≤ n
 ·by_cases h2 : n ≤ b
  ·have e : inR n a b = true := inR_iff.2 ⟨h1, h2⟩
   rw [e]
   go_enter Tryz.func81, Tryz.ntmps81
   go_wp2
   go_ret
   simp
  ·have e : inR n a b = false := by simp [inR, h2]
   rw [e]
   go_enter Tryz.func81, Tryz.ntmps81
   go_wp2
   go_ret
   simp
 ·have e : inR n a b = false := by simp [inR, h1]
  rw [e]
  go_enter Tryz.func81, Tryz.ntmps81
  go_wp2
  go_ret
  simp


end Go.Proofs.YtopibkoklagceaaGreat

/- Contracts of number and text of the reader of package record; of readerOf, told, ReadUint and ReadText. -/
namespace Go.Proofs.YtopibkoklagceaaGreat
open Go Go.RowKit

/-- What the first i bytes, each with more behind it, make of the number. -/
def Acc (L : List Nat) (i acc : Nat) (L' : List Nat) : Prop := acc < 128 ^ i ∧ rdG 6 L = match rdG (6 - i) L' with
 | some (m, r) => if 0 < i ∧ m = 0 then none else some (acc + 128 ^ i * m, r)
 | none => none
theorem Acc.start (L : List Nat) : Acc L 0 0 L := by
 refine ⟨by simp, ?_⟩
 show rdG 6 L = _
 cases h : rdG 6 L with
 | none => simp
 | some p => obtain ⟨m, r⟩ := p; simp
theorem Acc.more {L : List Nat} {i acc c : Nat} {r : List Nat} (h : Acc L i acc (c :: r)) (hi : i < 6) (hc : 128 ≤ c) (hc2 : c < 256) : Acc L (i + 1) (acc + 128 ^ i * (c % 128)) r := by
 obtain ⟨h1, h2⟩ := h
 have hp : 0 < 128 ^ i := Nat.pow_pos (by omega)
 refine ⟨?_, ?_⟩
 ·rw [Nat.pow_succ]
  have : 128 ^ i * (c % 128) ≤ 128 ^ i * 127 := Nat.mul_le_mul_left _ (by omega)
  omega
 ·rw [h2, show 6 - i = (6 - (i + 1)) + 1 by omega]
  conv => lhs; unfold rdG
  rw [if_neg (by omega)]
  cases hr : rdG (6 - (i + 1)) r with
  | none => rfl
  | some p =>
   obtain ⟨m, t⟩ := p
   by_cases hm : m = 0
   ·simp [hm]
   ·have h3 : ¬ (c % 128 + 128 * m = 0) := by omega
    simp only [hm, if_false, and_false, h3, Nat.pow_succ]
    congr 2
    rw [Nat.mul_add, Nat.add_assoc, Nat.mul_assoc]
/- behind number_some -/
end Go.Proofs.YtopibkoklagceaaGreat

/- Contracts of the document's Uint, Text, ReadUint and ReadText. -/
namespace Go.Proofs.YtopibkoklagceaaGreat
open Go Go.RowKit

theorem Buf.one (w : World) (k : Nat) (B : Nat) (hB : B ≤ w.heap.size) : Buf B (w.alloc (.cells #[u8 k] 5)) (.slice (some ⟨w.heap.size, 0, none⟩) 1 1) [k] :=
 ⟨rfl, Or.inr ⟨w.heap.size, 1, #[u8 k], rfl, hB, at_new _ _, Nat.le_refl _, by unfold maxLen; omega, rfl, rfl⟩⟩
theorem Buf.base {B C : Nat} {w : World} {v : Value} {L : List Nat} (h : Buf B w v L) (hC : C ≤ B) : Buf C w v L := own_base h hC
theorem Buf.capn {B : Nat} {w : World} {n c : Nat} {L : List Nat} (h : Buf B w (.slice none n c) L) : c = 0 := by
 rcases h.2 with ⟨h, _⟩ | ⟨g, _, _, h, _⟩
 ·simp at h; exact h.2
 ·simp at h

end Go.Proofs.YtopibkoklagceaaGreat

/- Contracts of the document's ReadUint and ReadText. (The rounds of the loop are written by tools/gen_Vg.py.) -/
namespace Go.Proofs.YtopibkoklagceaaGreat
open Go Go.RowKit

/-- A slice leads to these bytes. -/
def SL (w : World) (v : Value) (r : List Nat) : Prop := ∃ po c, v = .slice po r.length c ∧ BL w po r ∧ r.length ≤ c
theorem SL.below {w w' : World} {v : Value} {r : List Nat} (h : SL w v r) (hb : Below w.heap.size w w') : SL w' v r := by
 obtain ⟨po, c, h1, h2, h3⟩ := h; exact ⟨po, c, h1, h2.below hb, h3⟩
/- behind rReadUint_any -/
end Go.Proofs.YtopibkoklagceaaGreat

/- Contracts of the document's ReadText; of SameBytes and CopyBytes of the statements' kit. -/
namespace Go.Proofs.YtopibkoklagceaaGreat
open Go Go.RowKit

theorem sameB_any {w : World} {u v : Value} {x y : List Nat} (hu : SL w u x) (hv : SL w v y) (hx : ∀ z ∈ x, z < 256) (hy : ∀ z ∈ y, z < 256) :
  Calls Tryz.prog 23 #[u, v] w fun e w' => e = .returned (.bool (decide (x = y))) ∧ w' = w := by
 obtain ⟨p, c, rfl, hp, _⟩ := hu
 obtain ⟨q, d, rfl, hq, _⟩ := hv
 have h1 := hp.conv c
 have h2 := hq.conv d
 have h3 := lst_beq (ba x) (ba y)
 rw [lst_ba hx, lst_ba hy] at h3
 generalize ba x = X at *
 generalize ba y = Y at *
 clear hp hq hx hy
 go_enter Tryz.func23, Tryz.ntmps23
 go_wp2
 go_ret
 exact ⟨by first | rfl | (rw [h3]; rfl) | simp [h3], rfl⟩
theorem OutB.sl {B : Nat} {w : World} {v : Value} {bs : List Nat} (h : OutB B w v bs) : SL w v bs := by
 obtain ⟨po, h1, h2, _⟩ := h.form; exact ⟨po, _, h1, h2, Nat.le_refl _⟩
theorem Buf.sl {B : Nat} {w : World} {v : Value} {bs : List Nat} (h : Buf B w v bs) : SL w v bs := by
 obtain ⟨po, c, rfl⟩ := h.form; exact ⟨po, c, rfl, h.bl, h.cap.2⟩
theorem Buf.made0 (w : World) (B : Nat) (hB : B ≤ w.heap.size) : Buf B (w.alloc (.cells #[] 5)) (.slice (some ⟨w.heap.size, 0, none⟩) 0 0) [] := World.ownsRow_made w #[] 0 hB (by unfold maxLen; omega) (by simp)
theorem copyB_any {w : World} {v : Value} {x : List Nat} (hv : SL w v x) (hn : x.length ≤ 1000000) (hnil : ∀ n c, v = .slice none n c → c = 0) : Calls Tryz.prog 35 #[v] w (BufS w.heap.size w x) := by
 obtain ⟨p, c, rfl, hp, _⟩ := hv
 obtain ⟨v', w', hr, hb, hg⟩ := (Buf.made0 w w.heap.size (Nat.le_refl _)).app p c x (hp.below (below_al _ _)) (fun e => by subst e; exact hnil _ _ rfl) (by simp; omega) (by rw [size_al]; omega)
 have HRUN := hid hr
 clear hr
 go_enter Tryz.func35, Tryz.ntmps35
 go_wp2_with (at_builtin; refine wpList_append_run _ _ 22 22 rfl rfl _ _ _ rfl rfl HRUN.out ?_)
 go_ret
 exact ⟨v', rfl, by simpa using hb, below_grown (below_al _ _) hg (Nat.le_refl _) (fun b hb => by cases hb; exact Nat.le_refl _)⟩

end Go.Proofs.YtopibkoklagceaaGreat

/- Contracts of LentBytes, KeptBytes and OverBytes of the statements' kit. -/
namespace Go.Proofs.YtopibkoklagceaaGreat
open Go.RowKit

/-- A row of n bytes lies at block b from o on. -/
def RowAt (w : World) (b o n : Nat) (x : Nat → Nat) : Prop := ∀ i, i < n → w.cell? ⟨b, o + i, none⟩ = some (.int .u8 (x i : Nat))
/-- The world w has one block more than w0 has: n bytes, x, which may be written; what was there is as it was. -/
structure NewRow (w0 w : World) (n : Nat) (x : Nat → Nat) : Prop where
 size : w.heap.size = w0.heap.size + 1
 below : Below w0.heap.size w0 w
 cells : ∀ i, i < n → w.cell? ⟨w0.heap.size, i, none⟩ = some (.int .u8 (x i : Nat))
 free : ∀ i, w.frozen? ⟨w0.heap.size, i, none⟩ = false

theorem madeCells_get (z : Value) (n i : Nat) (h : i < n) : (madeCells #[z] n)[i]? = some z := by
 simp [madeCells, h, Nat.mod_one]
theorem run_make_u8 (n : Nat) (hn : n ≤ 70003) (w : World) :
  (Instr.makeSlice 22 (.int .i64 (n : Int)) (.int .i64 (n : Int))).run Tryz.prog w = .ok (.slice (some ⟨w.heap.size, 0, none⟩) n n) (w.alloc (.cells (madeCells #[.int .u8 0] n) 5)) := by
 obtain ⟨i0, hi, hz0, hz1, hz2⟩ := info_parts Tryz.info5
 have h := run_make (P := Tryz.prog) w 22 5 i0 (.int .u8 0) Tryz.underlying22 hi hz0 .i64 .i64 n n (by omega) (Int.le_refl _) (by rw [hz2]; omega) (by omega)
 rw [hz1] at h
 simpa [Value.cells] using h

theorem NewRow.made (w : World) (n : Nat) : NewRow w (w.alloc (.cells (madeCells #[.int .u8 0] n) 5)) n (fun _ => 0) where
 size := by simp
 below := (Below.refl _ _).alloc (Nat.le_refl _) _
 cells := fun i h => by rw [World.cell?_alloc_new, madeCells_get _ _ _ h]; rfl
 free := fun i => World.frozen?_alloc_new _ _ _ _
theorem NewRow.set {w0 w : World} {n : Nat} {x : Nat → Nat} (h : NewRow w0 w n x) (k : Nat) (v : Nat) (hk : k < n) :
  NewRow w0 (w.setCell ⟨w0.heap.size, k, none⟩ (.int .u8 (v : Nat))) n (fun i => if i = k then v else x i) where
 size := by simp [h.size]
 below := h.below.setCell (Nat.le_refl _) _
 cells := fun i hi => by
  by_cases e : i = k
  ·subst e
   rw [World.cell?_setCell_same _ _ _ (h.cells i hi)]; simp
  ·rw [World.cell?_setCell_other _ _ _ _ (by intro h2; cases h2; exact e rfl), h.cells i hi]; simp [e]
 free := fun i => by rw [World.frozen?_setCell]; exact h.free i
theorem NewRow.congr {w0 w : World} {n : Nat} {x y : Nat → Nat} (h : NewRow w0 w n x) (e : ∀ i, i < n → x i = y i) : NewRow w0 w n y where
 size := h.size
 below := h.below
 cells := fun i hi => by rw [h.cells i hi, e i hi]
 free := h.free

end Go.Proofs.YtopibkoklagceaaGreat

/- Contract of SameBytes of the statements' kit: of two slices that read alike it returns true, and leaves the world as it was. -/
namespace Go.Proofs.YtopibkoklagceaaGreat
open Go.RowKit

/-- The slice's value leads to n bytes x; one of no byte may lead anywhere. -/
def StrAt (w : World) (p : Option Addr) (n : Nat) (x : Nat → Nat) : Prop := n = 0 ∨ ∃ b o, p = some ⟨b, o, none⟩ ∧ RowAt w b o n x
def strN (n : Nat) (x : Nat → Nat) : ByteArray := strOfNums ((List.range n).map fun i => (x i : Int))
theorem conv_str (w : World) (p : Option Addr) (n c : Nat) (x : Nat → Nat) (h : StrAt w p n x) :
  (convert 22 9 (.slice p n c)).run Tryz.prog w = .ok (.string (strN n x)) w := by
 rcases h with rfl | ⟨b, o, rfl, h⟩
 ·rw [run_convert_bytes_string w 22 9 5 _ 0 c Tryz.underlying22 Tryz.underlying5 Tryz.underlying9]
  cases p <;> simp [Conv.bytesToString, loadCells, strN]
  all_goals rfl
 ·exact run_convert_bytes_arg w 22 5 Tryz.underlying22 Tryz.underlying5 b o n c _ (by simp) (fun i hi => by rw [h i hi]; simp [List.getD, hi]) 9 Tryz.underlying9

end Go.Proofs.YtopibkoklagceaaGreat

/- Contract of LentBytes of the statements' kit: a copy of the bytes lies in a new block, with three marked bytes of spare room behind it; what was there is as it was. -/
namespace Go.Proofs.YtopibkoklagceaaGreat
open Go.RowKit

theorem size_setCells (b : Nat) : ∀ (vs : List Value) (o : Nat) (w : World), (w.setCells b o vs).heap.size = w.heap.size
 | [], _, _ => rfl
 | v :: r, o, w => by rw [World.setCells, size_setCells b r, World.size_setCell]
theorem below_setCells (b B : Nat) (hB : B ≤ b) : ∀ (vs : List Value) (o : Nat) (w0 w : World), Below B w0 w → Below B w0 (w.setCells b o vs)
 | [], _, _, _, h => h
 | v :: r, o, w0, w, h => by rw [World.setCells]; exact below_setCells b B hB r (o + 1) w0 _ (h.setCell hB _)

/-- n bytes as values. -/
def valN (n : Nat) (x : Nat → Nat) : List Value := (List.range n).map fun i => .int .u8 (x i : Nat)
theorem valN_len (n : Nat) (x : Nat → Nat) : (valN n x).length = n := by simp [valN]
theorem valN_get (n : Nat) (x : Nat → Nat) (i : Nat) (h : i < n) : (valN n x)[i]? = some (.int .u8 (x i : Nat)) := by simp [valN, h]

theorem NewRow.copied {w0 w : World} {n : Nat} {x : Nat → Nat} (h : NewRow w0 w n x) (m : Nat) (y : Nat → Nat) (hm : m ≤ n) :
  NewRow w0 (w.setCells w0.heap.size 0 (valN m y)) n (fun i => if i < m then y i else x i) where
 size := by rw [size_setCells, h.size]
 below := below_setCells _ _ (Nat.le_refl _) _ _ _ _ h.below
 cells := fun i hi => by
  by_cases e : i < m
  ·have hin := World.cell?_setCells_in w0.heap.size (valN m y) 0 w (fun j hj => by
     rw [valN_len] at hj
     rw [Nat.zero_add, h.cells j (by omega)]; rfl) i (by rw [valN_len]; exact e)
   rw [Nat.zero_add] at hin
   rw [hin, if_pos e]
   have g := valN_get m y i e
   rw [List.getElem?_eq_getElem (by rw [valN_len]; exact e)] at g
   exact g
  ·rw [World.cell?_setCells_out _ _ _ _ _ (fun _ _ => by rw [valN_len]; right; simp; omega), if_neg e, h.cells i hi]
 free := fun i => by rw [World.frozen?_setCells]; exact h.free i

/-- What a lent list reads as, its spare room with it. -/
def lentN (n : Nat) (x : Nat → Nat) (i : Nat) : Nat := if i < n then x i else 160 + i % 90

end Go.Proofs.YtopibkoklagceaaGreat

/- Contract of KeptBytes of the statements' kit: it returns true of a lent list that reads as it was lent. -/
namespace Go.Proofs.YtopibkoklagceaaGreat
open Go.RowKit

theorem RowAt.below {B : Nat} {w w' : World} {b o n : Nat} {x : Nat → Nat} (h : RowAt w b o n x) (hb : Below B w w') (hlt : b < B) : RowAt w' b o n x :=
 fun i hi => (hb.cell (p := ⟨b, o + i, none⟩) hlt).trans (h i hi)
theorem NewRow.row {w0 w : World} {n : Nat} {x : Nat → Nat} (h : NewRow w0 w n x) : RowAt w w0.heap.size 0 n x :=
 fun i hi => by rw [Nat.zero_add]; exact h.cells i hi

/-- Bytes that were lent. -/
structure Lent (w : World) (g : Nat) (bs : List Nat) : Prop where
 lt : g < w.heap.size
 row : RowAt w g 0 (bs.length + 3) (lentN bs.length fun i => bs.getD i 0)
theorem Lent.below {w w' : World} {g : Nat} {bs : List Nat} (h : Lent w g bs) (hb : Below w.heap.size w w') : Lent w' g bs := ⟨Nat.lt_of_lt_of_le h.lt hb.size, h.row.below hb h.lt⟩
theorem Lent.only {w w' : World} {g : Nat} {bs : List Nat} {S : Nat → Prop} (h : Lent w g bs) (ho : Only S w w') (hS : ¬ S g) : Lent w' g bs :=
 ⟨Nat.lt_of_lt_of_le h.lt ho.size, fun i hi => (World.cell?_of_block (ho.block g h.lt hS)).trans (h.row i hi)⟩
theorem Lent.bl {w : World} {g : Nat} {bs : List Nat} (h : Lent w g bs) : BL w (some ⟨g, 0, none⟩) bs := Or.inr ⟨g, 0, rfl, fun i hi => by
 have := h.row i (by omega)
 unfold lentN at this
 rw [if_pos hi] at this; exact this⟩
/-- c cells of a block, each a byte, that may be written. -/
structure CellsU (w : World) (g c : Nat) : Prop where
 c : ∀ i, i < c → ∃ z : Nat, z < 256 ∧ w.cell? ⟨g, i, none⟩ = some (.int .u8 (z : Int))
 f : ∀ i, w.frozen? ⟨g, i, none⟩ = false
theorem CellsU.set {w : World} {g c : Nat} (h : CellsU w g c) (k z : Nat) (hz : z < 256) : CellsU (w.setCell ⟨g, k, none⟩ (.int .u8 (z : Int))) g c :=
 ⟨fun i hi => by
  obtain ⟨x, hx, hc⟩ := h.c i hi
  by_cases e : i = k
  ·subst e; exact ⟨z, hz, World.cell?_setCell_same _ _ _ hc⟩
  ·exact ⟨x, hx, by rw [World.cell?_setCell_other _ _ _ _ (by intro h2; cases h2; exact e rfl)]; exact hc⟩, fun i => by rw [World.frozen?_setCell]; exact h.f i⟩
theorem run_cap8 (g n c : Nat) (w : World) : (Instr.slice 22 (.slice (some ⟨g, 0, none⟩) n c) none (some (.int .i64 (c : Int))) none).run Tryz.prog w = .ok (.slice (some ⟨g, 0, none⟩) c c) w := by
 rw [run_slice_h (P := Tryz.prog) w 22 _ n c underE8 .i64 (c : Int) (by omega) (by omega), elem8]
 by_cases h0 : c = 0
 ·simp [Result.andThen, sliced, h0]
 ·simp [Result.andThen, sliced, h0, Addr.add]
theorem xor_lt {a b : Nat} (ha : a < 256) (hb : b < 256) : a ^^^ b < 256 := Nat.xor_lt_two_pow (n := 8) ha hb
set_option maxRecDepth 100000 in
set_option maxHeartbeats 1000000 in
theorem over2_any (g n c : Nat) (w : World) (hn : c ≤ maxLen) (h : CellsU w g c) :
  Calls Tryz.prog 11 #[.slice (some ⟨g, 0, none⟩) n c] w fun e w' => e = .returned (.tuple #[]) ∧ Only (fun b => b = g) w w' := by
 have hs := run_cap8 g n c
 have H := hid h
 have hn' : c ≤ 9223372036854775807 := hn
 clear h hn
 go_enter Tryz.func11, Tryz.ntmps11
 go_wp2
 clear hs
 go_loopw [3] (fun i wr => ∃ k : Nat, k ≤ c ∧ i = .int .i64 k ∧ Only (fun b => b = g) w wr ∧ CellsU wr g c) (fun i _ => (c - intOf i).toNat)
 case atStart => exact ⟨0, by omega, rfl, Only.refl _ _, H.out⟩
 case round =>
  clear H
  obtain ⟨k, hk, rfl, ho, hr⟩ := hrel
  by_cases hlt : k < c
  ·have hlt' : (k : Int) < (c : Int) := by omega
   obtain ⟨z, hz, hcz⟩ := hr.c k hlt
   have hfz := hr.f k
   have hx : bits BinOp.xor IntKind.u8 (z : Int) 90 = ((z ^^^ 90 : Nat) : Int) := u8_xor_nat z 90 hz (by decide)
   have HO := hid (ho.trans (Only.set (S := fun b => b = g) wr ⟨g, k, none⟩ (.int .u8 ((z ^^^ 90 : Nat) : Int)) rfl))
   have HR := hid (hr.set k (z ^^^ 90) (xor_lt hz (by decide)))
   clear hr ho
   generalize z ^^^ 90 = y at *
   go_wp2
   go_roundw
   case rel => exact ⟨k + 1, by omega, by go_num, HO.out, HR.out⟩
   case measure => simp [intOf]; omega
  ·have hlt' : ¬ (k : Int) < (c : Int) := by omega
   have HO := hid ho
   clear hr ho
   go_wp2
   go_end0
   exact ⟨rfl, HO.out⟩
theorem over2_nil (w : World) : Calls Tryz.prog 11 #[.slice none 0 0] w fun e w' => e = .returned (.tuple #[]) ∧ w' = w := by
 go_enter Tryz.func11, Tryz.ntmps11
 go_wp2
 refine wp_loop_rounds 1 ?_
 rw [rounds_succ]
 go_wp2
 go_end0
 exact ⟨rfl, rfl⟩
theorem over_out {w : World} {B : Nat} {v : Value} {bs : List Nat} (h : OutB B w v bs) (h8 : ∀ x ∈ bs, x < 256) (hn : bs.length ≤ 1000000) : Calls Tryz.prog 11 #[v] w fun e w' => e = .returned (.tuple #[]) ∧ Only (fun b => v.ownBlock = some b ∧ B ≤ b) w w' := by
 rcases h with ⟨rfl, _⟩ | ⟨g, rfl, hB, _, hc, hf⟩
 ·exact (over2_nil w).mono fun e w' ⟨h1, h2⟩ => ⟨h1, by rw [h2]; exact Only.refl _ _⟩
 ·refine (over2_any g bs.length bs.length w (by unfold maxLen; omega) ⟨fun i hi => ⟨bs.getD i 0, h8 _ ?_, hc i hi⟩, hf⟩).mono fun e w' ⟨h1, h2⟩ => ⟨h1, h2.mono fun b (e : b = g) => (by rw [e]; exact ⟨rfl, hB⟩)⟩
  rw [List.getD_eq_getElem?_getD, List.getElem?_eq_getElem hi]; exact List.getElem_mem hi
end Go.Proofs.YtopibkoklagceaaGreat

/- The walk of RecordNumbers. (Written by tools/gen_Vj.py.) -/
namespace Go.Proofs.YtopibkoklagceaaGreat
open Go Go.RowKit

theorem SL.nil (w : World) : SL w (.slice none 0 0) [] := ⟨none, 0, rfl, Or.inl rfl, Nat.le_refl _⟩
theorem OutB.only {B : Nat} {w w' : World} {v : Value} {bs : List Nat} {S : Nat → Prop} (h : OutB B w v bs) (ho : Only S w w') (hS : ∀ b, v.ownBlock = some b → ¬ S b) : OutB B w' v bs := by
 rcases h with h | ⟨g, h1, h2, h3, h4, h5⟩
 ·exact Or.inl h
 ·have e := ho.block g h3 (hS g (by rw [h1]; rfl))
  exact Or.inr ⟨g, h1, h2, by have := ho.size; omega, fun i hi => (World.cell?_of_block e).trans (h4 i hi), fun i => by have := h5 i; unfold World.frozen? at this ⊢; rw [e]; exact this⟩
end Go.Proofs.YtopibkoklagceaaGreat
