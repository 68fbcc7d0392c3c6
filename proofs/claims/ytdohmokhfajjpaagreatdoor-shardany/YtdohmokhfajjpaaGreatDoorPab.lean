/- Texts laid into one, cut to what is needed: the remark ahead of each part says what is proved there. -/
import Derived.WalkKit
import Derived.Test.YtdohmokhfajjpaaGreatDoorRows
import Derived.WalkSpells
import Derived.WalkLawsBesides
import Derived.OwnWalk
import Derived.Laws.Rows
import Derived.Laws.CopyOwn
import Derived.Laws.NewBlocks
import Derived.Laws.ResultCell
import Derived.Laws.BytesArg
import Derived.Laws.BytesString
import Derived.Laws.OwnMore
import Derived.Laws.AppendOwnNone
import Derived.Maps.AppendAt
import Derived.Lib.AppendStr
import Derived.Lib.SliceRun
import Derived.Laws.BitsAllLaws
import Derived.Deep.RegionHeld3
import Derived.Deep.QuietTactic
import Derived.Maps.OwnSet
import Derived.LaidEql
import Derived.Stop.Asserts
import Derived.RowKitTokens
import Derived.Laws.Externs
import Derived.Stop.LaidTwo
import Derived.MakeChecks
import Derived.BigQuiet
import Derived.Deep.Quiet
/- Numbers and texts as bytes: mathematics alone. -/
namespace Go.Proofs.YtdohmokhfajjpaaGreatDoor

/-- A number's bytes. -/
def nb (n : Nat) : List Nat := if n < 128 then [n] else (n % 128 + 128) :: nb (n / 128)
 termination_by n
 decreasing_by omega
theorem nb_lt {n : Nat} (h : n < 128) : nb n = [n] := by rw [nb, if_pos h]
theorem nb_ge {n : Nat} (h : ¬ n < 128) : nb n = (n % 128 + 128) :: nb (n / 128) := by rw [nb, if_neg h]
/-- A number of at most k bytes from the front. -/
def rdG : Nat → List Nat → Option (Nat × List Nat)
 | 0, _ => none
 | _ + 1, [] => none
 | k + 1, c :: r => if c < 128 then some (c, r) else match rdG k r with
  | some (n, r') => if n = 0 then none else some (c % 128 + 128 * n, r')
  | none => none
def rdU (b : List Nat) : Option (Nat × List Nat) := match rdG 6 b with
 | some (n, r) => if n ≤ 1099511627776 then some (n, r) else none
 | none => none
theorem rdG_some : ∀ {k : Nat} {b : List Nat} {n : Nat} {r : List Nat}, (∀ x ∈ b, x < 256) → rdG k b = some (n, r) → b = nb n ++ r ∧ n < 128 ^ k
 | 0, _, _, _, _, h => by simp [rdG] at h
 | _ + 1, [], _, _, _, h => by simp [rdG] at h
 | k + 1, c :: t, n, r, hb, h => by
  unfold rdG at h
  by_cases hc : c < 128
  ·rw [if_pos hc] at h
   cases h
   exact ⟨by rw [nb_lt hc]; rfl, Nat.lt_of_lt_of_le hc (by rw [Nat.pow_succ]; have := Nat.pow_pos (n := k) (show 0 < 128 by omega); omega)⟩
  ·rw [if_neg hc] at h
   cases hr : rdG k t with
   | none => rw [hr] at h; cases h
   | some p =>
    obtain ⟨m, t'⟩ := p
    rw [hr] at h
    by_cases hm : m = 0
    ·simp [hm] at h
    ·simp only [hm, if_false] at h
     cases h
     obtain ⟨h1, h2⟩ := rdG_some (fun x hx => hb x (List.mem_cons_of_mem _ hx)) hr
     have hc2 := hb c (List.mem_cons_self)
     refine ⟨?_, ?_⟩
     ·rw [nb_ge (by omega), List.cons_append]
      have e1 : (c % 128 + 128 * m) % 128 + 128 = c := by omega
      have e2 : (c % 128 + 128 * m) / 128 = m := by omega
      rw [e1, e2, ← h1]
     ·rw [Nat.pow_succ]; omega
theorem rdU_some {b : List Nat} {n : Nat} {r : List Nat} (hb : ∀ x ∈ b, x < 256) (h : rdU b = some (n, r)) : b = nb n ++ r ∧ n ≤ 1099511627776 := by
 unfold rdU at h
 cases hr : rdG 6 b with
 | none => rw [hr] at h; cases h
 | some p =>
  obtain ⟨m, t⟩ := p
  rw [hr] at h
  by_cases hm : m ≤ 1099511627776
  ·simp only [hm, if_true] at h
   cases h
   exact ⟨(rdG_some hb hr).1, hm⟩
  ·simp [hm] at h
/-- A text's bytes. -/
def tb (s : List Nat) : List Nat := nb s.length ++ s
def rdT (b : List Nat) : Option (List Nat × List Nat) := match rdU b with
 | some (n, r) => if n ≤ 65536 ∧ n ≤ r.length then some (r.take n, r.drop n) else none
 | none => none
theorem rdT_some {b s r : List Nat} (hb : ∀ x ∈ b, x < 256) (h : rdT b = some (s, r)) : b = tb s ++ r ∧ s.length ≤ 65536 := by
 unfold rdT at h
 cases hr : rdU b with
 | none => rw [hr] at h; cases h
 | some p =>
  obtain ⟨n, t⟩ := p
  rw [hr] at h
  by_cases hn : n ≤ 65536 ∧ n ≤ t.length
  ·simp only [hn, and_self, if_true] at h
   cases h
   obtain ⟨h1, h2⟩ := rdU_some hb hr
   unfold tb
   rw [List.length_take, Nat.min_eq_left hn.2, List.append_assoc, List.take_append_drop]
   exact ⟨h1, hn.1⟩
  ·simp [hn] at h
end Go.Proofs.YtdohmokhfajjpaaGreatDoor

/- Records as bytes: mathematics alone. -/
namespace Go.Proofs.YtdohmokhfajjpaaGreatDoor

/-- A record. Texts are lists of bytes. -/
structure Rc where
 id : List Nat
 time : Int
 mark : Bool
 size : Int
 etag : List Nat
 k : Int
 m : Int
 data : List Nat
 sum : List Nat
 parts : List (Int × Int)
 up : List Nat
 deriving DecidableEq
def dgt (c : Nat) : Bool := decide (48 ≤ c) && decide (c ≤ 57)
def isOf (last : Nat) (dash : Bool) (c : Nat) : Bool := dgt c || (decide (97 ≤ c) && decide (c ≤ last)) || (dash && decide (c = 45))
def okOf (s : List Nat) (least most last : Nat) (dash : Bool) : Bool := s.all (isOf last dash) && decide (least ≤ s.length) && decide (s.length ≤ most)
def okId (s : List Nat) : Bool := okOf s 1 32 122 false
def okData (s : List Nat) : Bool := okOf s 32 32 102 false
def okTag (s : List Nat) : Bool := okOf s 1 40 102 true
def inR (n least most : Int) : Bool := decide (least ≤ n) && decide (n ≤ most)
def okPs : Int → List (Int × Int) → Bool
 | _, [] => true
 | last, p :: r => decide (last < p.1) && decide (p.1 ≤ 10000) && inR p.2 0 65536 && okPs p.1 r
def sumPs (l : List (Int × Int)) : Int := (l.map (·.2)).sum
def okParts (l : List (Int × Int)) (size : Int) : Bool := decide (l.length ≤ 32) && okPs 0 l && (l.isEmpty || decide (sumPs l = size))
def zeroD : List Nat := List.replicate 32 0
def okRc (r : Rc) : Bool := okId r.id && inR r.time 0 1048576 && (if r.mark then decide (r.size = 0) && r.etag.isEmpty && decide (r.k = 0) && decide (r.m = 0) && r.data.isEmpty && decide (r.sum = zeroD) && r.parts.isEmpty && r.up.isEmpty
 else inR r.size 0 65536 && okTag r.etag && inR r.k 1 15 && inR r.m 1 15 && decide (r.k + r.m ≤ 16) && okData r.data && okParts r.parts r.size && (r.up.isEmpty || okId r.up) && decide (r.sum.length = 32))
def ib (n : Int) : List Nat := nb n.toNat
def psB (l : List (Int × Int)) : List Nat := (l.map fun p => ib p.1 ++ ib p.2).flatten
def rcB (r : Rc) : List Nat := tb r.id ++ ib r.time ++ (if r.mark then [1] else [0] ++ ib r.size ++ tb r.etag ++ ib r.k ++ ib r.m ++ tb r.data ++ r.sum ++ nb r.parts.length ++ psB r.parts ++ tb r.up)
/-- So many pairs of numbers from the front. -/
def rdPs : Nat → List Nat → Option (List (Int × Int) × List Nat)
 | 0, b => some ([], b)
 | n + 1, b => do
  let (x, b) ← rdU b
  let (y, b) ← rdU b
  let (l, b) ← rdPs n b
  return (((x : Int), (y : Int)) :: l, b)
def rdD (id : List Nat) (t : Nat) (b : List Nat) : Option (Rc × List Nat) := do
 let (size, b) ← rdU b
 let (etag, b) ← rdT b
 let (k, b) ← rdU b
 let (m, b) ← rdU b
 let (data, b) ← rdT b
 if b.length < 32 then none else
 let (n, c) ← rdU (b.drop 32)
 if 32 < n then none else
 let (ps, c) ← rdPs n c
 let (up, c) ← rdT c
 return (⟨id, t, false, size, etag, k, m, data, b.take 32, ps, up⟩, c)
def rdAny (b : List Nat) : Option (Rc × List Nat) := do
 let (id, b) ← rdT b
 let (t, b) ← rdU b
 match b with
 | [] => none
 | c :: b => if 1 < c then none else if c = 1 then some (⟨id, t, true, 0, [], 0, 0, [], zeroD, [], []⟩, b) else rdD id t b
def rdR (b : List Nat) : Option (Rc × List Nat) := match rdAny b with
 | some (r, t) => if okRc r then some (r, t) else none
 | none => none
section
variable {b : List Nat}
theorem inR_iff {n least most : Int} : inR n least most = true ↔ least ≤ n ∧ n ≤ most := by simp [inR]
theorem sub256 {x y : List Nat} (h : ∀ z ∈ x ++ y, z < 256) : (∀ z ∈ x, z < 256) ∧ ∀ z ∈ y, z < 256 := ⟨fun z hz => h z (List.mem_append_left _ hz), fun z hz => h z (List.mem_append_right _ hz)⟩
theorem rdPs_some : ∀ {n : Nat} {b c : List Nat} {l : List (Int × Int)}, (∀ z ∈ b, z < 256) → rdPs n b = some (l, c) → b = psB l ++ c ∧ l.length = n ∧ ∀ p ∈ l, 0 ≤ p.1 ∧ 0 ≤ p.2
 | 0, b, c, l, _, h => by simp [rdPs] at h; obtain ⟨rfl, rfl⟩ := h; simp [psB]
 | n + 1, b, c, l, hb, h => by
  unfold rdPs at h
  cases h1 : rdU b with
  | none => rw [h1] at h; cases h
  | some p =>
   obtain ⟨x, b1⟩ := p
   rw [h1] at h
   simp only [Option.bind_eq_bind, Option.bind_some] at h
   obtain ⟨e1, k1⟩ := rdU_some hb h1
   subst e1
   have hb1 := (sub256 hb).2
   cases h2 : rdU b1 with
   | none => rw [h2] at h; cases h
   | some p =>
    obtain ⟨y, b2⟩ := p
    rw [h2] at h
    simp only [Option.bind_some] at h
    obtain ⟨e2, k2⟩ := rdU_some hb1 h2
    subst e2
    have hb2 := (sub256 hb1).2
    cases h3 : rdPs n b2 with
    | none => rw [h3] at h; cases h
    | some p =>
     obtain ⟨l', b3⟩ := p
     rw [h3] at h
     simp only [Option.bind_some, Option.pure_def, Option.some.injEq, Prod.mk.injEq] at h
     obtain ⟨rfl, rfl⟩ := h
     obtain ⟨e3, k3, k4⟩ := rdPs_some hb2 h3
     refine ⟨?_, by simp [k3], fun p hp => ?_⟩
     ·rw [e3]; simp [psB, ib]
     ·rcases List.mem_cons.1 hp with rfl | hp
      ·exact ⟨by simp, by simp⟩
      ·exact k4 p hp
theorem rdD_some {id : List Nat} {t : Nat} {b c : List Nat} {r : Rc} (hb : ∀ z ∈ b, z < 256) (h : rdD id t b = some (r, c)) : r.id = id ∧ r.time = (t : Int) ∧ r.mark = false ∧ b = ib r.size ++ tb r.etag ++ ib r.k ++ ib r.m ++ tb r.data ++ r.sum ++ nb r.parts.length ++ psB r.parts ++ tb r.up ++ c := by
 unfold rdD at h
 cases h1 : rdU b with
 | none => rw [h1] at h; cases h
 | some p =>
 obtain ⟨size, b1⟩ := p
 rw [h1] at h; simp only [Option.bind_eq_bind, Option.bind_some] at h
 obtain ⟨e1, _⟩ := rdU_some hb h1; subst e1; have hb := (sub256 hb).2
 cases h2 : rdT b1 with
 | none => rw [h2] at h; cases h
 | some p =>
 obtain ⟨etag, b2⟩ := p
 rw [h2] at h; simp only [Option.bind_some] at h
 obtain ⟨e2, _⟩ := rdT_some hb h2; subst e2; have hb := (sub256 hb).2
 cases h3 : rdU b2 with
 | none => rw [h3] at h; cases h
 | some p =>
 obtain ⟨k, b3⟩ := p
 rw [h3] at h; simp only [Option.bind_some] at h
 obtain ⟨e3, _⟩ := rdU_some hb h3; subst e3; have hb := (sub256 hb).2
 cases h4 : rdU b3 with
 | none => rw [h4] at h; cases h
 | some p =>
 obtain ⟨m, b4⟩ := p
 rw [h4] at h; simp only [Option.bind_some] at h
 obtain ⟨e4, _⟩ := rdU_some hb h4; subst e4; have hb := (sub256 hb).2
 cases h5 : rdT b4 with
 | none => rw [h5] at h; cases h
 | some p =>
 obtain ⟨data, b5⟩ := p
 rw [h5] at h; simp only [Option.bind_some] at h
 obtain ⟨e5, _⟩ := rdT_some hb h5; subst e5; have hb := (sub256 hb).2
 by_cases hl : b5.length < 32
 ·rw [if_pos hl] at h; cases h
 rw [if_neg hl] at h
 have hb6 : ∀ z ∈ b5.drop 32, z < 256 := fun z hz => hb z (List.mem_of_mem_drop hz)
 cases h6 : rdU (b5.drop 32) with
 | none => rw [h6] at h; cases h
 | some p =>
 obtain ⟨n, b6⟩ := p
 rw [h6] at h; simp only [Option.bind_some] at h
 obtain ⟨e6, _⟩ := rdU_some hb6 h6
 rw [e6] at hb6; have hb6 := (sub256 hb6).2
 by_cases hn : 32 < n
 ·rw [if_pos hn] at h; cases h
 rw [if_neg hn] at h
 cases h7 : rdPs n b6 with
 | none => rw [h7] at h; cases h
 | some p =>
 obtain ⟨ps, b7⟩ := p
 rw [h7] at h; simp only [Option.bind_some] at h
 obtain ⟨e7, k7, _⟩ := rdPs_some hb6 h7; subst e7; have hb7 := (sub256 hb6).2
 cases h8 : rdT b7 with
 | none => rw [h8] at h; cases h
 | some p =>
 obtain ⟨up, b8⟩ := p
 rw [h8] at h; simp only [Option.bind_some, Option.pure_def, Option.some.injEq, Prod.mk.injEq] at h
 obtain ⟨e8, _⟩ := rdT_some hb7 h8; subst e8
 obtain ⟨rfl, rfl⟩ := h
 refine ⟨rfl, rfl, rfl, ?_⟩
 have e9 : b5 = b5.take 32 ++ (nb n ++ (psB ps ++ (tb up ++ b8))) := by rw [← e6, List.take_append_drop]
 subst k7
 simp only [ib, Int.toNat_natCast, List.append_assoc]
 rw [← e9]
theorem rdR_some {b c : List Nat} {r : Rc} (hb : ∀ z ∈ b, z < 256) (h : rdR b = some (r, c)) : okRc r = true ∧ b = rcB r ++ c := by
 unfold rdR at h
 cases ha : rdAny b with
 | none => rw [ha] at h; cases h
 | some p =>
 obtain ⟨r', c'⟩ := p
 rw [ha] at h
 by_cases hok : okRc r' = true
 ·simp only [hok, if_true, Option.some.injEq, Prod.mk.injEq] at h
  obtain ⟨rfl, rfl⟩ := h
  refine ⟨hok, ?_⟩
  unfold rdAny at ha
  cases h1 : rdT b with
  | none => rw [h1] at ha; cases ha
  | some p =>
  obtain ⟨id, b1⟩ := p
  rw [h1] at ha; simp only [Option.bind_eq_bind, Option.bind_some] at ha
  obtain ⟨e1, _⟩ := rdT_some hb h1; subst e1; have hb := (sub256 hb).2
  cases h2 : rdU b1 with
  | none => rw [h2] at ha; cases ha
  | some p =>
  obtain ⟨t, b2⟩ := p
  rw [h2] at ha; simp only [Option.bind_some] at ha
  obtain ⟨e2, _⟩ := rdU_some hb h2; subst e2; have hb := (sub256 hb).2
  match b2, ha, hb with
  | [], ha, _ => cases ha
  | c0 :: b3, ha, hb =>
   simp only at ha
   by_cases hc : 1 < c0
   ·rw [if_pos hc] at ha; cases ha
   rw [if_neg hc] at ha
   by_cases hc1 : c0 = 1
   ·rw [if_pos hc1] at ha
    simp only [Option.some.injEq, Prod.mk.injEq] at ha
    obtain ⟨rfl, rfl⟩ := ha
    simp [rcB, ib, hc1]
   ·rw [if_neg hc1] at ha
    obtain ⟨k1, k2, k3, k4⟩ := rdD_some (fun z hz => hb z (List.mem_cons_of_mem _ hz)) ha
    have e0 : c0 = 0 := by omega
    subst e0
    unfold rcB
    rw [k1, k2, k3, k4]
    simp [ib]
 ·simp [hok] at h
end
end Go.Proofs.YtdohmokhfajjpaaGreatDoor

/- What memory holds: blocks, what stays, bytes in slices, texts; rows of bytes of one's own and what is appended to them. -/
namespace Go.Proofs.YtdohmokhfajjpaaGreatDoor
open Go Go.RowKit

theorem hid {p : Prop} (h : p) : Hid p := h
def u8 (k : Nat) : Value := .int .u8 (k : Int)
abbrev ptr (p : Nat) : Value := .pointer (some ⟨p, 0, none⟩)
abbrev i64 (k : Int) : Value := .int .i64 k
theorem Tryz.info5 : (Tryz.prog.info? 5).map (fun i => (i.zero, i.size, i.bytes)) = some (some (.int .u8 0), 1, 1) := by kernel_rfl
theorem add_zero' (a : Addr) : a.add 0 = a := by simp [Addr.add]
theorem add_none (b o n : Nat) : (⟨b, o, none⟩ : Addr).add n = ⟨b, o + n, none⟩ := by unfold Addr.add; split <;> simp_all

/-- Block b has these cells, none of them frozen. -/
def CAt (w : World) (b : Nat) (cs : Array Value) (t : TypeId) : Prop := w.heap[b]? = some (.cells cs t (0, 0))
theorem CAt.lt {w : World} {b : Nat} {cs : Array Value} {t : TypeId} (h : CAt w b cs t) : b < w.heap.size := (Array.getElem?_eq_some_iff.1 h).1
theorem CAt.cell {w : World} {b : Nat} {cs : Array Value} {t : TypeId} (h : CAt w b cs t) (i : Nat) : w.cell? ⟨b, i, none⟩ = cs[i]? := by
 simp [World.cell?, show w.heap[b]? = _ from h]
theorem CAt.free {w : World} {b : Nat} {cs : Array Value} {t : TypeId} (h : CAt w b cs t) (i : Nat) : w.frozen? ⟨b, i, none⟩ = false := by
 simp [World.frozen?, show w.heap[b]? = _ from h]
theorem CAt.set {w : World} {b : Nat} {cs : Array Value} {t : TypeId} (h : CAt w b cs t) (i : Nat) (v : Value) : CAt (w.setCell ⟨b, i, none⟩ v) b (cs.setIfInBounds i v) t := by
 unfold CAt at *
 simp [World.setCell, Array.getElem?_modify, h]
theorem CAt.keep {w w' : World} {b : Nat} {cs : Array Value} {t : TypeId} (h : CAt w b cs t) (e : w'.heap[b]? = w.heap[b]?) : CAt w' b cs t := e.trans h
theorem CAt.made (w : World) (cs : Array Value) (t : TypeId) : CAt (w.alloc (.cells cs t)) w.heap.size cs t := (MapKept.heap_alloc w _).1
theorem CAt.below {w w' : World} {b : Nat} {cs : Array Value} {t : TypeId} (h : CAt w b cs t) (hb : Below w.heap.size w w') : CAt w' b cs t := h.keep (hb.block b h.lt)
theorem heap_setCell_ne (w : World) (a : Addr) (v : Value) (b : Nat) (h : b ≠ a.block) : (w.setCell a v).heap[b]? = w.heap[b]? := RowKit.Below.heap_setCell _ _ _ _ h
theorem setCell_size (w : World) (a : Addr) (v : Value) : (w.setCell a v).heap.size = w.heap.size := by
 unfold World.setCell; split <;> simp
theorem size_al (w : World) (o : Obj) : (w.alloc o).heap.size = w.heap.size + 1 := by simp
theorem at_new (w : World) (o : Obj) : (w.alloc o).heap[w.heap.size]? = some o := (MapKept.heap_alloc w o).1
theorem heap_alloc_old (w : World) (o : Obj) {b : Nat} (h : b < w.heap.size) : (w.alloc o).heap[b]? = w.heap[b]? := (MapKept.heap_alloc w o).2 b h
theorem below_al (w : World) (o : Obj) : Below w.heap.size w (w.alloc o) := (Below.refl _ _).alloc (Nat.le_refl _) _
theorem below_on {w0 : World} {w w' : World} (h : Below w0.heap.size w0 w) (hb : Below w.heap.size w w') : Below w0.heap.size w0 w' :=
 ⟨hb.os.trans h.os, hb.tape.trans h.tape, hb.output.trans h.output, Nat.le_trans h.size hb.size, fun k hk => (hb.block k (Nat.lt_of_lt_of_le hk h.size)).trans (h.block k hk)⟩
theorem cell_lt' {w : World} {a : Addr} (h : w.cell? a ≠ none) : a.block < w.heap.size := by
 rcases Nat.lt_or_ge a.block w.heap.size with h1 | h1
 ·exact h1
 ·exact absurd (by simp [World.cell?, Array.getElem?_eq_none h1]) h

/-- Of what was there nothing has turned but blocks of S. -/
structure Only (S : Nat → Prop) (w w' : World) : Prop where
 os : w'.os = w.os
 tape : w'.tape = w.tape
 output : w'.output = w.output
 size : w.heap.size ≤ w'.heap.size
 block : ∀ k, k < w.heap.size → ¬ S k → w'.heap[k]? = w.heap[k]?
theorem Only.refl (S : Nat → Prop) (w : World) : Only S w w := ⟨rfl, rfl, rfl, Nat.le_refl _, fun _ _ _ => rfl⟩
theorem Only.trans {S : Nat → Prop} {a b c : World} (h : Only S a b) (k : Only S b c) : Only S a c :=
 ⟨k.os.trans h.os, k.tape.trans h.tape, k.output.trans h.output, Nat.le_trans h.size k.size, fun i hi hs => (k.block i (Nat.lt_of_lt_of_le hi h.size) hs).trans (h.block i hi hs)⟩
theorem Only.then {S T : Nat → Prop} {a b c : World} (h : Only S a b) (k : Only T b c) (hT : ∀ i, i < a.heap.size → T i → S i) : Only S a c :=
 ⟨k.os.trans h.os, k.tape.trans h.tape, k.output.trans h.output, Nat.le_trans h.size k.size, fun i hi hs => (k.block i (Nat.lt_of_lt_of_le hi h.size) (fun ht => hs (hT i hi ht))).trans (h.block i hi hs)⟩
theorem Only.mono {S T : Nat → Prop} {a b : World} (h : Only S a b) (hS : ∀ i, S i → T i) : Only T a b := ⟨h.os, h.tape, h.output, h.size, fun i hi hs => h.block i hi fun k => hs (hS i k)⟩
theorem Only.of_below {S : Nat → Prop} {a b : World} (h : Below a.heap.size a b) : Only S a b := ⟨h.os, h.tape, h.output, h.size, fun i hi _ => h.block i hi⟩
theorem Only.below {S : Nat → Prop} {a b : World} {B : Nat} (h : Only S a b) (hB : B ≤ a.heap.size) (hS : ∀ i, S i → B ≤ i) : Below B a b :=
 ⟨h.os, h.tape, h.output, h.size, fun i hi => h.block i (by omega) fun k => by have := hS i k; omega⟩
theorem Only.of_grown {S : Nat → Prop} {a b : World} {r : Option Nat} (h : a.grownBy b r) (hr : ∀ k, r = some k → k < a.heap.size → S k) : Only S a b :=
 ⟨h.os, h.tape, h.output, h.size, fun i hi hs => h.block i hi fun e => hs (hr i e.symm hi)⟩
theorem Only.set {S : Nat → Prop} (w : World) (a : Addr) (v : Value) (h : S a.block) : Only S w (w.setCell a v) := by
 exact ⟨rfl, rfl, rfl, Nat.le_of_eq (setCell_size w a v).symm, fun k _ hk => heap_setCell_ne _ _ _ _ fun e => hk (e ▸ h)⟩
theorem Only.alloc {S : Nat → Prop} (w : World) (o : Obj) : Only S w (w.alloc o) := Only.of_grown (World.grownBy_alloc w o none) (by simp)
theorem below_grown {B : Nat} {w w1 w2 : World} {r : Option Nat} (h : Below B w w1) (hg : w1.grownBy w2 r) (hB : B ≤ w.heap.size) (hr : ∀ b, r = some b → B ≤ b) : Below B w w2 :=
 ⟨hg.os.trans h.os, hg.tape.trans h.tape, hg.output.trans h.output, Nat.le_trans h.size hg.size, fun k hk => (hg.block k (by have := h.size; omega) fun e => by have := hr k e.symm; omega).trans (h.block k hk)⟩
theorem below_tr {B : Nat} {w w1 w2 : World} (h : Below B w w1) (k : Below B w1 w2) : Below B w w2 :=
 ⟨k.os.trans h.os, k.tape.trans h.tape, k.output.trans h.output, Nat.le_trans h.size k.size, fun i hi => (k.block i hi).trans (h.block i hi)⟩
theorem below_less {B C : Nat} {w w1 : World} (h : Below B w w1) (hC : C ≤ B) : Below C w w1 := ⟨h.os, h.tape, h.output, h.size, fun i hi => h.block i (by omega)⟩
theorem ownsRow_keep {w w' : World} {B e n s : Nat} {v : Value} {xs : List Value} (h : w.ownsRow B e s v n xs) (hk : ∀ b, v.ownBlock = some b → w'.heap[b]? = w.heap[b]?) : w'.ownsRow B e s v n xs := by
 obtain ⟨h1, h2⟩ := h
 refine ⟨h1, ?_⟩
 rcases h2 with h2 | ⟨g, cap, cur, rfl, hB, hb, r⟩
 ·exact Or.inl h2
 ·exact Or.inr ⟨g, cap, cur, rfl, hB, (hk g rfl).trans hb, r⟩
theorem own_form {w : World} {B e sz n : Nat} {v : Value} {xs : List Value} (h : w.ownsRow B e sz v n xs) : ∃ po cc, v = .slice po n cc := by
 rcases h.2 with ⟨rfl, rfl⟩ | ⟨g, cap, cur, rfl, _⟩
 ·exact ⟨_, _, rfl⟩
 ·exact ⟨_, _, rfl⟩
theorem own_ge {w : World} {B e sz n : Nat} {v : Value} {xs : List Value} (h : w.ownsRow B e sz v n xs) : ∀ b, v.ownBlock = some b → B ≤ b ∧ b < w.heap.size := fun b hb => World.ownsRow.lt h b hb
theorem own_base {w : World} {B B2 e sz n : Nat} {v : Value} {xs : List Value} (h : w.ownsRow B e sz v n xs) (hB : B2 ≤ B) : w.ownsRow B2 e sz v n xs := by
 refine ⟨h.1, ?_⟩
 rcases h.2 with h2 | ⟨g, cap, cur, rfl, hb, r⟩
 ·exact Or.inl h2
 ·exact Or.inr ⟨g, cap, cur, rfl, Nat.le_trans hB hb, r⟩

/-- A text's bytes. -/
def lst (s : ByteArray) : List Nat := s.data.toList.map UInt8.toNat
theorem lst_len (s : ByteArray) : (lst s).length = s.size := by unfold lst; rw [List.length_map, Array.length_toList]; rfl
theorem lst_lt (s : ByteArray) : ∀ x ∈ lst s, x < 256 := fun x hx => by
 obtain ⟨c, _, rfl⟩ := List.mem_map.1 hx; exact c.toNat_lt
theorem lst_inj {s t : ByteArray} (h : lst s = lst t) : s = t := by
 have : s.data.toList = t.data.toList := by
  unfold lst at h
  exact (List.map_inj_right (f := UInt8.toNat) (fun x y e => UInt8.toNat_inj.1 e)).1 h
 cases s; cases t; simp at this; rw [this]
def ba (l : List Nat) : ByteArray := strOfNums (l.map fun (k : Nat) => (k : Int))
theorem lst_ba {l : List Nat} (h : ∀ x ∈ l, x < 256) : lst (ba l) = l := by
 unfold lst ba
 rw [strOfNums_data, List.map_map, List.map_map]
 refine (List.map_congr_left fun x hx => ?_).trans (List.map_id l)
 have := h x hx
 simp only [Function.comp_apply, Int.toNat_natCast, id_eq]
 rw [UInt8.toNat_ofNat']; omega
theorem lst_nil : lst ⟨#[]⟩ = [] := rfl
theorem lst_beq (s t : ByteArray) : (s.toList == t.toList) = decide (lst s = lst t) := by
 rw [ByteArray.toList_eq, ByteArray.toList_eq]
 by_cases h : lst s = lst t
 ·have := lst_inj h; subst this; simp
 ·have : s.data.toList ≠ t.data.toList := fun e => h (by unfold lst; rw [e])
  rw [decide_eq_false h]
  exact Bool.eq_false_iff.2 fun e => this (eq_of_beq e)

/-- The slice leads to the bytes bs. -/
def BL (w : World) (po : Option Addr) (bs : List Nat) : Prop := bs = [] ∨ ∃ b o, po = some ⟨b, o, none⟩ ∧ ∀ i, i < bs.length → w.cell? ⟨b, o + i, none⟩ = some (u8 (bs.getD i 0))
theorem BL.keep {w w' : World} {po : Option Addr} {bs : List Nat} (h : BL w po bs) (hk : ∀ a, w.cell? a ≠ none → w'.cell? a = w.cell? a) : BL w' po bs := by
 rcases h with h | ⟨b, o, rfl, h⟩
 ·exact Or.inl h
 ·exact Or.inr ⟨b, o, rfl, fun i hi => (hk _ (by rw [h i hi]; simp)).trans (h i hi)⟩
theorem BL.below {w w' : World} {po : Option Addr} {bs : List Nat} (h : BL w po bs) (hb : Below w.heap.size w w') : BL w' po bs :=
 h.keep fun a ha => World.cell?_of_block (hb.block a.block (cell_lt' ha))
theorem BL.onlyAt {w w' : World} {po : Option Addr} {bs : List Nat} {S : Nat → Prop} (h : BL w po bs) (ho : Only S w w') (hS : bs ≠ [] → ∀ a, po = some a → ¬ S a.block) : BL w' po bs := by
 rcases h with h | ⟨b, o, rfl, h⟩
 ·exact Or.inl h
 ·refine Or.inr ⟨b, o, rfl, fun i hi => ?_⟩
  have hne : bs ≠ [] := fun e => by subst e; simp at hi
  have hc := h i hi
  exact (World.cell?_of_block (ho.block b (cell_lt' (a := ⟨b, o + i, none⟩) (by rw [hc]; simp)) (hS hne _ rfl))).trans hc
theorem BL.nil (w : World) (po : Option Addr) : BL w po [] := Or.inl rfl
theorem BL.conv {w : World} {po : Option Addr} {bs : List Nat} (h : BL w po bs) (c : Nat) : (convert 22 9 (.slice po bs.length c)).run Tryz.prog w = .ok (.string (ba bs)) w := by
 rcases h with rfl | ⟨b, o, rfl, h⟩
 ·rw [run_convert_bytes_string w 22 9 5 _ _ c Tryz.underlying22 Tryz.underlying5 Tryz.underlying9]
  cases po <;> simp [Conv.bytesToString, loadCells, ba]
  all_goals rfl
 ·exact run_convert_bytes_arg w 22 5 Tryz.underlying22 Tryz.underlying5 b o bs.length c _ (by simp) (fun i hi => by rw [h i hi]; simp [List.getD, hi, u8]) 9 Tryz.underlying9
theorem getD_drop (bs : List Nat) (n i : Nat) : (bs.drop n).getD i 0 = bs.getD (n + i) 0 := by simp [List.getD]
theorem getD_take {bs : List Nat} {n i : Nat} (h : i < n) : (bs.take n).getD i 0 = bs.getD i 0 := by simp [List.getD, h]
theorem BL.drop {w : World} {b o : Nat} {bs : List Nat} (h : BL w (some ⟨b, o, none⟩) bs) (n : Nat) : BL w (some ⟨b, o + n, none⟩) (bs.drop n) := by
 rcases h with rfl | ⟨b', o', e, h⟩
 ·exact Or.inl (by simp)
 ·cases e
  refine Or.inr ⟨b, o + n, rfl, fun i hi => ?_⟩
  rw [List.length_drop] at hi
  rw [getD_drop, show o + n + i = o + (n + i) by omega]
  exact h (n + i) (by omega)
theorem BL.take {w : World} {po : Option Addr} {bs : List Nat} (h : BL w po bs) (n : Nat) : BL w po (bs.take n) := by
 rcases h with rfl | ⟨b, o, rfl, h⟩
 ·exact Or.inl (by simp)
 ·refine Or.inr ⟨b, o, rfl, fun i hi => ?_⟩
  rw [List.length_take] at hi
  rw [getD_take (by omega)]
  exact h i (by omega)
/-- Bytes in a row of their own. -/
def Buf (B : Nat) (w : World) (v : Value) (L : List Nat) : Prop := w.ownsRow B 5 1 v L.length (L.map u8)
theorem Buf.nil (B : Nat) (w : World) : Buf B w (.slice none 0 0) [] := World.ownsRow_nil w B 5 1
theorem Buf.form {B : Nat} {w : World} {v : Value} {L : List Nat} (h : Buf B w v L) : ∃ po cc, v = .slice po L.length cc := own_form h
theorem Buf.below {B : Nat} {w w' : World} {v : Value} {L : List Nat} (h : Buf B w v L) (hb : Below w.heap.size w w') : Buf B w' v L :=
 ownsRow_keep h fun b hv => hb.block b (own_ge h b hv).2
theorem Buf.bl {B : Nat} {w : World} {po : Option Addr} {n c : Nat} {L : List Nat} (h : Buf B w (.slice po n c) L) : BL w po L := by
 rcases h.2 with ⟨e, h0⟩ | ⟨g, cap, cur, e, _, hg, h1, _, h3, h4⟩
 ·exact Or.inl (List.eq_nil_of_length_eq_zero h0)
 ·cases e
  refine Or.inr ⟨g, 0, rfl, fun i hi => ?_⟩
  have hc : CAt w g cur 5 := hg
  rw [Nat.zero_add, hc.cell]
  have := congrArg (fun l => l[i]?) h4
  simp [hi] at this
  rw [this]
  simp [u8, List.getD, List.getElem?_eq_getElem hi]
/-- append(v, b...), the bytes anywhere. -/
theorem Buf.app {B : Nat} {w : World} {v : Value} {L : List Nat} (hv : Buf B w v L) (po : Option Addr) (c : Nat) (bs : List Nat) (hb : BL w po bs) (hc : po = none → c = 0) (hn : L.length + bs.length ≤ 2000000) (hB : B ≤ w.heap.size) :
  ∃ v' w', (Builtin.append_ #[22, 22] 22 #[v, .slice po bs.length c]).run Tryz.prog w = .ok v' w' ∧ Buf B w' v' (L ++ bs) ∧ w.grownBy w' v.ownBlock := by
 obtain ⟨i0, hi0, hz0, hz1, hz2⟩ := info_parts Tryz.info5
 cases po with
 | none =>
  have : bs = [] := by rcases hb with h | ⟨b, o, h, _⟩
                       ·exact h
                       ·cases h
  subst this
  obtain rfl := hc rfl
  refine ⟨v, w, run_append_owned_none (P := Tryz.prog) (w := w) B 22 22 5 i0 1 Tryz.underlying22 hi0 v _ _ hv, by simpa using hv, ⟨rfl, rfl, rfl, Nat.le_refl _, fun _ _ _ => rfl⟩⟩
 | some a =>
  obtain ⟨v', w', hr, h2, h3, _, _⟩ := run_append_own_at (P := Tryz.prog) w B 22 22 5 i0 (.int .u8 0) 1 1 Tryz.underlying22 hi0 hz0 hz1 hz2 rfl (by decide) v L.length (L.map u8) hv a bs.length c (bs.map u8) (by simp) (fun j u hj => by
    have hjl : j < bs.length := by
     rcases Nat.lt_or_ge j bs.length with q | q
     ·exact q
     ·rw [List.getElem?_eq_none (by simpa using q)] at hj; cases hj
    have e : u = u8 (bs.getD j 0) := by simp [hjl] at hj; rw [← hj]; simp [List.getD, hjl]
    rcases hb with h | ⟨b, o, e2, h⟩
    ·subst h; simp at hjl
    ·cases e2
     rw [add_none, e]; exact h j hjl) (by intro u hu; simp at hu; obtain ⟨k, _, rfl⟩ := hu; rfl) (by unfold maxLen; omega) (by omega) hB
  refine ⟨v', w', hr, ?_, h3⟩
  unfold Buf; rw [List.length_append, List.map_append]; exact h2
end Go.Proofs.YtdohmokhfajjpaaGreatDoor

/- errors.Is of two errors of errors.New; told. -/
namespace Go.Proofs.YtdohmokhfajjpaaGreatDoor
open Go Go.RowKit Go.Extern.Stop Go.Stop Go.Extern

abbrev eV (a : Addr) : Value := .iface 197 (.pointer (some a))
theorem callTypeOf (v : Value) (w : World) : (callFunc 89 #[.iface 197 v]).run Tryz.prog w = .ok (.value (.iface 162 (.agg #[.pointer (some ⟨2, 197, none⟩)]))) w := by
 rw [run_callFunc_extern (e := Extern.ReflectliteType.typeOf) Tryz.func89 (by kernel_rfl) (by kernel_rfl) (by kernel_rfl) (by kernel_rfl)]
 have h : (Extern.ReflectliteType.typeOf #[.iface 197 v]).run Tryz.prog w = .ok (.iface 162 (.agg #[.pointer (some ⟨2, 197, none⟩)])) w := by kernel_rfl
 rw [h]; rfl
theorem callComparable (w : World) : (callFunc 150 #[.agg #[.pointer (some ⟨2, 197, none⟩)]]).run Tryz.prog w = .ok (.value (.bool true)) w := by
 rw [run_callFunc_extern (e := Extern.ReflectliteType.method fun t => do Rtype.noPackHeld "Comparable" t; pure (.bool (← typeInfo t).comparable)) Tryz.func150 (by kernel_rfl) (by kernel_rfl) (by kernel_rfl) (by kernel_rfl)]
 have h : ((Extern.ReflectliteType.method fun t => do Rtype.noPackHeld "Comparable" t; pure (.bool (← typeInfo t).comparable)) #[.agg #[.pointer (some ⟨2, 197, none⟩)]]).run Tryz.prog w = .ok (.bool true) w := by kernel_rfl
 rw [h]; rfl
theorem isComp : (Tryz.prog.info? 197).map (·.comparable) = some true := by kernel_rfl
theorem isSize : (Tryz.prog.info? 220).map (·.size) = some 1 := by kernel_rfl
theorem noIs (v : Value) (xT : TypeId) (w : World) : (Instr.typeAssert (.iface 197 v) xT 164 true).run Tryz.prog w = .ok (.tuple #[.nilIface, .bool false]) w := run_typeAssert_lacksB Tryz.underlying164 (by kernel_rfl) (by kernel_rfl) v xT w
theorem noUnwrap (v : Value) (xT : TypeId) (w : World) : (Instr.typeAssert (.iface 197 v) xT 167 true).run Tryz.prog w = .ok (.tuple #[.nilIface, .bool false]) w := run_typeAssert_lacksB Tryz.underlying167 (by kernel_rfl) (by kernel_rfl) v xT w
theorem noUnwraps (v : Value) (xT : TypeId) (w : World) : (Instr.typeAssert (.iface 197 v) xT 169 true).run Tryz.prog w = .ok (.tuple #[.nilIface, .bool false]) w := run_typeAssert_lacksB Tryz.underlying169 (by kernel_rfl) (by kernel_rfl) v xT w
theorem isMethod (v : Value) (w : World) : (Go.method 332 162 v "Comparable").run Tryz.prog w = .ok (150, v) w := by kernel_rfl
set_option maxRecDepth 100000 in
set_option maxHeartbeats 1000000 in
theorem is_same (a : Addr) (w : World) : Calls Tryz.prog 69 #[eV a, eV a] w fun e w' => e = .returned (.bool true) ∧ w' = w := by
 obtain ⟨i, hi, hcmp⟩ := Option.map_eq_some_iff.1 isComp
 obtain ⟨j, hj, hjs⟩ := Option.map_eq_some_iff.1 isSize
 have tT := callTypeOf
 have cT := callComparable
 have mR := isMethod
 have heq := run_eql_iface_ptr_same (P := Tryz.prog) w a Tryz.underlying100 Tryz.underlying197 hi hcmp hj
 go_enter Tryz.func69, Tryz.ntmps69
 go_wp2
 refine wp_loop_rounds 1 ?_
 rw [rounds_succ]
 go_wp2
 go_ret
 exact ⟨rfl, rfl⟩
set_option maxRecDepth 100000 in
set_option maxHeartbeats 1000000 in
theorem is_other (a b : Addr) (ca cb : Array Value) (ta tb : TypeId) (w : World) (hne : a ≠ b) (ha : w.heap[a.block]? = some (.cells ca ta (0, 0))) (hb : w.heap[b.block]? = some (.cells cb tb (0, 0))) : Calls Tryz.prog 69 #[eV a, eV b] w fun e w' => e = .returned (.bool false) ∧ w' = w := by
 obtain ⟨i, hi, hcmp⟩ := Option.map_eq_some_iff.1 isComp
 obtain ⟨j, hj, hjs⟩ := Option.map_eq_some_iff.1 isSize
 have tT := callTypeOf
 have cT := callComparable
 have mR := isMethod
 have nE := noIs
 have uE := noUnwrap
 have vE := noUnwraps
 have heq := run_eql_iface_ptr_other (P := Tryz.prog) w Tryz.underlying100 Tryz.underlying197 hi hcmp hj (by rw [hjs]; decide) hne ha hb
 go_enter Tryz.func69, Tryz.ntmps69
 go_wp2
 refine wp_loop_rounds 1 ?_
 rw [rounds_succ]
 go_wp2
 go_ret
 exact ⟨rfl, rfl⟩
/-- The two errors of package journal, as start-up code lays them. -/
structure Ers (w : World) (a0 a1 : Addr) : Prop where
 c0 : w.cell? ⟨0, 0, none⟩ = some (eV a0)
 c1 : w.cell? ⟨1, 0, none⟩ = some (eV a1)
 ne : a1 ≠ a0
 r0 : ∃ ca ta, w.heap[a0.block]? = some (.cells ca ta (0, 0))
 r1 : ∃ ca ta, w.heap[a1.block]? = some (.cells ca ta (0, 0))
theorem Ers.below {w W : World} {a0 a1 : Addr} (h : Ers w a0 a1) (hb : Below w.heap.size w W) : Ers W a0 a1 where
 c0 := (World.cell?_of_block (hb.block _ (cell_lt' (by rw [h.c0]; simp)))).trans h.c0
 c1 := (World.cell?_of_block (hb.block _ (cell_lt' (by rw [h.c1]; simp)))).trans h.c1
 ne := h.ne
 r0 := by obtain ⟨ca, ta, e⟩ := h.r0; exact ⟨ca, ta, (hb.block _ (Array.getElem?_eq_some_iff.1 e).1).trans e⟩
 r1 := by obtain ⟨ca, ta, e⟩ := h.r1; exact ⟨ca, ta, (hb.block _ (Array.getElem?_eq_some_iff.1 e).1).trans e⟩
set_option maxRecDepth 100000 in
theorem told_turned (a0 a1 : Addr) (w : World) (h : Ers w a0 a1) : Calls Tryz.prog 45 #[eV a0] w fun e w' => e = .returned (i64 14) ∧ w' = w := by
 have c0 := h.c0
 clear h
 go_enter Tryz.func45, Tryz.ntmps45
 go_wp2_with (go_at_call 69; refine (is_same a0 _).mono ?_; rintro e w1 ⟨rfl, hw1⟩; have hw2 := hw1.symm; subst hw2)
 go_ret
 exact ⟨rfl, rfl⟩
set_option maxRecDepth 100000 in
theorem told_form (a0 a1 : Addr) (w : World) (h : Ers w a0 a1) : Calls Tryz.prog 45 #[eV a1] w fun e w' => e = .returned (i64 4) ∧ w' = w := by
 have c0 := h.c0
 have HE := hid h
 clear h
 go_enter Tryz.func45, Tryz.ntmps45
 go_wp2_with (go_at_call 69; obtain ⟨ca, ta, e0⟩ := HE.out.r0; obtain ⟨cb, tb, e1⟩ := HE.out.r1; refine (is_other a1 a0 cb ca tb ta _ HE.out.ne e1 e0).mono ?_; rintro e w1 ⟨rfl, hw1⟩; have hw2 := hw1.symm; subst hw2)
 go_ret
 exact ⟨rfl, rfl⟩
end Go.Proofs.YtdohmokhfajjpaaGreatDoor

/- What the row's two listed errors give: Ers. -/
namespace Go.Proofs.YtdohmokhfajjpaaGreatDoor
open Go Go.RowKit

theorem gForm : Tryz.prog.globalNamed "stowage/journal.errForm" = some 1 := by kernel_rfl
theorem gTurned : Tryz.prog.globalNamed "stowage/journal.errTurned" = some 0 := by kernel_rfl
theorem gFormT : (Tryz.prog.globals[1]?).map (·.type) = some 100 := by kernel_rfl
theorem gTurnedT : (Tryz.prog.globals[0]?).map (·.type) = some 100 := by kernel_rfl
theorem cellsEs : Tryz.prog.cellsOf 220 = 1 := by kernel_rfl
theorem cellsStr : Tryz.prog.cellsOf 9 = 1 := by kernel_rfl
theorem starEs : "*" ++ "errors.errorString" = "*errors.errorString" := by decide
theorem rowEs (u : TypeId) (h : Tryz.prog.typeName? 3 u = some "*errors.errorString") : u = 197 :=
 typeName_ptr_named (nm := "errors.errorString") (by rw [starEs]; kernel_rfl) (by kernel_rfl) (by decide) u (by rw [starEs]; exact h)
theorem ers_laid {W : World} (h : laidMetH Tryz.prog [("stowage/journal.errForm", Rows.laid_stowage_journal_errForm), ("stowage/journal.errTurned", Rows.laid_stowage_journal_errTurned)] W) : ∃ a0 a1, Ers W a0 a1 := by
 rw [Go.MakeChecks.laidMetH_plain _ _ _ (by kernel_rfl)] at h
 obtain ⟨a1, a0, s1, s0, c1, c0, t1, t0, hv1, hv0, hc1, hs1, hz1, hc0, hs0, hz0, hne, hb1, hb0⟩ := laid_sentinels2 h gForm gFormT gTurned gTurnedT Tryz.underlying100 rowEs Tryz.underlying197 Tryz.underlying220 rfl rfl Tryz.underlying9 cellsEs cellsStr
 exact ⟨a0, a1, ⟨by simpa using World.var?_cell gTurned hv0 0, by simpa using World.var?_cell gForm hv1 0, hne, ⟨_, _, hb0⟩, ⟨_, _, hb1⟩⟩⟩
end Go.Proofs.YtdohmokhfajjpaaGreatDoor

/- A region that draws its order, whose operations only read but for the last one, for which all others must have come up: one walk in the text's order serves every order. -/
namespace Go.Proofs.YtdohmokhfajjpaaGreatDoor.H
open Go

section
variable {P : Program} {ops : Array Oper} {md : Region.Mode} {C : World → Prop}

/-- n more operations that only read come up, in whatever order; then the last one. -/
def wpAnyT (P : Program) (md : Region.Mode) (ops : Array Oper) (C : World → Prop) (last : Nat) (R : Act → Prop) : Nat → Array Bool → Act → Prop
 | 0, listed, a => Region.ready md ops listed = [last] ∧ Region.ready md ops (listed.setIfInBounds last true) = [] ∧ R a
 | n + 1, listed, a => Region.ready md ops listed ≠ [] ∧ last ∉ Region.ready md ops listed ∧ ∀ i ∈ Region.ready md ops listed, qOp P ops C i (wpAnyT P md ops C last R n (listed.setIfInBounds i true)) a

theorem wpAny_of_T {last : Nat} {R : Act → Prop} {Q : Exit → Act → World → Prop} (hR : ∀ a w, C w → R a → wpOp P ops Q last (fun a w => Q .normal a w) a w) : ∀ (n : Nat) (listed : Array Bool) (a : Act) (w : World), C w →
  wpAnyT P md ops C last R n listed a → wpAny P md ops Q (n + 1) listed a w
 | 0, listed, a, w, hw, h => by
  obtain ⟨h1, h2, h3⟩ := h
  refine ⟨fun h0 => (by rw [h1] at h0; cases h0), fun i hi => ?_⟩
  rw [h1, List.mem_singleton] at hi
  subst hi
  exact wpOp_mono (fun a' w' hq => ⟨h2, hq⟩) (hR a w hw h3)
 | n + 1, listed, a, w, hw, h => by
  obtain ⟨h1, _, h3⟩ := h
  exact ⟨fun h0 => absurd h0 h1, fun i hi => wpOp_of_qOp hw (fun a' w' hw' hh => wpAny_of_T hR n _ a' w' hw' hh) (h3 i hi)⟩

theorem wpAnyT_first {last : Nat} {R : Act → Prop} {i : Nat} {oi ol : Oper} {v : Value} (hi : ops[i]? = some oi) (hol : ops[last]? = some ol) (hwait : ∃ e ∈ ol.after, Region.binds md e = true ∧ e.on = i)
  (hsel : ∀ (j : Nat) (o : Oper) cs b, ops[j]? = some o → o.op ≠ .select cs b) : ∀ (n : Nat) (listed : Array Bool) (a : Act),
   (∀ j oj, ops[j]? = some oj → j ≠ i → listed.getD j true = false → (∀ e ∈ oj.after, Region.binds md e = true → e.on ≠ i) → oi.apart ops oj = true) →
   i ∈ Region.ready md ops listed → YieldsIn P ops C oi v a →
   wpAnyT P md ops C last R n (listed.setIfInBounds i true) (a.put oi.dst v) → wpAnyT P md ops C last R (n + 1) listed a := by
 have hnl : ∀ listed : Array Bool, i ∈ Region.ready md ops listed → last ∉ Region.ready md ops listed := fun listed hr hl => by
  obtain ⟨_, o, ho, hall⟩ := mem_ready.1 hl
  obtain ⟨e, he, hb, hon⟩ := hwait
  rw [hol] at ho
  cases ho
  have h1 := hall e he hb
  have h0 := (mem_ready.1 hr).1
  rw [hon] at h1
  rcases Nat.lt_or_ge i listed.size with h' | h'
  ·simp [h'] at h0 h1; rw [h0] at h1; cases h1
  ·simp [Array.getElem?_eq_none h'] at h1
 intro n
 induction n with
 | zero =>
  intro listed a _ hr hy H
  refine ⟨fun h => (by rw [h] at hr; cases hr), hnl _ hr, fun j hj => ?_⟩
  by_cases hji : j = i
  ·subst hji; exact hy.qOp hi H
  ·have h1 := ready_mono hj hji
   rw [H.1, List.mem_singleton] at h1
   subst h1
   exact absurd hj (hnl _ hr)
 | succ n ih =>
  intro listed a hfree hr hy H
  refine ⟨fun h => (by rw [h] at hr; cases hr), hnl _ hr, fun j hj => ?_⟩
  by_cases hji : j = i
  ·subst hji; exact hy.qOp hi H
  ·have h1 := H.2.2 j (ready_mono hj hji)
   obtain ⟨hjun, oj, hoj, hall⟩ := mem_ready.1 hj
   have hnot : ∀ e ∈ oj.after, Region.binds md e = true → e.on ≠ i := fun e he hb heq => by
    have h1 := hall e he hb
    have h0 := (mem_ready.1 hr).1
    rw [heq] at h1
    rcases Nat.lt_or_ge i listed.size with h' | h'
    ·simp [h'] at h0 h1; rw [h0] at h1; cases h1
    ·simp [Array.getElem?_eq_none h'] at h1
   have h2 := qOp_put hoj (hfree j oj hoj hji hjun hnot) (fun cs b => hsel i oi cs b hi) (fun cs b => hsel j oj cs b hoj) hy h1
   refine qOp_mono (fun a' h3 => ih (listed.setIfInBounds j true) a' (fun k ok hk hki hun hno => ?_) (ready_mono hr (Ne.symm hji)) h3.1 ?_) h2
   ·refine hfree k ok hk hki ?_ hno
    by_cases hjk : j = k
    ·subst hjk; exact hjun
    ·rw [getD_set_ne true hjk] at hun; exact hun
   ·rw [Array.setIfInBounds_comm _ _ hji]
    exact h3.2

/-- Held by reckoning: the operations up to the last may come up in the text's order, each apart from what does not wait for it; the last waits for all. -/
def lexT (md : Region.Mode) (ops : Array Oper) (last : Nat) : Nat → Nat → Array Bool → Bool
 | 0, _, listed => decide (Region.ready md ops listed = [last]) && (Region.ready md ops (listed.setIfInBounds last true)).isEmpty
 | n + 1, k, listed => (Region.ready md ops listed).contains k && Region.free md ops listed k && (match ops[last]? with | some ol => ol.after.any (fun e => Region.binds md e && e.on == k) | none => false) && lexT md ops last n (k + 1) (listed.setIfInBounds k true)

theorem wpAnyT_lex {last : Nat} {R : Act → Prop} (hs : Region.noSelect ops = true) : ∀ (l : List Oper) (k : Nat) (listed : Array Bool) (a : Act), (∀ j, j < l.length → l[j]? = ops[k + j]?) →
  lexT md ops last l.length k listed = true → wpQuiet P ops C R l a → wpAnyT P md ops C last R l.length listed a
 | [], _, _, _, _, hB, h => by
  simp only [List.length_nil, lexT, Bool.and_eq_true, decide_eq_true_eq, List.isEmpty_iff] at hB
  exact ⟨hB.1, hB.2, h⟩
 | o :: l, k, listed, a, hl, hB, h => by
  have h0 : ops[k]? = some o := by simpa using (hl 0 (by simp)).symm
  simp only [List.length_cons, lexT, Bool.and_eq_true] at hB
  obtain ⟨⟨⟨hr, hf⟩, hw⟩, hB'⟩ := hB
  cases hol : ops[last]? with
  | none => simp [hol] at hw
  | some ol =>
   have hwait : ∃ e ∈ ol.after, Region.binds md e = true ∧ e.on = k := by
    simp only [hol, Array.any_eq_true', Bool.and_eq_true, beq_iff_eq] at hw
    obtain ⟨e, he, h1, h2⟩ := hw
    exact ⟨e, he, h1, h2⟩
   have hst : qOp P ops C k (wpQuiet P ops C R l) a := by unfold qOp; simp only [h0]; exact h
   obtain ⟨v, hy, hK⟩ := yieldsIn_of_qOp h0 hst
   exact wpAnyT_first h0 hol hwait (Region.noSelect_spec hs) l.length listed a (Region.free_spec h0 hf) (by simpa using hr) hy
    (wpAnyT_lex hs l (k + 1) _ _ (fun j hj => by have := hl (j + 1) (by simp; omega); simpa [Nat.add_assoc, Nat.add_comm 1 j] using this) hB' hK)

def lastB (ops : Array Oper) : Bool := Region.noSelect ops && lexT .any ops (ops.size - 1) (ops.size - 1) 0 (Array.replicate ops.size false)

/-- The region's law: the quiet walk of all but the last, then the last one, as in a plain region. -/
theorem wp_region_last {id : Nat} {Q : Exit → Act → World → Prop} {a : Act} {w : World} {l : List Oper} {o : Oper} (hm : P.follows .mixedOrders = true) (hB : lastB (l ++ [o]).toArray = true)
  (h : wpQuiet P (l ++ [o]).toArray (fun w' => ∃ n, w' = w.drewN n) (fun a' => ∀ n, wpList P (l ++ [o]).toArray Q [o] a' (w.drewN n)) l a) : (Code.region id (l ++ [o]).toArray true).wp P Q a w := by
 simp only [lastB, Bool.and_eq_true] at hB
 have hsz : (l ++ [o]).toArray.size = l.length + 1 := by simp
 rw [hsz] at hB
 refine wp_region_any hm ?_
 rw [hsz]
 refine wpAny_of_T (C := fun w' => ∃ n, w' = w.drewN n) (last := l.length) (R := fun a' => ∀ n, wpList P (l ++ [o]).toArray Q [o] a' (w.drewN n)) ?_ l.length _ _ _ ⟨1, rfl⟩ ?_
 ·rintro a' w' ⟨n, rfl⟩ hr
  have h1 := hr n
  unfold wpOp
  rw [show (l ++ [o]).toArray[l.length]? = some o by simp]
  exact h1
 ·exact wpAnyT_lex hB.1 l 0 _ a (fun j hj => by simp [List.getElem?_append_left hj]) (by simpa using hB.2) h
/-- The same, the list cut by the kernel. -/
theorem wp_region_last_lit {id : Nat} {Q : Exit → Act → World → Prop} {a : Act} {w : World} {x : Oper} {r : List Oper} (hm : P.follows .mixedOrders = true) (hB : lastB (x :: r).toArray = true)
  (h : wpQuiet P (x :: r).toArray (fun w' => ∃ n, w' = w.drewN n) (fun a' => ∀ n, wpList P (x :: r).toArray Q [(x :: r).getLast (List.cons_ne_nil x r)] a' (w.drewN n)) (x :: r).dropLast a) : (Code.region id (x :: r).toArray true).wp P Q a w := by
 have e : (x :: r) = (x :: r).dropLast ++ [(x :: r).getLast (List.cons_ne_nil x r)] := (List.dropLast_concat_getLast (List.cons_ne_nil x r)).symm
 have key : ∀ k : List Oper, k = (x :: r).dropLast ++ [(x :: r).getLast (List.cons_ne_nil x r)] → lastB k.toArray = true → wpQuiet P k.toArray (fun w' => ∃ n, w' = w.drewN n) (fun a' => ∀ n, wpList P k.toArray Q [(x :: r).getLast (List.cons_ne_nil x r)] a' (w.drewN n)) (x :: r).dropLast a → (Code.region id k.toArray true).wp P Q a w := by
  intro k hk hB' h'
  subst hk
  exact wp_region_last hm hB' h'
 exact key (x :: r) e hB h
end
end Go.Proofs.YtdohmokhfajjpaaGreatDoor.H
