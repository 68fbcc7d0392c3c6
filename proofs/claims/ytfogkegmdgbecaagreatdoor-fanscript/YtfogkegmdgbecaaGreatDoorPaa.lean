/- Texts laid into one, cut to what is needed: the remark ahead of each part says what is proved there. -/
import Derived.Test.YtfogkegmdgbecaaGreatDoorRows
import Derived.Maps.RangeWalk
import Derived.WalkKit
import Derived.WalkSpells
import Derived.WalkLawsBesides
import Derived.Maps.OwnSet
import Derived.Laws.Rows
import Derived.Laws.CopyOwn
import Derived.Deep.RegionHeld3
import Derived.Deep.QuietTactic
import Derived.LaidEqlPtr
/- Drives as mathematics: names, files by rising names, and what each call makes of them. -/
namespace Go.Proofs.YtfogkegmdgbecaaGreatDoor
open Go

abbrev Nm := List UInt8
def okNm (s : Nm) : Bool := decide (1 ≤ s.length) && (decide (s.length ≤ 512) && s.all fun c => decide (33 ≤ c.toNat) && decide (c.toNat ≤ 126))

section
variable {α β : Type}
def gget (L : List (Nm × α)) (s : Nm) : Option α := (L.find? fun p => p.1 == s).map (·.2)
def gdel (L : List (Nm × α)) (s : Nm) : List (Nm × α) := L.filter fun p => !(p.1 == s)
def gins (x : Nm × α) : List (Nm × α) → List (Nm × α)
 | [] => [x]
 | y :: r => if bytesBefore x.1 y.1 then x :: y :: r else y :: gins x r
def gput (L : List (Nm × α)) (s : Nm) (a : α) : List (Nm × α) := gins (s, a) (gdel L s)
def Srt (L : List (Nm × α)) : Prop := L.Pairwise fun p q => bytesBefore p.1 q.1 = true
def gmap (f : α → β) (L : List (Nm × α)) : List (Nm × β) := L.map fun p => (p.1, f p.2)

theorem bb_irrefl (a : Nm) : bytesBefore a a = false := by
 have := WideShapes.before_irrefl (.string a); simpa [Lit.before] using this
theorem bb_trans {a b c : Nm} (h1 : bytesBefore a b = true) (h2 : bytesBefore b c = true) : bytesBefore a c = true := by
 have := WideShapes.before_trans (a := .string a) (b := .string b) (c := .string c) (by simpa [Lit.before] using h1) (by simpa [Lit.before] using h2)
 simpa [Lit.before] using this
theorem bb_total {a b : Nm} (h : a ≠ b) : bytesBefore a b = true ∨ bytesBefore b a = true := by
 have := ChangeMaps.before_total (a := .string a) (b := .string b) ⟨a, rfl⟩ ⟨b, rfl⟩ (fun e => h (by cases e; rfl))
 simpa [Lit.before] using this
theorem bb_ne {a b : Nm} (h : bytesBefore a b = true) : a ≠ b := fun e => by subst e; rw [bb_irrefl] at h; cases h
theorem bb_lt : ∀ (a b : Nm), bytesBefore a b = true ↔ a < b
 | [], [] => by simp [bytesBefore]
 | [], _ :: _ => by simp [bytesBefore]
 | _ :: _, [] => by simp [bytesBefore]
 | x :: r, y :: s => by
  have ih := bb_lt r s
  rw [List.cons_lt_cons_iff, ← ih]
  simp [bytesBefore]

theorem gget_map (f : α → β) (L : List (Nm × α)) (s : Nm) : gget (gmap f L) s = (gget L s).map f := by
 unfold gget gmap
 rw [List.find?_map]
 simp [Function.comp_def]
theorem gdel_map (f : α → β) (L : List (Nm × α)) (s : Nm) : gdel (gmap f L) s = gmap f (gdel L s) := by
 unfold gdel gmap; rw [List.filter_map]; rfl
theorem gins_map (f : α → β) (x : Nm × α) : ∀ L : List (Nm × α), gins (x.1, f x.2) (gmap f L) = gmap f (gins x L)
 | [] => rfl
 | y :: r => by
  have ih := gins_map f x r
  simp only [gmap, List.map_cons, gins] at ih ⊢
  split
  ·rfl
  ·rw [List.map_cons, ← ih]
theorem gput_map (f : α → β) (L : List (Nm × α)) (s : Nm) (a : α) : gput (gmap f L) s (f a) = gmap f (gput L s a) := by
 unfold gput; rw [gdel_map]; exact gins_map f (s, a) _
theorem gins_perm (x : Nm × α) : ∀ L : List (Nm × α), (gins x L).Perm (x :: L)
 | [] => List.Perm.refl _
 | y :: r => by
  unfold gins; split
  ·exact List.Perm.refl _
  ·exact ((gins_perm x r).cons y).trans (List.Perm.swap x y r)
theorem mem_del {L : List (Nm × α)} {s : Nm} {p : Nm × α} : p ∈ gdel L s ↔ p ∈ L ∧ p.1 ≠ s := by simp [gdel]
theorem mem_put {L : List (Nm × α)} {s : Nm} {a : α} {p : Nm × α} : p ∈ gput L s a ↔ p = (s, a) ∨ (p ∈ L ∧ p.1 ≠ s) := by
 unfold gput; rw [(gins_perm _ _).mem_iff, List.mem_cons, mem_del]
theorem Srt.del {L : List (Nm × α)} (h : Srt L) (s : Nm) : Srt (gdel L s) := List.Pairwise.filter _ h
theorem srt_ins {x : Nm × α} : ∀ {L : List (Nm × α)}, Srt L → (∀ p ∈ L, p.1 ≠ x.1) → Srt (gins x L)
 | [], _, _ => by simp [gins, Srt]
 | y :: r, h, hne => by
  obtain ⟨h1, h2⟩ := List.pairwise_cons.1 h
  unfold gins; split
  ·rename_i hb
   refine List.pairwise_cons.2 ⟨fun q hq => ?_, h⟩
   rcases List.mem_cons.1 hq with rfl | hq
   ·exact hb
   ·exact bb_trans hb (h1 q hq)
  ·rename_i hb
   have hyx : bytesBefore y.1 x.1 = true := by
    rcases bb_total (hne y (by simp)) with h' | h'
    ·exact h'
    ·exact absurd h' hb
   refine List.pairwise_cons.2 ⟨fun q hq => ?_, srt_ins h2 (fun p hp => hne p (by simp [hp]))⟩
   rcases List.mem_cons.1 ((gins_perm x r).mem_iff.1 hq) with rfl | hq
   ·exact hyx
   ·exact h1 q hq
theorem Srt.put {L : List (Nm × α)} (h : Srt L) (s : Nm) (a : α) : Srt (gput L s a) := srt_ins (h.del s) fun _ hp => (mem_del.1 hp).2
theorem Srt.map {L : List (Nm × α)} (h : Srt L) (f : α → β) : Srt (gmap f L) := List.pairwise_map.2 h
theorem srt_map {L : List (Nm × α)} {f : α → β} (h : Srt (gmap f L)) : Srt L := List.pairwise_map.1 h
theorem Srt.apart {L : List (Nm × α)} (h : Srt L) : L.Pairwise fun p q => p.1 ≠ q.1 := List.Pairwise.imp (fun h => bb_ne h) h
theorem gget_none {L : List (Nm × α)} {s : Nm} : gget L s = none ↔ ∀ p ∈ L, p.1 ≠ s := by
 unfold gget; rw [Option.map_eq_none_iff, List.find?_eq_none]; simp
theorem gget_mem {L : List (Nm × α)} {s : Nm} {a : α} (h : gget L s = some a) : (s, a) ∈ L := by
 unfold gget at h
 obtain ⟨p, hp, rfl⟩ := Option.map_eq_some_iff.1 h
 have h1 := List.find?_some hp
 have h2 := List.mem_of_find?_eq_some hp
 simp at h1; rw [← h1]; exact h2
theorem pw_key {L : List (Nm × α)} (h : L.Pairwise fun p q => p.1 ≠ q.1) {p q : Nm × α} (hp : p ∈ L) (hq : q ∈ L) (e : p.1 = q.1) : p = q := by
 induction L with
 | nil => simp at hp
 | cons x r ih =>
  obtain ⟨h1, h2⟩ := List.pairwise_cons.1 h
  rcases List.mem_cons.1 hp with rfl | hp' <;> rcases List.mem_cons.1 hq with rfl | hq'
  ·rfl
  ·exact absurd e (h1 q hq')
  ·exact absurd e.symm (h1 p hp')
  ·exact ih h2 hp' hq'
theorem gget_of_mem {L : List (Nm × α)} (h : Srt L) {s : Nm} {a : α} (hm : (s, a) ∈ L) : gget L s = some a := by
 cases hg : gget L s with
 | none => exact absurd rfl (gget_none.1 hg _ hm)
 | some b => have := pw_key h.apart hm (gget_mem hg) rfl; cases this; rfl
theorem gget_iff {L : List (Nm × α)} (h : Srt L) {s : Nm} {a : α} : gget L s = some a ↔ (s, a) ∈ L := ⟨gget_mem, gget_of_mem h⟩
theorem gget_put {L : List (Nm × α)} (h : Srt L) (s t : Nm) (a : α) : gget (gput L s a) t = if t = s then some a else gget L t := by
 refine Option.ext fun b => ?_
 rw [gget_iff (h.put s a), mem_put]
 by_cases e : t = s
 ·rw [if_pos e]; subst e; simp [eq_comm]
 ·rw [if_neg e, gget_iff h]; simp [e]
theorem len_del (L : List (Nm × α)) (s : Nm) : (gdel L s).length ≤ L.length := List.length_filter_le _ _
theorem len_put (L : List (Nm × α)) (s : Nm) (a : α) : (gput L s a).length = (gdel L s).length + 1 := by
 unfold gput; rw [(gins_perm _ _).length_eq]; rfl
theorem len_map (f : α → β) (L : List (Nm × α)) : (gmap f L).length = L.length := by simp [gmap]
theorem srt_ext {L M : List (Nm × α)} (hL : Srt L) (hM : Srt M) (h : ∀ s, gget L s = gget M s) : L = M := by
 have nd : ∀ (K : List (Nm × α)), Srt K → K.Nodup := fun K hK => by
  refine List.Pairwise.imp (R := fun (p q : Nm × α) => bytesBefore p.1 q.1 = true) (fun {a b} h e => ?_) hK
  exact bb_ne h (congrArg Prod.fst e)
 refine List.Perm.eq_of_pairwise (le := fun (p q : Nm × α) => bytesBefore p.1 q.1 = true) (fun a b _ _ h1 h2 => ?_) hL hM ((List.perm_ext_iff_of_nodup (nd L hL) (nd M hM)).2 fun p => ?_)
 ·have := bb_trans h1 h2; rw [bb_irrefl] at this; cases this
 ·rw [← gget_iff (s := p.1) (a := p.2) hL, ← gget_iff (s := p.1) (a := p.2) hM, h]
end

/-- A file: its bytes, and whether it is loose. -/
abbrev Fi := List Nat × Bool
def usedOf (L : List (Nm × Fi)) : Nat := (L.map fun p => p.2.1.length).sum
def lenAt (L : List (Nm × Fi)) (s : Nm) : Nat := match gget L s with | some x => x.1.length | none => 0
theorem used_perm {L M : List (Nm × Fi)} (h : L.Perm M) : usedOf L = usedOf M := (h.map _).sum_nat
theorem used_put (L : List (Nm × Fi)) (s : Nm) (a : Fi) : usedOf (gput L s a) = usedOf (gdel L s) + a.1.length := by
 unfold gput; rw [used_perm (gins_perm _ _)]; simp [usedOf]; omega
theorem used_del {L : List (Nm × Fi)} (h : Srt L) (s : Nm) : usedOf (gdel L s) + lenAt L s = usedOf L := by
 induction L with
 | nil => rfl
 | cons x r ih =>
  obtain ⟨h1, h2⟩ := List.pairwise_cons.1 h
  have ih := ih h2
  by_cases e : x.1 = s
  ·have hr : gdel r s = r := by
     unfold gdel; rw [List.filter_eq_self]; intro p hp
     have := bb_ne (h1 p hp); rw [e] at this; simp [Ne.symm this]
   have h3 : gdel (x :: r) s = r := by
    have : gdel (x :: r) s = gdel r s := by unfold gdel; rw [List.filter_cons, if_neg (by simp [e])]
    rw [this, hr]
   have h4 : gget (x :: r) s = some x.2 := gget_of_mem h (by rw [← e]; simp)
   unfold lenAt; rw [h3, h4]; simp [usedOf]; omega
  ·have h3 : gdel (x :: r) s = x :: gdel r s := by unfold gdel; rw [List.filter_cons, if_pos (by simp [e])]
   have h4 : gget (x :: r) s = gget r s := by unfold gget; rw [List.find?_cons_of_neg (by simp [e])]
   unfold lenAt at ih ⊢; rw [h3, h4]; simp only [usedOf, List.map_cons, List.sum_cons] at ih ⊢; omega
theorem used_le {L : List (Nm × Fi)} {s : Nm} {x : Fi} (h : Srt L) (hg : gget L s = some x) : x.1.length ≤ usedOf L := by
 have := used_del h s; unfold lenAt at this; rw [hg] at this; simp at this; omega
structure Pd where
 size : Nat
 ops : Nat
 offl : Bool
 full : Bool
 out : Bool
 F : List (Nm × Fi)
/-- How many changes a fuse lets by still, and whether it is gone; none: there is no fuse. -/
abbrev Fs := Option (Nat × Bool)
def goneF : Fs → Bool | some (_, g) => g | none => false
def Pd.isOut (d : Pd) (f : Fs) : Bool := d.out || goneF f
def Pd.ans (d : Pd) (f : Fs) (ns : List Nm) : Nat := if d.isOut f then 11 else if d.offl then 12 else if ns.all okNm then 0 else 13
def burn : Fs → Fs | none => none | some (0, _) => some (0, true) | some (n + 1, g) => some (n, g)
def letsF : Fs → Bool | some (0, _) => false | _ => true
def Pd.chg (d : Pd) (f : Fs) (F : List (Nm × Fi)) : Nat × Pd × Fs := if letsF f then (0, { d with F := F, ops := d.ops + 1 }, burn f) else (11, d, burn f)
def Pd.write (d : Pd) (f : Fs) (s : Nm) (b : List Nat) : Nat × Pd × Fs :=
 if d.ans f [s] ≠ 0 then (d.ans f [s], d, f)
 else if d.full || decide (d.size < usedOf (gdel d.F s) + b.length) then (8, d, f)
 else d.chg f (gput d.F s (b, true))
def Pd.sync (d : Pd) (f : Fs) (s : Nm) : Nat × Pd × Fs :=
 if d.ans f [s] ≠ 0 then (d.ans f [s], d, f) else match gget d.F s with | none => (6, d, f) | some x => d.chg f (gput d.F s (x.1, false))
def Pd.rename (d : Pd) (f : Fs) (s t : Nm) : Nat × Pd × Fs :=
 if d.ans f [s, t] ≠ 0 then (d.ans f [s, t], d, f) else match gget d.F s with | none => (6, d, f) | some x => d.chg f (gput (gdel d.F s) t x)
def Pd.delete (d : Pd) (f : Fs) (s : Nm) : Nat × Pd × Fs :=
 if d.ans f [s] ≠ 0 then (d.ans f [s], d, f) else match gget d.F s with | none => (6, d, f) | some _ => d.chg f (gdel d.F s)
def Pd.readE (d : Pd) (f : Fs) (s : Nm) : Nat := if d.ans f [s] ≠ 0 then d.ans f [s] else match gget d.F s with | none => 6 | some _ => 0
def Pd.readB (d : Pd) (f : Fs) (s : Nm) : List Nat := if d.ans f [s] ≠ 0 then [] else match gget d.F s with | none => [] | some x => x.1
def namesOf (F : List (Nm × Fi)) (q : Nm → Fi → Bool) : List Nm := (F.filter fun p => q p.1 p.2).map (·.1)
def Pd.loose (d : Pd) : List Nm := namesOf d.F fun _ x => x.2
end Go.Proofs.YtfogkegmdgbecaaGreatDoor

/- A drive in memory: its nine cells, its map of files, its files' bytes, and its fuse; what stays while other memory turns. -/
namespace Go.Proofs.YtfogkegmdgbecaaGreatDoor
open Go Go.RowKit

theorem hid {p : Prop} (h : p) : Hid p := h
def u8 (k : Nat) : Value := .int .u8 (k : Int)
abbrev sv (s : Nm) : Value := .string ⟨s.toArray⟩
structure Ent where
 v : Value
 b : List Nat
 l : Bool
def Ent.fi (e : Ent) : Fi := (e.b, e.l)
abbrev HD := Value × Bool
def RF (v : Value) : Option (DataW HD × List MemPlace) := match v with | .agg cs => (match cs.toList with | [.slice po n c, .bool l] => some (.held (.slice po n c, l), []) | _ => none) | _ => none
theorem RF_mk (po : Option Addr) (n c : Nat) (l : Bool) : RF (.agg #[.slice po n c, .bool l]) = some (.held (.slice po n c, l), []) := rfl
theorem RF_inv {v : Value} {z : DataW HD × List MemPlace} (h : RF v = some z) : ∃ po n c l, v = .agg #[.slice po n c, .bool l] ∧ z = (.held (.slice po n c, l), []) := by
 unfold RF at h
 split at h
 ·rename_i cs
  split at h
  ·rename_i po n c l e
   cases h
   exact ⟨po, n, c, l, by rw [← e], rfl⟩
  ·cases h
 ·cases h
def encE (p : Nm × Ent) : Lit × DataW HD := (.string p.1, .held (p.2.v, p.2.l))
def mapD (L : List (Nm × Ent)) : DataW HD := .map (L.map encE)
theorem encE_ins (x : Nm × Ent) : ∀ L : List (Nm × Ent), DataW.insert (encE x) (L.map encE) = (gins x L).map encE
 | [] => rfl
 | y :: r => by
  have ih := encE_ins x r
  have hb : (encE x).1.before (encE y).1 = bytesBefore x.1 y.1 := rfl
  rw [List.map_cons, DataW.insert, gins, hb]
  by_cases h : bytesBefore x.1 y.1 = true
  ·rw [if_pos h, if_pos h]; rfl
  ·rw [if_neg h, if_neg h, List.map_cons, ← ih]
theorem encE_del (L : List (Nm × Ent)) (s : Nm) : (L.map encE).filter (fun p => !p.1.sameKey (.string s)) = (gdel L s).map encE := by
 unfold gdel; rw [List.filter_map]; rfl
theorem mapD_del (L : List (Nm × Ent)) (s : Nm) : (mapD L).del (.string s) = mapD (gdel L s) := by
 show DataW.map _ = _; rw [encE_del]; rfl
theorem mapD_put (L : List (Nm × Ent)) (s : Nm) (e : Ent) : (mapD L).put (.string s) (.held (e.v, e.l)) = mapD (gput L s e) := by
 show DataW.map _ = _; rw [encE_del]; unfold gput mapD; rw [← encE_ins]; rfl
theorem mapD_at (L : List (Nm × Ent)) (s : Nm) (z : DataW HD) : (mapD L).atKey (.string s) z = match gget L s with | some e => .held (e.v, e.l) | none => z := by
 unfold mapD DataW.atKey gget
 simp only [List.find?_map]
 have : ((fun p : Lit × DataW HD => p.1.sameKey (.string s)) ∘ encE) = fun p : Nm × Ent => p.1 == s := rfl
 rw [this]
 cases L.find? (fun p => p.1 == s) <;> rfl
theorem mapD_has (L : List (Nm × Ent)) (s : Nm) : Maps.has (mapD L) (.string s) = (gget L s).isSome := by
 unfold mapD; rw [Maps.has_eq, List.any_map]
 have : ((fun p : Lit × DataW HD => p.1.sameKey (.string s)) ∘ encE) = fun p : Nm × Ent => p.1 == s := rfl
 rw [this]; unfold gget; rw [Option.isSome_map]
 cases hf : L.find? (fun p => p.1 == s) with
 | none => rw [List.find?_eq_none] at hf; simp; intro a b hab; have := hf _ hab; simpa using this
 | some x => simp; have h1 := List.find?_some hf; have h2 := List.mem_of_find?_eq_some hf; simp at h1; exact ⟨x.2, by rw [← h1]; exact h2⟩
theorem mapD_size (L : List (Nm × Ent)) : Maps.size (mapD L) = L.length := by simp [mapD, Maps.size]
theorem ownsMap_exact {w : World} {P : Program} {k : TypeId} {m n : Nat} {L : List (Nm × Ent)} (h : w.ownsMap P k RF m n (mapD L)) : w.ownsMap P k RF m L.length (mapD L) := by
 obtain ⟨es, clock, hb, F, hs, hD⟩ := h
 refine ⟨es, clock, hb, F, ?_, hD⟩
 have h2 := congrArg Maps.size hD
 rw [mapD_size] at h2
 rw [h2]; simp [Maps.size, length_sorted]

theorem under9 : Tryz.prog.underlying 9 = some .string := by kernel_rfl
theorem underM : Tryz.prog.underlying 89 = some (.map 9 130) := by kernel_rfl
theorem strLaw : Maps.Keyed Tryz.prog 9 := Maps.string_keyed under9
theorem zeroF (w : World) : (zeroValue 130).run Tryz.prog w = .ok (.agg #[.slice none 0 0, .bool false]) w := by kernel_rfl
theorem keyS (s : Nm) (h : s.length ≤ maxLen) : keyOf Tryz.prog 9 (sv s) = some (.string s) := by
 have := WideMaps.keyOf_string_mk (P := Tryz.prog) under9 (s := ⟨s.toArray⟩) (by simpa [ByteArray.size] using h)
 simpa using this

/-- Block b has these cells, none of them frozen. -/
def CAt (w : World) (b : Nat) (cs : Array Value) (t : TypeId) : Prop := w.heap[b]? = some (.cells cs t (0, 0))
theorem CAt.lt {w : World} {b : Nat} {cs : Array Value} {t : TypeId} (h : CAt w b cs t) : b < w.heap.size := (Array.getElem?_eq_some_iff.1 h).1
theorem CAt.cell {w : World} {b : Nat} {cs : Array Value} {t : TypeId} (h : CAt w b cs t) (i : Nat) : w.cell? ⟨b, i, none⟩ = cs[i]? := by
 simp [World.cell?, show w.heap[b]? = _ from h]
theorem CAt.free {w : World} {b : Nat} {cs : Array Value} {t : TypeId} (h : CAt w b cs t) (i : Nat) : w.frozen? ⟨b, i, none⟩ = false := by
 simp [World.frozen?, show w.heap[b]? = _ from h]
theorem CAt.set {w : World} {b : Nat} {cs : Array Value} {t : TypeId} (h : CAt w b cs t) (i : Nat) (v : Value) : CAt (w.setCell ⟨b, i, none⟩ v) b (cs.setIfInBounds i v) t := by
 unfold CAt at *
 simp [World.setCell, Array.getElem?_modify, h]
theorem CAt.keep {w w' : World} {b : Nat} {cs : Array Value} {t : TypeId} (h : CAt w b cs t) (e : w'.heap[b]? = w.heap[b]?) : CAt w' b cs t := e.trans h
theorem heap_setCell_ne (w : World) (a : Addr) (v : Value) (b : Nat) (h : b ≠ a.block) : (w.setCell a v).heap[b]? = w.heap[b]? := RowKit.Below.heap_setCell _ _ _ _ h
theorem setCell_size (w : World) (a : Addr) (v : Value) : (w.setCell a v).heap.size = w.heap.size := by
 unfold World.setCell; split <;> simp

def fuV : Option Nat → Value | none => .pointer none | some q => .pointer (some ⟨q, 0, none⟩)
abbrev ptr (p : Nat) : Value := .pointer (some ⟨p, 0, none⟩)
def dcells (p m : Nat) (fu : Option Nat) (d : Pd) (us : Int) : Array Value :=
 #[ptr p, .int .i64 (d.size : Int), .map (some m), .int .i64 us, .int .i64 (d.ops : Int), .bool d.offl, .bool d.full, .bool d.out, fuV fu]

/-- A drive lies at block p, its map at block m, its files as L; all its blocks are in S. -/
structure DrC (w : World) (S : Nat → Prop) (p m : Nat) (fu : Option Nat) (d : Pd) (L : List (Nm × Ent)) : Prop where
 c : CAt w p (dcells p m fu d (usedOf d.F : Int)) 92
 mp : w.ownsMap Tryz.prog 9 RF m L.length (mapD L)
 fs : d.F = gmap Ent.fi L
 ow : ∀ x ∈ L, w.ownsRow 0 5 1 x.2.v x.2.b.length (x.2.b.map u8)
 ap : L.Pairwise fun x y => x.2.v.ownBlock = none ∨ x.2.v.ownBlock ≠ y.2.v.ownBlock
 by8 : ∀ x ∈ L, ∀ y ∈ x.2.b, y < 256
 so : Srt L
 nm : ∀ x ∈ L, okNm x.1 = true
 sp : S p
 sm : S m
 sf : ∀ x ∈ L, ∀ b, x.2.v.ownBlock = some b → S b
 lt : ∀ b, S b → b < w.heap.size
 us : usedOf d.F ≤ d.size
 sz : d.size ≤ 67108864
/-- A fuse, outside S. -/
def FuAt (w : World) (S : Nat → Prop) : Option Nat → Fs → Prop
 | none, none => True
 | some q, some (n, g) => CAt w q #[.int .i64 (n : Int), .bool g] 136 ∧ ¬ S q ∧ n ≤ 9223372036854775807
 | _, _ => False

/-- Of what was there nothing has turned but blocks of S. -/
structure Only (S : Nat → Prop) (w w' : World) : Prop where
 os : w'.os = w.os
 tape : w'.tape = w.tape
 output : w'.output = w.output
 size : w.heap.size ≤ w'.heap.size
 block : ∀ k, k < w.heap.size → ¬ S k → w'.heap[k]? = w.heap[k]?
theorem Only.refl (S : Nat → Prop) (w : World) : Only S w w := ⟨rfl, rfl, rfl, Nat.le_refl _, fun _ _ _ => rfl⟩
theorem Only.trans {S : Nat → Prop} {a b c : World} (h : Only S a b) (k : Only S b c) : Only S a c :=
 ⟨k.os.trans h.os, k.tape.trans h.tape, k.output.trans h.output, Nat.le_trans h.size k.size, fun i hi hs => (k.block i (Nat.lt_of_lt_of_le hi h.size) hs).trans (h.block i hi hs)⟩
/-- .. where the later step may turn what is new since the first world. -/
theorem Only.then {S T : Nat → Prop} {a b c : World} (h : Only S a b) (k : Only T b c) (hT : ∀ i, i < a.heap.size → T i → S i) : Only S a c :=
 ⟨k.os.trans h.os, k.tape.trans h.tape, k.output.trans h.output, Nat.le_trans h.size k.size, fun i hi hs => (k.block i (Nat.lt_of_lt_of_le hi h.size) (fun ht => hs (hT i hi ht))).trans (h.block i hi hs)⟩
theorem Only.mono {S T : Nat → Prop} {a b : World} (h : Only S a b) (hS : ∀ i, S i → T i) : Only T a b := ⟨h.os, h.tape, h.output, h.size, fun i hi hs => h.block i hi fun k => hs (hS i k)⟩
theorem Only.of_below {S : Nat → Prop} {a b : World} (h : Below a.heap.size a b) : Only S a b := ⟨h.os, h.tape, h.output, h.size, fun i hi _ => h.block i hi⟩
theorem Only.below {S : Nat → Prop} {a b : World} {B : Nat} (h : Only S a b) (hB : B ≤ a.heap.size) (hS : ∀ i, S i → B ≤ i) : Below B a b :=
 ⟨h.os, h.tape, h.output, h.size, fun i hi => h.block i (by omega) fun k => by have := hS i k; omega⟩
theorem Only.of_grown {S : Nat → Prop} {a b : World} {r : Option Nat} (h : a.grownBy b r) (hr : ∀ k, r = some k → k < a.heap.size → S k) : Only S a b :=
 ⟨h.os, h.tape, h.output, h.size, fun i hi hs => h.block i hi fun e => hs (hr i e.symm hi)⟩
theorem Only.set {S : Nat → Prop} (w : World) (a : Addr) (v : Value) (h : S a.block) : Only S w (w.setCell a v) := by
 exact ⟨rfl, rfl, rfl, Nat.le_of_eq (setCell_size w a v).symm, fun k _ hk => heap_setCell_ne _ _ _ _ fun e => hk (e ▸ h)⟩
theorem Only.alloc {S : Nat → Prop} (w : World) (o : Obj) : Only S w (w.alloc o) := Only.of_grown (World.grownBy_alloc w o none) (by simp)

def grw (S : Nat → Prop) (w w' : World) (b : Nat) : Prop := S b ∨ (w.heap.size ≤ b ∧ b < w'.heap.size)

theorem ownsRow_keep {w w' : World} {B e n s : Nat} {v : Value} {xs : List Value} (h : w.ownsRow B e s v n xs) (hk : ∀ b, v.ownBlock = some b → w'.heap[b]? = w.heap[b]?) : w'.ownsRow B e s v n xs := by
 obtain ⟨h1, h2⟩ := h
 refine ⟨h1, ?_⟩
 rcases h2 with h2 | ⟨g, cap, cur, rfl, hB, hb, r⟩
 ·exact Or.inl h2
 ·exact Or.inr ⟨g, cap, cur, rfl, hB, (hk g rfl).trans hb, r⟩
theorem ownsMap_keep {w w' : World} {P : Program} {k : TypeId} {m n : Nat} {D : DataW HD} (h : w.ownsMap P k RF m n D) (e : w'.heap[m]? = w.heap[m]?) : w'.ownsMap P k RF m n D := by
 obtain ⟨es, clock, hb, r⟩ := h
 exact ⟨es, clock, e.trans hb, r⟩
/-- A drive stays as it is while none of its blocks turns. -/
theorem DrC.keep {w w' : World} {S : Nat → Prop} {p m : Nat} {fu : Option Nat} {d : Pd} {L : List (Nm × Ent)} (h : DrC w S p m fu d L) (hs : w.heap.size ≤ w'.heap.size) (hk : ∀ b, S b → w'.heap[b]? = w.heap[b]?) : DrC w' S p m fu d L :=
 { h with c := h.c.keep (hk p h.sp), mp := ownsMap_keep h.mp (hk m h.sm), ow := fun x hx => ownsRow_keep (h.ow x hx) fun b hb => hk b (h.sf x hx b hb), lt := fun b hb => Nat.lt_of_lt_of_le (h.lt b hb) hs }
theorem DrC.wide {w : World} {S S' : Nat → Prop} {p m : Nat} {fu : Option Nat} {d : Pd} {L : List (Nm × Ent)} (h : DrC w S p m fu d L) (hS : ∀ b, S b → S' b) (hl : ∀ b, S' b → b < w.heap.size) : DrC w S' p m fu d L :=
 { h with sp := hS p h.sp, sm := hS m h.sm, sf := fun x hx b hb => hS b (h.sf x hx b hb), lt := hl }
theorem FuAt.keep {w w' : World} {S : Nat → Prop} : ∀ {fu : Option Nat} {f : Fs}, FuAt w S fu f → (∀ q, fu = some q → w'.heap[q]? = w.heap[q]?) → FuAt w' S fu f
 | none, none, _, _ => trivial
 | some q, some (_, _), h, hk => ⟨h.1.keep (hk q rfl), h.2⟩
def DrAt (w : World) (S : Nat → Prop) (p : Nat) (fu : Option Nat) (d : Pd) : Prop := ∃ m L, DrC w S p m fu d L
theorem DrAt.keep {w w' : World} {S : Nat → Prop} {p : Nat} {fu : Option Nat} {d : Pd} (h : DrAt w S p fu d) (hs : w.heap.size ≤ w'.heap.size) (hk : ∀ b, S b → w'.heap[b]? = w.heap[b]?) : DrAt w' S p fu d := by
 obtain ⟨m, L, h⟩ := h; exact ⟨m, L, h.keep hs hk⟩
end Go.Proofs.YtfogkegmdgbecaaGreatDoor

/- Contracts of made, isOut, lets and Name of package drive. -/
namespace Go.Proofs.YtfogkegmdgbecaaGreatDoor
open Go Go.RowKit

theorem underP : Tryz.prog.underlying 38 = some (.pointer 92) := by kernel_rfl
theorem eqP_same (p : Nat) (w : World) : (binOp .eql 38 (ptr p) (ptr p)).run Tryz.prog w = .ok (.bool true) w := by
 have hi : (Tryz.prog.info? 92).isSome = true := by kernel_rfl
 obtain ⟨j, hj⟩ := Option.isSome_iff_exists.1 hi
 exact run_eql_ptr_same w _ underP hj
set_option maxRecDepth 100000 in
theorem made_any {w : World} {S : Nat → Prop} {p m : Nat} {fu : Option Nat} {d : Pd} {L : List (Nm × Ent)} (h : DrC w S p m fu d L) :
  Calls Tryz.prog 88 #[ptr p] w fun e w' => e = .returned (.bool true) ∧ w' = w := by
 have c0 : w.cell? ⟨p, 0, none⟩ = some (ptr p) := h.c.cell 0
 have hq := eqP_same p
 go_enter Tryz.func88, Tryz.ntmps88
 go_wp2
 go_ret
 simp
theorem isOut_any {w : World} {S : Nat → Prop} {p m : Nat} {fu : Option Nat} {d : Pd} {L : List (Nm × Ent)} (h : DrC w S p m fu d L) {f : Fs} (hf : FuAt w S fu f) :
  Calls Tryz.prog 91 #[ptr p] w fun e w' => e = .returned (.bool (d.isOut f)) ∧ w' = w := by
 have c7 : w.cell? ⟨p, 7, none⟩ = some (.bool d.out) := h.c.cell 7
 have c8 : w.cell? ⟨p, 8, none⟩ = some (fuV fu) := h.c.cell 8
 cases ho : d.out
 ·match fu, f, hf with
  | none, none, _ =>
   rw [ho] at c7
   simp only [fuV] at c8
   go_enter Tryz.func91, Tryz.ntmps91
   go_wp2
   go_ret
   simp [Pd.isOut, ho, goneF]
  | some q, some (n, g), hf =>
   rw [ho] at c7
   simp only [fuV] at c8
   have g1 : w.cell? ⟨q, 1, none⟩ = some (.bool g) := hf.1.cell 1
   go_enter Tryz.func91, Tryz.ntmps91
   go_wp2
   go_ret
   simp [Pd.isOut, ho, goneF]
 ·rw [ho] at c7
  go_enter Tryz.func91, Tryz.ntmps91
  go_wp2
  go_ret
  simp [Pd.isOut, ho]
/-- A fuse lets a change by, or is gone. -/
theorem lets_any {w : World} {S : Nat → Prop} {q n : Nat} {g : Bool} (h : FuAt w S (some q) (some (n, g))) :
  Calls Tryz.prog 127 #[ptr q] w fun e w' => e = .returned (.bool (letsF (some (n, g)))) ∧ FuAt w' S (some q) (burn (some (n, g))) ∧ Only (fun b => b = q) w w' ∧ w'.heap.size = w.heap.size := by
 have g0 : w.cell? ⟨q, 0, none⟩ = some (.int .i64 (n : Int)) := h.1.cell 0
 have g1 : w.cell? ⟨q, 1, none⟩ = some (.bool g) := h.1.cell 1
 have z0 : w.frozen? ⟨q, 0, none⟩ = false := h.1.free 0
 have z1 : w.frozen? ⟨q, 1, none⟩ = false := h.1.free 1
 have hn := h.2.2
 cases n with
 | zero =>
  go_enter Tryz.func127, Tryz.ntmps127
  go_wp2
  go_ret
  refine ⟨rfl, ⟨?_, h.2⟩, Only.set _ _ _ rfl, setCell_size _ _ _⟩
  exact h.1.set 1 (.bool true)
 | succ n =>
  go_enter Tryz.func127, Tryz.ntmps127
  go_wp2
  go_ret
  refine ⟨rfl, ⟨?_, h.2.1, by omega⟩, Only.set _ _ _ rfl, setCell_size _ _ _⟩
  have h2 := h.1.set 0 (.int .i64 (n : Int))
  simpa using h2
end Go.Proofs.YtfogkegmdgbecaaGreatDoor

/- Contracts of Name and answers of package drive. -/
namespace Go.Proofs.YtfogkegmdgbecaaGreatDoor
open Go Go.RowKit

def okB (c : UInt8) : Bool := decide (33 ≤ c.toNat) && decide (c.toNat ≤ 126)
theorem getD_in {α : Type} (s : List α) (i : Nat) (z : α) (hi : i < s.length) : s.getD i z = s[i] := by simp [List.getD, hi]
theorem okNm_iff (s : Nm) : okNm s = true ↔ (1 ≤ s.length ∧ s.length ≤ 512 ∧ ∀ i, i < s.length → okB (s.getD i 0) = true) := by
 unfold okNm
 simp only [Bool.and_eq_true, decide_eq_true_eq, List.all_eq_true]
 constructor
 ·rintro ⟨h1, h2, h3⟩
  refine ⟨h1, h2, fun i hi => ?_⟩
  have := h3 (s.getD i 0) (by rw [getD_in _ _ _ hi]; exact List.getElem_mem hi)
  unfold okB; rw [Bool.and_eq_true, decide_eq_true_eq, decide_eq_true_eq]; exact this
 ·rintro ⟨h1, h2, h3⟩
  refine ⟨h1, h2, fun x hx => ?_⟩
  obtain ⟨i, hi, rfl⟩ := List.mem_iff_getElem.1 hx
  have := h3 i hi
  rw [getD_in _ _ _ hi] at this
  simpa [okB] using this
theorem idx_sv (s : Nm) (i : Nat) (hi : i < s.length) (w : World) : (Instr.index 9 (sv s) (.int .i64 (i : Int))).run Tryz.prog w = .ok (.int .u8 ((s.getD i 0).toNat : Int)) w := by
 have hz : (⟨s.toArray⟩ : ByteArray).size = s.length := by simp [ByteArray.size]
 rw [run_index_string w 9 ⟨s.toArray⟩ .i64 (i : Int) under9, dif_pos ⟨by omega, by omega⟩]
 congr 3
 simp [ByteArray.getElem_eq_getElem_data, hi]
theorem okB_lo {c : UInt8} (h : (c.toNat : Int) < 33) : okB c = false := by unfold okB; simp; omega
theorem okB_hi {c : UInt8} (h : 126 < (c.toNat : Int)) : okB c = false := by unfold okB; simp; omega
theorem okB_in {c : UInt8} (h : ¬ (c.toNat : Int) < 33) (h2 : ¬ 126 < (c.toNat : Int)) : okB c = true := by unfold okB; simp; omega
theorem okNm_not {s : Nm} {k : Nat} (hk : k < s.length) (h : okB (s.getD k 0) = false) : okNm s = false := by
 cases e : okNm s
 ·rfl
 ·have := ((okNm_iff s).1 e).2.2 k hk; rw [h] at this; cases this
set_option maxRecDepth 100000 in
theorem name_any (s : Nm) (w : World) (hl : s.length ≤ maxLen) : Calls Tryz.prog 72 #[sv s] w fun e w' => e = .returned (.bool (okNm s)) ∧ w' = w := by
 have hz : (⟨s.toArray⟩ : ByteArray).size = s.length := by simp [ByteArray.size]
 have hml : maxLen = 9223372036854775807 := rfl
 rw [hml] at hl
 have HX := hid (idx_sv s)
 unfold sv at HX ⊢
 generalize (⟨s.toArray⟩ : ByteArray) = bs at hz HX ⊢
 by_cases h1 : s.length < 1
 ·have e : okNm s = false := by unfold okNm; simp; omega
  rw [e]
  go_enter Tryz.func72, Tryz.ntmps72
  go_wp2
  go_ret
  first | exact ⟨rfl, rfl⟩ | simp [e]
 by_cases h2 : 512 < s.length
 ·have e : okNm s = false := by unfold okNm; simp; omega
  rw [e]
  go_enter Tryz.func72, Tryz.ntmps72
  go_wp2
  go_ret
  first | exact ⟨rfl, rfl⟩ | simp [e]
 go_enter Tryz.func72, Tryz.ntmps72
 go_wp2
 go_loopw [14] (fun v wr => ∃ k : Nat, k ≤ s.length ∧ v = .int .i64 (k : Int) ∧ wr = w ∧ ∀ i, i < k → okB (s.getD i 0) = true) (fun v _ => (s.length - intOf v).toNat)
 case atStart => exact ⟨0, by omega, rfl, rfl, fun i hi => by omega⟩
 case round =>
  obtain ⟨k, hk, rfl, hw, hok⟩ := hrel
  have HOK := hid hok
  subst hw
  clear hok
  by_cases hlt : k < s.length
  ·have hx := HX.out k hlt
   generalize hc : s.getD k 0 = c at hx
   have HC := hid hc
   clear hc
   have hlt' : (k : Int) < (s.length : Int) := by omega
   by_cases hlo : (c.toNat : Int) < 33
   ·go_wp2
    go_ret
    rw [okNm_not hlt (by rw [HC.out]; exact okB_lo hlo)]; simp
   by_cases hhi : 126 < (c.toNat : Int)
   ·go_wp2
    go_ret
    rw [okNm_not hlt (by rw [HC.out]; exact okB_hi hhi)]; simp
   go_wp2
   go_roundw
   case rel =>
    refine ⟨k + 1, by omega, by go_num, by trivial, fun i hi => ?_⟩
    by_cases e : i = k
    ·rw [e, HC.out]; exact okB_in hlo hhi
    ·exact HOK.out i (by omega)
   case measure => simp [intOf]; omega
  ·have hlt' : ¬ (k : Int) < (s.length : Int) := by omega
   have e : okNm s = true := (okNm_iff s).2 ⟨by omega, by omega, fun i hi => HOK.out i (by omega)⟩
   go_wp2
   go_ret
   exact ⟨by first | rfl | (rw [e]; rfl), by first | rfl | trivial⟩
/-- A list of texts lies at block b. -/
def TxtAt (w : World) (v : Value) (ns : List Nm) : Prop := (ns = [] ∧ v = .slice none 0 0) ∨ ∃ b c, v = .slice (some ⟨b, 0, none⟩) ns.length c ∧ ∀ i, i < ns.length → w.cell? ⟨b, i, none⟩ = some (sv (ns.getD i []))
theorem ans_all {d : Pd} {f : Fs} {ns : List Nm} (h1 : d.isOut f = false) (h2 : d.offl = false) (h3 : ∀ i, i < ns.length → okNm (ns.getD i []) = true) : d.ans f ns = 0 := by
 unfold Pd.ans
 rw [h1, h2]
 have : ns.all okNm = true := List.all_eq_true.2 fun x hx => by
  obtain ⟨i, hi, rfl⟩ := List.mem_iff_getElem.1 hx
  have := h3 i hi; rwa [getD_in _ _ _ hi] at this
 simp [this]
theorem ans_bad {d : Pd} {f : Fs} {ns : List Nm} (h1 : d.isOut f = false) (h2 : d.offl = false) {k : Nat} (hk : k < ns.length) (h3 : okNm (ns.getD k []) = false) : d.ans f ns = 13 := by
 unfold Pd.ans
 rw [h1, h2]
 have : ns.all okNm = false := by
  rw [List.all_eq_false]; exact ⟨ns.getD k [], by rw [getD_in _ _ _ hk]; exact List.getElem_mem hk, by rw [h3]; simp⟩
 simp [this]
set_option maxRecDepth 100000 in
theorem answers_any {w : World} {S : Nat → Prop} {p m : Nat} {fu : Option Nat} {d : Pd} {L : List (Nm × Ent)} (h : DrC w S p m fu d L) {f : Fs} (hf : FuAt w S fu f) (v : Value) (ns : List Nm) (hv : TxtAt w v ns) (hn : ns.length ≤ 1000) (hl : ∀ x ∈ ns, x.length ≤ maxLen) :
  Calls Tryz.prog 96 #[ptr p, v] w fun e w' => e = .returned (.int .i64 (d.ans f ns : Int)) ∧ w' = w := by
 have c5 : w.cell? ⟨p, 5, none⟩ = some (.bool d.offl) := h.c.cell 5
 have hmade := made_any h
 have hout := isOut_any h hf
 cases ho : d.isOut f
 ·cases hof : d.offl
  ·rw [ho] at hout
   rw [hof] at c5
   rcases hv with ⟨rfl, rfl⟩ | ⟨b, c, rfl, hb⟩
   ·have e : d.ans f [] = 0 := ans_all ho hof (by simp)
    rw [e]
    go_enter Tryz.func96, Tryz.ntmps96
    go_wp2_with (first
     | (go_at_call 88; refine hmade.mono ?_; rintro e w' ⟨rfl, hw'⟩; have hw2 := hw'.symm; subst hw2)
     | (go_at_call 91; refine hout.mono ?_; rintro e w' ⟨rfl, hw'⟩; have hw2 := hw'.symm; subst hw2))
    refine wp_loop_rounds 1 ?_
    rw [rounds_succ]
    go_wp2
    go_ret
    simp
   ·have HB := hid hb
    have HL := hid hl
    clear hb hl
    go_enter Tryz.func96, Tryz.ntmps96
    go_wp2_with (first
     | (go_at_call 88; refine hmade.mono ?_; rintro e w' ⟨rfl, hw'⟩; have hw2 := hw'.symm; subst hw2)
     | (go_at_call 91; refine hout.mono ?_; rintro e w' ⟨rfl, hw'⟩; have hw2 := hw'.symm; subst hw2))
    go_loopw [21] (fun v wr => ∃ k : Nat, k ≤ ns.length ∧ v = .int .i64 (k : Int) ∧ w = wr ∧ ∀ i, i < k → okNm (ns.getD i []) = true) (fun v _ => (ns.length - intOf v).toNat)
    case atStart => exact ⟨0, by omega, rfl, rfl, fun i hi => by omega⟩
    case round =>
     obtain ⟨k, hk, rfl, hw, hok⟩ := hrel
     have HOK := hid hok
     clear hok
     subst hw
     by_cases hlt : k < ns.length
     ·have hx := HB.out k hlt
      have hnm := name_any (ns.getD k []) w (HL.out _ (by rw [getD_in _ _ _ hlt]; exact List.getElem_mem hlt))
      generalize hc : ns.getD k [] = c at hx hnm
      have HC := hid hc
      clear hc
      have hlt' : (k : Int) < (ns.length : Int) := by omega
      cases hb : okNm c
      ·rw [hb] at hnm
       go_wp2_with (go_at_call 72; refine hnm.mono ?_; rintro e w' ⟨rfl, hw'⟩; have hw2 := hw'.symm; subst hw2)
       go_ret
       rw [ans_bad ho hof hlt (by rw [HC.out]; exact hb)]; simp
      ·rw [hb] at hnm
       go_wp2_with (go_at_call 72; refine hnm.mono ?_; rintro e w' ⟨rfl, hw'⟩; have hw2 := hw'.symm; subst hw2)
       go_roundw
       case rel =>
        refine ⟨k + 1, by omega, by go_num, by trivial, fun i hi => ?_⟩
        by_cases e : i = k
        ·rw [e, HC.out]; exact hb
        ·exact HOK.out i (by omega)
       case measure => simp [intOf]; omega
     ·have hlt' : ¬ (k : Int) < (ns.length : Int) := by omega
      have e : d.ans f ns = 0 := ans_all ho hof fun i hi => HOK.out i (by omega)
      go_wp2
      go_ret
      exact ⟨by first | rfl | (rw [e]; rfl), by first | rfl | trivial⟩
  ·have e : d.ans f ns = 12 := by unfold Pd.ans; rw [ho, hof]; rfl
   rw [e]
   rw [ho] at hout
   rw [hof] at c5
   go_enter Tryz.func96, Tryz.ntmps96
   go_wp2_with (first
    | (go_at_call 88; refine hmade.mono ?_; rintro e w' ⟨rfl, hw'⟩; have hw2 := hw'.symm; subst hw2)
    | (go_at_call 91; refine hout.mono ?_; rintro e w' ⟨rfl, hw'⟩; have hw2 := hw'.symm; subst hw2))
   go_ret
   simp
 ·have e : d.ans f ns = 11 := by unfold Pd.ans; rw [ho]; rfl
  rw [e]
  rw [ho] at hout
  go_enter Tryz.func96, Tryz.ntmps96
  go_wp2_with (first
   | (go_at_call 88; refine hmade.mono ?_; rintro e w' ⟨rfl, hw'⟩; have hw2 := hw'.symm; subst hw2)
   | (go_at_call 91; refine hout.mono ?_; rintro e w' ⟨rfl, hw'⟩; have hw2 := hw'.symm; subst hw2))
  go_ret
  simp
end Go.Proofs.YtfogkegmdgbecaaGreatDoor
