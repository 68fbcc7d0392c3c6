/- Texts laid into one: the remark ahead of each part says what is proved there. -/
import Derived.Test.YtfppmpfmafnfmaaRows
import Derived.Maps.RangeWalk
import Derived.WalkKit
import Derived.WalkSpells
import Derived.WalkLawsBesides
import Derived.Maps.OwnSet
import Derived.Laws.Rows
import Derived.Laws.CopyOwn
import Derived.Deep.RegionHeld3
import Derived.Deep.QuietTactic
import Derived.LaidEqlPtr
import Derived.Laws.NewBlocks
import Derived.Laws.ResultCell
import Derived.BigQuiet
import Derived.Deep.Quiet
/- Drives as mathematics: names, files by rising names, and what each call makes of them. -/
namespace Go.Proofs.Ytfppmpfmafnfmaa
open Go

abbrev Nm := List UInt8
def okNm (s : Nm) : Bool := decide (1 ≤ s.length) && (decide (s.length ≤ 512) && s.all fun c => decide (33 ≤ c.toNat) && decide (c.toNat ≤ 126))

section
variable {α β : Type}
def gget (L : List (Nm × α)) (s : Nm) : Option α := (L.find? fun p => p.1 == s).map (·.2)
def gdel (L : List (Nm × α)) (s : Nm) : List (Nm × α) := L.filter fun p => !(p.1 == s)
def gins (x : Nm × α) : List (Nm × α) → List (Nm × α)
  | [] => [x]
  | y :: r => if bytesBefore x.1 y.1 then x :: y :: r else y :: gins x r
def gput (L : List (Nm × α)) (s : Nm) (a : α) : List (Nm × α) := gins (s, a) (gdel L s)
def Srt (L : List (Nm × α)) : Prop := L.Pairwise fun p q => bytesBefore p.1 q.1 = true
def gmap (f : α → β) (L : List (Nm × α)) : List (Nm × β) := L.map fun p => (p.1, f p.2)

theorem bb_irrefl (a : Nm) : bytesBefore a a = false := by
  have := WideShapes.before_irrefl (.string a); simpa [Lit.before] using this
theorem bb_trans {a b c : Nm} (h1 : bytesBefore a b = true) (h2 : bytesBefore b c = true) : bytesBefore a c = true := by
  have := WideShapes.before_trans (a := .string a) (b := .string b) (c := .string c) (by simpa [Lit.before] using h1) (by simpa [Lit.before] using h2)
  simpa [Lit.before] using this
theorem bb_total {a b : Nm} (h : a ≠ b) : bytesBefore a b = true ∨ bytesBefore b a = true := by
  have := ChangeMaps.before_total (a := .string a) (b := .string b) ⟨a, rfl⟩ ⟨b, rfl⟩ (fun e => h (by cases e; rfl))
  simpa [Lit.before] using this
theorem bb_ne {a b : Nm} (h : bytesBefore a b = true) : a ≠ b := fun e => by subst e; rw [bb_irrefl] at h; cases h
theorem bb_lt : ∀ (a b : Nm), bytesBefore a b = true ↔ a < b
  | [], [] => by simp [bytesBefore]
  | [], _ :: _ => by simp [bytesBefore]
  | _ :: _, [] => by simp [bytesBefore]
  | x :: r, y :: s => by
    have ih := bb_lt r s
    rw [List.cons_lt_cons_iff, ← ih]
    simp [bytesBefore]

theorem gget_map (f : α → β) (L : List (Nm × α)) (s : Nm) : gget (gmap f L) s = (gget L s).map f := by
  unfold gget gmap
  rw [List.find?_map]
  simp [Function.comp_def]
theorem gdel_map (f : α → β) (L : List (Nm × α)) (s : Nm) : gdel (gmap f L) s = gmap f (gdel L s) := by
  unfold gdel gmap; rw [List.filter_map]; rfl
theorem gins_map (f : α → β) (x : Nm × α) : ∀ L : List (Nm × α), gins (x.1, f x.2) (gmap f L) = gmap f (gins x L)
  | [] => rfl
  | y :: r => by
    have ih := gins_map f x r
    simp only [gmap, List.map_cons, gins] at ih ⊢
    split
    · rfl
    · rw [List.map_cons, ← ih]
theorem gput_map (f : α → β) (L : List (Nm × α)) (s : Nm) (a : α) : gput (gmap f L) s (f a) = gmap f (gput L s a) := by
  unfold gput; rw [gdel_map]; exact gins_map f (s, a) _
theorem gins_perm (x : Nm × α) : ∀ L : List (Nm × α), (gins x L).Perm (x :: L)
  | [] => List.Perm.refl _
  | y :: r => by
    unfold gins; split
    · exact List.Perm.refl _
    · exact ((gins_perm x r).cons y).trans (List.Perm.swap x y r)
theorem mem_del {L : List (Nm × α)} {s : Nm} {p : Nm × α} : p ∈ gdel L s ↔ p ∈ L ∧ p.1 ≠ s := by simp [gdel]
theorem mem_put {L : List (Nm × α)} {s : Nm} {a : α} {p : Nm × α} : p ∈ gput L s a ↔ p = (s, a) ∨ (p ∈ L ∧ p.1 ≠ s) := by
  unfold gput; rw [(gins_perm _ _).mem_iff, List.mem_cons, mem_del]
theorem Srt.del {L : List (Nm × α)} (h : Srt L) (s : Nm) : Srt (gdel L s) := List.Pairwise.filter _ h
theorem srt_ins {x : Nm × α} : ∀ {L : List (Nm × α)}, Srt L → (∀ p ∈ L, p.1 ≠ x.1) → Srt (gins x L)
  | [], _, _ => by simp [gins, Srt]
  | y :: r, h, hne => by
    obtain ⟨h1, h2⟩ := List.pairwise_cons.1 h
    unfold gins; split
    · rename_i hb
      refine List.pairwise_cons.2 ⟨fun q hq => ?_, h⟩
      rcases List.mem_cons.1 hq with rfl | hq
      · exact hb
      · exact bb_trans hb (h1 q hq)
    · rename_i hb
      have hyx : bytesBefore y.1 x.1 = true := by
        rcases bb_total (hne y (by simp)) with h' | h'
        · exact h'
        · exact absurd h' hb
      refine List.pairwise_cons.2 ⟨fun q hq => ?_, srt_ins h2 (fun p hp => hne p (by simp [hp]))⟩
      rcases List.mem_cons.1 ((gins_perm x r).mem_iff.1 hq) with rfl | hq
      · exact hyx
      · exact h1 q hq
theorem Srt.put {L : List (Nm × α)} (h : Srt L) (s : Nm) (a : α) : Srt (gput L s a) := srt_ins (h.del s) fun _ hp => (mem_del.1 hp).2
theorem Srt.map {L : List (Nm × α)} (h : Srt L) (f : α → β) : Srt (gmap f L) := List.pairwise_map.2 h
theorem srt_map {L : List (Nm × α)} {f : α → β} (h : Srt (gmap f L)) : Srt L := List.pairwise_map.1 h
theorem Srt.apart {L : List (Nm × α)} (h : Srt L) : L.Pairwise fun p q => p.1 ≠ q.1 := List.Pairwise.imp (fun h => bb_ne h) h
theorem gget_none {L : List (Nm × α)} {s : Nm} : gget L s = none ↔ ∀ p ∈ L, p.1 ≠ s := by
  unfold gget; rw [Option.map_eq_none_iff, List.find?_eq_none]; simp
theorem gget_mem {L : List (Nm × α)} {s : Nm} {a : α} (h : gget L s = some a) : (s, a) ∈ L := by
  unfold gget at h
  obtain ⟨p, hp, rfl⟩ := Option.map_eq_some_iff.1 h
  have h1 := List.find?_some hp
  have h2 := List.mem_of_find?_eq_some hp
  simp at h1; rw [← h1]; exact h2
theorem pw_key {L : List (Nm × α)} (h : L.Pairwise fun p q => p.1 ≠ q.1) {p q : Nm × α} (hp : p ∈ L) (hq : q ∈ L) (e : p.1 = q.1) : p = q := by
  induction L with
  | nil => simp at hp
  | cons x r ih =>
    obtain ⟨h1, h2⟩ := List.pairwise_cons.1 h
    rcases List.mem_cons.1 hp with rfl | hp' <;> rcases List.mem_cons.1 hq with rfl | hq'
    · rfl
    · exact absurd e (h1 q hq')
    · exact absurd e.symm (h1 p hp')
    · exact ih h2 hp' hq'
theorem gget_of_mem {L : List (Nm × α)} (h : Srt L) {s : Nm} {a : α} (hm : (s, a) ∈ L) : gget L s = some a := by
  cases hg : gget L s with
  | none => exact absurd rfl (gget_none.1 hg _ hm)
  | some b => have := pw_key h.apart hm (gget_mem hg) rfl; cases this; rfl
theorem gget_iff {L : List (Nm × α)} (h : Srt L) {s : Nm} {a : α} : gget L s = some a ↔ (s, a) ∈ L := ⟨gget_mem, gget_of_mem h⟩
theorem gget_del {L : List (Nm × α)} (h : Srt L) (s t : Nm) : gget (gdel L s) t = if t = s then none else gget L t := by
  by_cases e : t = s
  · rw [if_pos e]; exact gget_none.2 fun p hp => by rw [e]; exact (mem_del.1 hp).2
  · rw [if_neg e]
    refine Option.ext fun a => ?_
    rw [gget_iff (h.del s), gget_iff h, mem_del]; simp [e]
theorem gget_put {L : List (Nm × α)} (h : Srt L) (s t : Nm) (a : α) : gget (gput L s a) t = if t = s then some a else gget L t := by
  refine Option.ext fun b => ?_
  rw [gget_iff (h.put s a), mem_put]
  by_cases e : t = s
  · rw [if_pos e]; subst e; simp [eq_comm]
  · rw [if_neg e, gget_iff h]; simp [e]
theorem len_del (L : List (Nm × α)) (s : Nm) : (gdel L s).length ≤ L.length := List.length_filter_le _ _
theorem len_put (L : List (Nm × α)) (s : Nm) (a : α) : (gput L s a).length = (gdel L s).length + 1 := by
  unfold gput; rw [(gins_perm _ _).length_eq]; rfl
theorem len_map (f : α → β) (L : List (Nm × α)) : (gmap f L).length = L.length := by simp [gmap]
theorem srt_ext {L M : List (Nm × α)} (hL : Srt L) (hM : Srt M) (h : ∀ s, gget L s = gget M s) : L = M := by
  have nd : ∀ (K : List (Nm × α)), Srt K → K.Nodup := fun K hK => by
    refine List.Pairwise.imp (R := fun (p q : Nm × α) => bytesBefore p.1 q.1 = true) (fun {a b} h e => ?_) hK
    exact bb_ne h (congrArg Prod.fst e)
  refine List.Perm.eq_of_pairwise (le := fun (p q : Nm × α) => bytesBefore p.1 q.1 = true) (fun a b _ _ h1 h2 => ?_) hL hM ((List.perm_ext_iff_of_nodup (nd L hL) (nd M hM)).2 fun p => ?_)
  · have := bb_trans h1 h2; rw [bb_irrefl] at this; cases this
  · rw [← gget_iff (s := p.1) (a := p.2) hL, ← gget_iff (s := p.1) (a := p.2) hM, h]
end

/-- A file: its bytes, and whether it is loose. -/
abbrev Fi := List Nat × Bool
def usedOf (L : List (Nm × Fi)) : Nat := (L.map fun p => p.2.1.length).sum
def lenAt (L : List (Nm × Fi)) (s : Nm) : Nat := match gget L s with | some x => x.1.length | none => 0
theorem used_perm {L M : List (Nm × Fi)} (h : L.Perm M) : usedOf L = usedOf M := (h.map _).sum_nat
theorem used_put (L : List (Nm × Fi)) (s : Nm) (a : Fi) : usedOf (gput L s a) = usedOf (gdel L s) + a.1.length := by
  unfold gput; rw [used_perm (gins_perm _ _)]; simp [usedOf]; omega
theorem used_del {L : List (Nm × Fi)} (h : Srt L) (s : Nm) : usedOf (gdel L s) + lenAt L s = usedOf L := by
  induction L with
  | nil => rfl
  | cons x r ih =>
    obtain ⟨h1, h2⟩ := List.pairwise_cons.1 h
    have ih := ih h2
    by_cases e : x.1 = s
    · have hr : gdel r s = r := by
        unfold gdel; rw [List.filter_eq_self]; intro p hp
        have := bb_ne (h1 p hp); rw [e] at this; simp [Ne.symm this]
      have h3 : gdel (x :: r) s = r := by
        have : gdel (x :: r) s = gdel r s := by unfold gdel; rw [List.filter_cons, if_neg (by simp [e])]
        rw [this, hr]
      have h4 : gget (x :: r) s = some x.2 := gget_of_mem h (by rw [← e]; simp)
      unfold lenAt; rw [h3, h4]; simp [usedOf]; omega
    · have h3 : gdel (x :: r) s = x :: gdel r s := by unfold gdel; rw [List.filter_cons, if_pos (by simp [e])]
      have h4 : gget (x :: r) s = gget r s := by unfold gget; rw [List.find?_cons_of_neg (by simp [e])]
      unfold lenAt at ih ⊢; rw [h3, h4]; simp only [usedOf, List.map_cons, List.sum_cons] at ih ⊢; omega
theorem used_le {L : List (Nm × Fi)} {s : Nm} {x : Fi} (h : Srt L) (hg : gget L s = some x) : x.1.length ≤ usedOf L := by
  have := used_del h s; unfold lenAt at this; rw [hg] at this; simp at this; omega
theorem lenAt_le {L : List (Nm × Fi)} (h : Srt L) (s : Nm) : lenAt L s ≤ usedOf L := by have := used_del h s; omega

structure Pd where
  size : Nat
  ops : Nat
  offl : Bool
  full : Bool
  out : Bool
  F : List (Nm × Fi)
/-- How many changes a fuse lets by still, and whether it is gone; none: there is no fuse. -/
abbrev Fs := Option (Nat × Bool)
def goneF : Fs → Bool | some (_, g) => g | none => false
def Pd.isOut (d : Pd) (f : Fs) : Bool := d.out || goneF f
def Pd.ans (d : Pd) (f : Fs) (ns : List Nm) : Nat := if d.isOut f then 11 else if d.offl then 12 else if ns.all okNm then 0 else 13
def burn : Fs → Fs | none => none | some (0, _) => some (0, true) | some (n + 1, g) => some (n, g)
def letsF : Fs → Bool | some (0, _) => false | _ => true
def Pd.chg (d : Pd) (f : Fs) (F : List (Nm × Fi)) : Nat × Pd × Fs := if letsF f then (0, { d with F := F, ops := d.ops + 1 }, burn f) else (11, d, burn f)
def Pd.write (d : Pd) (f : Fs) (s : Nm) (b : List Nat) : Nat × Pd × Fs :=
  if d.ans f [s] ≠ 0 then (d.ans f [s], d, f)
  else if d.full || decide (d.size < usedOf (gdel d.F s) + b.length) then (8, d, f)
  else d.chg f (gput d.F s (b, true))
def Pd.sync (d : Pd) (f : Fs) (s : Nm) : Nat × Pd × Fs :=
  if d.ans f [s] ≠ 0 then (d.ans f [s], d, f) else match gget d.F s with | none => (6, d, f) | some x => d.chg f (gput d.F s (x.1, false))
def Pd.rename (d : Pd) (f : Fs) (s t : Nm) : Nat × Pd × Fs :=
  if d.ans f [s, t] ≠ 0 then (d.ans f [s, t], d, f) else match gget d.F s with | none => (6, d, f) | some x => d.chg f (gput (gdel d.F s) t x)
def Pd.delete (d : Pd) (f : Fs) (s : Nm) : Nat × Pd × Fs :=
  if d.ans f [s] ≠ 0 then (d.ans f [s], d, f) else match gget d.F s with | none => (6, d, f) | some _ => d.chg f (gdel d.F s)
def Pd.readE (d : Pd) (f : Fs) (s : Nm) : Nat := if d.ans f [s] ≠ 0 then d.ans f [s] else match gget d.F s with | none => 6 | some _ => 0
def Pd.readB (d : Pd) (f : Fs) (s : Nm) : List Nat := if d.ans f [s] ≠ 0 then [] else match gget d.F s with | none => [] | some x => x.1
def namesOf (F : List (Nm × Fi)) (q : Nm → Fi → Bool) : List Nm := (F.filter fun p => q p.1 p.2).map (·.1)
def Pd.loose (d : Pd) : List Nm := namesOf d.F fun _ x => x.2
#print axioms used_del
#print axioms srt_ext
end Go.Proofs.Ytfppmpfmafnfmaa

/- A drive in memory: its nine cells, its map of files, its files' bytes, and its fuse; what stays while other memory turns. -/
namespace Go.Proofs.Ytfppmpfmafnfmaa
open Go Go.RowKit

theorem hid {p : Prop} (h : p) : Hid p := h
def u8 (k : Nat) : Value := .int .u8 (k : Int)
abbrev sv (s : Nm) : Value := .string ⟨s.toArray⟩
structure Ent where
  v : Value
  b : List Nat
  l : Bool
def Ent.fi (e : Ent) : Fi := (e.b, e.l)
abbrev HD := Value × Bool
def RF (v : Value) : Option (DataW HD × List MemPlace) := match v with | .agg cs => (match cs.toList with | [.slice po n c, .bool l] => some (.held (.slice po n c, l), []) | _ => none) | _ => none
theorem RF_mk (po : Option Addr) (n c : Nat) (l : Bool) : RF (.agg #[.slice po n c, .bool l]) = some (.held (.slice po n c, l), []) := rfl
theorem RF_inv {v : Value} {z : DataW HD × List MemPlace} (h : RF v = some z) : ∃ po n c l, v = .agg #[.slice po n c, .bool l] ∧ z = (.held (.slice po n c, l), []) := by
  unfold RF at h
  split at h
  · rename_i cs
    split at h
    · rename_i po n c l e
      cases h
      exact ⟨po, n, c, l, by rw [← e], rfl⟩
    · cases h
  · cases h
def encE (p : Nm × Ent) : Lit × DataW HD := (.string p.1, .held (p.2.v, p.2.l))
def mapD (L : List (Nm × Ent)) : DataW HD := .map (L.map encE)
theorem encE_ins (x : Nm × Ent) : ∀ L : List (Nm × Ent), DataW.insert (encE x) (L.map encE) = (gins x L).map encE
  | [] => rfl
  | y :: r => by
    have ih := encE_ins x r
    have hb : (encE x).1.before (encE y).1 = bytesBefore x.1 y.1 := rfl
    rw [List.map_cons, DataW.insert, gins, hb]
    by_cases h : bytesBefore x.1 y.1 = true
    · rw [if_pos h, if_pos h]; rfl
    · rw [if_neg h, if_neg h, List.map_cons, ← ih]
theorem encE_del (L : List (Nm × Ent)) (s : Nm) : (L.map encE).filter (fun p => !p.1.sameKey (.string s)) = (gdel L s).map encE := by
  unfold gdel; rw [List.filter_map]; rfl
theorem mapD_del (L : List (Nm × Ent)) (s : Nm) : (mapD L).del (.string s) = mapD (gdel L s) := by
  show DataW.map _ = _; rw [encE_del]; rfl
theorem mapD_put (L : List (Nm × Ent)) (s : Nm) (e : Ent) : (mapD L).put (.string s) (.held (e.v, e.l)) = mapD (gput L s e) := by
  show DataW.map _ = _; rw [encE_del]; unfold gput mapD; rw [← encE_ins]; rfl
theorem mapD_at (L : List (Nm × Ent)) (s : Nm) (z : DataW HD) : (mapD L).atKey (.string s) z = match gget L s with | some e => .held (e.v, e.l) | none => z := by
  unfold mapD DataW.atKey gget
  simp only [List.find?_map]
  have : ((fun p : Lit × DataW HD => p.1.sameKey (.string s)) ∘ encE) = fun p : Nm × Ent => p.1 == s := rfl
  rw [this]
  cases L.find? (fun p => p.1 == s) <;> rfl
theorem mapD_has (L : List (Nm × Ent)) (s : Nm) : Maps.has (mapD L) (.string s) = (gget L s).isSome := by
  unfold mapD; rw [Maps.has_eq, List.any_map]
  have : ((fun p : Lit × DataW HD => p.1.sameKey (.string s)) ∘ encE) = fun p : Nm × Ent => p.1 == s := rfl
  rw [this]; unfold gget; rw [Option.isSome_map]
  cases hf : L.find? (fun p => p.1 == s) with
  | none => rw [List.find?_eq_none] at hf; simp; intro a b hab; have := hf _ hab; simpa using this
  | some x => simp; have h1 := List.find?_some hf; have h2 := List.mem_of_find?_eq_some hf; simp at h1; exact ⟨x.2, by rw [← h1]; exact h2⟩
theorem mapD_size (L : List (Nm × Ent)) : Maps.size (mapD L) = L.length := by simp [mapD, Maps.size]
theorem ownsMap_exact {w : World} {P : Program} {k : TypeId} {m n : Nat} {L : List (Nm × Ent)} (h : w.ownsMap P k RF m n (mapD L)) : w.ownsMap P k RF m L.length (mapD L) := by
  obtain ⟨es, clock, hb, F, hs, hD⟩ := h
  refine ⟨es, clock, hb, F, ?_, hD⟩
  have h2 := congrArg Maps.size hD
  rw [mapD_size] at h2
  rw [h2]; simp [Maps.size, length_sorted]

theorem under9 : Try.prog.underlying 9 = some .string := by kernel_rfl
theorem underM : Try.prog.underlying 48 = some (.map 9 78) := by kernel_rfl
theorem strLaw : Maps.Keyed Try.prog 9 := Maps.string_keyed under9
theorem zeroF (w : World) : (zeroValue 78).run Try.prog w = .ok (.agg #[.slice none 0 0, .bool false]) w := by kernel_rfl
theorem keyS (s : Nm) (h : s.length ≤ maxLen) : keyOf Try.prog 9 (sv s) = some (.string s) := by
  have := WideMaps.keyOf_string_mk (P := Try.prog) under9 (s := ⟨s.toArray⟩) (by simpa [ByteArray.size] using h)
  simpa using this

/-- Block b has these cells, none of them frozen. -/
def CAt (w : World) (b : Nat) (cs : Array Value) (t : TypeId) : Prop := w.heap[b]? = some (.cells cs t (0, 0))
theorem CAt.lt {w : World} {b : Nat} {cs : Array Value} {t : TypeId} (h : CAt w b cs t) : b < w.heap.size := (Array.getElem?_eq_some_iff.1 h).1
theorem CAt.cell {w : World} {b : Nat} {cs : Array Value} {t : TypeId} (h : CAt w b cs t) (i : Nat) : w.cell? ⟨b, i, none⟩ = cs[i]? := by
  simp [World.cell?, show w.heap[b]? = _ from h]
theorem CAt.free {w : World} {b : Nat} {cs : Array Value} {t : TypeId} (h : CAt w b cs t) (i : Nat) : w.frozen? ⟨b, i, none⟩ = false := by
  simp [World.frozen?, show w.heap[b]? = _ from h]
theorem CAt.set {w : World} {b : Nat} {cs : Array Value} {t : TypeId} (h : CAt w b cs t) (i : Nat) (v : Value) : CAt (w.setCell ⟨b, i, none⟩ v) b (cs.setIfInBounds i v) t := by
  unfold CAt at *
  simp [World.setCell, Array.getElem?_modify, h]
theorem CAt.keep {w w' : World} {b : Nat} {cs : Array Value} {t : TypeId} (h : CAt w b cs t) (e : w'.heap[b]? = w.heap[b]?) : CAt w' b cs t := e.trans h
theorem heap_setCell_ne (w : World) (a : Addr) (v : Value) (b : Nat) (h : b ≠ a.block) : (w.setCell a v).heap[b]? = w.heap[b]? := RowKit.Below.heap_setCell _ _ _ _ h
theorem setCell_size (w : World) (a : Addr) (v : Value) : (w.setCell a v).heap.size = w.heap.size := by
  unfold World.setCell; split <;> simp

def fuV : Option Nat → Value | none => .pointer none | some q => .pointer (some ⟨q, 0, none⟩)
abbrev ptr (p : Nat) : Value := .pointer (some ⟨p, 0, none⟩)
def dcells (p m : Nat) (fu : Option Nat) (d : Pd) (us : Int) : Array Value :=
  #[ptr p, .int .i64 (d.size : Int), .map (some m), .int .i64 us, .int .i64 (d.ops : Int), .bool d.offl, .bool d.full, .bool d.out, fuV fu]

/-- A drive lies at block p, its map at block m, its files as L; all its blocks are in S. -/
structure DrC (w : World) (S : Nat → Prop) (p m : Nat) (fu : Option Nat) (d : Pd) (L : List (Nm × Ent)) : Prop where
  c : CAt w p (dcells p m fu d (usedOf d.F : Int)) 51
  mp : w.ownsMap Try.prog 9 RF m L.length (mapD L)
  fs : d.F = gmap Ent.fi L
  ow : ∀ x ∈ L, w.ownsRow 0 5 1 x.2.v x.2.b.length (x.2.b.map u8)
  ap : L.Pairwise fun x y => x.2.v.ownBlock = none ∨ x.2.v.ownBlock ≠ y.2.v.ownBlock
  by8 : ∀ x ∈ L, ∀ y ∈ x.2.b, y < 256
  so : Srt L
  nm : ∀ x ∈ L, okNm x.1 = true
  sp : S p
  sm : S m
  sf : ∀ x ∈ L, ∀ b, x.2.v.ownBlock = some b → S b
  lt : ∀ b, S b → b < w.heap.size
  us : usedOf d.F ≤ d.size
  sz : d.size ≤ 67108864
/-- A fuse, outside S. -/
def FuAt (w : World) (S : Nat → Prop) : Option Nat → Fs → Prop
  | none, none => True
  | some q, some (n, g) => CAt w q #[.int .i64 (n : Int), .bool g] 81 ∧ ¬ S q ∧ n ≤ 9223372036854775807
  | _, _ => False

/-- Of what was there nothing has turned but blocks of S. -/
structure Only (S : Nat → Prop) (w w' : World) : Prop where
  os : w'.os = w.os
  tape : w'.tape = w.tape
  output : w'.output = w.output
  size : w.heap.size ≤ w'.heap.size
  block : ∀ k, k < w.heap.size → ¬ S k → w'.heap[k]? = w.heap[k]?
theorem Only.refl (S : Nat → Prop) (w : World) : Only S w w := ⟨rfl, rfl, rfl, Nat.le_refl _, fun _ _ _ => rfl⟩
theorem Only.trans {S : Nat → Prop} {a b c : World} (h : Only S a b) (k : Only S b c) : Only S a c :=
  ⟨k.os.trans h.os, k.tape.trans h.tape, k.output.trans h.output, Nat.le_trans h.size k.size, fun i hi hs => (k.block i (Nat.lt_of_lt_of_le hi h.size) hs).trans (h.block i hi hs)⟩
/-- .. where the later step may turn what is new since the first world. -/
theorem Only.then {S T : Nat → Prop} {a b c : World} (h : Only S a b) (k : Only T b c) (hT : ∀ i, i < a.heap.size → T i → S i) : Only S a c :=
  ⟨k.os.trans h.os, k.tape.trans h.tape, k.output.trans h.output, Nat.le_trans h.size k.size, fun i hi hs => (k.block i (Nat.lt_of_lt_of_le hi h.size) (fun ht => hs (hT i hi ht))).trans (h.block i hi hs)⟩
theorem Only.mono {S T : Nat → Prop} {a b : World} (h : Only S a b) (hS : ∀ i, S i → T i) : Only T a b := ⟨h.os, h.tape, h.output, h.size, fun i hi hs => h.block i hi fun k => hs (hS i k)⟩
theorem Only.of_below {S : Nat → Prop} {a b : World} (h : Below a.heap.size a b) : Only S a b := ⟨h.os, h.tape, h.output, h.size, fun i hi _ => h.block i hi⟩
theorem Only.below {S : Nat → Prop} {a b : World} {B : Nat} (h : Only S a b) (hB : B ≤ a.heap.size) (hS : ∀ i, S i → B ≤ i) : Below B a b :=
  ⟨h.os, h.tape, h.output, h.size, fun i hi => h.block i (by omega) fun k => by have := hS i k; omega⟩
theorem Only.of_grown {S : Nat → Prop} {a b : World} {r : Option Nat} (h : a.grownBy b r) (hr : ∀ k, r = some k → k < a.heap.size → S k) : Only S a b :=
  ⟨h.os, h.tape, h.output, h.size, fun i hi hs => h.block i hi fun e => hs (hr i e.symm hi)⟩
theorem Only.set {S : Nat → Prop} (w : World) (a : Addr) (v : Value) (h : S a.block) : Only S w (w.setCell a v) := by
  exact ⟨rfl, rfl, rfl, Nat.le_of_eq (setCell_size w a v).symm, fun k _ hk => heap_setCell_ne _ _ _ _ fun e => hk (e ▸ h)⟩
theorem Only.alloc {S : Nat → Prop} (w : World) (o : Obj) : Only S w (w.alloc o) := Only.of_grown (World.grownBy_alloc w o none) (by simp)

def grw (S : Nat → Prop) (w w' : World) (b : Nat) : Prop := S b ∨ (w.heap.size ≤ b ∧ b < w'.heap.size)

theorem ownsRow_keep {w w' : World} {B e n s : Nat} {v : Value} {xs : List Value} (h : w.ownsRow B e s v n xs) (hk : ∀ b, v.ownBlock = some b → w'.heap[b]? = w.heap[b]?) : w'.ownsRow B e s v n xs := by
  obtain ⟨h1, h2⟩ := h
  refine ⟨h1, ?_⟩
  rcases h2 with h2 | ⟨g, cap, cur, rfl, hB, hb, r⟩
  · exact Or.inl h2
  · exact Or.inr ⟨g, cap, cur, rfl, hB, (hk g rfl).trans hb, r⟩
theorem ownsMap_keep {w w' : World} {P : Program} {k : TypeId} {m n : Nat} {D : DataW HD} (h : w.ownsMap P k RF m n D) (e : w'.heap[m]? = w.heap[m]?) : w'.ownsMap P k RF m n D := by
  obtain ⟨es, clock, hb, r⟩ := h
  exact ⟨es, clock, e.trans hb, r⟩
/-- A drive stays as it is while none of its blocks turns. -/
theorem DrC.keep {w w' : World} {S : Nat → Prop} {p m : Nat} {fu : Option Nat} {d : Pd} {L : List (Nm × Ent)} (h : DrC w S p m fu d L) (hs : w.heap.size ≤ w'.heap.size) (hk : ∀ b, S b → w'.heap[b]? = w.heap[b]?) : DrC w' S p m fu d L :=
  { h with c := h.c.keep (hk p h.sp), mp := ownsMap_keep h.mp (hk m h.sm), ow := fun x hx => ownsRow_keep (h.ow x hx) fun b hb => hk b (h.sf x hx b hb), lt := fun b hb => Nat.lt_of_lt_of_le (h.lt b hb) hs }
theorem DrC.wide {w : World} {S S' : Nat → Prop} {p m : Nat} {fu : Option Nat} {d : Pd} {L : List (Nm × Ent)} (h : DrC w S p m fu d L) (hS : ∀ b, S b → S' b) (hl : ∀ b, S' b → b < w.heap.size) : DrC w S' p m fu d L :=
  { h with sp := hS p h.sp, sm := hS m h.sm, sf := fun x hx b hb => hS b (h.sf x hx b hb), lt := hl }
theorem FuAt.keep {w w' : World} {S : Nat → Prop} : ∀ {fu : Option Nat} {f : Fs}, FuAt w S fu f → (∀ q, fu = some q → w'.heap[q]? = w.heap[q]?) → FuAt w' S fu f
  | none, none, _, _ => trivial
  | some q, some (_, _), h, hk => ⟨h.1.keep (hk q rfl), h.2⟩
def DrAt (w : World) (S : Nat → Prop) (p : Nat) (fu : Option Nat) (d : Pd) : Prop := ∃ m L, DrC w S p m fu d L
theorem DrAt.keep {w w' : World} {S : Nat → Prop} {p : Nat} {fu : Option Nat} {d : Pd} (h : DrAt w S p fu d) (hs : w.heap.size ≤ w'.heap.size) (hk : ∀ b, S b → w'.heap[b]? = w.heap[b]?) : DrAt w' S p fu d := by
  obtain ⟨m, L, h⟩ := h; exact ⟨m, L, h.keep hs hk⟩
#print axioms DrC.keep
end Go.Proofs.Ytfppmpfmafnfmaa

/- Contracts of made, isOut, lets and Name of package drive. -/
namespace Go.Proofs.Ytfppmpfmafnfmaa
open Go Go.RowKit

theorem underP : Try.prog.underlying 23 = some (.pointer 51) := by kernel_rfl
theorem eqP_same (p : Nat) (w : World) : (binOp .eql 23 (ptr p) (ptr p)).run Try.prog w = .ok (.bool true) w := by
  have hi : (Try.prog.info? 51).isSome = true := by kernel_rfl
  obtain ⟨j, hj⟩ := Option.isSome_iff_exists.1 hi
  exact run_eql_ptr_same w _ underP hj
theorem eqP_nil (p : Nat) (w : World) : (binOp .eql 23 (.pointer none) (ptr p)).run Try.prog w = .ok (.bool false) w := by
  have h : ∀ d : Nat, (Op.equalIn (d + 1) 23 (.pointer none) (ptr p)).run Try.prog w = .ok false w := fun d => by
    simp [Op.equalIn, run_underlying underP]
  simp only [binOp]
  simp [Op.equal, Op.maxDepth, h 9999]
set_option maxRecDepth 100000 in
theorem made_any {w : World} {S : Nat → Prop} {p m : Nat} {fu : Option Nat} {d : Pd} {L : List (Nm × Ent)} (h : DrC w S p m fu d L) :
    Calls Try.prog 40 #[ptr p] w fun e w' => e = .returned (.bool true) ∧ w' = w := by
  have c0 : w.cell? ⟨p, 0, none⟩ = some (ptr p) := h.c.cell 0
  have hq := eqP_same p
  go_enter Try.func40, Try.ntmps40
  go_wp2
  go_ret
  simp
theorem made_nil (w : World) : Calls Try.prog 40 #[.pointer none] w fun e w' => e = .returned (.bool false) ∧ w' = w := by
  go_enter Try.func40, Try.ntmps40
  go_wp2
  go_ret
  simp
set_option maxRecDepth 100000 in
theorem made_bare {w : World} {p : Nat} (c0 : w.cell? ⟨p, 0, none⟩ = some (.pointer none)) : Calls Try.prog 40 #[ptr p] w fun e w' => e = .returned (.bool false) ∧ w' = w := by
  have hq := eqP_nil p
  go_enter Try.func40, Try.ntmps40
  go_wp2
  go_ret
  simp
theorem isOut_any {w : World} {S : Nat → Prop} {p m : Nat} {fu : Option Nat} {d : Pd} {L : List (Nm × Ent)} (h : DrC w S p m fu d L) {f : Fs} (hf : FuAt w S fu f) :
    Calls Try.prog 42 #[ptr p] w fun e w' => e = .returned (.bool (d.isOut f)) ∧ w' = w := by
  have c7 : w.cell? ⟨p, 7, none⟩ = some (.bool d.out) := h.c.cell 7
  have c8 : w.cell? ⟨p, 8, none⟩ = some (fuV fu) := h.c.cell 8
  cases ho : d.out
  · match fu, f, hf with
    | none, none, _ =>
      rw [ho] at c7
      simp only [fuV] at c8
      go_enter Try.func42, Try.ntmps42
      go_wp2
      go_ret
      simp [Pd.isOut, ho, goneF]
    | some q, some (n, g), hf =>
      rw [ho] at c7
      simp only [fuV] at c8
      have g1 : w.cell? ⟨q, 1, none⟩ = some (.bool g) := hf.1.cell 1
      go_enter Try.func42, Try.ntmps42
      go_wp2
      go_ret
      simp [Pd.isOut, ho, goneF]
  · rw [ho] at c7
    go_enter Try.func42, Try.ntmps42
    go_wp2
    go_ret
    simp [Pd.isOut, ho]
/-- A fuse lets a change by, or is gone. -/
theorem lets_any {w : World} {S : Nat → Prop} {q n : Nat} {g : Bool} (h : FuAt w S (some q) (some (n, g))) :
    Calls Try.prog 79 #[ptr q] w fun e w' => e = .returned (.bool (letsF (some (n, g)))) ∧ FuAt w' S (some q) (burn (some (n, g))) ∧ Only (fun b => b = q) w w' ∧ w'.heap.size = w.heap.size := by
  have g0 : w.cell? ⟨q, 0, none⟩ = some (.int .i64 (n : Int)) := h.1.cell 0
  have g1 : w.cell? ⟨q, 1, none⟩ = some (.bool g) := h.1.cell 1
  have z0 : w.frozen? ⟨q, 0, none⟩ = false := h.1.free 0
  have z1 : w.frozen? ⟨q, 1, none⟩ = false := h.1.free 1
  have hn := h.2.2
  cases n with
  | zero =>
    go_enter Try.func79, Try.ntmps79
    go_wp2
    go_ret
    refine ⟨rfl, ⟨?_, h.2⟩, Only.set _ _ _ rfl, setCell_size _ _ _⟩
    exact h.1.set 1 (.bool true)
  | succ n =>
    go_enter Try.func79, Try.ntmps79
    go_wp2
    go_ret
    refine ⟨rfl, ⟨?_, h.2.1, by omega⟩, Only.set _ _ _ rfl, setCell_size _ _ _⟩
    have h2 := h.1.set 0 (.int .i64 (n : Int))
    simpa using h2
#print axioms isOut_any
end Go.Proofs.Ytfppmpfmafnfmaa

/- Contracts of Name and answers of package drive. -/
namespace Go.Proofs.Ytfppmpfmafnfmaa
open Go Go.RowKit

def okB (c : UInt8) : Bool := decide (33 ≤ c.toNat) && decide (c.toNat ≤ 126)
theorem getD_in {α : Type} (s : List α) (i : Nat) (z : α) (hi : i < s.length) : s.getD i z = s[i] := by simp [List.getD, hi]
theorem okNm_iff (s : Nm) : okNm s = true ↔ (1 ≤ s.length ∧ s.length ≤ 512 ∧ ∀ i, i < s.length → okB (s.getD i 0) = true) := by
  unfold okNm
  simp only [Bool.and_eq_true, decide_eq_true_eq, List.all_eq_true]
  constructor
  · rintro ⟨h1, h2, h3⟩
    refine ⟨h1, h2, fun i hi => ?_⟩
    have := h3 (s.getD i 0) (by rw [getD_in _ _ _ hi]; exact List.getElem_mem hi)
    unfold okB; rw [Bool.and_eq_true, decide_eq_true_eq, decide_eq_true_eq]; exact this
  · rintro ⟨h1, h2, h3⟩
    refine ⟨h1, h2, fun x hx => ?_⟩
    obtain ⟨i, hi, rfl⟩ := List.mem_iff_getElem.1 hx
    have := h3 i hi
    rw [getD_in _ _ _ hi] at this
    simpa [okB] using this
theorem idx_sv (s : Nm) (i : Nat) (hi : i < s.length) (w : World) : (Instr.index 9 (sv s) (.int .i64 (i : Int))).run Try.prog w = .ok (.int .u8 ((s.getD i 0).toNat : Int)) w := by
  have hz : (⟨s.toArray⟩ : ByteArray).size = s.length := by simp [ByteArray.size]
  rw [run_index_string w 9 ⟨s.toArray⟩ .i64 (i : Int) under9, dif_pos ⟨by omega, by omega⟩]
  congr 3
  simp [ByteArray.getElem_eq_getElem_data, hi]
theorem okB_lo {c : UInt8} (h : (c.toNat : Int) < 33) : okB c = false := by unfold okB; simp; omega
theorem okB_hi {c : UInt8} (h : 126 < (c.toNat : Int)) : okB c = false := by unfold okB; simp; omega
theorem okB_in {c : UInt8} (h : ¬ (c.toNat : Int) < 33) (h2 : ¬ 126 < (c.toNat : Int)) : okB c = true := by unfold okB; simp; omega
theorem okNm_not {s : Nm} {k : Nat} (hk : k < s.length) (h : okB (s.getD k 0) = false) : okNm s = false := by
  cases e : okNm s
  · rfl
  · have := ((okNm_iff s).1 e).2.2 k hk; rw [h] at this; cases this
set_option maxRecDepth 100000 in
theorem name_any (s : Nm) (w : World) (hl : s.length ≤ maxLen) : Calls Try.prog 18 #[sv s] w fun e w' => e = .returned (.bool (okNm s)) ∧ w' = w := by
  have hz : (⟨s.toArray⟩ : ByteArray).size = s.length := by simp [ByteArray.size]
  have hml : maxLen = 9223372036854775807 := rfl
  rw [hml] at hl
  have HX := hid (idx_sv s)
  unfold sv at HX ⊢
  generalize (⟨s.toArray⟩ : ByteArray) = bs at hz HX ⊢
  by_cases h1 : s.length < 1
  · have e : okNm s = false := by unfold okNm; simp; omega
    rw [e]
    go_enter Try.func18, Try.ntmps18
    go_wp2
    go_ret
    first | exact ⟨rfl, rfl⟩ | simp [e]
  by_cases h2 : 512 < s.length
  · have e : okNm s = false := by unfold okNm; simp; omega
    rw [e]
    go_enter Try.func18, Try.ntmps18
    go_wp2
    go_ret
    first | exact ⟨rfl, rfl⟩ | simp [e]
  go_enter Try.func18, Try.ntmps18
  go_wp2
  go_loopw [14] (fun v wr => ∃ k : Nat, k ≤ s.length ∧ v = .int .i64 (k : Int) ∧ wr = w ∧ ∀ i, i < k → okB (s.getD i 0) = true) (fun v _ => (s.length - intOf v).toNat)
  case atStart => exact ⟨0, by omega, rfl, rfl, fun i hi => by omega⟩
  case round =>
    obtain ⟨k, hk, rfl, hw, hok⟩ := hrel
    have HOK := hid hok
    subst hw
    clear hok
    by_cases hlt : k < s.length
    · have hx := HX.out k hlt
      generalize hc : s.getD k 0 = c at hx
      have HC := hid hc
      clear hc
      have hlt' : (k : Int) < (s.length : Int) := by omega
      by_cases hlo : (c.toNat : Int) < 33
      · go_wp2
        go_ret
        rw [okNm_not hlt (by rw [HC.out]; exact okB_lo hlo)]; simp
      by_cases hhi : 126 < (c.toNat : Int)
      · go_wp2
        go_ret
        rw [okNm_not hlt (by rw [HC.out]; exact okB_hi hhi)]; simp
      go_wp2
      go_roundw
      case rel =>
        refine ⟨k + 1, by omega, by go_num, by trivial, fun i hi => ?_⟩
        by_cases e : i = k
        · rw [e, HC.out]; exact okB_in hlo hhi
        · exact HOK.out i (by omega)
      case measure => simp [intOf]; omega
    · have hlt' : ¬ (k : Int) < (s.length : Int) := by omega
      have e : okNm s = true := (okNm_iff s).2 ⟨by omega, by omega, fun i hi => HOK.out i (by omega)⟩
      go_wp2
      go_ret
      exact ⟨by first | rfl | (rw [e]; rfl), by first | rfl | trivial⟩
/-- A list of texts lies at block b. -/
def TxtAt (w : World) (v : Value) (ns : List Nm) : Prop := (ns = [] ∧ v = .slice none 0 0) ∨ ∃ b c, v = .slice (some ⟨b, 0, none⟩) ns.length c ∧ ∀ i, i < ns.length → w.cell? ⟨b, i, none⟩ = some (sv (ns.getD i []))
theorem ans_all {d : Pd} {f : Fs} {ns : List Nm} (h1 : d.isOut f = false) (h2 : d.offl = false) (h3 : ∀ i, i < ns.length → okNm (ns.getD i []) = true) : d.ans f ns = 0 := by
  unfold Pd.ans
  rw [h1, h2]
  have : ns.all okNm = true := List.all_eq_true.2 fun x hx => by
    obtain ⟨i, hi, rfl⟩ := List.mem_iff_getElem.1 hx
    have := h3 i hi; rwa [getD_in _ _ _ hi] at this
  simp [this]
theorem ans_bad {d : Pd} {f : Fs} {ns : List Nm} (h1 : d.isOut f = false) (h2 : d.offl = false) {k : Nat} (hk : k < ns.length) (h3 : okNm (ns.getD k []) = false) : d.ans f ns = 13 := by
  unfold Pd.ans
  rw [h1, h2]
  have : ns.all okNm = false := by
    rw [List.all_eq_false]; exact ⟨ns.getD k [], by rw [getD_in _ _ _ hk]; exact List.getElem_mem hk, by rw [h3]; simp⟩
  simp [this]
set_option maxRecDepth 100000 in
theorem answers_any {w : World} {S : Nat → Prop} {p m : Nat} {fu : Option Nat} {d : Pd} {L : List (Nm × Ent)} (h : DrC w S p m fu d L) {f : Fs} (hf : FuAt w S fu f) (v : Value) (ns : List Nm) (hv : TxtAt w v ns) (hn : ns.length ≤ 1000) (hl : ∀ x ∈ ns, x.length ≤ maxLen) :
    Calls Try.prog 60 #[ptr p, v] w fun e w' => e = .returned (.int .i64 (d.ans f ns : Int)) ∧ w' = w := by
  have c5 : w.cell? ⟨p, 5, none⟩ = some (.bool d.offl) := h.c.cell 5
  have hmade := made_any h
  have hout := isOut_any h hf
  cases ho : d.isOut f
  · cases hof : d.offl
    · rw [ho] at hout
      rw [hof] at c5
      rcases hv with ⟨rfl, rfl⟩ | ⟨b, c, rfl, hb⟩
      · have e : d.ans f [] = 0 := ans_all ho hof (by simp)
        rw [e]
        go_enter Try.func60, Try.ntmps60
        go_wp2_with (first
          | (go_at_call 40; refine hmade.mono ?_; rintro e w' ⟨rfl, hw'⟩; have hw2 := hw'.symm; subst hw2)
          | (go_at_call 42; refine hout.mono ?_; rintro e w' ⟨rfl, hw'⟩; have hw2 := hw'.symm; subst hw2))
        refine wp_loop_rounds 1 ?_
        rw [rounds_succ]
        go_wp2
        go_ret
        simp
      · have HB := hid hb
        have HL := hid hl
        clear hb hl
        go_enter Try.func60, Try.ntmps60
        go_wp2_with (first
          | (go_at_call 40; refine hmade.mono ?_; rintro e w' ⟨rfl, hw'⟩; have hw2 := hw'.symm; subst hw2)
          | (go_at_call 42; refine hout.mono ?_; rintro e w' ⟨rfl, hw'⟩; have hw2 := hw'.symm; subst hw2))
        go_loopw [21] (fun v wr => ∃ k : Nat, k ≤ ns.length ∧ v = .int .i64 (k : Int) ∧ w = wr ∧ ∀ i, i < k → okNm (ns.getD i []) = true) (fun v _ => (ns.length - intOf v).toNat)
        case atStart => exact ⟨0, by omega, rfl, rfl, fun i hi => by omega⟩
        case round =>
          obtain ⟨k, hk, rfl, hw, hok⟩ := hrel
          have HOK := hid hok
          clear hok
          subst hw
          by_cases hlt : k < ns.length
          · have hx := HB.out k hlt
            have hnm := name_any (ns.getD k []) w (HL.out _ (by rw [getD_in _ _ _ hlt]; exact List.getElem_mem hlt))
            generalize hc : ns.getD k [] = c at hx hnm
            have HC := hid hc
            clear hc
            have hlt' : (k : Int) < (ns.length : Int) := by omega
            cases hb : okNm c
            · rw [hb] at hnm
              go_wp2_with (go_at_call 18; refine hnm.mono ?_; rintro e w' ⟨rfl, hw'⟩; have hw2 := hw'.symm; subst hw2)
              go_ret
              rw [ans_bad ho hof hlt (by rw [HC.out]; exact hb)]; simp
            · rw [hb] at hnm
              go_wp2_with (go_at_call 18; refine hnm.mono ?_; rintro e w' ⟨rfl, hw'⟩; have hw2 := hw'.symm; subst hw2)
              go_roundw
              case rel =>
                refine ⟨k + 1, by omega, by go_num, by trivial, fun i hi => ?_⟩
                by_cases e : i = k
                · rw [e, HC.out]; exact hb
                · exact HOK.out i (by omega)
              case measure => simp [intOf]; omega
          · have hlt' : ¬ (k : Int) < (ns.length : Int) := by omega
            have e : d.ans f ns = 0 := ans_all ho hof fun i hi => HOK.out i (by omega)
            go_wp2
            go_ret
            exact ⟨by first | rfl | (rw [e]; rfl), by first | rfl | trivial⟩
    · have e : d.ans f ns = 12 := by unfold Pd.ans; rw [ho, hof]; rfl
      rw [e]
      rw [ho] at hout
      rw [hof] at c5
      go_enter Try.func60, Try.ntmps60
      go_wp2_with (first
        | (go_at_call 40; refine hmade.mono ?_; rintro e w' ⟨rfl, hw'⟩; have hw2 := hw'.symm; subst hw2)
        | (go_at_call 42; refine hout.mono ?_; rintro e w' ⟨rfl, hw'⟩; have hw2 := hw'.symm; subst hw2))
      go_ret
      simp
  · have e : d.ans f ns = 11 := by unfold Pd.ans; rw [ho]; rfl
    rw [e]
    rw [ho] at hout
    go_enter Try.func60, Try.ntmps60
    go_wp2_with (first
      | (go_at_call 40; refine hmade.mono ?_; rintro e w' ⟨rfl, hw'⟩; have hw2 := hw'.symm; subst hw2)
      | (go_at_call 42; refine hout.mono ?_; rintro e w' ⟨rfl, hw'⟩; have hw2 := hw'.symm; subst hw2))
    go_ret
    simp
theorem answers_nil (v : Value) (w : World) : Calls Try.prog 60 #[.pointer none, v] w fun e w' => e = .returned (.int .i64 1) ∧ w' = w := by
  have hmade := made_nil w
  go_enter Try.func60, Try.ntmps60
  go_wp2_with (go_at_call 40; refine hmade.mono ?_; rintro e w' ⟨rfl, hw'⟩; have hw2 := hw'.symm; subst hw2)
  go_ret
  simp
theorem answers_bare {w : World} {p : Nat} (c0 : w.cell? ⟨p, 0, none⟩ = some (.pointer none)) (v : Value) : Calls Try.prog 60 #[ptr p, v] w fun e w' => e = .returned (.int .i64 1) ∧ w' = w := by
  have hmade := made_bare c0
  go_enter Try.func60, Try.ntmps60
  go_wp2_with (go_at_call 40; refine hmade.mono ?_; rintro e w' ⟨rfl, hw'⟩; have hw2 := hw'.symm; subst hw2)
  go_ret
  simp
#print axioms answers_any
end Go.Proofs.Ytfppmpfmafnfmaa

/- Contract of find of package drive: a file, or what stands against it. -/
namespace Go.Proofs.Ytfppmpfmafnfmaa
open Go Go.RowKit

theorem heap_alloc_old (w : World) (o : Obj) {b : Nat} (h : b < w.heap.size) : (w.alloc o).heap[b]? = w.heap[b]? := (MapKept.heap_alloc w o).2 b h
theorem DrC.alloc {w : World} {S : Nat → Prop} {p m : Nat} {fu : Option Nat} {d : Pd} {L : List (Nm × Ent)} (h : DrC w S p m fu d L) (o : Obj) : DrC (w.alloc o) S p m fu d L :=
  h.keep (by simp) fun b hb => heap_alloc_old w o (h.lt b hb)
theorem FuAt.lt {w : World} {S : Nat → Prop} : ∀ {fu : Option Nat} {f : Fs}, FuAt w S fu f → ∀ q, fu = some q → q < w.heap.size
  | some _, some (_, _), h, _, rfl => h.1.lt
theorem FuAt.alloc {w : World} {S : Nat → Prop} {fu : Option Nat} {f : Fs} (h : FuAt w S fu f) (o : Obj) : FuAt (w.alloc o) S fu f :=
  h.keep fun q hq => heap_alloc_old w o (h.lt q hq)
theorem txt_one (w : World) (s : Nm) (c : Nat) (t : TypeId) (b : Nat) (hb : b = w.heap.size) : TxtAt (w.alloc (.cells #[sv s] t)) (.slice (some ⟨b, 0, none⟩) 1 c) [s] := by
  subst hb; exact
  Or.inr ⟨_, _, rfl, fun i hi => by
    have : i = 0 := by simpa using hi
    subst this
    have : CAt (w.alloc (.cells #[sv s] t)) w.heap.size #[sv s] t := (MapKept.heap_alloc w _).1
    rw [this.cell]; rfl⟩
theorem txt_two (w : World) (s s2 : Nm) (c : Nat) (t : TypeId) (b : Nat) (hb : b = w.heap.size) : TxtAt (w.alloc (.cells #[sv s, sv s2] t)) (.slice (some ⟨b, 0, none⟩) 2 c) [s, s2] := by
  subst hb; exact
  Or.inr ⟨_, _, rfl, fun i hi => by
    have hc : CAt (w.alloc (.cells #[sv s, sv s2] t)) w.heap.size #[sv s, sv s2] t := (MapKept.heap_alloc w _).1
    rw [hc.cell]
    have : i = 0 ∨ i = 1 := by simp at hi; omega
    rcases this with rfl | rfl <;> rfl⟩
theorem ret_file {fn : Func} {p u : Tmp} (h : fn.results = #[.cell p 78, .tmp u]) {R : Ending → World → Prop} {a : Act} {w : World} (g : Nat) (v : Value) (l : Bool) (x : Value)
    (hd0 : a.defers = []) (hp : a.tmps.getD p undef = ptr g) (hv : a.tmps.getD u undef = x) (hg : w.heap[g]? = some (.cells #[v, .bool l] 78)) (hR : R (.returned (.tuple #[.agg #[v, .bool l], x])) w) : bodyPost Try.prog fn R .ret a w := by
  refine ⟨hd0, .tuple #[.agg #[v, .bool l], x], ?_, hR⟩
  have hi : (Try.prog.info? 78).map (·.size) = some 2 := by kernel_rfl
  have hl := run_loadVar_row (P := Try.prog) w g _ _ #[v, .bool l] _ _ hg Try.underlying78 rfl hi
  rw [results_cell_tmp h, hp, hv]
  simp [asAddr, hl]
theorem size_al (w : World) (o : Obj) : (w.alloc o).heap.size = w.heap.size + 1 := by simp
theorem own_form {w : World} {B e sz n : Nat} {v : Value} {xs : List Value} (h : w.ownsRow B e sz v n xs) : ∃ po cc, v = .slice po n cc := by
  rcases h.2 with ⟨rfl, rfl⟩ | ⟨g, cap, cur, rfl, _⟩
  · exact ⟨_, _, rfl⟩
  · exact ⟨_, _, rfl⟩
theorem at_new (w : World) (o : Obj) : (w.alloc o).heap[w.heap.size]? = some o := (MapKept.heap_alloc w o).1
def zeroE : Ent := ⟨.slice none 0 0, [], false⟩
abbrev fileOf (e : Ent) : Value := .agg #[e.v, .bool e.l]
def findV (d : Pd) (f : Fs) (L : List (Nm × Ent)) (s : Nm) : Ent := if d.readE f s = 0 then (gget L s).getD zeroE else zeroE
theorem look_file {w : World} {m n : Nat} {L : List (Nm × Ent)} (h : w.ownsMap Try.prog 9 RF m n (mapD L)) (s : Nm) (hs : s.length ≤ maxLen) :
    (Instr.lookup 48 (.map (some m)) (sv s) true).run Try.prog w = .ok (.tuple #[fileOf ((gget L s).getD zeroE), .bool (gget L s).isSome]) w := by
  obtain ⟨v, ps, hrun, hv⟩ := h.look_ok strLaw underM (zeroF w) (RF_mk _ _ _ _) (keyS s hs)
  rw [mapD_has] at hrun
  rw [mapD_at] at hv
  obtain ⟨po, n, c, l, rfl, hz⟩ := RF_inv hv
  rw [hrun]
  cases hg : gget L s with
  | none => rw [hg] at hz; simp at hz; obtain ⟨⟨⟨rfl, rfl, rfl⟩, rfl⟩, _⟩ := hz; rfl
  | some e =>
    rw [hg] at hz; simp at hz
    obtain ⟨⟨h1, h2⟩, _⟩ := hz
    show _ = Result.ok _ _
    simp [fileOf, h1, h2]
theorem look_len {w : World} {m n : Nat} {L : List (Nm × Ent)} (h : w.ownsMap Try.prog 9 RF m n (mapD L)) (s : Nm) (hs : s.length ≤ maxLen) :
    (Instr.lookup 48 (.map (some m)) (sv s) false).run Try.prog w = .ok (fileOf ((gget L s).getD zeroE)) w := by
  obtain ⟨v, ps, hrun, hv⟩ := h.lookup strLaw underM (zeroF w) (RF_mk _ _ _ _) (keyS s hs)
  rw [mapD_at] at hv
  obtain ⟨po, n, c, l, rfl, hz⟩ := RF_inv hv
  rw [hrun]
  cases hg : gget L s with
  | none => rw [hg] at hz; simp at hz; obtain ⟨⟨⟨rfl, rfl, rfl⟩, rfl⟩, _⟩ := hz; rfl
  | some e =>
    rw [hg] at hz; simp at hz
    obtain ⟨⟨h1, h2⟩, _⟩ := hz
    show _ = Result.ok _ _
    simp [fileOf, h1, h2]
theorem wpList_look {ops : Array Oper} {rest : List Oper} {o : Oper} {a : Act} {Q : Exit → Act → World → Prop} (w : World) (hg : o.guard = none) (mo x : Operand) (ok : Bool) (hop : o.op = Op.lookup 48 mo x ok)
    {m n : Nat} {L : List (Nm × Ent)} (h : w.ownsMap Try.prog 9 RF m n (mapD L)) {s : Nm} (hs : s.length ≤ maxLen) (hm : a.eval mo = .map (some m)) (hx : a.eval x = sv s) {r : Value}
    (hr : r = if ok then .tuple #[fileOf ((gget L s).getD zeroE), .bool (gget L s).isSome] else fileOf ((gget L s).getD zeroE))
    (hK : wpList Try.prog ops Q rest (a.put o.dst r) w) : wpList Try.prog ops Q (o :: rest) a w := by
  refine wpList_plain hg fun K' hK' => ?_
  unfold Oper.wp
  subst hr
  cases ok
  · simp [execOp, hop, hm, hx, look_len h s hs, Result.andThen]
    exact hK' _ _ hK
  · simp [execOp, hop, hm, hx, look_file h s hs, Result.andThen]
    exact hK' _ _ hK
theorem readE_bad {d : Pd} {f : Fs} {s : Nm} (h : d.ans f [s] ≠ 0) : d.readE f s = d.ans f [s] := by unfold Pd.readE; rw [if_pos h]
def FindAt (w : World) (d : Pd) (f : Fs) (L : List (Nm × Ent)) (s : Nm) (e : Ending) (w' : World) : Prop :=
  e = .returned (.tuple #[fileOf (findV d f L s), .int .i64 (d.readE f s : Int)]) ∧ Below w.heap.size w w'
set_option maxRecDepth 100000 in
theorem find_any {w : World} {S : Nat → Prop} {p m : Nat} {fu : Option Nat} {d : Pd} {L : List (Nm × Ent)} (h : DrC w S p m fu d L) {f : Fs} (hf : FuAt w S fu f) (s : Nm) (hs : s.length ≤ maxLen) :
    Calls Try.prog 59 #[ptr p, sv s] w (FindAt w d f L s) := by
  have H := hid h
  have c2 : w.cell? ⟨p, 2, none⟩ = some (.map (some m)) := h.c.cell 2
  have hp := h.c.lt
  have HA := hid (fun (o1 o2 : Obj) v hv => answers_any ((h.alloc o1).alloc o2) ((hf.alloc o1).alloc o2) v [s] hv (by simp) (by simpa using hs))
  by_cases ha : d.ans f [s] = 0
  · cases hg : gget L s with
    | none =>
      have e1 : d.readE f s = 6 := by unfold Pd.readE; rw [if_neg (by simp [ha]), H.out.fs, gget_map, hg]; rfl
      have e2 : findV d f L s = zeroE := by unfold findV; rw [e1, if_neg (by simp)]
      have HE := hid e1
      have HE2 := hid e2
      clear e1 e2 h hf
      go_enter Try.func59, Try.ntmps59
      go_wp2_with (first
        | (go_at_call 60; refine (HA.out _ _ _ (txt_one _ _ _ _ _ (by simp))).mono ?_; rintro e w' ⟨rfl, hw'⟩; rw [ha]; have hw2 := hw'.symm; subst hw2)
        | (at_lookup; refine wpList_look _ rfl _ _ true rfl ((H.out.mp.alloc _).alloc _) hs rfl rfl (r := .tuple #[.agg #[.slice none 0 0, .bool false], .bool false]) (by rw [hg]; rfl) ?_))
      refine ret_file rfl w.heap.size _ _ _ rfl rfl rfl ((heap_alloc_old _ _ (by simp only [size_al]; omega)).trans ((heap_alloc_old _ _ (by simp only [size_al]; omega)).trans (at_new w _))) ?_
      refine ⟨by rw [HE.out, HE2.out]; rfl, ?_⟩
      exact ((((Below.refl _ _).alloc (Nat.le_refl _) _).alloc (by simp only [size_al]; omega) _).alloc (by simp only [size_al]; omega) _)
    | some e =>
      have e1 : d.readE f s = 0 := by unfold Pd.readE; rw [if_neg (by simp [ha]), H.out.fs, gget_map, hg]; rfl
      have e2 : findV d f L s = e := by unfold findV; rw [e1, if_pos rfl, hg]; rfl
      have HE := hid e1
      have HE2 := hid e2
      obtain ⟨po, cc, hev⟩ := own_form (h.ow (s, e) (gget_mem hg))
      have HEV := hid hev
      clear e1 e2 h hf hev
      generalize hkk : e.b.length = kk at *
      clear hkk
      go_enter Try.func59, Try.ntmps59
      go_wp2_with (first
        | (go_at_call 60; refine (HA.out _ _ _ (txt_one _ _ _ _ _ (by simp))).mono ?_; rintro e w' ⟨rfl, hw'⟩; rw [ha]; have hw2 := hw'.symm; subst hw2)
        | (at_lookup; refine wpList_look _ rfl _ _ true rfl ((H.out.mp.alloc _).alloc _) hs rfl rfl (r := .tuple #[.agg #[.slice po kk cc, .bool e.l], .bool true]) (by rw [hg, ← HEV.out]; rfl) ?_))
      refine ret_file rfl w.heap.size _ _ _ rfl rfl rfl ((heap_alloc_old _ _ (by simp only [size_al]; omega)).trans ((heap_alloc_old _ _ (by simp only [size_al]; omega)).trans (at_new w _))) ?_
      refine ⟨by rw [HE.out, HE2.out, ← HEV.out]; rfl, ?_⟩
      exact ((((Below.refl _ _).alloc (Nat.le_refl _) _).alloc (by simp only [size_al]; omega) _).alloc (by simp only [size_al]; omega) _)
  · have e1 := readE_bad ha
    have e2 : findV d f L s = zeroE := by unfold findV; rw [e1, if_neg ha]
    have HE := hid e1
    have HE2 := hid e2
    clear e1 e2 h hf
    have ha' : ((d.ans f [s] : Nat) : Int) ≠ 0 := by omega
    generalize hx : d.ans f [s] = x at *
    go_enter Try.func59, Try.ntmps59
    go_wp2_with (first
      | (go_at_call 60; refine (HA.out _ _ _ (txt_one _ _ _ _ _ (by simp))).mono ?_; rintro e w' ⟨rfl, hw'⟩; have hw2 := hw'.symm; subst hw2))
    refine ret_file rfl w.heap.size _ _ _ rfl rfl rfl ((heap_alloc_old _ _ (by simp only [size_al]; omega)).trans (at_new w _)) ?_
    refine ⟨by rw [HE.out, HE2.out]; rfl, ?_⟩
    exact (((Below.refl _ _).alloc (Nat.le_refl _) _).alloc (by simp only [size_al]; omega) _)
#print axioms find_any
end Go.Proofs.Ytfppmpfmafnfmaa

/- A region that draws its order, whose operations only read but for the last one, for which all others must have come up: one walk in the text's order serves every order. -/
namespace Go.Proofs.Ytfppmpfmafnfmaa
open Go

section
variable {P : Program} {ops : Array Oper} {md : Region.Mode} {C : World → Prop}

/-- n more operations that only read come up, in whatever order; then the last one. -/
def wpAnyT (P : Program) (md : Region.Mode) (ops : Array Oper) (C : World → Prop) (last : Nat) (R : Act → Prop) : Nat → Array Bool → Act → Prop
  | 0, listed, a => Region.ready md ops listed = [last] ∧ Region.ready md ops (listed.setIfInBounds last true) = [] ∧ R a
  | n + 1, listed, a => Region.ready md ops listed ≠ [] ∧ last ∉ Region.ready md ops listed ∧ ∀ i ∈ Region.ready md ops listed, qOp P ops C i (wpAnyT P md ops C last R n (listed.setIfInBounds i true)) a

theorem wpAny_of_T {last : Nat} {R : Act → Prop} {Q : Exit → Act → World → Prop} (hR : ∀ a w, C w → R a → wpOp P ops Q last (fun a w => Q .normal a w) a w) : ∀ (n : Nat) (listed : Array Bool) (a : Act) (w : World), C w →
    wpAnyT P md ops C last R n listed a → wpAny P md ops Q (n + 1) listed a w
  | 0, listed, a, w, hw, h => by
    obtain ⟨h1, h2, h3⟩ := h
    refine ⟨fun h0 => (by rw [h1] at h0; cases h0), fun i hi => ?_⟩
    rw [h1, List.mem_singleton] at hi
    subst hi
    exact wpOp_mono (fun a' w' hq => ⟨h2, hq⟩) (hR a w hw h3)
  | n + 1, listed, a, w, hw, h => by
    obtain ⟨h1, _, h3⟩ := h
    exact ⟨fun h0 => absurd h0 h1, fun i hi => wpOp_of_qOp hw (fun a' w' hw' hh => wpAny_of_T hR n _ a' w' hw' hh) (h3 i hi)⟩

theorem wpAnyT_first {last : Nat} {R : Act → Prop} {i : Nat} {oi ol : Oper} {v : Value} (hi : ops[i]? = some oi) (hol : ops[last]? = some ol) (hwait : ∃ e ∈ ol.after, Region.binds md e = true ∧ e.on = i)
    (hsel : ∀ (j : Nat) (o : Oper) cs b, ops[j]? = some o → o.op ≠ .select cs b) : ∀ (n : Nat) (listed : Array Bool) (a : Act),
      (∀ j oj, ops[j]? = some oj → j ≠ i → listed.getD j true = false → (∀ e ∈ oj.after, Region.binds md e = true → e.on ≠ i) → oi.apart ops oj = true) →
      i ∈ Region.ready md ops listed → YieldsIn P ops C oi v a →
      wpAnyT P md ops C last R n (listed.setIfInBounds i true) (a.put oi.dst v) → wpAnyT P md ops C last R (n + 1) listed a := by
  have hnl : ∀ listed : Array Bool, i ∈ Region.ready md ops listed → last ∉ Region.ready md ops listed := fun listed hr hl => by
    obtain ⟨_, o, ho, hall⟩ := mem_ready.1 hl
    obtain ⟨e, he, hb, hon⟩ := hwait
    rw [hol] at ho
    cases ho
    have h1 := hall e he hb
    have h0 := (mem_ready.1 hr).1
    rw [hon] at h1
    rcases Nat.lt_or_ge i listed.size with h' | h'
    · simp [h'] at h0 h1; rw [h0] at h1; cases h1
    · simp [Array.getElem?_eq_none h'] at h1
  intro n
  induction n with
  | zero =>
    intro listed a _ hr hy H
    refine ⟨fun h => (by rw [h] at hr; cases hr), hnl _ hr, fun j hj => ?_⟩
    by_cases hji : j = i
    · subst hji; exact hy.qOp hi H
    · have h1 := ready_mono hj hji
      rw [H.1, List.mem_singleton] at h1
      subst h1
      exact absurd hj (hnl _ hr)
  | succ n ih =>
    intro listed a hfree hr hy H
    refine ⟨fun h => (by rw [h] at hr; cases hr), hnl _ hr, fun j hj => ?_⟩
    by_cases hji : j = i
    · subst hji; exact hy.qOp hi H
    · have h1 := H.2.2 j (ready_mono hj hji)
      obtain ⟨hjun, oj, hoj, hall⟩ := mem_ready.1 hj
      have hnot : ∀ e ∈ oj.after, Region.binds md e = true → e.on ≠ i := fun e he hb heq => by
        have h1 := hall e he hb
        have h0 := (mem_ready.1 hr).1
        rw [heq] at h1
        rcases Nat.lt_or_ge i listed.size with h' | h'
        · simp [h'] at h0 h1; rw [h0] at h1; cases h1
        · simp [Array.getElem?_eq_none h'] at h1
      have h2 := qOp_put hoj (hfree j oj hoj hji hjun hnot) (fun cs b => hsel i oi cs b hi) (fun cs b => hsel j oj cs b hoj) hy h1
      refine qOp_mono (fun a' h3 => ih (listed.setIfInBounds j true) a' (fun k ok hk hki hun hno => ?_) (ready_mono hr (Ne.symm hji)) h3.1 ?_) h2
      · refine hfree k ok hk hki ?_ hno
        by_cases hjk : j = k
        · subst hjk; exact hjun
        · rw [getD_set_ne true hjk] at hun; exact hun
      · rw [Array.setIfInBounds_comm _ _ hji]
        exact h3.2

/-- Held by reckoning: the operations up to the last may come up in the text's order, each apart from what does not wait for it; the last waits for all. -/
def lexT (md : Region.Mode) (ops : Array Oper) (last : Nat) : Nat → Nat → Array Bool → Bool
  | 0, _, listed => decide (Region.ready md ops listed = [last]) && (Region.ready md ops (listed.setIfInBounds last true)).isEmpty
  | n + 1, k, listed => (Region.ready md ops listed).contains k && Region.free md ops listed k && (match ops[last]? with | some ol => ol.after.any (fun e => Region.binds md e && e.on == k) | none => false) && lexT md ops last n (k + 1) (listed.setIfInBounds k true)

theorem wpAnyT_lex {last : Nat} {R : Act → Prop} (hs : Region.noSelect ops = true) : ∀ (l : List Oper) (k : Nat) (listed : Array Bool) (a : Act), (∀ j, j < l.length → l[j]? = ops[k + j]?) →
    lexT md ops last l.length k listed = true → wpQuiet P ops C R l a → wpAnyT P md ops C last R l.length listed a
  | [], _, _, _, _, hB, h => by
    simp only [List.length_nil, lexT, Bool.and_eq_true, decide_eq_true_eq, List.isEmpty_iff] at hB
    exact ⟨hB.1, hB.2, h⟩
  | o :: l, k, listed, a, hl, hB, h => by
    have h0 : ops[k]? = some o := by simpa using (hl 0 (by simp)).symm
    simp only [List.length_cons, lexT, Bool.and_eq_true] at hB
    obtain ⟨⟨⟨hr, hf⟩, hw⟩, hB'⟩ := hB
    cases hol : ops[last]? with
    | none => simp [hol] at hw
    | some ol =>
      have hwait : ∃ e ∈ ol.after, Region.binds md e = true ∧ e.on = k := by
        simp only [hol, Array.any_eq_true', Bool.and_eq_true, beq_iff_eq] at hw
        obtain ⟨e, he, h1, h2⟩ := hw
        exact ⟨e, he, h1, h2⟩
      have hst : qOp P ops C k (wpQuiet P ops C R l) a := by unfold qOp; simp only [h0]; exact h
      obtain ⟨v, hy, hK⟩ := yieldsIn_of_qOp h0 hst
      exact wpAnyT_first h0 hol hwait (Region.noSelect_spec hs) l.length listed a (Region.free_spec h0 hf) (by simpa using hr) hy
        (wpAnyT_lex hs l (k + 1) _ _ (fun j hj => by have := hl (j + 1) (by simp; omega); simpa [Nat.add_assoc, Nat.add_comm 1 j] using this) hB' hK)

def lastB (ops : Array Oper) : Bool := Region.noSelect ops && lexT .any ops (ops.size - 1) (ops.size - 1) 0 (Array.replicate ops.size false)

/-- The region's law: the quiet walk of all but the last, then the last one, as in a plain region. -/
theorem wp_region_last {id : Nat} {Q : Exit → Act → World → Prop} {a : Act} {w : World} {l : List Oper} {o : Oper} (hm : P.follows .mixedOrders = true) (hB : lastB (l ++ [o]).toArray = true)
    (h : wpQuiet P (l ++ [o]).toArray (fun w' => ∃ n, w' = w.drewN n) (fun a' => ∀ n, wpList P (l ++ [o]).toArray Q [o] a' (w.drewN n)) l a) : (Code.region id (l ++ [o]).toArray true).wp P Q a w := by
  simp only [lastB, Bool.and_eq_true] at hB
  have hsz : (l ++ [o]).toArray.size = l.length + 1 := by simp
  rw [hsz] at hB
  refine wp_region_any hm ?_
  rw [hsz]
  refine wpAny_of_T (C := fun w' => ∃ n, w' = w.drewN n) (last := l.length) (R := fun a' => ∀ n, wpList P (l ++ [o]).toArray Q [o] a' (w.drewN n)) ?_ l.length _ _ _ ⟨1, rfl⟩ ?_
  · rintro a' w' ⟨n, rfl⟩ hr
    have h1 := hr n
    unfold wpOp
    rw [show (l ++ [o]).toArray[l.length]? = some o by simp]
    exact h1
  · exact wpAnyT_lex hB.1 l 0 _ a (fun j hj => by simp [List.getElem?_append_left hj]) (by simpa using hB.2) h
/-- The same, the list cut by the kernel. -/
theorem wp_region_last_lit {id : Nat} {Q : Exit → Act → World → Prop} {a : Act} {w : World} {x : Oper} {r : List Oper} (hm : P.follows .mixedOrders = true) (hB : lastB (x :: r).toArray = true)
    (h : wpQuiet P (x :: r).toArray (fun w' => ∃ n, w' = w.drewN n) (fun a' => ∀ n, wpList P (x :: r).toArray Q [(x :: r).getLast (List.cons_ne_nil x r)] a' (w.drewN n)) (x :: r).dropLast a) : (Code.region id (x :: r).toArray true).wp P Q a w := by
  have e : (x :: r) = (x :: r).dropLast ++ [(x :: r).getLast (List.cons_ne_nil x r)] := (List.dropLast_concat_getLast (List.cons_ne_nil x r)).symm
  have key : ∀ k : List Oper, k = (x :: r).dropLast ++ [(x :: r).getLast (List.cons_ne_nil x r)] → lastB k.toArray = true → wpQuiet P k.toArray (fun w' => ∃ n, w' = w.drewN n) (fun a' => ∀ n, wpList P k.toArray Q [(x :: r).getLast (List.cons_ne_nil x r)] a' (w.drewN n)) (x :: r).dropLast a → (Code.region id k.toArray true).wp P Q a w := by
    intro k hk hB' h'
    subst hk
    exact wp_region_last hm hB' h'
  exact key (x :: r) e hB h
end
end Go.Proofs.Ytfppmpfmafnfmaa

/- Regions that draw their order of which the last operations write. -/
namespace Go.Proofs.Ytfppmpfmafnfmaa
open Go Go.RowKit

section
variable {P : Program} {ops : Array Oper} {md : Region.Mode} {C : World → Prop}

/-- What is listed has all listed for which it waits. -/
def Cl (md : Region.Mode) (ops : Array Oper) (listed : Array Bool) : Prop := ∀ j o, ops[j]? = some o → listed.getD j false = true → ∀ e ∈ o.after, Region.binds md e = true → listed.getD e.on false = true
theorem getD_flip {listed : Array Bool} {j : Nat} (h : listed.getD j true = false) : listed.getD j false = false := by
  rcases Nat.lt_or_ge j listed.size with h' | h'
  · simp [h'] at h ⊢; exact h
  · simp [Array.getElem?_eq_none h'] at h
theorem Cl.set {listed : Array Bool} {i : Nat} (h : Cl md ops listed) (hi : i ∈ Region.ready md ops listed) : Cl md ops (listed.setIfInBounds i true) := by
  intro j o ho hj e he hb
  obtain ⟨hun, oi, hoi, hall⟩ := mem_ready.1 hi
  by_cases hji : j = i
  · subst hji
    rw [ho] at hoi; cases hoi
    exact getD_set_true (hall e he hb)
  · rw [getD_set_ne false (Ne.symm hji)] at hj
    exact getD_set_true (h j o ho hj e he hb)
def waitsOn (md : Region.Mode) (ops : Array Oper) : Nat → Nat → Nat → Bool
  | 0, _, _ => false
  | f + 1, j, i => match ops[j]? with
    | none => false
    | some o => o.after.any fun e => Region.binds md e && (e.on == i || waitsOn md ops f e.on i)
theorem waits_listed {listed : Array Bool} (hc : Cl md ops listed) : ∀ (f j i : Nat), waitsOn md ops f j i = true → (listed.getD j false = true ∨ j ∈ Region.ready md ops listed) → listed.getD i false = true
  | 0, _, _, h, _ => by cases h
  | f + 1, j, i, h, hj => by
    unfold waitsOn at h
    cases ho : ops[j]? with
    | none => simp [ho] at h
    | some o =>
      simp only [ho, Array.any_eq_true', Bool.and_eq_true, Bool.or_eq_true, beq_iff_eq] at h
      obtain ⟨e, he, hb, h⟩ := h
      have hl : listed.getD e.on false = true := by
        rcases hj with hj | hj
        · exact hc j o ho hj e he hb
        · obtain ⟨_, o', ho', hall⟩ := mem_ready.1 hj
          rw [ho] at ho'; cases ho'
          exact hall e he hb
      rcases h with h | h
      · rw [← h]; exact hl
      · exact waits_listed hc f e.on i h (.inl hl)

/-- The operations tl come up one behind the other, and nothing else does. -/
def forced (md : Region.Mode) (ops : Array Oper) : List Nat → Array Bool → Prop
  | [], listed => Region.ready md ops listed = []
  | k :: ks, listed => Region.ready md ops listed = [k] ∧ forced md ops ks (listed.setIfInBounds k true)
def tailW (P : Program) (ops : Array Oper) (Q : Exit → Act → World → Prop) : List Nat → Act → World → Prop
  | [], a, w => Q .normal a w
  | k :: ks, a, w => wpOp P ops Q k (tailW P ops Q ks) a w
theorem any_of_forced {Q : Exit → Act → World → Prop} : ∀ (ks : List Nat) (listed : Array Bool) (a : Act) (w : World), forced md ops ks listed → tailW P ops Q ks a w → wpAny P md ops Q ks.length listed a w
  | [], _, _, _, hf, h => ⟨hf, h⟩
  | k :: ks, listed, a, w, hf, h => by
    refine ⟨fun h0 => (by rw [hf.1] at h0; cases h0), fun i hi => ?_⟩
    rw [hf.1, List.mem_singleton] at hi
    subst hi
    exact wpOp_mono (fun a w h => any_of_forced ks _ a w hf.2 h) h

/-- n more operations that only read come up, in whatever order; then those of the tail. -/
def wpAnyU (P : Program) (md : Region.Mode) (ops : Array Oper) (C : World → Prop) (tl : List Nat) (R : Act → Prop) : Nat → Array Bool → Act → Prop
  | 0, listed, a => forced md ops tl listed ∧ R a
  | n + 1, listed, a => Region.ready md ops listed ≠ [] ∧ ∀ i ∈ Region.ready md ops listed, qOp P ops C i (wpAnyU P md ops C tl R n (listed.setIfInBounds i true)) a

theorem wpAny_of_U {tl : List Nat} {R : Act → Prop} {Q : Exit → Act → World → Prop} (hR : ∀ a w, C w → R a → tailW P ops Q tl a w) : ∀ (n : Nat) (listed : Array Bool) (a : Act) (w : World), C w →
    wpAnyU P md ops C tl R n listed a → wpAny P md ops Q (n + tl.length) listed a w
  | 0, listed, a, w, hw, h => by
    rw [Nat.zero_add]
    exact any_of_forced tl listed a w h.1 (hR a w hw h.2)
  | n + 1, listed, a, w, hw, h => by
    obtain ⟨h1, h3⟩ := h
    rw [Nat.add_right_comm]
    exact ⟨fun h0 => absurd h0 h1, fun i hi => wpOp_of_qOp hw (fun a' w' hw' hh => wpAny_of_U hR n _ a' w' hw' hh) (h3 i hi)⟩

theorem wpAnyU_first {last : Nat} {ks : List Nat} {R : Act → Prop} {i f : Nat} {oi : Oper} {v : Value} (hi : ops[i]? = some oi) (hwait : waitsOn md ops f last i = true)
    (hsel : ∀ (j : Nat) (o : Oper) cs b, ops[j]? = some o → o.op ≠ .select cs b) : ∀ (n : Nat) (listed : Array Bool) (a : Act), Cl md ops listed →
      (∀ j oj, ops[j]? = some oj → j ≠ i → listed.getD j true = false → (∀ e ∈ oj.after, Region.binds md e = true → e.on ≠ i) → oi.apart ops oj = true) →
      i ∈ Region.ready md ops listed → YieldsIn P ops C oi v a →
      wpAnyU P md ops C (last :: ks) R n (listed.setIfInBounds i true) (a.put oi.dst v) → wpAnyU P md ops C (last :: ks) R (n + 1) listed a := by
  have hnl : ∀ listed : Array Bool, Cl md ops listed → i ∈ Region.ready md ops listed → last ∉ Region.ready md ops listed := fun listed hc hr hl => by
    have h1 := waits_listed hc f last i hwait (.inr hl)
    have h0 := getD_flip (mem_ready.1 hr).1
    rw [h0] at h1; cases h1
  intro n
  induction n with
  | zero =>
    intro listed a hc _ hr hy H
    refine ⟨fun h => (by rw [h] at hr; cases hr), fun j hj => ?_⟩
    by_cases hji : j = i
    · subst hji; exact hy.qOp hi H
    · have h1 := ready_mono hj hji
      rw [H.1.1, List.mem_singleton] at h1
      subst h1
      exact absurd hj (hnl _ hc hr)
  | succ n ih =>
    intro listed a hc hfree hr hy H
    refine ⟨fun h => (by rw [h] at hr; cases hr), fun j hj => ?_⟩
    by_cases hji : j = i
    · subst hji; exact hy.qOp hi H
    · have h1 := H.2 j (ready_mono hj hji)
      obtain ⟨hjun, oj, hoj, hall⟩ := mem_ready.1 hj
      have hnot : ∀ e ∈ oj.after, Region.binds md e = true → e.on ≠ i := fun e he hb heq => by
        have h1 := hall e he hb
        have h0 := getD_flip (mem_ready.1 hr).1
        rw [heq, h0] at h1; cases h1
      have h2 := qOp_put hoj (hfree j oj hoj hji hjun hnot) (fun cs b => hsel i oi cs b hi) (fun cs b => hsel j oj cs b hoj) hy h1
      refine qOp_mono (fun a' h3 => ih (listed.setIfInBounds j true) a' (hc.set hj) (fun k ok hk hki hun hno => ?_) (ready_mono hr (Ne.symm hji)) h3.1 ?_) h2
      · refine hfree k ok hk hki ?_ hno
        by_cases hjk : j = k
        · subst hjk; exact hjun
        · rw [getD_set_ne true hjk] at hun; exact hun
      · rw [Array.setIfInBounds_comm _ _ hji]
        exact h3.2

def forcedB (md : Region.Mode) (ops : Array Oper) : List Nat → Array Bool → Bool
  | [], listed => (Region.ready md ops listed).isEmpty
  | k :: ks, listed => decide (Region.ready md ops listed = [k]) && forcedB md ops ks (listed.setIfInBounds k true)
theorem forced_of : ∀ (ks : List Nat) (listed : Array Bool), forcedB md ops ks listed = true → forced md ops ks listed
  | [], _, h => List.isEmpty_iff.1 h
  | k :: ks, listed, h => by
    simp only [forcedB, Bool.and_eq_true, decide_eq_true_eq] at h
    exact ⟨h.1, forced_of ks _ h.2⟩
def lexU (md : Region.Mode) (ops : Array Oper) (tl : List Nat) : Nat → Nat → Array Bool → Bool
  | 0, _, listed => forcedB md ops tl listed
  | n + 1, k, listed => (Region.ready md ops listed).contains k && Region.free md ops listed k && (match tl with | [] => false | last :: _ => waitsOn md ops ops.size last k) && lexU md ops tl n (k + 1) (listed.setIfInBounds k true)

theorem wpAnyU_lex {last : Nat} {ks : List Nat} {R : Act → Prop} (hs : Region.noSelect ops = true) : ∀ (l : List Oper) (k : Nat) (listed : Array Bool) (a : Act), Cl md ops listed → (∀ j, j < l.length → l[j]? = ops[k + j]?) →
    lexU md ops (last :: ks) l.length k listed = true → wpQuiet P ops C R l a → wpAnyU P md ops C (last :: ks) R l.length listed a
  | [], _, _, _, _, _, hB, h => ⟨forced_of _ _ hB, h⟩
  | o :: l, k, listed, a, hc, hl, hB, h => by
    have h0 : ops[k]? = some o := by simpa using (hl 0 (by simp)).symm
    simp only [List.length_cons, lexU, Bool.and_eq_true] at hB
    obtain ⟨⟨⟨hr, hf⟩, hw⟩, hB'⟩ := hB
    have hr' : k ∈ Region.ready md ops listed := by simpa using hr
    have hst : qOp P ops C k (wpQuiet P ops C R l) a := by unfold qOp; simp only [h0]; exact h
    obtain ⟨v, hy, hK⟩ := yieldsIn_of_qOp h0 hst
    exact wpAnyU_first h0 hw (Region.noSelect_spec hs) l.length listed a hc (Region.free_spec h0 hf) hr' hy
      (wpAnyU_lex hs l (k + 1) _ _ (hc.set hr') (fun j hj => by have := hl (j + 1) (by simp; omega); simpa [Nat.add_assoc, Nat.add_comm 1 j] using this) hB' hK)

theorem Cl.start (ops : Array Oper) (n : Nat) : Cl md ops (Array.replicate n false) := fun j o _ hj => by
  rcases Nat.lt_or_ge j n with h | h
  · simp [h] at hj
  · have : (Array.replicate n false)[j]? = none := Array.getElem?_eq_none (by simpa using h)
    simp [this] at hj

def tailB (ops : Array Oper) (m k : Nat) : Bool := Region.noSelect ops && lexU .any ops (List.range' m (k + 1)) m 0 (Array.replicate ops.size false)

theorem tailW_list {Q : Exit → Act → World → Prop} : ∀ (t : List Oper) (m : Nat) (a : Act) (w : World), (∀ j, j < t.length → t[j]? = ops[m + j]?) → wpList P ops Q t a w → tailW P ops Q (List.range' m t.length) a w
  | [], _, _, _, _, h => h
  | o :: t, m, a, w, hl, h => by
    have h0 : ops[m]? = some o := by simpa using (hl 0 (by simp)).symm
    have ih := fun a w => tailW_list t (m + 1) a w (fun j hj => by have := hl (j + 1) (by simp; omega); simpa [Nat.add_assoc, Nat.add_comm 1 j] using this) (Q := Q)
    simp only [List.length_cons, List.range'_succ, tailW, wpOp, h0]
    unfold wpList at h
    split
    · rename_i hw
      rw [if_pos hw] at h
      exact h.imp (fun h => Oper.wp_mono (fun a w h => ih a w h) h) id
    · rename_i hw
      rw [if_neg hw] at h
      exact ih _ _ h

/-- A region that draws: the quiet walk of q, then those of t, as in a plain region. -/
theorem any_tail {Q : Exit → Act → World → Prop} {a : Act} {w : World} {q t : List Oper} {o : Oper} (hB : tailB (q ++ o :: t).toArray q.length t.length = true)
    (h : wpQuiet P (q ++ o :: t).toArray (fun w' => ∃ n, w' = w.drewN n) (fun a' => ∀ n, wpList P (q ++ o :: t).toArray Q (o :: t) a' (w.drewN n)) q a) :
    wpAny P .any (q ++ o :: t).toArray Q (q ++ o :: t).toArray.size (Array.replicate (q ++ o :: t).toArray.size false) a w.drew := by
  simp only [tailB, Bool.and_eq_true, List.range'_succ] at hB
  have hsz : (q ++ o :: t).toArray.size = q.length + (List.range' q.length (t.length + 1)).length := by simp
  have hg : wpAny P .any (q ++ o :: t).toArray Q (q.length + (List.range' q.length (t.length + 1)).length) (Array.replicate (q ++ o :: t).toArray.size false) a w.drew := by
    refine wpAny_of_U (C := fun w' => ∃ n, w' = w.drewN n) (R := fun a' => ∀ n, wpList P (q ++ o :: t).toArray Q (o :: t) a' (w.drewN n)) ?_ q.length _ _ _ ⟨1, rfl⟩ ?_
    · rintro a' w' ⟨n, rfl⟩ hr
      exact tailW_list (o :: t) q.length a' _ (fun j _ => by rw [List.getElem?_toArray, List.getElem?_append_right (Nat.le_add_right _ _), Nat.add_sub_cancel_left]) (hr n)
    · rw [List.range'_succ]
      exact wpAnyU_lex hB.1 q 0 _ a (Cl.start _ _) (fun j hj => by simp [List.getElem?_append_left hj]) hB.2 h
  rw [hsz]
  rw [hsz] at hg
  exact hg
/-- Cut behind m operations by the kernel. -/
theorem any_tail_at (m : Nat) {Q : Exit → Act → World → Prop} {a : Act} {w : World} {k : List Oper} {o : Oper} {t : List Oper} (hc : k.drop m = o :: t) (hB : tailB k.toArray (k.take m).length t.length = true)
    (h : wpQuiet P k.toArray (fun w' => ∃ n, w' = w.drewN n) (fun a' => ∀ n, wpList P k.toArray Q (o :: t) a' (w.drewN n)) (k.take m) a) :
    wpAny P .any k.toArray Q k.toArray.size (Array.replicate k.toArray.size false) a w.drew := by
  obtain ⟨q, hq⟩ : ∃ q, k.take m = q := ⟨_, rfl⟩
  have e : k = q ++ o :: t := by rw [← hq, ← hc]; exact (List.take_append_drop m k).symm
  rw [hq] at h hB
  subst e
  exact any_tail hB h
theorem wp_region_tail (m : Nat) {id : Nat} {Q : Exit → Act → World → Prop} {a : Act} {w : World} {k : List Oper} {o : Oper} {t : List Oper} (hm : P.follows .mixedOrders = true)
    (hc : k.drop m = o :: t) (hB : tailB k.toArray (k.take m).length t.length = true)
    (h : wpQuiet P k.toArray (fun w' => ∃ n, w' = w.drewN n) (fun a' => ∀ n, wpList P k.toArray Q (o :: t) a' (w.drewN n)) (k.take m) a) : (Code.region id k.toArray true).wp P Q a w :=
  wp_region_any hm (any_tail_at m hc hB h)
theorem any_tailC {Q : Exit → Act → World → Prop} {a : Act} {w : World} {q t : List Oper} {o : Oper} (hC : C w.drew) (hB : tailB (q ++ o :: t).toArray q.length t.length = true)
    (h : wpQuiet P (q ++ o :: t).toArray C (fun a' => ∀ w', C w' → wpList P (q ++ o :: t).toArray Q (o :: t) a' w') q a) :
    wpAny P .any (q ++ o :: t).toArray Q (q ++ o :: t).toArray.size (Array.replicate (q ++ o :: t).toArray.size false) a w.drew := by
  simp only [tailB, Bool.and_eq_true, List.range'_succ] at hB
  have hsz : (q ++ o :: t).toArray.size = q.length + (List.range' q.length (t.length + 1)).length := by simp
  have hg : wpAny P .any (q ++ o :: t).toArray Q (q.length + (List.range' q.length (t.length + 1)).length) (Array.replicate (q ++ o :: t).toArray.size false) a w.drew := by
    refine wpAny_of_U (C := C) (R := fun a' => ∀ w', C w' → wpList P (q ++ o :: t).toArray Q (o :: t) a' w') ?_ q.length _ _ _ hC ?_
    · intro a' w' hw hr
      exact tailW_list (o :: t) q.length a' _ (fun j _ => by rw [List.getElem?_toArray, List.getElem?_append_right (Nat.le_add_right _ _), Nat.add_sub_cancel_left]) (hr w' hw)
    · rw [List.range'_succ]
      exact wpAnyU_lex hB.1 q 0 _ a (Cl.start _ _) (fun j hj => by simp [List.getElem?_append_left hj]) hB.2 h
  rw [hsz]
  rw [hsz] at hg
  exact hg
end
/-- A world of a class. -/
structure WC (C : World → Prop) where
  w : World
  ok : C w
section
variable {P : Program} {C : World → Prop}
/-- A region that draws: the quiet walk of its first m operations over a class of worlds, then the others in their order. -/
theorem wp_region_tailC (m : Nat) {id : Nat} {Q : Exit → Act → World → Prop} {a : Act} {w : World} {k : List Oper} {o : Oper} {t : List Oper} (hm : P.follows .mixedOrders = true) (hC : C w.drew)
    (hc : k.drop m = o :: t) (hB : tailB k.toArray (k.take m).length t.length = true)
    (h : wpQuiet P k.toArray (fun w' => ∃ t : WC C, w' = t.w) (fun a' => ∀ w', (∃ t : WC C, w' = t.w) → wpList P k.toArray Q (o :: t) a' w') (k.take m) a) : (Code.region id k.toArray true).wp P Q a w := by
  obtain ⟨q, hq⟩ : ∃ q, k.take m = q := ⟨_, rfl⟩
  have e : k = q ++ o :: t := by rw [← hq, ← hc]; exact (List.take_append_drop m k).symm
  rw [hq] at h hB
  subst e
  exact wp_region_any hm (any_tailC (C := fun w' => ∃ t : WC C, w' = t.w) ⟨⟨w.drew, hC⟩, rfl⟩ hB h)
theorem quiet_load_class {o : Oper} {a : Act} {K : Act → Prop} (ty : TypeId) (x : Operand) (ho : o.op = .load ty x) (g : Nat) (hx : a.eval x = .pointer (some ⟨g, 0, none⟩)) (t : TypeId) (cs : Array Value) (d : TypeDesc)
    (hg : ∀ w, C w → w.heap[g]? = some (.cells cs t (0, 0))) (hu : P.underlying ty = some d) (hd : (match d with | .struct _ | .array _ _ => true | _ => false) = true) (hi : (P.info? ty).map (·.size) = some cs.size)
    (h : K (a.put o.dst (.agg cs))) : o.quiet P a (fun w' => ∃ t : WC C, w' = t.w) K := by
  refine ⟨.agg cs, ?_, h⟩
  rintro w ⟨t', rfl⟩
  have hg' := hg _ t'.ok
  unfold Oper.quietAt execOp
  simp only [ho, hx, Instr.loadAt, Instr.sureAddr, Sem.run_bind, Sem.run_pure, Result.andThen_ok, run_loadVar_row t'.w g t ty cs (0, 0) d hg' hu hd hi]
  exact ⟨rfl, rfl⟩
end
end Go.Proofs.Ytfppmpfmafnfmaa

/- Contract of take of package drive: a file is let go of. -/
namespace Go.Proofs.Ytfppmpfmafnfmaa
open Go Go.RowKit

section
variable {w : World} {S : Nat → Prop} {p m : Nat} {fu : Option Nat} {d : Pd} {L : List (Nm × Ent)}
theorem ownsMap_at {w : World} {P : Program} {k : TypeId} {m n : Nat} {D : DataW HD} (h : w.ownsMap P k RF m n D) : ∃ es clock, w.heap[m]? = some (.map es clock) := by
  obtain ⟨es, clock, hb, _⟩ := h; exact ⟨es, clock, hb⟩
theorem DrC.pm (h : DrC w S p m fu d L) : p ≠ m := by
  obtain ⟨es, clock, hm⟩ := ownsMap_at h.mp
  intro e; have hc : w.heap[p]? = _ := h.c; rw [e, hm] at hc; cases hc
theorem DrC.file_at (h : DrC w S p m fu d L) {x : Nm × Ent} (hx : x ∈ L) {b : Nat} (hb : x.2.v.ownBlock = some b) : ∃ cur, w.heap[b]? = some (.cells cur 5) := by
  rcases (h.ow x hx).2 with ⟨e, _⟩ | ⟨g, cap, cur, e, _, hg, _⟩
  · rw [e] at hb; simp [Value.ownBlock] at hb
  · rw [e] at hb; simp [Value.ownBlock] at hb; subst hb; exact ⟨cur, hg⟩
theorem DrC.file_ne (h : DrC w S p m fu d L) {x : Nm × Ent} (hx : x ∈ L) {b : Nat} (hb : x.2.v.ownBlock = some b) : b ≠ p ∧ b ≠ m := by
  obtain ⟨cur, hc⟩ := h.file_at hx hb
  obtain ⟨es, clock, hm⟩ := ownsMap_at h.mp
  refine ⟨fun e => ?_, fun e => ?_⟩
  · have h1 : w.heap[p]? = _ := h.c
    rw [e, h1] at hc
    have ht := (Obj.cells.inj (Option.some.inj hc)).2.1
    revert ht; decide
  · rw [e, hm] at hc; cases hc
/-- Another state of the drive, its files being among those that were there and one that is new. -/
theorem DrC.turned (h : DrC w S p m fu d L) {w2 : World} {d2 : Pd} {L2 : List (Nm × Ent)} {fu2 : Option Nat} (hc : CAt w2 p (dcells p m fu2 d2 (usedOf d2.F : Int)) 51) {n : Nat} (hm : w2.ownsMap Try.prog 9 RF m n (mapD L2))
    (hk : ∀ b, S b → b ≠ p → b ≠ m → w2.heap[b]? = w.heap[b]?) (hsz : w.heap.size ≤ w2.heap.size) (hF : d2.F = gmap Ent.fi L2) (hS : Srt L2)
    (hsub : ∀ x ∈ L2, okNm x.1 = true ∧ ((∃ y ∈ L, y.2.v = x.2.v ∧ y.2.b = x.2.b) ∨ (w.ownsRow 0 5 1 x.2.v x.2.b.length (x.2.b.map u8) ∧ (∀ y ∈ x.2.b, y < 256) ∧ ∀ b, x.2.v.ownBlock = some b → S b ∧ b ≠ p ∧ b ≠ m)))
    (hap : L2.Pairwise fun x y => x.2.v.ownBlock = none ∨ x.2.v.ownBlock ≠ y.2.v.ownBlock)
    (hu : usedOf d2.F ≤ d2.size) (hz : d2.size = d.size) : DrC w2 S p m fu2 d2 L2 where
  c := hc
  mp := ownsMap_exact hm
  fs := hF
  ow x hx := by
    rcases (hsub x hx).2 with ⟨y, hy, e1, e2⟩ | ⟨ho, _, hb⟩
    · rw [← e1, ← e2]; exact ownsRow_keep (h.ow y hy) fun b hb => hk b (h.sf y hy b hb) (h.file_ne hy hb).1 (h.file_ne hy hb).2
    · exact ownsRow_keep ho fun b hb' => hk b (hb b hb').1 (hb b hb').2.1 (hb b hb').2.2
  ap := hap
  by8 x hx y hy := by
    rcases (hsub x hx).2 with ⟨z, hz, _, e2⟩ | ⟨_, h8, _⟩
    · rw [← e2] at hy; exact h.by8 z hz y hy
    · exact h8 y hy
  so := hS
  nm x hx := (hsub x hx).1
  sp := h.sp
  sm := h.sm
  sf x hx b hb := by
    rcases (hsub x hx).2 with ⟨y, hy, e1, _⟩ | ⟨_, _, h2⟩
    · rw [← e1] at hb; exact h.sf y hy b hb
    · exact (h2 b hb).1
  lt b hb := Nat.lt_of_lt_of_le (h.lt b hb) hsz
  us := hu
  sz := by rw [hz]; exact h.sz
theorem DrC.entry (h : DrC w S p m fu d L) (s : Nm) : ∃ po c l, fileOf ((gget L s).getD zeroE) = .agg #[.slice po (lenAt d.F s) c, .bool l] := by
  have e : lenAt d.F s = ((gget L s).getD zeroE).b.length := by
    unfold lenAt; rw [h.fs, gget_map]; cases gget L s <;> rfl
  rw [e]
  cases hg : gget L s with
  | none => exact ⟨none, 0, false, rfl⟩
  | some x =>
    obtain ⟨po, cc, hv⟩ := own_form (h.ow (s, x) (gget_mem hg))
    exact ⟨po, cc, x.l, by simp [fileOf]; exact hv⟩
theorem DrC.srtF (h : DrC w S p m fu d L) : Srt d.F := by rw [h.fs]; exact h.so.map _
theorem pw_sub {α : Type} {r : α → α → Prop} {L M : List α} (h : L.Pairwise r) (hs : M.Sublist L) : M.Pairwise r := h.sublist hs
end
theorem turned_size {w w' : World} {b : Nat} (h : w.mapTurned w' b) : w'.heap.size = w.heap.size := by
  obtain ⟨es, clock, es', clock', _, rfl⟩ := h; simp [ChangeMaps.setBlock]
def TakeAt (w : World) (S : Nat → Prop) (p m : Nat) (fu : Option Nat) (d : Pd) (L : List (Nm × Ent)) (s : Nm) (e : Ending) (w' : World) : Prop :=
  e = .returned (.tuple #[]) ∧ DrC w' S p m fu { d with F := gdel d.F s } (gdel L s) ∧ Only (fun b => b = p ∨ b = m) w w' ∧ w'.heap.size = w.heap.size
theorem drewN_own {w : World} {m n k : Nat} {D : DataW HD} (h : w.ownsMap Try.prog 9 RF m n D) : (w.drewN k).ownsMap Try.prog 9 RF m n D := h
theorem run_field0 (v : Value) (l : Bool) (w : World) : (Instr.field 78 (.agg #[v, .bool l]) 0).run Try.prog w = .ok v w := by
  have hu := Try.underlying78
  have hg : (isAgg 33).run Try.prog w = .ok false w := by kernel_rfl
  simp [Instr.field, run_underlying hu, asAgg, part, hg, Result.andThen]
theorem DrC.drewN {w : World} {S : Nat → Prop} {p m : Nat} {fu : Option Nat} {d : Pd} {L : List (Nm × Ent)} (h : DrC w S p m fu d L) (n : Nat) : DrC (w.drewN n) S p m fu d L := h.keep (Nat.le_refl _) fun _ _ => rfl
theorem Only.drewN (S : Nat → Prop) (w : World) (n : Nat) : Only S w (w.drewN n) := ⟨rfl, rfl, rfl, Nat.le_refl _, fun _ _ _ => rfl⟩
theorem FuAt.drewN {w : World} {S : Nat → Prop} {fu : Option Nat} {f : Fs} (h : FuAt w S fu f) (n : Nat) : FuAt (w.drewN n) S fu f := h.keep fun _ _ => rfl
set_option maxRecDepth 100000 in
theorem take_any {w : World} {S : Nat → Prop} {p m : Nat} {fu : Option Nat} {d : Pd} {L : List (Nm × Ent)} (h : DrC w S p m fu d L) (s : Nm) (hs : s.length ≤ maxLen) :
    Calls Try.prog 69 #[ptr p, sv s] w (TakeAt w S p m fu d L s) := by
  have H := hid h
  have c2 : w.cell? ⟨p, 2, none⟩ = some (.map (some m)) := h.c.cell 2
  have c3 : w.cell? ⟨p, 3, none⟩ = some (.int .i64 (usedOf d.F : Int)) := h.c.cell 3
  have z3 : w.frozen? ⟨p, 3, none⟩ = false := h.c.free 3
  obtain ⟨po, c, l, hent⟩ := h.entry s
  have hd := used_del h.srtF s
  have hus := h.us
  have hsz := h.sz
  have hlk : ∀ n, (Instr.lookup 48 (.map (some m)) (sv s) false).run Try.prog (w.drewN n) = .ok (.agg #[.slice po (lenAt d.F s) c, .bool l]) (w.drewN n) := fun n => by
    rw [look_len (drewN_own h.mp) s hs, hent]
  have hfd := run_field0 (.slice po (lenAt d.F s) c) l
  have hsub : (usedOf d.F : Int) - (lenAt d.F s : Int) = (usedOf (gdel d.F s) : Int) := by omega
  have HS := hid hsub
  generalize hA : usedOf d.F = A at *
  generalize hB : lenAt d.F s = B at *
  generalize hC : usedOf (gdel d.F s) = C at *
  have HABC := hid (And.intro hA (And.intro hB hC))
  clear hA hB hC h hent hsub
  have hd' := hd.symm
  subst hd'
  go_enter Try.func69, Try.ntmps69
  go_wp2
  refine wp_region_tail 15 (by kernel_rfl) rfl (by kernel_rfl) ?_
  dsimp only [List.take]
  repeat (go_big_quiet_step (fail))
  refine wpQuiet_nil ?_
  intro nr
  have H1 := hid (H.out.drewN nr)
  have HO := hid (Only.drewN (fun b => b = p ∨ b = m) w nr)
  have HZ : Hid ((w.drewN nr).heap.size = w.heap.size) := hid rfl
  clear hlk c2 c3 z3
  generalize w.drewN nr = w1 at *
  have c2 : w1.cell? ⟨p, 2, none⟩ = some (.map (some m)) := H1.out.c.cell 2
  have c3 : w1.cell? ⟨p, 3, none⟩ = some (.int .i64 (usedOf d.F : Int)) := H1.out.c.cell 3
  have z3 : w1.frozen? ⟨p, 3, none⟩ = false := H1.out.c.free 3
  have hm1 := hid (H1.out.mp.setCell (a := ⟨p, 3, none⟩) (Ne.symm H1.out.pm) (.int .i64 (C : Int)))
  have hc1 := hid (H1.out.c.set 3 (.int .i64 (C : Int)))
  go_wp2_with (first
    | (at_delete; refine wpList_delete_own _ rfl _ _ 48 9 rfl 78 strLaw underM _ m _ _ rfl hm1.out _ _ rfl (keyS s hs) ?_; intro w2 hown2 hturn2))
  go_end0
  have hu : usedOf ({ d with F := gdel d.F s } : Pd).F = C := HABC.out.2.2
  have hsz1 : (w1.setCell ⟨p, 3, none⟩ (.int .i64 (C : Int))).heap.size = w1.heap.size := setCell_size _ _ _
  have hk : ∀ b, b < w1.heap.size → b ≠ p → b ≠ m → w2.heap[b]? = w1.heap[b]? := fun b hb h1 h2 =>
    (hturn2.grown.block b (by rw [hsz1]; exact hb) (fun e => h2 (by cases e; rfl))).trans (heap_setCell_ne _ _ _ _ h1)
  have hp2 : w2.heap[p]? = (w1.setCell ⟨p, 3, none⟩ (.int .i64 (C : Int))).heap[p]? := hturn2.grown.block p (by rw [hsz1]; exact H1.out.c.lt) (fun e => H1.out.pm (by cases e; rfl))
  refine ⟨rfl, ?_, ?_, ?_⟩
  · refine H1.out.turned (d2 := { d with F := gdel d.F s }) ?_ (by rw [mapD_del] at hown2; exact hown2) (fun b hb h1 h2 => hk b (H1.out.lt b hb) h1 h2) ?_ ?_ (H1.out.so.del s) (fun x hx => ?_) ?_ ?_ rfl
    · rw [hu]; exact hc1.out.keep hp2
    · rw [turned_size hturn2, hsz1]; exact Nat.le_refl _
    · show gdel d.F s = _; rw [H1.out.fs, gdel_map]
    · exact ⟨H1.out.nm x (mem_del.1 hx).1, Or.inl ⟨x, (mem_del.1 hx).1, rfl, rfl⟩⟩
    · exact H1.out.ap.filter _
    · rw [hu]; show C ≤ d.size; omega
  · refine (HO.out.then (Only.set (S := fun b => b = p ∨ b = m) w1 ⟨p, 3, none⟩ _ (Or.inl rfl)) (fun _ _ h => h)).then (Only.of_grown hturn2.grown (fun k e _ => Or.inr (by cases e; rfl))) (fun _ _ h => h)
  · rw [turned_size hturn2, hsz1, HZ.out]
#print axioms take_any
end Go.Proofs.Ytfppmpfmafnfmaa
