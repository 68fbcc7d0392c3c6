/- Drives as mathematics: names, files by rising names, and what each call makes of them. -/
import Derived.Test.YtfppmpfmafnfmaaRows
import Derived.Maps.RangeWalk
namespace Go.Proofs.Ytfppmpfmafnfmaa
open Go

abbrev Nm := List UInt8
def okNm (s : Nm) : Bool := decide (1 ≤ s.length) && (decide (s.length ≤ 512) && s.all fun c => decide (33 ≤ c.toNat) && decide (c.toNat ≤ 126))

section
variable {α β : Type}
def gget (L : List (Nm × α)) (s : Nm) : Option α := (L.find? fun p => p.1 == s).map (·.2)
def gdel (L : List (Nm × α)) (s : Nm) : List (Nm × α) := L.filter fun p => !(p.1 == s)
def gins (x : Nm × α) : List (Nm × α) → List (Nm × α)
  | [] => [x]
  | y :: r => if bytesBefore x.1 y.1 then x :: y :: r else y :: gins x r
def gput (L : List (Nm × α)) (s : Nm) (a : α) : List (Nm × α) := gins (s, a) (gdel L s)
def Srt (L : List (Nm × α)) : Prop := L.Pairwise fun p q => bytesBefore p.1 q.1 = true
def gmap (f : α → β) (L : List (Nm × α)) : List (Nm × β) := L.map fun p => (p.1, f p.2)

theorem bb_irrefl (a : Nm) : bytesBefore a a = false := by
  have := WideShapes.before_irrefl (.string a); simpa [Lit.before] using this
theorem bb_trans {a b c : Nm} (h1 : bytesBefore a b = true) (h2 : bytesBefore b c = true) : bytesBefore a c = true := by
  have := WideShapes.before_trans (a := .string a) (b := .string b) (c := .string c) (by simpa [Lit.before] using h1) (by simpa [Lit.before] using h2)
  simpa [Lit.before] using this
theorem bb_total {a b : Nm} (h : a ≠ b) : bytesBefore a b = true ∨ bytesBefore b a = true := by
  have := ChangeMaps.before_total (a := .string a) (b := .string b) ⟨a, rfl⟩ ⟨b, rfl⟩ (fun e => h (by cases e; rfl))
  simpa [Lit.before] using this
theorem bb_ne {a b : Nm} (h : bytesBefore a b = true) : a ≠ b := fun e => by subst e; rw [bb_irrefl] at h; cases h
theorem bb_lt : ∀ (a b : Nm), bytesBefore a b = true ↔ a < b
  | [], [] => by simp [bytesBefore]
  | [], _ :: _ => by simp [bytesBefore]
  | _ :: _, [] => by simp [bytesBefore]
  | x :: r, y :: s => by
    have ih := bb_lt r s
    rw [List.cons_lt_cons_iff, ← ih]
    simp [bytesBefore]

theorem gget_map (f : α → β) (L : List (Nm × α)) (s : Nm) : gget (gmap f L) s = (gget L s).map f := by
  unfold gget gmap
  rw [List.find?_map]
  simp [Function.comp_def]
theorem gdel_map (f : α → β) (L : List (Nm × α)) (s : Nm) : gdel (gmap f L) s = gmap f (gdel L s) := by
  unfold gdel gmap; rw [List.filter_map]; rfl
theorem gins_map (f : α → β) (x : Nm × α) : ∀ L : List (Nm × α), gins (x.1, f x.2) (gmap f L) = gmap f (gins x L)
  | [] => rfl
  | y :: r => by
    have ih := gins_map f x r
    simp only [gmap, List.map_cons, gins] at ih ⊢
    split
    · rfl
    · rw [List.map_cons, ← ih]
theorem gput_map (f : α → β) (L : List (Nm × α)) (s : Nm) (a : α) : gput (gmap f L) s (f a) = gmap f (gput L s a) := by
  unfold gput; rw [gdel_map]; exact gins_map f (s, a) _
theorem gins_perm (x : Nm × α) : ∀ L : List (Nm × α), (gins x L).Perm (x :: L)
  | [] => List.Perm.refl _
  | y :: r => by
    unfold gins; split
    · exact List.Perm.refl _
    · exact ((gins_perm x r).cons y).trans (List.Perm.swap x y r)
theorem mem_del {L : List (Nm × α)} {s : Nm} {p : Nm × α} : p ∈ gdel L s ↔ p ∈ L ∧ p.1 ≠ s := by simp [gdel]
theorem mem_put {L : List (Nm × α)} {s : Nm} {a : α} {p : Nm × α} : p ∈ gput L s a ↔ p = (s, a) ∨ (p ∈ L ∧ p.1 ≠ s) := by
  unfold gput; rw [(gins_perm _ _).mem_iff, List.mem_cons, mem_del]
theorem Srt.del {L : List (Nm × α)} (h : Srt L) (s : Nm) : Srt (gdel L s) := List.Pairwise.filter _ h
theorem srt_ins {x : Nm × α} : ∀ {L : List (Nm × α)}, Srt L → (∀ p ∈ L, p.1 ≠ x.1) → Srt (gins x L)
  | [], _, _ => by simp [gins, Srt]
  | y :: r, h, hne => by
    obtain ⟨h1, h2⟩ := List.pairwise_cons.1 h
    unfold gins; split
    · rename_i hb
      refine List.pairwise_cons.2 ⟨fun q hq => ?_, h⟩
      rcases List.mem_cons.1 hq with rfl | hq
      · exact hb
      · exact bb_trans hb (h1 q hq)
    · rename_i hb
      have hyx : bytesBefore y.1 x.1 = true := by
        rcases bb_total (hne y (by simp)) with h' | h'
        · exact h'
        · exact absurd h' hb
      refine List.pairwise_cons.2 ⟨fun q hq => ?_, srt_ins h2 (fun p hp => hne p (by simp [hp]))⟩
      rcases List.mem_cons.1 ((gins_perm x r).mem_iff.1 hq) with rfl | hq
      · exact hyx
      · exact h1 q hq
theorem Srt.put {L : List (Nm × α)} (h : Srt L) (s : Nm) (a : α) : Srt (gput L s a) := srt_ins (h.del s) fun _ hp => (mem_del.1 hp).2
theorem Srt.map {L : List (Nm × α)} (h : Srt L) (f : α → β) : Srt (gmap f L) := List.pairwise_map.2 h
theorem srt_map {L : List (Nm × α)} {f : α → β} (h : Srt (gmap f L)) : Srt L := List.pairwise_map.1 h
theorem Srt.apart {L : List (Nm × α)} (h : Srt L) : L.Pairwise fun p q => p.1 ≠ q.1 := List.Pairwise.imp (fun h => bb_ne h) h
theorem gget_none {L : List (Nm × α)} {s : Nm} : gget L s = none ↔ ∀ p ∈ L, p.1 ≠ s := by
  unfold gget; rw [Option.map_eq_none_iff, List.find?_eq_none]; simp
theorem gget_mem {L : List (Nm × α)} {s : Nm} {a : α} (h : gget L s = some a) : (s, a) ∈ L := by
  unfold gget at h
  obtain ⟨p, hp, rfl⟩ := Option.map_eq_some_iff.1 h
  have h1 := List.find?_some hp
  have h2 := List.mem_of_find?_eq_some hp
  simp at h1; rw [← h1]; exact h2
theorem pw_key {L : List (Nm × α)} (h : L.Pairwise fun p q => p.1 ≠ q.1) {p q : Nm × α} (hp : p ∈ L) (hq : q ∈ L) (e : p.1 = q.1) : p = q := by
  induction L with
  | nil => simp at hp
  | cons x r ih =>
    obtain ⟨h1, h2⟩ := List.pairwise_cons.1 h
    rcases List.mem_cons.1 hp with rfl | hp' <;> rcases List.mem_cons.1 hq with rfl | hq'
    · rfl
    · exact absurd e (h1 q hq')
    · exact absurd e.symm (h1 p hp')
    · exact ih h2 hp' hq'
theorem gget_of_mem {L : List (Nm × α)} (h : Srt L) {s : Nm} {a : α} (hm : (s, a) ∈ L) : gget L s = some a := by
  cases hg : gget L s with
  | none => exact absurd rfl (gget_none.1 hg _ hm)
  | some b => have := pw_key h.apart hm (gget_mem hg) rfl; cases this; rfl
theorem gget_iff {L : List (Nm × α)} (h : Srt L) {s : Nm} {a : α} : gget L s = some a ↔ (s, a) ∈ L := ⟨gget_mem, gget_of_mem h⟩
theorem gget_del {L : List (Nm × α)} (h : Srt L) (s t : Nm) : gget (gdel L s) t = if t = s then none else gget L t := by
  by_cases e : t = s
  · rw [if_pos e]; exact gget_none.2 fun p hp => by rw [e]; exact (mem_del.1 hp).2
  · rw [if_neg e]
    refine Option.ext fun a => ?_
    rw [gget_iff (h.del s), gget_iff h, mem_del]; simp [e]
theorem gget_put {L : List (Nm × α)} (h : Srt L) (s t : Nm) (a : α) : gget (gput L s a) t = if t = s then some a else gget L t := by
  refine Option.ext fun b => ?_
  rw [gget_iff (h.put s a), mem_put]
  by_cases e : t = s
  · rw [if_pos e]; subst e; simp [eq_comm]
  · rw [if_neg e, gget_iff h]; simp [e]
theorem len_del (L : List (Nm × α)) (s : Nm) : (gdel L s).length ≤ L.length := List.length_filter_le _ _
theorem len_put (L : List (Nm × α)) (s : Nm) (a : α) : (gput L s a).length = (gdel L s).length + 1 := by
  unfold gput; rw [(gins_perm _ _).length_eq]; rfl
theorem len_map (f : α → β) (L : List (Nm × α)) : (gmap f L).length = L.length := by simp [gmap]
theorem srt_ext {L M : List (Nm × α)} (hL : Srt L) (hM : Srt M) (h : ∀ s, gget L s = gget M s) : L = M := by
  have nd : ∀ (K : List (Nm × α)), Srt K → K.Nodup := fun K hK => by
    refine List.Pairwise.imp (R := fun (p q : Nm × α) => bytesBefore p.1 q.1 = true) (fun {a b} h e => ?_) hK
    exact bb_ne h (congrArg Prod.fst e)
  refine List.Perm.eq_of_pairwise (le := fun (p q : Nm × α) => bytesBefore p.1 q.1 = true) (fun a b _ _ h1 h2 => ?_) hL hM ((List.perm_ext_iff_of_nodup (nd L hL) (nd M hM)).2 fun p => ?_)
  · have := bb_trans h1 h2; rw [bb_irrefl] at this; cases this
  · rw [← gget_iff (s := p.1) (a := p.2) hL, ← gget_iff (s := p.1) (a := p.2) hM, h]
end

/-- A file: its bytes, and whether it is loose. -/
abbrev Fi := List Nat × Bool
def usedOf (L : List (Nm × Fi)) : Nat := (L.map fun p => p.2.1.length).sum
def lenAt (L : List (Nm × Fi)) (s : Nm) : Nat := match gget L s with | some x => x.1.length | none => 0
theorem used_perm {L M : List (Nm × Fi)} (h : L.Perm M) : usedOf L = usedOf M := (h.map _).sum_nat
theorem used_put (L : List (Nm × Fi)) (s : Nm) (a : Fi) : usedOf (gput L s a) = usedOf (gdel L s) + a.1.length := by
  unfold gput; rw [used_perm (gins_perm _ _)]; simp [usedOf]; omega
theorem used_del {L : List (Nm × Fi)} (h : Srt L) (s : Nm) : usedOf (gdel L s) + lenAt L s = usedOf L := by
  induction L with
  | nil => rfl
  | cons x r ih =>
    obtain ⟨h1, h2⟩ := List.pairwise_cons.1 h
    have ih := ih h2
    by_cases e : x.1 = s
    · have hr : gdel r s = r := by
        unfold gdel; rw [List.filter_eq_self]; intro p hp
        have := bb_ne (h1 p hp); rw [e] at this; simp [Ne.symm this]
      have h3 : gdel (x :: r) s = r := by
        have : gdel (x :: r) s = gdel r s := by unfold gdel; rw [List.filter_cons, if_neg (by simp [e])]
        rw [this, hr]
      have h4 : gget (x :: r) s = some x.2 := gget_of_mem h (by rw [← e]; simp)
      unfold lenAt; rw [h3, h4]; simp [usedOf]; omega
    · have h3 : gdel (x :: r) s = x :: gdel r s := by unfold gdel; rw [List.filter_cons, if_pos (by simp [e])]
      have h4 : gget (x :: r) s = gget r s := by unfold gget; rw [List.find?_cons_of_neg (by simp [e])]
      unfold lenAt at ih ⊢; rw [h3, h4]; simp only [usedOf, List.map_cons, List.sum_cons] at ih ⊢; omega
theorem used_le {L : List (Nm × Fi)} {s : Nm} {x : Fi} (h : Srt L) (hg : gget L s = some x) : x.1.length ≤ usedOf L := by
  have := used_del h s; unfold lenAt at this; rw [hg] at this; simp at this; omega
theorem lenAt_le {L : List (Nm × Fi)} (h : Srt L) (s : Nm) : lenAt L s ≤ usedOf L := by have := used_del h s; omega

structure Pd where
  size : Nat
  ops : Nat
  offl : Bool
  full : Bool
  out : Bool
  F : List (Nm × Fi)
/-- How many changes a fuse lets by still, and whether it is gone; none: there is no fuse. -/
abbrev Fs := Option (Nat × Bool)
def goneF : Fs → Bool | some (_, g) => g | none => false
def Pd.isOut (d : Pd) (f : Fs) : Bool := d.out || goneF f
def Pd.ans (d : Pd) (f : Fs) (ns : List Nm) : Nat := if d.isOut f then 11 else if d.offl then 12 else if ns.all okNm then 0 else 13
def burn : Fs → Fs | none => none | some (0, _) => some (0, true) | some (n + 1, g) => some (n, g)
def letsF : Fs → Bool | some (0, _) => false | _ => true
def Pd.chg (d : Pd) (f : Fs) (F : List (Nm × Fi)) : Nat × Pd × Fs := if letsF f then (0, { d with F := F, ops := d.ops + 1 }, burn f) else (11, d, burn f)
def Pd.write (d : Pd) (f : Fs) (s : Nm) (b : List Nat) : Nat × Pd × Fs :=
  if d.ans f [s] ≠ 0 then (d.ans f [s], d, f)
  else if d.full || decide (d.size < usedOf (gdel d.F s) + b.length) then (8, d, f)
  else d.chg f (gput d.F s (b, true))
def Pd.sync (d : Pd) (f : Fs) (s : Nm) : Nat × Pd × Fs :=
  if d.ans f [s] ≠ 0 then (d.ans f [s], d, f) else match gget d.F s with | none => (6, d, f) | some x => d.chg f (gput d.F s (x.1, false))
def Pd.rename (d : Pd) (f : Fs) (s t : Nm) : Nat × Pd × Fs :=
  if d.ans f [s, t] ≠ 0 then (d.ans f [s, t], d, f) else match gget d.F s with | none => (6, d, f) | some x => d.chg f (gput (gdel d.F s) t x)
def Pd.delete (d : Pd) (f : Fs) (s : Nm) : Nat × Pd × Fs :=
  if d.ans f [s] ≠ 0 then (d.ans f [s], d, f) else match gget d.F s with | none => (6, d, f) | some _ => d.chg f (gdel d.F s)
def Pd.readE (d : Pd) (f : Fs) (s : Nm) : Nat := if d.ans f [s] ≠ 0 then d.ans f [s] else match gget d.F s with | none => 6 | some _ => 0
def Pd.readB (d : Pd) (f : Fs) (s : Nm) : List Nat := if d.ans f [s] ≠ 0 then [] else match gget d.F s with | none => [] | some x => x.1
def namesOf (F : List (Nm × Fi)) (q : Nm → Fi → Bool) : List Nm := (F.filter fun p => q p.1 p.2).map (·.1)
def Pd.loose (d : Pd) : List Nm := namesOf d.F fun _ x => x.2
#print axioms used_del
#print axioms srt_ext
end Go.Proofs.Ytfppmpfmafnfmaa
