/- Contract of take of package drive: a file is let go of. -/
import Derived.Test.YtfppmpfmafnfmaaDe
import Derived.Test.YtfppmpfmafnfmaaDq
namespace Go.Proofs.Ytfppmpfmafnfmaa
open Go Go.RowKit

section
variable {w : World} {S : Nat → Prop} {p m : Nat} {fu : Option Nat} {d : Pd} {L : List (Nm × Ent)}
theorem ownsMap_at {w : World} {P : Program} {k : TypeId} {m n : Nat} {D : DataW HD} (h : w.ownsMap P k RF m n D) : ∃ es clock, w.heap[m]? = some (.map es clock) := by
  obtain ⟨es, clock, hb, _⟩ := h; exact ⟨es, clock, hb⟩
theorem DrC.pm (h : DrC w S p m fu d L) : p ≠ m := by
  obtain ⟨es, clock, hm⟩ := ownsMap_at h.mp
  intro e; have hc : w.heap[p]? = _ := h.c; rw [e, hm] at hc; cases hc
theorem DrC.file_at (h : DrC w S p m fu d L) {x : Nm × Ent} (hx : x ∈ L) {b : Nat} (hb : x.2.v.ownBlock = some b) : ∃ cur, w.heap[b]? = some (.cells cur 5) := by
  rcases (h.ow x hx).2 with ⟨e, _⟩ | ⟨g, cap, cur, e, _, hg, _⟩
  · rw [e] at hb; simp [Value.ownBlock] at hb
  · rw [e] at hb; simp [Value.ownBlock] at hb; subst hb; exact ⟨cur, hg⟩
theorem DrC.file_ne (h : DrC w S p m fu d L) {x : Nm × Ent} (hx : x ∈ L) {b : Nat} (hb : x.2.v.ownBlock = some b) : b ≠ p ∧ b ≠ m := by
  obtain ⟨cur, hc⟩ := h.file_at hx hb
  obtain ⟨es, clock, hm⟩ := ownsMap_at h.mp
  refine ⟨fun e => ?_, fun e => ?_⟩
  · have h1 : w.heap[p]? = _ := h.c
    rw [e, h1] at hc
    have ht := (Obj.cells.inj (Option.some.inj hc)).2.1
    revert ht; decide
  · rw [e, hm] at hc; cases hc
/-- Another state of the drive, its files being among those that were there and one that is new. -/
theorem DrC.turned (h : DrC w S p m fu d L) {w2 : World} {d2 : Pd} {L2 : List (Nm × Ent)} {fu2 : Option Nat} (hc : CAt w2 p (dcells p m fu2 d2 (usedOf d2.F : Int)) 51) {n : Nat} (hm : w2.ownsMap Try.prog 9 RF m n (mapD L2))
    (hk : ∀ b, S b → b ≠ p → b ≠ m → w2.heap[b]? = w.heap[b]?) (hsz : w.heap.size ≤ w2.heap.size) (hF : d2.F = gmap Ent.fi L2) (hS : Srt L2)
    (hsub : ∀ x ∈ L2, okNm x.1 = true ∧ ((∃ y ∈ L, y.2.v = x.2.v ∧ y.2.b = x.2.b) ∨ (w.ownsRow 0 5 1 x.2.v x.2.b.length (x.2.b.map u8) ∧ (∀ y ∈ x.2.b, y < 256) ∧ ∀ b, x.2.v.ownBlock = some b → S b ∧ b ≠ p ∧ b ≠ m)))
    (hap : L2.Pairwise fun x y => x.2.v.ownBlock = none ∨ x.2.v.ownBlock ≠ y.2.v.ownBlock)
    (hu : usedOf d2.F ≤ d2.size) (hz : d2.size = d.size) : DrC w2 S p m fu2 d2 L2 where
  c := hc
  mp := ownsMap_exact hm
  fs := hF
  ow x hx := by
    rcases (hsub x hx).2 with ⟨y, hy, e1, e2⟩ | ⟨ho, _, hb⟩
    · rw [← e1, ← e2]; exact ownsRow_keep (h.ow y hy) fun b hb => hk b (h.sf y hy b hb) (h.file_ne hy hb).1 (h.file_ne hy hb).2
    · exact ownsRow_keep ho fun b hb' => hk b (hb b hb').1 (hb b hb').2.1 (hb b hb').2.2
  ap := hap
  by8 x hx y hy := by
    rcases (hsub x hx).2 with ⟨z, hz, _, e2⟩ | ⟨_, h8, _⟩
    · rw [← e2] at hy; exact h.by8 z hz y hy
    · exact h8 y hy
  so := hS
  nm x hx := (hsub x hx).1
  sp := h.sp
  sm := h.sm
  sf x hx b hb := by
    rcases (hsub x hx).2 with ⟨y, hy, e1, _⟩ | ⟨_, _, h2⟩
    · rw [← e1] at hb; exact h.sf y hy b hb
    · exact (h2 b hb).1
  lt b hb := Nat.lt_of_lt_of_le (h.lt b hb) hsz
  us := hu
  sz := by rw [hz]; exact h.sz
theorem DrC.entry (h : DrC w S p m fu d L) (s : Nm) : ∃ po c l, fileOf ((gget L s).getD zeroE) = .agg #[.slice po (lenAt d.F s) c, .bool l] := by
  have e : lenAt d.F s = ((gget L s).getD zeroE).b.length := by
    unfold lenAt; rw [h.fs, gget_map]; cases gget L s <;> rfl
  rw [e]
  cases hg : gget L s with
  | none => exact ⟨none, 0, false, rfl⟩
  | some x =>
    obtain ⟨po, cc, hv⟩ := own_form (h.ow (s, x) (gget_mem hg))
    exact ⟨po, cc, x.l, by simp [fileOf]; exact hv⟩
theorem DrC.srtF (h : DrC w S p m fu d L) : Srt d.F := by rw [h.fs]; exact h.so.map _
theorem pw_sub {α : Type} {r : α → α → Prop} {L M : List α} (h : L.Pairwise r) (hs : M.Sublist L) : M.Pairwise r := h.sublist hs
end
theorem turned_size {w w' : World} {b : Nat} (h : w.mapTurned w' b) : w'.heap.size = w.heap.size := by
  obtain ⟨es, clock, es', clock', _, rfl⟩ := h; simp [ChangeMaps.setBlock]
def TakeAt (w : World) (S : Nat → Prop) (p m : Nat) (fu : Option Nat) (d : Pd) (L : List (Nm × Ent)) (s : Nm) (e : Ending) (w' : World) : Prop :=
  e = .returned (.tuple #[]) ∧ DrC w' S p m fu { d with F := gdel d.F s } (gdel L s) ∧ Only (fun b => b = p ∨ b = m) w w' ∧ w'.heap.size = w.heap.size
theorem drewN_own {w : World} {m n k : Nat} {D : DataW HD} (h : w.ownsMap Try.prog 9 RF m n D) : (w.drewN k).ownsMap Try.prog 9 RF m n D := h
theorem run_field0 (v : Value) (l : Bool) (w : World) : (Instr.field 78 (.agg #[v, .bool l]) 0).run Try.prog w = .ok v w := by
  have hu := Try.underlying78
  have hg : (isAgg 33).run Try.prog w = .ok false w := by kernel_rfl
  simp [Instr.field, run_underlying hu, asAgg, part, hg, Result.andThen]
theorem DrC.drewN {w : World} {S : Nat → Prop} {p m : Nat} {fu : Option Nat} {d : Pd} {L : List (Nm × Ent)} (h : DrC w S p m fu d L) (n : Nat) : DrC (w.drewN n) S p m fu d L := h.keep (Nat.le_refl _) fun _ _ => rfl
theorem Only.drewN (S : Nat → Prop) (w : World) (n : Nat) : Only S w (w.drewN n) := ⟨rfl, rfl, rfl, Nat.le_refl _, fun _ _ _ => rfl⟩
theorem FuAt.drewN {w : World} {S : Nat → Prop} {fu : Option Nat} {f : Fs} (h : FuAt w S fu f) (n : Nat) : FuAt (w.drewN n) S fu f := h.keep fun _ _ => rfl
set_option maxRecDepth 100000 in
theorem take_any {w : World} {S : Nat → Prop} {p m : Nat} {fu : Option Nat} {d : Pd} {L : List (Nm × Ent)} (h : DrC w S p m fu d L) (s : Nm) (hs : s.length ≤ maxLen) :
    Calls Try.prog 69 #[ptr p, sv s] w (TakeAt w S p m fu d L s) := by
  have H := hid h
  have c2 : w.cell? ⟨p, 2, none⟩ = some (.map (some m)) := h.c.cell 2
  have c3 : w.cell? ⟨p, 3, none⟩ = some (.int .i64 (usedOf d.F : Int)) := h.c.cell 3
  have z3 : w.frozen? ⟨p, 3, none⟩ = false := h.c.free 3
  obtain ⟨po, c, l, hent⟩ := h.entry s
  have hd := used_del h.srtF s
  have hus := h.us
  have hsz := h.sz
  have hlk : ∀ n, (Instr.lookup 48 (.map (some m)) (sv s) false).run Try.prog (w.drewN n) = .ok (.agg #[.slice po (lenAt d.F s) c, .bool l]) (w.drewN n) := fun n => by
    rw [look_len (drewN_own h.mp) s hs, hent]
  have hfd := run_field0 (.slice po (lenAt d.F s) c) l
  have hsub : (usedOf d.F : Int) - (lenAt d.F s : Int) = (usedOf (gdel d.F s) : Int) := by omega
  have HS := hid hsub
  generalize hA : usedOf d.F = A at *
  generalize hB : lenAt d.F s = B at *
  generalize hC : usedOf (gdel d.F s) = C at *
  have HABC := hid (And.intro hA (And.intro hB hC))
  clear hA hB hC h hent hsub
  have hd' := hd.symm
  subst hd'
  go_enter Try.func69, Try.ntmps69
  go_wp2
  refine wp_region_tail 15 (by kernel_rfl) rfl (by kernel_rfl) ?_
  dsimp only [List.take]
  repeat (go_big_quiet_step (fail))
  refine wpQuiet_nil ?_
  intro nr
  have H1 := hid (H.out.drewN nr)
  have HO := hid (Only.drewN (fun b => b = p ∨ b = m) w nr)
  have HZ : Hid ((w.drewN nr).heap.size = w.heap.size) := hid rfl
  clear hlk c2 c3 z3
  generalize w.drewN nr = w1 at *
  have c2 : w1.cell? ⟨p, 2, none⟩ = some (.map (some m)) := H1.out.c.cell 2
  have c3 : w1.cell? ⟨p, 3, none⟩ = some (.int .i64 (usedOf d.F : Int)) := H1.out.c.cell 3
  have z3 : w1.frozen? ⟨p, 3, none⟩ = false := H1.out.c.free 3
  have hm1 := hid (H1.out.mp.setCell (a := ⟨p, 3, none⟩) (Ne.symm H1.out.pm) (.int .i64 (C : Int)))
  have hc1 := hid (H1.out.c.set 3 (.int .i64 (C : Int)))
  go_wp2_with (first
    | (at_delete; refine wpList_delete_own _ rfl _ _ 48 9 rfl 78 strLaw underM _ m _ _ rfl hm1.out _ _ rfl (keyS s hs) ?_; intro w2 hown2 hturn2))
  go_end0
  have hu : usedOf ({ d with F := gdel d.F s } : Pd).F = C := HABC.out.2.2
  have hsz1 : (w1.setCell ⟨p, 3, none⟩ (.int .i64 (C : Int))).heap.size = w1.heap.size := setCell_size _ _ _
  have hk : ∀ b, b < w1.heap.size → b ≠ p → b ≠ m → w2.heap[b]? = w1.heap[b]? := fun b hb h1 h2 =>
    (hturn2.grown.block b (by rw [hsz1]; exact hb) (fun e => h2 (by cases e; rfl))).trans (heap_setCell_ne _ _ _ _ h1)
  have hp2 : w2.heap[p]? = (w1.setCell ⟨p, 3, none⟩ (.int .i64 (C : Int))).heap[p]? := hturn2.grown.block p (by rw [hsz1]; exact H1.out.c.lt) (fun e => H1.out.pm (by cases e; rfl))
  refine ⟨rfl, ?_, ?_, ?_⟩
  · refine H1.out.turned (d2 := { d with F := gdel d.F s }) ?_ (by rw [mapD_del] at hown2; exact hown2) (fun b hb h1 h2 => hk b (H1.out.lt b hb) h1 h2) ?_ ?_ (H1.out.so.del s) (fun x hx => ?_) ?_ ?_ rfl
    · rw [hu]; exact hc1.out.keep hp2
    · rw [turned_size hturn2, hsz1]; exact Nat.le_refl _
    · show gdel d.F s = _; rw [H1.out.fs, gdel_map]
    · exact ⟨H1.out.nm x (mem_del.1 hx).1, Or.inl ⟨x, (mem_del.1 hx).1, rfl, rfl⟩⟩
    · exact H1.out.ap.filter _
    · rw [hu]; show C ≤ d.size; omega
  · refine (HO.out.then (Only.set (S := fun b => b = p ∨ b = m) w1 ⟨p, 3, none⟩ _ (Or.inl rfl)) (fun _ _ h => h)).then (Only.of_grown hturn2.grown (fun k e _ => Or.inr (by cases e; rfl))) (fun _ _ h => h)
  · rw [turned_size hturn2, hsz1, HZ.out]
#print axioms take_any
end Go.Proofs.Ytfppmpfmafnfmaa
