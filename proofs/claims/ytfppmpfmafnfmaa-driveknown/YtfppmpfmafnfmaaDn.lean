/- Contract of names of package drive: which files are wanted, by rising names. -/
import Derived.Test.YtfppmpfmafnfmaaDm
import Derived.Sort.OwnSorted
import Derived.Maps.AppendAt
namespace Go.Proofs.Ytfppmpfmafnfmaa
open Go Go.RowKit

/-- Texts that lie in a row of their own. -/
def TxtL (B : Nat) (w : World) (v : Value) (ns : List Nm) : Prop := w.ownsRow B 9 1 v ns.length (ns.map sv)
theorem Try.info9 : (Try.prog.info? 9).map (fun i => (i.zero, i.size, i.bytes)) = some (some (.string ⟨#[]⟩), 1, 16) := by kernel_rfl
theorem TxtL.push {B : Nat} {w : World} {v : Value} {ns : List Nm} (h : TxtL B w v ns) (x : Nm) (hn : ns.length ≤ 1000000000000) (hB : B ≤ w.heap.size) :
    ∃ v' w', (Builtin.append_ #[54, 54] 54 #[v, .slice (some ⟨w.heap.size, 0, none⟩) 1 1]).run Try.prog (w.alloc (.cells #[sv x] 9)) = .ok v' w' ∧ TxtL B w' v' (ns ++ [x]) ∧
      (w.alloc (.cells #[sv x] 9)).grownBy w' v.ownBlock ∧ (v'.ownBlock = v.ownBlock ∨ v'.ownBlock = some (w.heap.size + 1)) := by
  obtain ⟨i0, hi0, hz0, hz1, hz2⟩ := info_parts Try.info9
  have h2 : (w.alloc (.cells #[sv x] 9)).ownsRow B 9 1 v ns.length (ns.map sv) := h.kept (World.grownBy_alloc w _ none) (by
    cases hv : v.ownBlock
    · exact Or.inl rfl
    · exact Or.inr (by simp))
  have hc : CAt (w.alloc (.cells #[sv x] 9)) w.heap.size #[sv x] 9 := CAt.made w _ _
  obtain ⟨v', w', hr, h3, h4, _, h5⟩ := run_append_own_at (P := Try.prog) (w.alloc (.cells #[sv x] 9)) B 54 54 9 i0 (.string ⟨#[]⟩) 1 16 Try.underlying54 hi0 hz0 hz1 hz2 rfl (by decide) v ns.length (ns.map sv) h2 ⟨w.heap.size, 0, none⟩ 1 1 [sv x] rfl (fun j u hj => by
      have : j = 0 := by rcases j with _ | j <;> simp at hj ⊢
      subst this
      simp at hj; subst hj
      have hadd : (⟨w.heap.size, 0, none⟩ : Addr).add 0 = ⟨w.heap.size, 0, none⟩ := by unfold Addr.add; split <;> simp_all
      rw [hadd, hc.cell]; rfl) (by intro u hu; simp at hu; subst hu; rfl) (by unfold maxLen; omega) (by omega) (by rw [size_al]; omega)
  refine ⟨v', w', hr, ?_, h4, by rw [size_al] at h5; exact h5⟩
  unfold TxtL; simpa using h3
theorem wpList_append_run {P : Program} {w w' : World} {ops : Array Oper} {rest : List Oper} {o : Oper} {a : Act} {Q : Exit → Act → World → Prop} (s x : Operand) (t : TypeId)
    (ho : o.op = .call { callee := .builtin .append, args := #[s, x], argTypes := #[t, t] }) (hw : Region.wanted o (yielded ops a.tmps) = true)
    (v xv v' : Value) (hs : a.eval s = v) (hx : a.eval x = xv) (hr : (Builtin.append_ #[t, t] o.type #[v, xv]).run P w = .ok v' w') (h : wpList P ops Q rest (a.put o.dst v') w') : wpList P ops Q (o :: rest) a w := by
  refine BigFrame.wpList_want hw fun K hK => ?_
  unfold Oper.wp execOp
  simp only [ho, resolve, invoke, builtin, Sem.run_bind, Sem.run_pure, Result.andThen_ok, List.map_toArray, List.map_cons, List.map_nil, hs, hx, hr]
  exact hK _ _ h
/-- The names of those that are wanted, met so far. -/
def Coll (L : List (Nm × Ent)) (q : Nm → Fi → Bool) (left : Lit → Bool) (ss : List Nm) : Prop := ss.Nodup ∧ ∀ x, x ∈ ss ↔ ∃ e, gget L x = some e ∧ left (.string x) = false ∧ q x e.fi = true
theorem Coll.start (L : List (Nm × Ent)) (q : Nm → Fi → Bool) : Coll L q (Maps.has (mapD L)) [] := by
  refine ⟨List.nodup_nil, fun x => ?_⟩
  simp only [List.not_mem_nil, false_iff]
  rintro ⟨e, h1, h2, _⟩
  rw [mapD_has, h1] at h2; cases h2
section
variable {L : List (Nm × Ent)} {q : Nm → Fi → Bool} {left : Lit → Bool} {ss : List Nm}
theorem Coll.take (h : Coll L q left ss) {x : Nm} {e : Ent} (hl : left (.string x) = true) (hg : gget L x = some e) (hq : q x e.fi = true) : Coll L q (fun z => left z && !z.sameKey (.string x)) (ss ++ [x]) := by
  have hnew : x ∉ ss := fun hx => by obtain ⟨_, _, h2, _⟩ := (h.2 x).1 hx; rw [hl] at h2; cases h2
  refine ⟨List.nodup_append.2 ⟨h.1, by simp, fun a ha b hb => by simp at hb; subst hb; exact fun e => hnew (e ▸ ha)⟩, fun y => ?_⟩
  by_cases hy : y = x
  · subst hy; simp [hg, Lit.sameKey, hq]
  · simp [h.2 y, hy, Lit.sameKey]
theorem Coll.skip (h : Coll L q left ss) {x : Nm} {e : Ent} (hg : gget L x = some e) (hq : q x e.fi = false) : Coll L q (fun z => left z && !z.sameKey (.string x)) ss := by
  refine ⟨h.1, fun y => ?_⟩
  by_cases hy : y = x
  · subst hy
    rw [h.2 y]
    constructor
    · rintro ⟨e', h1, _, h3⟩; rw [hg] at h1; cases h1; rw [hq] at h3; cases h3
    · rintro ⟨e', h1, _, h3⟩; rw [hg] at h1; cases h1; rw [hq] at h3; cases h3
  · simp [h.2 y, hy, Lit.sameKey]
theorem Coll.end (h : Coll L q left ss) (hs : Srt L) (hl : ∀ k, left k = false) : ss.Perm (namesOf (gmap Ent.fi L) q) := by
  refine (List.perm_ext_iff_of_nodup h.1 ?_).2 fun x => ?_
  · unfold namesOf
    refine List.pairwise_map.2 (List.Pairwise.imp (fun {a b} h e => ?_) ((hs.map Ent.fi).filter (fun p => q p.1 p.2)))
    exact bb_ne h e
  · rw [h.2 x]
    unfold namesOf gmap
    simp only [List.mem_map, List.mem_filter, hl, true_and]
    constructor
    · rintro ⟨e, h1, h3⟩
      exact ⟨(x, e.fi), ⟨⟨(x, e), gget_mem h1, rfl⟩, h3⟩, rfl⟩
    · rintro ⟨p, ⟨⟨⟨y, e⟩, hm, rfl⟩, h3⟩, rfl⟩
      exact ⟨e, gget_of_mem hs hm, h3⟩
theorem Coll.len (h : Coll L q left ss) : ss.length ≤ L.length := by
  have h1 : ss.Nodup := h.1
  have : ss ⊆ L.map (·.1) := fun x hx => by
    obtain ⟨e, h1, _⟩ := (h.2 x).1 hx
    exact List.mem_map.2 ⟨(x, e), gget_mem h1, rfl⟩
  have := h1.length_le_of_subset this
  simpa using this
end
/-- What is sorted is what stands in the list. -/
theorem sort_names {F : List (Nm × Fi)} (hF : Srt F) (q : Nm → Fi → Bool) {ss : List Nm} (h : ss.Perm (namesOf F q)) : (ss.mergeSort fun x y => decide (x ≤ y)) = namesOf F q := by
  have tr : ∀ a b c : Nm, decide (a ≤ b) = true → decide (b ≤ c) = true → decide (a ≤ c) = true := fun a b c h1 h2 => by simp only [decide_eq_true_eq] at *; exact List.le_trans h1 h2
  have to : ∀ a b : Nm, (decide (a ≤ b) || decide (b ≤ a)) = true := fun a b => by simp only [Bool.or_eq_true, decide_eq_true_eq]; exact List.le_total a b
  refine List.Perm.eq_of_pairwise (le := fun a b : Nm => decide (a ≤ b) = true) (fun a b _ _ h1 h2 => ?_) (List.pairwise_mergeSort tr to ss) ?_ ((List.mergeSort_perm ss _).trans h)
  · simp only [decide_eq_true_eq] at h1 h2; exact List.le_antisymm h1 h2
  · unfold namesOf
    refine List.pairwise_map.2 (List.Pairwise.imp (fun {a b} h => ?_) (List.Pairwise.filter (fun p => q p.1 p.2) hF))
    rw [decide_eq_true_eq]
    exact List.le_of_lt ((bb_lt _ _).1 h)
#print axioms sort_names
end Go.Proofs.Ytfppmpfmafnfmaa
