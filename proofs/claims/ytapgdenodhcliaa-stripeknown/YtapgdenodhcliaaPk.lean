/- The walk of MatrixTells: of any two matrices that are not large the product, the inverse, the rank and the errors are the document's own; what is handed in stays, and the answers lie in memory of their own. No conditions. -/
import Derived.Test.YtapgdenodhcliaaPj
namespace Go.Proofs.Ytapgdenodhcliaa
open Go.RowKit

/-- append at its place, guarded or not, by what it is known to do. -/
theorem wpList_append_run {P : Program} {w w' : World} {ops : Array Oper} {rest : List Oper} {o : Oper} {a : Act} {Q : Exit → Act → World → Prop} (s x : Operand) (t : TypeId)
    (ho : o.op = .call { callee := .builtin .append, args := #[s, x], argTypes := #[t, t] }) (hw : Region.wanted o (yielded ops a.tmps) = true)
    (v xv v' : Value) (hs : a.eval s = v) (hx : a.eval x = xv) (hr : (Builtin.append_ #[t, t] o.type #[v, xv]).run P w = .ok v' w') (h : wpList P ops Q rest (a.put o.dst v') w') : wpList P ops Q (o :: rest) a w := by
  refine BigFrame.wpList_want hw fun K hK => ?_
  unfold Oper.wp execOp
  simp only [ho, resolve, invoke, builtin, Sem.run_bind, Sem.run_pure, Result.andThen_ok, List.map_toArray, List.map_cons, List.map_nil, hs, hx, hr]
  exact hK _ _ h
theorem join_run {w : World} {B B' n m : Nat} {v s : Value} {xs ys : List Value} (hv : w.ownsRow B 22 1 v n xs) (hs : w.ownsRow B' 22 1 s m ys) (h1 : ∀ u ∈ ys, u.oneCell' = true) (hb : n + m ≤ 1000) (hB : B ≤ w.heap.size) :
    ∃ v' w', (Builtin.append_ #[24, 24] 24 #[v, s]).run Try.prog w = .ok v' w' ∧ w'.ownsRow B 22 1 v' (n + m) (xs ++ ys) ∧ w.grownBy w' v.ownBlock ∧ (v'.ownBlock = v.ownBlock ∨ v'.ownBlock = some w.heap.size) := by
  obtain ⟨i0, hi0, hz0, hz1, hz2⟩ := info_parts Try.info22
  rcases hs.2 with ⟨rfl, rfl⟩ | ⟨g, cap, cur, rfl, _, _, _⟩
  · have hy : ys = [] := List.eq_nil_of_length_eq_zero (by simpa using hs.1)
    subst hy
    exact ⟨v, w, run_append_owned_none (P := Try.prog) w B 24 24 22 i0 1 Try.underlying24 hi0 v n xs hv, by simpa using hv, ⟨rfl, rfl, rfl, Nat.le_refl _, fun _ _ _ => rfl⟩, .inl rfl⟩
  · obtain ⟨v', w', hr, h2, h3, _, h5⟩ := run_append_own_at (P := Try.prog) w B 24 24 22 i0 (.slice none 0 0) 1 24 Try.underlying24 hi0 hz0 hz1 hz2 rfl (by decide) v n xs hv ⟨g, 0, none⟩ m cap ys hs.1 (hs.cells (g := g) rfl) h1 (by unfold maxLen; omega) (by omega) hB
    exact ⟨v', w', hr, h2, h3, h5⟩
theorem vals_append (n m : Nat) (V W : Nat → Value) : vals n V ++ vals m W = vals (n + m) fun i => if i < n then V i else W (i - n) := by
  apply List.ext_getElem?
  intro i
  by_cases h1 : i < n
  · rw [List.getElem?_append_left (by rw [vals_len]; exact h1), vals_get _ _ _ h1, vals_get _ _ _ (by omega), if_pos h1]
  · rw [List.getElem?_append_right (by rw [vals_len]; omega), vals_len]
    by_cases h2 : i < n + m
    · rw [vals_get _ _ _ (by omega), vals_get _ _ _ h2, if_neg h1]
    · rw [List.getElem?_eq_none (by rw [vals_len]; omega), List.getElem?_eq_none (by rw [vals_len]; omega)]
/-- One of two, by place. -/
def two {α : Type} (n : Nat) (f g : Nat → α) (i : Nat) : α := if i < n then f i else g (i - n)
theorem OwnV.spare {B : Nat} {S : Nat → Prop} {w w' : World} {v : Value} {n : Nat} {G M C N Q : Nat → Nat} {X : Nat → Nat → K} (h : OwnV B w v n G M C N Q X) (hs : SpareIn S w w') (h1 : ∀ i, i < n → ¬ S (G i)) (h2 : ∀ b, v.ownBlock = some b → ¬ S b) : OwnV B w' v n G M C N Q X where
  top := own_keepV h.top (fun b q => hs.block b (h.top.lt b q).2 (h2 b q))
  row := fun i hi => own_keep (h.row i hi) (hs.block _ (own_ge (h.row i hi)).2 (h1 i hi))
  inj := h.inj
theorem slice_one {n : Nat} {G L C : Nat → Nat} : ∀ u ∈ vals n (fun i => .slice (some ⟨G i, 0, none⟩) (L i) (C i)), u.oneCell' = true := fun u hu => by
  unfold vals at hu
  obtain ⟨i, _, rfl⟩ := List.mem_map.1 hu
  rfl
/-- Two lists of rows joined. -/
theorem join_any {B : Nat} {w : World} {v1 v2 : Value} {n1 n2 : Nat} {G1 L1 C1 G2 L2 C2 : Nat → Nat} {X1 X2 : Nat → Nat → K} (h1 : OwnV B w v1 n1 G1 L1 C1 C1 C1 X1) (h2 : OwnV B w v2 n2 G2 L2 C2 C2 C2 X2) (hB : B ≤ w.heap.size) (hn : n1 + n2 ≤ 300) (hap : ∀ i k, i < n1 → k < n2 → G1 i ≠ G2 k) :
    ∃ u1 wa u2 wb, (Builtin.append_ #[24, 24] 24 #[.slice (some ⟨w.heap.size, 0, none⟩) 0 0, v1]).run Try.prog (w.alloc (.cells #[] 22)) = .ok u1 wa ∧ (Builtin.append_ #[24, 24] 24 #[u1, v2]).run Try.prog wa = .ok u2 wb ∧
      OwnV B wb u2 (n1 + n2) (two n1 G1 G2) (two n1 L1 L2) (two n1 C1 C2) (two n1 C1 C2) (two n1 C1 C2) (two n1 X1 X2) ∧ Below w.heap.size w wb := by
  have hz : (w.alloc (.cells #[] 22)).heap.size = w.heap.size + 1 := by simp
  have hv0 := World.ownsRow_lit (base := B) (e := 22) (size := 1) w #[] 0 hB (by unfold maxLen; omega) rfl
  have hb0 : Below w.heap.size w (w.alloc (.cells #[] 22)) := (Below.refl _ _).alloc (Nat.le_refl _) _
  obtain ⟨u1, wa, r1, o1, g1, at1⟩ := join_run hv0 (h1.stay hb0).top slice_one (by omega) (by omega)
  have hu1 : ∀ b, u1.ownBlock = some b → w.heap.size ≤ b := fun b q => by
    rcases at1 with e | e
    · rw [e] at q; have q2 : w.heap.size = b := by simpa [Value.ownBlock] using q
      omega
    · rw [e, hz] at q; have q2 : w.heap.size + 1 = b := by simpa using q
      omega
  have hba : Below w.heap.size w wa := Below.grown hb0 g1 (by omega) (fun b q => Nat.le_of_eq (by simpa [Value.ownBlock] using q))
  have hsa := g1.size
  obtain ⟨u2, wb, r2, o2, g2, at2⟩ := join_run o1 (h2.stay hba).top slice_one (by omega) (by omega)
  have hbb : Below w.heap.size w wb := Below.grown hba g2 (by omega) (fun b q => hu1 b q)
  refine ⟨u1, wa, u2, wb, r1, r2, ⟨?_, ?_, ?_⟩, hbb⟩
  · have e : ((#[] : Array Value).toList ++ vals n1 fun i => Value.slice (some ⟨G1 i, 0, none⟩) (L1 i) (C1 i)) ++ (vals n2 fun i => Value.slice (some ⟨G2 i, 0, none⟩) (L2 i) (C2 i)) = vals (n1 + n2) fun i => .slice (some ⟨two n1 G1 G2 i, 0, none⟩) (two n1 L1 L2 i) (two n1 C1 C2 i) := by
      rw [List.nil_append, vals_append]
      refine vals_congr (fun i _ => ?_)
      unfold two
      by_cases q : i < n1
      · rw [if_pos q, if_pos q, if_pos q, if_pos q]
      · rw [if_neg q, if_neg q, if_neg q, if_neg q]
    rw [e] at o2
    have e2 : 0 + n1 + n2 = n1 + n2 := by omega
    rw [e2] at o2; exact o2
  · intro i hi
    unfold two
    by_cases q : i < n1
    · simp only [if_pos q]; exact (h1.stay hbb).row i q
    · simp only [if_neg q]; exact (h2.stay hbb).row (i - n1) (by omega)
  · intro i j hi hj q
    unfold two at q
    by_cases q1 : i < n1
    · by_cases q2 : j < n1
      · rw [if_pos q1, if_pos q2] at q; exact h1.inj i j q1 q2 q
      · rw [if_pos q1, if_neg q2] at q; exact absurd q (hap i (j - n1) q1 (by omega))
    · by_cases q2 : j < n1
      · rw [if_neg q1, if_pos q2] at q; exact absurd q.symm (hap j (i - n1) q2 (by omega))
      · rw [if_neg q1, if_neg q2] at q; have := h2.inj (i - n1) (j - n1) (by omega) (by omega) q; omega
theorem cnt_le (e : Int) (n : Nat) : cnt e n ≤ n := by unfold cnt; split <;> omega

end Go.Proofs.Ytapgdenodhcliaa
