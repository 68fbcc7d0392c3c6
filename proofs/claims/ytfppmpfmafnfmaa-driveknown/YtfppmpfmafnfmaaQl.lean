/- A region that draws its order, whose operations only read but for the last one, for which all others must have come up: one walk in the text's order serves every order. -/
import Derived.BigQuiet
import Derived.Deep.Quiet
namespace Go.Proofs.Ytfppmpfmafnfmaa
open Go

section
variable {P : Program} {ops : Array Oper} {md : Region.Mode} {C : World → Prop}

/-- n more operations that only read come up, in whatever order; then the last one. -/
def wpAnyT (P : Program) (md : Region.Mode) (ops : Array Oper) (C : World → Prop) (last : Nat) (R : Act → Prop) : Nat → Array Bool → Act → Prop
  | 0, listed, a => Region.ready md ops listed = [last] ∧ Region.ready md ops (listed.setIfInBounds last true) = [] ∧ R a
  | n + 1, listed, a => Region.ready md ops listed ≠ [] ∧ last ∉ Region.ready md ops listed ∧ ∀ i ∈ Region.ready md ops listed, qOp P ops C i (wpAnyT P md ops C last R n (listed.setIfInBounds i true)) a

theorem wpAny_of_T {last : Nat} {R : Act → Prop} {Q : Exit → Act → World → Prop} (hR : ∀ a w, C w → R a → wpOp P ops Q last (fun a w => Q .normal a w) a w) : ∀ (n : Nat) (listed : Array Bool) (a : Act) (w : World), C w →
    wpAnyT P md ops C last R n listed a → wpAny P md ops Q (n + 1) listed a w
  | 0, listed, a, w, hw, h => by
    obtain ⟨h1, h2, h3⟩ := h
    refine ⟨fun h0 => (by rw [h1] at h0; cases h0), fun i hi => ?_⟩
    rw [h1, List.mem_singleton] at hi
    subst hi
    exact wpOp_mono (fun a' w' hq => ⟨h2, hq⟩) (hR a w hw h3)
  | n + 1, listed, a, w, hw, h => by
    obtain ⟨h1, _, h3⟩ := h
    exact ⟨fun h0 => absurd h0 h1, fun i hi => wpOp_of_qOp hw (fun a' w' hw' hh => wpAny_of_T hR n _ a' w' hw' hh) (h3 i hi)⟩

theorem wpAnyT_first {last : Nat} {R : Act → Prop} {i : Nat} {oi ol : Oper} {v : Value} (hi : ops[i]? = some oi) (hol : ops[last]? = some ol) (hwait : ∃ e ∈ ol.after, Region.binds md e = true ∧ e.on = i)
    (hsel : ∀ (j : Nat) (o : Oper) cs b, ops[j]? = some o → o.op ≠ .select cs b) : ∀ (n : Nat) (listed : Array Bool) (a : Act),
      (∀ j oj, ops[j]? = some oj → j ≠ i → listed.getD j true = false → (∀ e ∈ oj.after, Region.binds md e = true → e.on ≠ i) → oi.apart ops oj = true) →
      i ∈ Region.ready md ops listed → YieldsIn P ops C oi v a →
      wpAnyT P md ops C last R n (listed.setIfInBounds i true) (a.put oi.dst v) → wpAnyT P md ops C last R (n + 1) listed a := by
  have hnl : ∀ listed : Array Bool, i ∈ Region.ready md ops listed → last ∉ Region.ready md ops listed := fun listed hr hl => by
    obtain ⟨_, o, ho, hall⟩ := mem_ready.1 hl
    obtain ⟨e, he, hb, hon⟩ := hwait
    rw [hol] at ho
    cases ho
    have h1 := hall e he hb
    have h0 := (mem_ready.1 hr).1
    rw [hon] at h1
    rcases Nat.lt_or_ge i listed.size with h' | h'
    · simp [h'] at h0 h1; rw [h0] at h1; cases h1
    · simp [Array.getElem?_eq_none h'] at h1
  intro n
  induction n with
  | zero =>
    intro listed a _ hr hy H
    refine ⟨fun h => (by rw [h] at hr; cases hr), hnl _ hr, fun j hj => ?_⟩
    by_cases hji : j = i
    · subst hji; exact hy.qOp hi H
    · have h1 := ready_mono hj hji
      rw [H.1, List.mem_singleton] at h1
      subst h1
      exact absurd hj (hnl _ hr)
  | succ n ih =>
    intro listed a hfree hr hy H
    refine ⟨fun h => (by rw [h] at hr; cases hr), hnl _ hr, fun j hj => ?_⟩
    by_cases hji : j = i
    · subst hji; exact hy.qOp hi H
    · have h1 := H.2.2 j (ready_mono hj hji)
      obtain ⟨hjun, oj, hoj, hall⟩ := mem_ready.1 hj
      have hnot : ∀ e ∈ oj.after, Region.binds md e = true → e.on ≠ i := fun e he hb heq => by
        have h1 := hall e he hb
        have h0 := (mem_ready.1 hr).1
        rw [heq] at h1
        rcases Nat.lt_or_ge i listed.size with h' | h'
        · simp [h'] at h0 h1; rw [h0] at h1; cases h1
        · simp [Array.getElem?_eq_none h'] at h1
      have h2 := qOp_put hoj (hfree j oj hoj hji hjun hnot) (fun cs b => hsel i oi cs b hi) (fun cs b => hsel j oj cs b hoj) hy h1
      refine qOp_mono (fun a' h3 => ih (listed.setIfInBounds j true) a' (fun k ok hk hki hun hno => ?_) (ready_mono hr (Ne.symm hji)) h3.1 ?_) h2
      · refine hfree k ok hk hki ?_ hno
        by_cases hjk : j = k
        · subst hjk; exact hjun
        · rw [getD_set_ne true hjk] at hun; exact hun
      · rw [Array.setIfInBounds_comm _ _ hji]
        exact h3.2

/-- Held by reckoning: the operations up to the last may come up in the text's order, each apart from what does not wait for it; the last waits for all. -/
def lexT (md : Region.Mode) (ops : Array Oper) (last : Nat) : Nat → Nat → Array Bool → Bool
  | 0, _, listed => decide (Region.ready md ops listed = [last]) && (Region.ready md ops (listed.setIfInBounds last true)).isEmpty
  | n + 1, k, listed => (Region.ready md ops listed).contains k && Region.free md ops listed k && (match ops[last]? with | some ol => ol.after.any (fun e => Region.binds md e && e.on == k) | none => false) && lexT md ops last n (k + 1) (listed.setIfInBounds k true)

theorem wpAnyT_lex {last : Nat} {R : Act → Prop} (hs : Region.noSelect ops = true) : ∀ (l : List Oper) (k : Nat) (listed : Array Bool) (a : Act), (∀ j, j < l.length → l[j]? = ops[k + j]?) →
    lexT md ops last l.length k listed = true → wpQuiet P ops C R l a → wpAnyT P md ops C last R l.length listed a
  | [], _, _, _, _, hB, h => by
    simp only [List.length_nil, lexT, Bool.and_eq_true, decide_eq_true_eq, List.isEmpty_iff] at hB
    exact ⟨hB.1, hB.2, h⟩
  | o :: l, k, listed, a, hl, hB, h => by
    have h0 : ops[k]? = some o := by simpa using (hl 0 (by simp)).symm
    simp only [List.length_cons, lexT, Bool.and_eq_true] at hB
    obtain ⟨⟨⟨hr, hf⟩, hw⟩, hB'⟩ := hB
    cases hol : ops[last]? with
    | none => simp [hol] at hw
    | some ol =>
      have hwait : ∃ e ∈ ol.after, Region.binds md e = true ∧ e.on = k := by
        simp only [hol, Array.any_eq_true', Bool.and_eq_true, beq_iff_eq] at hw
        obtain ⟨e, he, h1, h2⟩ := hw
        exact ⟨e, he, h1, h2⟩
      have hst : qOp P ops C k (wpQuiet P ops C R l) a := by unfold qOp; simp only [h0]; exact h
      obtain ⟨v, hy, hK⟩ := yieldsIn_of_qOp h0 hst
      exact wpAnyT_first h0 hol hwait (Region.noSelect_spec hs) l.length listed a (Region.free_spec h0 hf) (by simpa using hr) hy
        (wpAnyT_lex hs l (k + 1) _ _ (fun j hj => by have := hl (j + 1) (by simp; omega); simpa [Nat.add_assoc, Nat.add_comm 1 j] using this) hB' hK)

def lastB (ops : Array Oper) : Bool := Region.noSelect ops && lexT .any ops (ops.size - 1) (ops.size - 1) 0 (Array.replicate ops.size false)

/-- The region's law: the quiet walk of all but the last, then the last one, as in a plain region. -/
theorem wp_region_last {id : Nat} {Q : Exit → Act → World → Prop} {a : Act} {w : World} {l : List Oper} {o : Oper} (hm : P.follows .mixedOrders = true) (hB : lastB (l ++ [o]).toArray = true)
    (h : wpQuiet P (l ++ [o]).toArray (fun w' => ∃ n, w' = w.drewN n) (fun a' => ∀ n, wpList P (l ++ [o]).toArray Q [o] a' (w.drewN n)) l a) : (Code.region id (l ++ [o]).toArray true).wp P Q a w := by
  simp only [lastB, Bool.and_eq_true] at hB
  have hsz : (l ++ [o]).toArray.size = l.length + 1 := by simp
  rw [hsz] at hB
  refine wp_region_any hm ?_
  rw [hsz]
  refine wpAny_of_T (C := fun w' => ∃ n, w' = w.drewN n) (last := l.length) (R := fun a' => ∀ n, wpList P (l ++ [o]).toArray Q [o] a' (w.drewN n)) ?_ l.length _ _ _ ⟨1, rfl⟩ ?_
  · rintro a' w' ⟨n, rfl⟩ hr
    have h1 := hr n
    unfold wpOp
    rw [show (l ++ [o]).toArray[l.length]? = some o by simp]
    exact h1
  · exact wpAnyT_lex hB.1 l 0 _ a (fun j hj => by simp [List.getElem?_append_left hj]) (by simpa using hB.2) h
/-- The same, the list cut by the kernel. -/
theorem wp_region_last_lit {id : Nat} {Q : Exit → Act → World → Prop} {a : Act} {w : World} {x : Oper} {r : List Oper} (hm : P.follows .mixedOrders = true) (hB : lastB (x :: r).toArray = true)
    (h : wpQuiet P (x :: r).toArray (fun w' => ∃ n, w' = w.drewN n) (fun a' => ∀ n, wpList P (x :: r).toArray Q [(x :: r).getLast (List.cons_ne_nil x r)] a' (w.drewN n)) (x :: r).dropLast a) : (Code.region id (x :: r).toArray true).wp P Q a w := by
  have e : (x :: r) = (x :: r).dropLast ++ [(x :: r).getLast (List.cons_ne_nil x r)] := (List.dropLast_concat_getLast (List.cons_ne_nil x r)).symm
  have key : ∀ k : List Oper, k = (x :: r).dropLast ++ [(x :: r).getLast (List.cons_ne_nil x r)] → lastB k.toArray = true → wpQuiet P k.toArray (fun w' => ∃ n, w' = w.drewN n) (fun a' => ∀ n, wpList P k.toArray Q [(x :: r).getLast (List.cons_ne_nil x r)] a' (w.drewN n)) (x :: r).dropLast a → (Code.region id k.toArray true).wp P Q a w := by
    intro k hk hB' h'
    subst hk
    exact wp_region_last hm hB' h'
  exact key (x :: r) e hB h
end
end Go.Proofs.Ytfppmpfmafnfmaa
