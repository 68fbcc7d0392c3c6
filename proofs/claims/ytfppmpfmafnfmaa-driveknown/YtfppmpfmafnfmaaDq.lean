/- Regions that draw their order of which the last operations write. -/
import Derived.Test.YtfppmpfmafnfmaaQl
import Derived.Laws.Rows
namespace Go.Proofs.Ytfppmpfmafnfmaa
open Go Go.RowKit

section
variable {P : Program} {ops : Array Oper} {md : Region.Mode} {C : World → Prop}

/-- What is listed has all listed for which it waits. -/
def Cl (md : Region.Mode) (ops : Array Oper) (listed : Array Bool) : Prop := ∀ j o, ops[j]? = some o → listed.getD j false = true → ∀ e ∈ o.after, Region.binds md e = true → listed.getD e.on false = true
theorem getD_flip {listed : Array Bool} {j : Nat} (h : listed.getD j true = false) : listed.getD j false = false := by
  rcases Nat.lt_or_ge j listed.size with h' | h'
  · simp [h'] at h ⊢; exact h
  · simp [Array.getElem?_eq_none h'] at h
theorem Cl.set {listed : Array Bool} {i : Nat} (h : Cl md ops listed) (hi : i ∈ Region.ready md ops listed) : Cl md ops (listed.setIfInBounds i true) := by
  intro j o ho hj e he hb
  obtain ⟨hun, oi, hoi, hall⟩ := mem_ready.1 hi
  by_cases hji : j = i
  · subst hji
    rw [ho] at hoi; cases hoi
    exact getD_set_true (hall e he hb)
  · rw [getD_set_ne false (Ne.symm hji)] at hj
    exact getD_set_true (h j o ho hj e he hb)
def waitsOn (md : Region.Mode) (ops : Array Oper) : Nat → Nat → Nat → Bool
  | 0, _, _ => false
  | f + 1, j, i => match ops[j]? with
    | none => false
    | some o => o.after.any fun e => Region.binds md e && (e.on == i || waitsOn md ops f e.on i)
theorem waits_listed {listed : Array Bool} (hc : Cl md ops listed) : ∀ (f j i : Nat), waitsOn md ops f j i = true → (listed.getD j false = true ∨ j ∈ Region.ready md ops listed) → listed.getD i false = true
  | 0, _, _, h, _ => by cases h
  | f + 1, j, i, h, hj => by
    unfold waitsOn at h
    cases ho : ops[j]? with
    | none => simp [ho] at h
    | some o =>
      simp only [ho, Array.any_eq_true', Bool.and_eq_true, Bool.or_eq_true, beq_iff_eq] at h
      obtain ⟨e, he, hb, h⟩ := h
      have hl : listed.getD e.on false = true := by
        rcases hj with hj | hj
        · exact hc j o ho hj e he hb
        · obtain ⟨_, o', ho', hall⟩ := mem_ready.1 hj
          rw [ho] at ho'; cases ho'
          exact hall e he hb
      rcases h with h | h
      · rw [← h]; exact hl
      · exact waits_listed hc f e.on i h (.inl hl)

/-- The operations tl come up one behind the other, and nothing else does. -/
def forced (md : Region.Mode) (ops : Array Oper) : List Nat → Array Bool → Prop
  | [], listed => Region.ready md ops listed = []
  | k :: ks, listed => Region.ready md ops listed = [k] ∧ forced md ops ks (listed.setIfInBounds k true)
def tailW (P : Program) (ops : Array Oper) (Q : Exit → Act → World → Prop) : List Nat → Act → World → Prop
  | [], a, w => Q .normal a w
  | k :: ks, a, w => wpOp P ops Q k (tailW P ops Q ks) a w
theorem any_of_forced {Q : Exit → Act → World → Prop} : ∀ (ks : List Nat) (listed : Array Bool) (a : Act) (w : World), forced md ops ks listed → tailW P ops Q ks a w → wpAny P md ops Q ks.length listed a w
  | [], _, _, _, hf, h => ⟨hf, h⟩
  | k :: ks, listed, a, w, hf, h => by
    refine ⟨fun h0 => (by rw [hf.1] at h0; cases h0), fun i hi => ?_⟩
    rw [hf.1, List.mem_singleton] at hi
    subst hi
    exact wpOp_mono (fun a w h => any_of_forced ks _ a w hf.2 h) h

/-- n more operations that only read come up, in whatever order; then those of the tail. -/
def wpAnyU (P : Program) (md : Region.Mode) (ops : Array Oper) (C : World → Prop) (tl : List Nat) (R : Act → Prop) : Nat → Array Bool → Act → Prop
  | 0, listed, a => forced md ops tl listed ∧ R a
  | n + 1, listed, a => Region.ready md ops listed ≠ [] ∧ ∀ i ∈ Region.ready md ops listed, qOp P ops C i (wpAnyU P md ops C tl R n (listed.setIfInBounds i true)) a

theorem wpAny_of_U {tl : List Nat} {R : Act → Prop} {Q : Exit → Act → World → Prop} (hR : ∀ a w, C w → R a → tailW P ops Q tl a w) : ∀ (n : Nat) (listed : Array Bool) (a : Act) (w : World), C w →
    wpAnyU P md ops C tl R n listed a → wpAny P md ops Q (n + tl.length) listed a w
  | 0, listed, a, w, hw, h => by
    rw [Nat.zero_add]
    exact any_of_forced tl listed a w h.1 (hR a w hw h.2)
  | n + 1, listed, a, w, hw, h => by
    obtain ⟨h1, h3⟩ := h
    rw [Nat.add_right_comm]
    exact ⟨fun h0 => absurd h0 h1, fun i hi => wpOp_of_qOp hw (fun a' w' hw' hh => wpAny_of_U hR n _ a' w' hw' hh) (h3 i hi)⟩

theorem wpAnyU_first {last : Nat} {ks : List Nat} {R : Act → Prop} {i f : Nat} {oi : Oper} {v : Value} (hi : ops[i]? = some oi) (hwait : waitsOn md ops f last i = true)
    (hsel : ∀ (j : Nat) (o : Oper) cs b, ops[j]? = some o → o.op ≠ .select cs b) : ∀ (n : Nat) (listed : Array Bool) (a : Act), Cl md ops listed →
      (∀ j oj, ops[j]? = some oj → j ≠ i → listed.getD j true = false → (∀ e ∈ oj.after, Region.binds md e = true → e.on ≠ i) → oi.apart ops oj = true) →
      i ∈ Region.ready md ops listed → YieldsIn P ops C oi v a →
      wpAnyU P md ops C (last :: ks) R n (listed.setIfInBounds i true) (a.put oi.dst v) → wpAnyU P md ops C (last :: ks) R (n + 1) listed a := by
  have hnl : ∀ listed : Array Bool, Cl md ops listed → i ∈ Region.ready md ops listed → last ∉ Region.ready md ops listed := fun listed hc hr hl => by
    have h1 := waits_listed hc f last i hwait (.inr hl)
    have h0 := getD_flip (mem_ready.1 hr).1
    rw [h0] at h1; cases h1
  intro n
  induction n with
  | zero =>
    intro listed a hc _ hr hy H
    refine ⟨fun h => (by rw [h] at hr; cases hr), fun j hj => ?_⟩
    by_cases hji : j = i
    · subst hji; exact hy.qOp hi H
    · have h1 := ready_mono hj hji
      rw [H.1.1, List.mem_singleton] at h1
      subst h1
      exact absurd hj (hnl _ hc hr)
  | succ n ih =>
    intro listed a hc hfree hr hy H
    refine ⟨fun h => (by rw [h] at hr; cases hr), fun j hj => ?_⟩
    by_cases hji : j = i
    · subst hji; exact hy.qOp hi H
    · have h1 := H.2 j (ready_mono hj hji)
      obtain ⟨hjun, oj, hoj, hall⟩ := mem_ready.1 hj
      have hnot : ∀ e ∈ oj.after, Region.binds md e = true → e.on ≠ i := fun e he hb heq => by
        have h1 := hall e he hb
        have h0 := getD_flip (mem_ready.1 hr).1
        rw [heq, h0] at h1; cases h1
      have h2 := qOp_put hoj (hfree j oj hoj hji hjun hnot) (fun cs b => hsel i oi cs b hi) (fun cs b => hsel j oj cs b hoj) hy h1
      refine qOp_mono (fun a' h3 => ih (listed.setIfInBounds j true) a' (hc.set hj) (fun k ok hk hki hun hno => ?_) (ready_mono hr (Ne.symm hji)) h3.1 ?_) h2
      · refine hfree k ok hk hki ?_ hno
        by_cases hjk : j = k
        · subst hjk; exact hjun
        · rw [getD_set_ne true hjk] at hun; exact hun
      · rw [Array.setIfInBounds_comm _ _ hji]
        exact h3.2

def forcedB (md : Region.Mode) (ops : Array Oper) : List Nat → Array Bool → Bool
  | [], listed => (Region.ready md ops listed).isEmpty
  | k :: ks, listed => decide (Region.ready md ops listed = [k]) && forcedB md ops ks (listed.setIfInBounds k true)
theorem forced_of : ∀ (ks : List Nat) (listed : Array Bool), forcedB md ops ks listed = true → forced md ops ks listed
  | [], _, h => List.isEmpty_iff.1 h
  | k :: ks, listed, h => by
    simp only [forcedB, Bool.and_eq_true, decide_eq_true_eq] at h
    exact ⟨h.1, forced_of ks _ h.2⟩
def lexU (md : Region.Mode) (ops : Array Oper) (tl : List Nat) : Nat → Nat → Array Bool → Bool
  | 0, _, listed => forcedB md ops tl listed
  | n + 1, k, listed => (Region.ready md ops listed).contains k && Region.free md ops listed k && (match tl with | [] => false | last :: _ => waitsOn md ops ops.size last k) && lexU md ops tl n (k + 1) (listed.setIfInBounds k true)

theorem wpAnyU_lex {last : Nat} {ks : List Nat} {R : Act → Prop} (hs : Region.noSelect ops = true) : ∀ (l : List Oper) (k : Nat) (listed : Array Bool) (a : Act), Cl md ops listed → (∀ j, j < l.length → l[j]? = ops[k + j]?) →
    lexU md ops (last :: ks) l.length k listed = true → wpQuiet P ops C R l a → wpAnyU P md ops C (last :: ks) R l.length listed a
  | [], _, _, _, _, _, hB, h => ⟨forced_of _ _ hB, h⟩
  | o :: l, k, listed, a, hc, hl, hB, h => by
    have h0 : ops[k]? = some o := by simpa using (hl 0 (by simp)).symm
    simp only [List.length_cons, lexU, Bool.and_eq_true] at hB
    obtain ⟨⟨⟨hr, hf⟩, hw⟩, hB'⟩ := hB
    have hr' : k ∈ Region.ready md ops listed := by simpa using hr
    have hst : qOp P ops C k (wpQuiet P ops C R l) a := by unfold qOp; simp only [h0]; exact h
    obtain ⟨v, hy, hK⟩ := yieldsIn_of_qOp h0 hst
    exact wpAnyU_first h0 hw (Region.noSelect_spec hs) l.length listed a hc (Region.free_spec h0 hf) hr' hy
      (wpAnyU_lex hs l (k + 1) _ _ (hc.set hr') (fun j hj => by have := hl (j + 1) (by simp; omega); simpa [Nat.add_assoc, Nat.add_comm 1 j] using this) hB' hK)

theorem Cl.start (ops : Array Oper) (n : Nat) : Cl md ops (Array.replicate n false) := fun j o _ hj => by
  rcases Nat.lt_or_ge j n with h | h
  · simp [h] at hj
  · have : (Array.replicate n false)[j]? = none := Array.getElem?_eq_none (by simpa using h)
    simp [this] at hj

def tailB (ops : Array Oper) (m k : Nat) : Bool := Region.noSelect ops && lexU .any ops (List.range' m (k + 1)) m 0 (Array.replicate ops.size false)

theorem tailW_list {Q : Exit → Act → World → Prop} : ∀ (t : List Oper) (m : Nat) (a : Act) (w : World), (∀ j, j < t.length → t[j]? = ops[m + j]?) → wpList P ops Q t a w → tailW P ops Q (List.range' m t.length) a w
  | [], _, _, _, _, h => h
  | o :: t, m, a, w, hl, h => by
    have h0 : ops[m]? = some o := by simpa using (hl 0 (by simp)).symm
    have ih := fun a w => tailW_list t (m + 1) a w (fun j hj => by have := hl (j + 1) (by simp; omega); simpa [Nat.add_assoc, Nat.add_comm 1 j] using this) (Q := Q)
    simp only [List.length_cons, List.range'_succ, tailW, wpOp, h0]
    unfold wpList at h
    split
    · rename_i hw
      rw [if_pos hw] at h
      exact h.imp (fun h => Oper.wp_mono (fun a w h => ih a w h) h) id
    · rename_i hw
      rw [if_neg hw] at h
      exact ih _ _ h

/-- A region that draws: the quiet walk of q, then those of t, as in a plain region. -/
theorem any_tail {Q : Exit → Act → World → Prop} {a : Act} {w : World} {q t : List Oper} {o : Oper} (hB : tailB (q ++ o :: t).toArray q.length t.length = true)
    (h : wpQuiet P (q ++ o :: t).toArray (fun w' => ∃ n, w' = w.drewN n) (fun a' => ∀ n, wpList P (q ++ o :: t).toArray Q (o :: t) a' (w.drewN n)) q a) :
    wpAny P .any (q ++ o :: t).toArray Q (q ++ o :: t).toArray.size (Array.replicate (q ++ o :: t).toArray.size false) a w.drew := by
  simp only [tailB, Bool.and_eq_true, List.range'_succ] at hB
  have hsz : (q ++ o :: t).toArray.size = q.length + (List.range' q.length (t.length + 1)).length := by simp
  have hg : wpAny P .any (q ++ o :: t).toArray Q (q.length + (List.range' q.length (t.length + 1)).length) (Array.replicate (q ++ o :: t).toArray.size false) a w.drew := by
    refine wpAny_of_U (C := fun w' => ∃ n, w' = w.drewN n) (R := fun a' => ∀ n, wpList P (q ++ o :: t).toArray Q (o :: t) a' (w.drewN n)) ?_ q.length _ _ _ ⟨1, rfl⟩ ?_
    · rintro a' w' ⟨n, rfl⟩ hr
      exact tailW_list (o :: t) q.length a' _ (fun j _ => by rw [List.getElem?_toArray, List.getElem?_append_right (Nat.le_add_right _ _), Nat.add_sub_cancel_left]) (hr n)
    · rw [List.range'_succ]
      exact wpAnyU_lex hB.1 q 0 _ a (Cl.start _ _) (fun j hj => by simp [List.getElem?_append_left hj]) hB.2 h
  rw [hsz]
  rw [hsz] at hg
  exact hg
/-- Cut behind m operations by the kernel. -/
theorem any_tail_at (m : Nat) {Q : Exit → Act → World → Prop} {a : Act} {w : World} {k : List Oper} {o : Oper} {t : List Oper} (hc : k.drop m = o :: t) (hB : tailB k.toArray (k.take m).length t.length = true)
    (h : wpQuiet P k.toArray (fun w' => ∃ n, w' = w.drewN n) (fun a' => ∀ n, wpList P k.toArray Q (o :: t) a' (w.drewN n)) (k.take m) a) :
    wpAny P .any k.toArray Q k.toArray.size (Array.replicate k.toArray.size false) a w.drew := by
  obtain ⟨q, hq⟩ : ∃ q, k.take m = q := ⟨_, rfl⟩
  have e : k = q ++ o :: t := by rw [← hq, ← hc]; exact (List.take_append_drop m k).symm
  rw [hq] at h hB
  subst e
  exact any_tail hB h
theorem wp_region_tail (m : Nat) {id : Nat} {Q : Exit → Act → World → Prop} {a : Act} {w : World} {k : List Oper} {o : Oper} {t : List Oper} (hm : P.follows .mixedOrders = true)
    (hc : k.drop m = o :: t) (hB : tailB k.toArray (k.take m).length t.length = true)
    (h : wpQuiet P k.toArray (fun w' => ∃ n, w' = w.drewN n) (fun a' => ∀ n, wpList P k.toArray Q (o :: t) a' (w.drewN n)) (k.take m) a) : (Code.region id k.toArray true).wp P Q a w :=
  wp_region_any hm (any_tail_at m hc hB h)
theorem any_tailC {Q : Exit → Act → World → Prop} {a : Act} {w : World} {q t : List Oper} {o : Oper} (hC : C w.drew) (hB : tailB (q ++ o :: t).toArray q.length t.length = true)
    (h : wpQuiet P (q ++ o :: t).toArray C (fun a' => ∀ w', C w' → wpList P (q ++ o :: t).toArray Q (o :: t) a' w') q a) :
    wpAny P .any (q ++ o :: t).toArray Q (q ++ o :: t).toArray.size (Array.replicate (q ++ o :: t).toArray.size false) a w.drew := by
  simp only [tailB, Bool.and_eq_true, List.range'_succ] at hB
  have hsz : (q ++ o :: t).toArray.size = q.length + (List.range' q.length (t.length + 1)).length := by simp
  have hg : wpAny P .any (q ++ o :: t).toArray Q (q.length + (List.range' q.length (t.length + 1)).length) (Array.replicate (q ++ o :: t).toArray.size false) a w.drew := by
    refine wpAny_of_U (C := C) (R := fun a' => ∀ w', C w' → wpList P (q ++ o :: t).toArray Q (o :: t) a' w') ?_ q.length _ _ _ hC ?_
    · intro a' w' hw hr
      exact tailW_list (o :: t) q.length a' _ (fun j _ => by rw [List.getElem?_toArray, List.getElem?_append_right (Nat.le_add_right _ _), Nat.add_sub_cancel_left]) (hr w' hw)
    · rw [List.range'_succ]
      exact wpAnyU_lex hB.1 q 0 _ a (Cl.start _ _) (fun j hj => by simp [List.getElem?_append_left hj]) hB.2 h
  rw [hsz]
  rw [hsz] at hg
  exact hg
end
/-- A world of a class. -/
structure WC (C : World → Prop) where
  w : World
  ok : C w
section
variable {P : Program} {C : World → Prop}
/-- A region that draws: the quiet walk of its first m operations over a class of worlds, then the others in their order. -/
theorem wp_region_tailC (m : Nat) {id : Nat} {Q : Exit → Act → World → Prop} {a : Act} {w : World} {k : List Oper} {o : Oper} {t : List Oper} (hm : P.follows .mixedOrders = true) (hC : C w.drew)
    (hc : k.drop m = o :: t) (hB : tailB k.toArray (k.take m).length t.length = true)
    (h : wpQuiet P k.toArray (fun w' => ∃ t : WC C, w' = t.w) (fun a' => ∀ w', (∃ t : WC C, w' = t.w) → wpList P k.toArray Q (o :: t) a' w') (k.take m) a) : (Code.region id k.toArray true).wp P Q a w := by
  obtain ⟨q, hq⟩ : ∃ q, k.take m = q := ⟨_, rfl⟩
  have e : k = q ++ o :: t := by rw [← hq, ← hc]; exact (List.take_append_drop m k).symm
  rw [hq] at h hB
  subst e
  exact wp_region_any hm (any_tailC (C := fun w' => ∃ t : WC C, w' = t.w) ⟨⟨w.drew, hC⟩, rfl⟩ hB h)
theorem quiet_load_class {o : Oper} {a : Act} {K : Act → Prop} (ty : TypeId) (x : Operand) (ho : o.op = .load ty x) (g : Nat) (hx : a.eval x = .pointer (some ⟨g, 0, none⟩)) (t : TypeId) (cs : Array Value) (d : TypeDesc)
    (hg : ∀ w, C w → w.heap[g]? = some (.cells cs t (0, 0))) (hu : P.underlying ty = some d) (hd : (match d with | .struct _ | .array _ _ => true | _ => false) = true) (hi : (P.info? ty).map (·.size) = some cs.size)
    (h : K (a.put o.dst (.agg cs))) : o.quiet P a (fun w' => ∃ t : WC C, w' = t.w) K := by
  refine ⟨.agg cs, ?_, h⟩
  rintro w ⟨t', rfl⟩
  have hg' := hg _ t'.ok
  unfold Oper.quietAt execOp
  simp only [ho, hx, Instr.loadAt, Instr.sureAddr, Sem.run_bind, Sem.run_pure, Result.andThen_ok, run_loadVar_row t'.w g t ty cs (0, 0) d hg' hu hd hi]
  exact ⟨rfl, rfl⟩
end
end Go.Proofs.Ytfppmpfmafnfmaa
