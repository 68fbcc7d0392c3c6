/- Texts laid into one, cut to what is needed: the remark ahead of each part says what is proved there. -/
import Derived.BigQuiet
import Derived.Deep.Quiet
import Derived.RangeFuncNested
import Derived.RangeFuncBound
import Derived.RangeFuncCalls
import Derived.RangeFuncLeaves
import Derived.OrdersIn
import Derived.TacticsIn
import Derived.Test.YtopibkoklagceaaRows
import Derived.WalkKit
import Derived.WalkSpells
import Derived.WalkLawsBesides
import Derived.Laws.BitsAllLaws
import Derived.Laws.Closers25b
import Derived.Laws.IdiomCopy
import Derived.Deep.RegionHeld3
import Derived.Deep.QuietTactic
/- A region that draws its order, whose operations only read but for the last one, for which all others must have come up: one walk in the text's order serves every order. -/
namespace Go.Proofs.Ytopibkoklagceaa.H
open Go

section
variable {P : Program} {ops : Array Oper} {md : Region.Mode} {C : World → Prop}

/-- n more operations that only read come up, in whatever order; then the last one. -/
def wpAnyT (P : Program) (md : Region.Mode) (ops : Array Oper) (C : World → Prop) (last : Nat) (R : Act → Prop) : Nat → Array Bool → Act → Prop
  | 0, listed, a => Region.ready md ops listed = [last] ∧ Region.ready md ops (listed.setIfInBounds last true) = [] ∧ R a
  | n + 1, listed, a => Region.ready md ops listed ≠ [] ∧ last ∉ Region.ready md ops listed ∧ ∀ i ∈ Region.ready md ops listed, qOp P ops C i (wpAnyT P md ops C last R n (listed.setIfInBounds i true)) a

theorem wpAny_of_T {last : Nat} {R : Act → Prop} {Q : Exit → Act → World → Prop} (hR : ∀ a w, C w → R a → wpOp P ops Q last (fun a w => Q .normal a w) a w) : ∀ (n : Nat) (listed : Array Bool) (a : Act) (w : World), C w →
    wpAnyT P md ops C last R n listed a → wpAny P md ops Q (n + 1) listed a w
  | 0, listed, a, w, hw, h => by
    obtain ⟨h1, h2, h3⟩ := h
    refine ⟨fun h0 => (by rw [h1] at h0; cases h0), fun i hi => ?_⟩
    rw [h1, List.mem_singleton] at hi
    subst hi
    exact wpOp_mono (fun a' w' hq => ⟨h2, hq⟩) (hR a w hw h3)
  | n + 1, listed, a, w, hw, h => by
    obtain ⟨h1, _, h3⟩ := h
    exact ⟨fun h0 => absurd h0 h1, fun i hi => wpOp_of_qOp hw (fun a' w' hw' hh => wpAny_of_T hR n _ a' w' hw' hh) (h3 i hi)⟩

theorem wpAnyT_first {last : Nat} {R : Act → Prop} {i : Nat} {oi ol : Oper} {v : Value} (hi : ops[i]? = some oi) (hol : ops[last]? = some ol) (hwait : ∃ e ∈ ol.after, Region.binds md e = true ∧ e.on = i)
    (hsel : ∀ (j : Nat) (o : Oper) cs b, ops[j]? = some o → o.op ≠ .select cs b) : ∀ (n : Nat) (listed : Array Bool) (a : Act),
      (∀ j oj, ops[j]? = some oj → j ≠ i → listed.getD j true = false → (∀ e ∈ oj.after, Region.binds md e = true → e.on ≠ i) → oi.apart ops oj = true) →
      i ∈ Region.ready md ops listed → YieldsIn P ops C oi v a →
      wpAnyT P md ops C last R n (listed.setIfInBounds i true) (a.put oi.dst v) → wpAnyT P md ops C last R (n + 1) listed a := by
  have hnl : ∀ listed : Array Bool, i ∈ Region.ready md ops listed → last ∉ Region.ready md ops listed := fun listed hr hl => by
    obtain ⟨_, o, ho, hall⟩ := mem_ready.1 hl
    obtain ⟨e, he, hb, hon⟩ := hwait
    rw [hol] at ho
    cases ho
    have h1 := hall e he hb
    have h0 := (mem_ready.1 hr).1
    rw [hon] at h1
    rcases Nat.lt_or_ge i listed.size with h' | h'
    · simp [h'] at h0 h1; rw [h0] at h1; cases h1
    · simp [Array.getElem?_eq_none h'] at h1
  intro n
  induction n with
  | zero =>
    intro listed a _ hr hy H
    refine ⟨fun h => (by rw [h] at hr; cases hr), hnl _ hr, fun j hj => ?_⟩
    by_cases hji : j = i
    · subst hji; exact hy.qOp hi H
    · have h1 := ready_mono hj hji
      rw [H.1, List.mem_singleton] at h1
      subst h1
      exact absurd hj (hnl _ hr)
  | succ n ih =>
    intro listed a hfree hr hy H
    refine ⟨fun h => (by rw [h] at hr; cases hr), hnl _ hr, fun j hj => ?_⟩
    by_cases hji : j = i
    · subst hji; exact hy.qOp hi H
    · have h1 := H.2.2 j (ready_mono hj hji)
      obtain ⟨hjun, oj, hoj, hall⟩ := mem_ready.1 hj
      have hnot : ∀ e ∈ oj.after, Region.binds md e = true → e.on ≠ i := fun e he hb heq => by
        have h1 := hall e he hb
        have h0 := (mem_ready.1 hr).1
        rw [heq] at h1
        rcases Nat.lt_or_ge i listed.size with h' | h'
        · simp [h'] at h0 h1; rw [h0] at h1; cases h1
        · simp [Array.getElem?_eq_none h'] at h1
      have h2 := qOp_put hoj (hfree j oj hoj hji hjun hnot) (fun cs b => hsel i oi cs b hi) (fun cs b => hsel j oj cs b hoj) hy h1
      refine qOp_mono (fun a' h3 => ih (listed.setIfInBounds j true) a' (fun k ok hk hki hun hno => ?_) (ready_mono hr (Ne.symm hji)) h3.1 ?_) h2
      · refine hfree k ok hk hki ?_ hno
        by_cases hjk : j = k
        · subst hjk; exact hjun
        · rw [getD_set_ne true hjk] at hun; exact hun
      · rw [Array.setIfInBounds_comm _ _ hji]
        exact h3.2

/-- Held by reckoning: the operations up to the last may come up in the text's order, each apart from what does not wait for it; the last waits for all. -/
def lexT (md : Region.Mode) (ops : Array Oper) (last : Nat) : Nat → Nat → Array Bool → Bool
  | 0, _, listed => decide (Region.ready md ops listed = [last]) && (Region.ready md ops (listed.setIfInBounds last true)).isEmpty
  | n + 1, k, listed => (Region.ready md ops listed).contains k && Region.free md ops listed k && (match ops[last]? with | some ol => ol.after.any (fun e => Region.binds md e && e.on == k) | none => false) && lexT md ops last n (k + 1) (listed.setIfInBounds k true)

theorem wpAnyT_lex {last : Nat} {R : Act → Prop} (hs : Region.noSelect ops = true) : ∀ (l : List Oper) (k : Nat) (listed : Array Bool) (a : Act), (∀ j, j < l.length → l[j]? = ops[k + j]?) →
    lexT md ops last l.length k listed = true → wpQuiet P ops C R l a → wpAnyT P md ops C last R l.length listed a
  | [], _, _, _, _, hB, h => by
    simp only [List.length_nil, lexT, Bool.and_eq_true, decide_eq_true_eq, List.isEmpty_iff] at hB
    exact ⟨hB.1, hB.2, h⟩
  | o :: l, k, listed, a, hl, hB, h => by
    have h0 : ops[k]? = some o := by simpa using (hl 0 (by simp)).symm
    simp only [List.length_cons, lexT, Bool.and_eq_true] at hB
    obtain ⟨⟨⟨hr, hf⟩, hw⟩, hB'⟩ := hB
    cases hol : ops[last]? with
    | none => simp [hol] at hw
    | some ol =>
      have hwait : ∃ e ∈ ol.after, Region.binds md e = true ∧ e.on = k := by
        simp only [hol, Array.any_eq_true', Bool.and_eq_true, beq_iff_eq] at hw
        obtain ⟨e, he, h1, h2⟩ := hw
        exact ⟨e, he, h1, h2⟩
      have hst : qOp P ops C k (wpQuiet P ops C R l) a := by unfold qOp; simp only [h0]; exact h
      obtain ⟨v, hy, hK⟩ := yieldsIn_of_qOp h0 hst
      exact wpAnyT_first h0 hol hwait (Region.noSelect_spec hs) l.length listed a (Region.free_spec h0 hf) (by simpa using hr) hy
        (wpAnyT_lex hs l (k + 1) _ _ (fun j hj => by have := hl (j + 1) (by simp; omega); simpa [Nat.add_assoc, Nat.add_comm 1 j] using this) hB' hK)

def lastB (ops : Array Oper) : Bool := Region.noSelect ops && lexT .any ops (ops.size - 1) (ops.size - 1) 0 (Array.replicate ops.size false)

/-- The region's law: the quiet walk of all but the last, then the last one, as in a plain region. -/
theorem wp_region_last {id : Nat} {Q : Exit → Act → World → Prop} {a : Act} {w : World} {l : List Oper} {o : Oper} (hm : P.follows .mixedOrders = true) (hB : lastB (l ++ [o]).toArray = true)
    (h : wpQuiet P (l ++ [o]).toArray (fun w' => ∃ n, w' = w.drewN n) (fun a' => ∀ n, wpList P (l ++ [o]).toArray Q [o] a' (w.drewN n)) l a) : (Code.region id (l ++ [o]).toArray true).wp P Q a w := by
  simp only [lastB, Bool.and_eq_true] at hB
  have hsz : (l ++ [o]).toArray.size = l.length + 1 := by simp
  rw [hsz] at hB
  refine wp_region_any hm ?_
  rw [hsz]
  refine wpAny_of_T (C := fun w' => ∃ n, w' = w.drewN n) (last := l.length) (R := fun a' => ∀ n, wpList P (l ++ [o]).toArray Q [o] a' (w.drewN n)) ?_ l.length _ _ _ ⟨1, rfl⟩ ?_
  · rintro a' w' ⟨n, rfl⟩ hr
    have h1 := hr n
    unfold wpOp
    rw [show (l ++ [o]).toArray[l.length]? = some o by simp]
    exact h1
  · exact wpAnyT_lex hB.1 l 0 _ a (fun j hj => by simp [List.getElem?_append_left hj]) (by simpa using hB.2) h
/-- The same, the list cut by the kernel. -/
theorem wp_region_last_lit {id : Nat} {Q : Exit → Act → World → Prop} {a : Act} {w : World} {x : Oper} {r : List Oper} (hm : P.follows .mixedOrders = true) (hB : lastB (x :: r).toArray = true)
    (h : wpQuiet P (x :: r).toArray (fun w' => ∃ n, w' = w.drewN n) (fun a' => ∀ n, wpList P (x :: r).toArray Q [(x :: r).getLast (List.cons_ne_nil x r)] a' (w.drewN n)) (x :: r).dropLast a) : (Code.region id (x :: r).toArray true).wp P Q a w := by
  have e : (x :: r) = (x :: r).dropLast ++ [(x :: r).getLast (List.cons_ne_nil x r)] := (List.dropLast_concat_getLast (List.cons_ne_nil x r)).symm
  have key : ∀ k : List Oper, k = (x :: r).dropLast ++ [(x :: r).getLast (List.cons_ne_nil x r)] → lastB k.toArray = true → wpQuiet P k.toArray (fun w' => ∃ n, w' = w.drewN n) (fun a' => ∀ n, wpList P k.toArray Q [(x :: r).getLast (List.cons_ne_nil x r)] a' (w.drewN n)) (x :: r).dropLast a → (Code.region id k.toArray true).wp P Q a w := by
    intro k hk hB' h'
    subst hk
    exact wp_region_last hm hB' h'
  exact key (x :: r) e hB h
end
end Go.Proofs.Ytopibkoklagceaa.H

/- A loop's body within a range over a function: its regions walked as everywhere (no fence, no round), and regions that draw their order of which the last operations write. -/
namespace Go.Proofs.Ytopibkoklagceaa.H
open Go Go.RowKit

section
variable {P : Program} {ops : Array Oper} {Q : Exit → Act → World → Prop} {md : Region.Mode} {l n : Nat}

abbrev rndF (l : Nat) : Fence := Fence.wide.inRound l
theorem calls_rnd {f : FuncId} {args : Array Value} {w : World} {R : Ending → World → Prop} (h : Calls P f args w R) : CallsIn (rndF l) n P f args w R := CallsIn.inRound l (callsIn_wide.2 h)
theorem rows_rnd {row : String} {args : Array Value} {w : World} {R : Value → World → Prop} (h : Rows P row args w R) : RowsIn (rndF l) n P row args w R :=
  fun c cs _ => let ⟨v, w', r, s⟩ := h c cs; ⟨v, w', r, stepsIn_wide.2 s⟩

def noDefer (ops : Array Oper) : Bool := ops.all fun o => match o.op with | .defer _ => false | _ => true
theorem noDefer_at {o : Oper} (h : noDefer ops = true) (ho : o ∈ ops) : ∀ c, o.op ≠ .defer c := by
  intro c e
  have := Array.all_eq_true_iff_forall_mem.1 h o ho
  simp [e] at this

theorem oper_rnd {o : Oper} {a : Act} {w : World} {K : Act → World → Prop} (hd : ∀ c, o.op ≠ .defer c) (h : o.wp P a w K Q) : o.wpIn (rndF l) n P a w K Q := by
  refine ⟨fun _ _ => trivial, ?_⟩
  rw [Oper.semAt_eq _ _ _ hd]
  unfold Oper.wp at h
  generalize (execOp a.eval o).run P w = r at *
  cases r with
  | ok x w' =>
    cases x <;> simp only [Oper.upon, Oper.uponIn] at h ⊢ <;>
      first
        | exact h
        | exact ⟨fun e => (by cases e), calls_rnd h⟩
        | exact ⟨fun e => (by cases e), rows_rnd h⟩
        | exact h.elim
  | halt x w' => cases x <;> simp only [Oper.upon, Oper.uponIn] at h ⊢ <;> exact h

theorem list_rnd (hQ : ¬ LetsOut Q) : ∀ (k : List Oper) (a : Act) (w : World), (∀ o ∈ k, ∀ c, o.op ≠ .defer c) → wpList P ops Q k a w → wpListIn (rndF l) n P ops Q k a w
  | [], _, _, _, h => h
  | o :: k, a, w, hd, h => by
    unfold wpList at h
    unfold wpListIn
    have ih := fun a w => list_rnd hQ k a w (fun o' ho' => hd o' (List.mem_cons_of_mem _ ho'))
    split
    · rename_i hw
      rw [if_pos hw] at h
      rcases h with h | h
      · exact Oper.wpIn_mono (fun a w h => ih a w h) (oper_rnd (hd o (List.mem_cons_self ..)) h)
      · exact absurd h.2 hQ
    · rename_i hw
      rw [if_neg hw] at h
      exact ⟨fun _ _ => trivial, ih _ _ h⟩

theorem op_rnd (hQ : ¬ LetsOut Q) (hd : noDefer ops = true) {i : Nat} {K : Act → World → Prop} {a : Act} {w : World} (h : wpOp P ops Q i K a w) : wpOpIn (rndF l) n P ops Q i K a w := by
  unfold wpOp at h
  unfold wpOpIn
  cases ho : ops[i]? with
  | none => simpa [ho] using h
  | some o =>
    simp only [ho] at h ⊢
    split
    · rename_i hw
      rw [if_pos hw] at h
      rcases h with h | h
      · exact oper_rnd (noDefer_at hd (Array.mem_of_getElem? ho)) h
      · exact absurd h.2 hQ
    · rename_i hw
      rw [if_neg hw] at h
      exact ⟨fun _ _ => trivial, h⟩

theorem any_rnd (hQ : ¬ LetsOut Q) (hd : noDefer ops = true) : ∀ (k : Nat) (listed : Array Bool) (a : Act) (w : World), wpAny P md ops Q k listed a w → wpAnyIn (rndF l) n P md ops Q k listed a w
  | 0, _, _, _, h => h
  | k + 1, _, _, _, h => ⟨h.1, fun i hi => wpOpIn_mono (fun a w h => any_rnd hQ hd k _ a w h) (op_rnd hQ hd (h.2 i hi))⟩

/-- A region in a round, walked plain. -/
theorem round_list {id : Nat} {k : List Oper} {a : Act} {w : World} (hQ : ∀ a w, Q .outgrown a w → False) (hd : noDefer k.toArray = true) (h : wpList P k.toArray Q k a w) : (Code.region id k.toArray false).wpIn (rndF l) n P Q a w :=
  wpIn_region_lit (list_rnd (fun ⟨a, w, q⟩ => hQ a w q) k a w (fun o ho => noDefer_at hd (by simpa using ho)) h)
theorem round_any {id : Nat} {a : Act} {w : World} (hm : P.follows .mixedOrders = true) (hQ : ∀ a w, Q .outgrown a w → False) (hd : noDefer ops = true)
    (h : wpAny P .any ops Q ops.size (Array.replicate ops.size false) a w.drew) : (Code.region id ops true).wpIn (rndF l) n P Q a w :=
  wpIn_region_any hm (any_rnd (fun ⟨a, w, q⟩ => hQ a w q) hd _ _ _ _ h)
end

section
variable {P : Program} {ops : Array Oper} {md : Region.Mode} {C : World → Prop}

/-- What is listed has all listed for which it waits. -/
def Cl (md : Region.Mode) (ops : Array Oper) (listed : Array Bool) : Prop := ∀ j o, ops[j]? = some o → listed.getD j false = true → ∀ e ∈ o.after, Region.binds md e = true → listed.getD e.on false = true
theorem getD_flip {listed : Array Bool} {j : Nat} (h : listed.getD j true = false) : listed.getD j false = false := by
  rcases Nat.lt_or_ge j listed.size with h' | h'
  · simp [h'] at h ⊢; exact h
  · simp [Array.getElem?_eq_none h'] at h
theorem Cl.set {listed : Array Bool} {i : Nat} (h : Cl md ops listed) (hi : i ∈ Region.ready md ops listed) : Cl md ops (listed.setIfInBounds i true) := by
  intro j o ho hj e he hb
  obtain ⟨hun, oi, hoi, hall⟩ := mem_ready.1 hi
  by_cases hji : j = i
  · subst hji
    rw [ho] at hoi; cases hoi
    exact getD_set_true (hall e he hb)
  · rw [getD_set_ne false (Ne.symm hji)] at hj
    exact getD_set_true (h j o ho hj e he hb)
def waitsOn (md : Region.Mode) (ops : Array Oper) : Nat → Nat → Nat → Bool
  | 0, _, _ => false
  | f + 1, j, i => match ops[j]? with
    | none => false
    | some o => o.after.any fun e => Region.binds md e && (e.on == i || waitsOn md ops f e.on i)
theorem waits_listed {listed : Array Bool} (hc : Cl md ops listed) : ∀ (f j i : Nat), waitsOn md ops f j i = true → (listed.getD j false = true ∨ j ∈ Region.ready md ops listed) → listed.getD i false = true
  | 0, _, _, h, _ => by cases h
  | f + 1, j, i, h, hj => by
    unfold waitsOn at h
    cases ho : ops[j]? with
    | none => simp [ho] at h
    | some o =>
      simp only [ho, Array.any_eq_true', Bool.and_eq_true, Bool.or_eq_true, beq_iff_eq] at h
      obtain ⟨e, he, hb, h⟩ := h
      have hl : listed.getD e.on false = true := by
        rcases hj with hj | hj
        · exact hc j o ho hj e he hb
        · obtain ⟨_, o', ho', hall⟩ := mem_ready.1 hj
          rw [ho] at ho'; cases ho'
          exact hall e he hb
      rcases h with h | h
      · rw [← h]; exact hl
      · exact waits_listed hc f e.on i h (.inl hl)

/-- The operations tl come up one behind the other, and nothing else does. -/
def forced (md : Region.Mode) (ops : Array Oper) : List Nat → Array Bool → Prop
  | [], listed => Region.ready md ops listed = []
  | k :: ks, listed => Region.ready md ops listed = [k] ∧ forced md ops ks (listed.setIfInBounds k true)
def tailW (P : Program) (ops : Array Oper) (Q : Exit → Act → World → Prop) : List Nat → Act → World → Prop
  | [], a, w => Q .normal a w
  | k :: ks, a, w => wpOp P ops Q k (tailW P ops Q ks) a w
theorem any_of_forced {Q : Exit → Act → World → Prop} : ∀ (ks : List Nat) (listed : Array Bool) (a : Act) (w : World), forced md ops ks listed → tailW P ops Q ks a w → wpAny P md ops Q ks.length listed a w
  | [], _, _, _, hf, h => ⟨hf, h⟩
  | k :: ks, listed, a, w, hf, h => by
    refine ⟨fun h0 => (by rw [hf.1] at h0; cases h0), fun i hi => ?_⟩
    rw [hf.1, List.mem_singleton] at hi
    subst hi
    exact wpOp_mono (fun a w h => any_of_forced ks _ a w hf.2 h) h

/-- n more operations that only read come up, in whatever order; then those of the tail. -/
def wpAnyU (P : Program) (md : Region.Mode) (ops : Array Oper) (C : World → Prop) (tl : List Nat) (R : Act → Prop) : Nat → Array Bool → Act → Prop
  | 0, listed, a => forced md ops tl listed ∧ R a
  | n + 1, listed, a => Region.ready md ops listed ≠ [] ∧ ∀ i ∈ Region.ready md ops listed, qOp P ops C i (wpAnyU P md ops C tl R n (listed.setIfInBounds i true)) a

theorem wpAny_of_U {tl : List Nat} {R : Act → Prop} {Q : Exit → Act → World → Prop} (hR : ∀ a w, C w → R a → tailW P ops Q tl a w) : ∀ (n : Nat) (listed : Array Bool) (a : Act) (w : World), C w →
    wpAnyU P md ops C tl R n listed a → wpAny P md ops Q (n + tl.length) listed a w
  | 0, listed, a, w, hw, h => by
    rw [Nat.zero_add]
    exact any_of_forced tl listed a w h.1 (hR a w hw h.2)
  | n + 1, listed, a, w, hw, h => by
    obtain ⟨h1, h3⟩ := h
    rw [Nat.add_right_comm]
    exact ⟨fun h0 => absurd h0 h1, fun i hi => wpOp_of_qOp hw (fun a' w' hw' hh => wpAny_of_U hR n _ a' w' hw' hh) (h3 i hi)⟩

theorem wpAnyU_first {last : Nat} {ks : List Nat} {R : Act → Prop} {i f : Nat} {oi : Oper} {v : Value} (hi : ops[i]? = some oi) (hwait : waitsOn md ops f last i = true)
    (hsel : ∀ (j : Nat) (o : Oper) cs b, ops[j]? = some o → o.op ≠ .select cs b) : ∀ (n : Nat) (listed : Array Bool) (a : Act), Cl md ops listed →
      (∀ j oj, ops[j]? = some oj → j ≠ i → listed.getD j true = false → (∀ e ∈ oj.after, Region.binds md e = true → e.on ≠ i) → oi.apart ops oj = true) →
      i ∈ Region.ready md ops listed → YieldsIn P ops C oi v a →
      wpAnyU P md ops C (last :: ks) R n (listed.setIfInBounds i true) (a.put oi.dst v) → wpAnyU P md ops C (last :: ks) R (n + 1) listed a := by
  have hnl : ∀ listed : Array Bool, Cl md ops listed → i ∈ Region.ready md ops listed → last ∉ Region.ready md ops listed := fun listed hc hr hl => by
    have h1 := waits_listed hc f last i hwait (.inr hl)
    have h0 := getD_flip (mem_ready.1 hr).1
    rw [h0] at h1; cases h1
  intro n
  induction n with
  | zero =>
    intro listed a hc _ hr hy H
    refine ⟨fun h => (by rw [h] at hr; cases hr), fun j hj => ?_⟩
    by_cases hji : j = i
    · subst hji; exact hy.qOp hi H
    · have h1 := ready_mono hj hji
      rw [H.1.1, List.mem_singleton] at h1
      subst h1
      exact absurd hj (hnl _ hc hr)
  | succ n ih =>
    intro listed a hc hfree hr hy H
    refine ⟨fun h => (by rw [h] at hr; cases hr), fun j hj => ?_⟩
    by_cases hji : j = i
    · subst hji; exact hy.qOp hi H
    · have h1 := H.2 j (ready_mono hj hji)
      obtain ⟨hjun, oj, hoj, hall⟩ := mem_ready.1 hj
      have hnot : ∀ e ∈ oj.after, Region.binds md e = true → e.on ≠ i := fun e he hb heq => by
        have h1 := hall e he hb
        have h0 := getD_flip (mem_ready.1 hr).1
        rw [heq, h0] at h1; cases h1
      have h2 := qOp_put hoj (hfree j oj hoj hji hjun hnot) (fun cs b => hsel i oi cs b hi) (fun cs b => hsel j oj cs b hoj) hy h1
      refine qOp_mono (fun a' h3 => ih (listed.setIfInBounds j true) a' (hc.set hj) (fun k ok hk hki hun hno => ?_) (ready_mono hr (Ne.symm hji)) h3.1 ?_) h2
      · refine hfree k ok hk hki ?_ hno
        by_cases hjk : j = k
        · subst hjk; exact hjun
        · rw [getD_set_ne true hjk] at hun; exact hun
      · rw [Array.setIfInBounds_comm _ _ hji]
        exact h3.2

def forcedB (md : Region.Mode) (ops : Array Oper) : List Nat → Array Bool → Bool
  | [], listed => (Region.ready md ops listed).isEmpty
  | k :: ks, listed => decide (Region.ready md ops listed = [k]) && forcedB md ops ks (listed.setIfInBounds k true)
theorem forced_of : ∀ (ks : List Nat) (listed : Array Bool), forcedB md ops ks listed = true → forced md ops ks listed
  | [], _, h => List.isEmpty_iff.1 h
  | k :: ks, listed, h => by
    simp only [forcedB, Bool.and_eq_true, decide_eq_true_eq] at h
    exact ⟨h.1, forced_of ks _ h.2⟩
def lexU (md : Region.Mode) (ops : Array Oper) (tl : List Nat) : Nat → Nat → Array Bool → Bool
  | 0, _, listed => forcedB md ops tl listed
  | n + 1, k, listed => (Region.ready md ops listed).contains k && Region.free md ops listed k && (match tl with | [] => false | last :: _ => waitsOn md ops ops.size last k) && lexU md ops tl n (k + 1) (listed.setIfInBounds k true)

theorem wpAnyU_lex {last : Nat} {ks : List Nat} {R : Act → Prop} (hs : Region.noSelect ops = true) : ∀ (l : List Oper) (k : Nat) (listed : Array Bool) (a : Act), Cl md ops listed → (∀ j, j < l.length → l[j]? = ops[k + j]?) →
    lexU md ops (last :: ks) l.length k listed = true → wpQuiet P ops C R l a → wpAnyU P md ops C (last :: ks) R l.length listed a
  | [], _, _, _, _, _, hB, h => ⟨forced_of _ _ hB, h⟩
  | o :: l, k, listed, a, hc, hl, hB, h => by
    have h0 : ops[k]? = some o := by simpa using (hl 0 (by simp)).symm
    simp only [List.length_cons, lexU, Bool.and_eq_true] at hB
    obtain ⟨⟨⟨hr, hf⟩, hw⟩, hB'⟩ := hB
    have hr' : k ∈ Region.ready md ops listed := by simpa using hr
    have hst : qOp P ops C k (wpQuiet P ops C R l) a := by unfold qOp; simp only [h0]; exact h
    obtain ⟨v, hy, hK⟩ := yieldsIn_of_qOp h0 hst
    exact wpAnyU_first h0 hw (Region.noSelect_spec hs) l.length listed a hc (Region.free_spec h0 hf) hr' hy
      (wpAnyU_lex hs l (k + 1) _ _ (hc.set hr') (fun j hj => by have := hl (j + 1) (by simp; omega); simpa [Nat.add_assoc, Nat.add_comm 1 j] using this) hB' hK)

theorem Cl.start (ops : Array Oper) (n : Nat) : Cl md ops (Array.replicate n false) := fun j o _ hj => by
  rcases Nat.lt_or_ge j n with h | h
  · simp [h] at hj
  · have : (Array.replicate n false)[j]? = none := Array.getElem?_eq_none (by simpa using h)
    simp [this] at hj

def tailB (ops : Array Oper) (m k : Nat) : Bool := Region.noSelect ops && lexU .any ops (List.range' m (k + 1)) m 0 (Array.replicate ops.size false)

theorem tailW_list {Q : Exit → Act → World → Prop} : ∀ (t : List Oper) (m : Nat) (a : Act) (w : World), (∀ j, j < t.length → t[j]? = ops[m + j]?) → wpList P ops Q t a w → tailW P ops Q (List.range' m t.length) a w
  | [], _, _, _, _, h => h
  | o :: t, m, a, w, hl, h => by
    have h0 : ops[m]? = some o := by simpa using (hl 0 (by simp)).symm
    have ih := fun a w => tailW_list t (m + 1) a w (fun j hj => by have := hl (j + 1) (by simp; omega); simpa [Nat.add_assoc, Nat.add_comm 1 j] using this) (Q := Q)
    simp only [List.length_cons, List.range'_succ, tailW, wpOp, h0]
    unfold wpList at h
    split
    · rename_i hw
      rw [if_pos hw] at h
      exact h.imp (fun h => Oper.wp_mono (fun a w h => ih a w h) h) id
    · rename_i hw
      rw [if_neg hw] at h
      exact ih _ _ h

/-- A region that draws: the quiet walk of q, then those of t, as in a plain region. -/
theorem any_tail {Q : Exit → Act → World → Prop} {a : Act} {w : World} {q t : List Oper} {o : Oper} (hB : tailB (q ++ o :: t).toArray q.length t.length = true)
    (h : wpQuiet P (q ++ o :: t).toArray (fun w' => ∃ n, w' = w.drewN n) (fun a' => ∀ n, wpList P (q ++ o :: t).toArray Q (o :: t) a' (w.drewN n)) q a) :
    wpAny P .any (q ++ o :: t).toArray Q (q ++ o :: t).toArray.size (Array.replicate (q ++ o :: t).toArray.size false) a w.drew := by
  simp only [tailB, Bool.and_eq_true, List.range'_succ] at hB
  have hsz : (q ++ o :: t).toArray.size = q.length + (List.range' q.length (t.length + 1)).length := by simp
  have hg : wpAny P .any (q ++ o :: t).toArray Q (q.length + (List.range' q.length (t.length + 1)).length) (Array.replicate (q ++ o :: t).toArray.size false) a w.drew := by
    refine wpAny_of_U (C := fun w' => ∃ n, w' = w.drewN n) (R := fun a' => ∀ n, wpList P (q ++ o :: t).toArray Q (o :: t) a' (w.drewN n)) ?_ q.length _ _ _ ⟨1, rfl⟩ ?_
    · rintro a' w' ⟨n, rfl⟩ hr
      exact tailW_list (o :: t) q.length a' _ (fun j _ => by rw [List.getElem?_toArray, List.getElem?_append_right (Nat.le_add_right _ _), Nat.add_sub_cancel_left]) (hr n)
    · rw [List.range'_succ]
      exact wpAnyU_lex hB.1 q 0 _ a (Cl.start _ _) (fun j hj => by simp [List.getElem?_append_left hj]) hB.2 h
  rw [hsz]
  rw [hsz] at hg
  exact hg
/-- Cut behind m operations by the kernel. -/
theorem any_tail_at (m : Nat) {Q : Exit → Act → World → Prop} {a : Act} {w : World} {k : List Oper} {o : Oper} {t : List Oper} (hc : k.drop m = o :: t) (hB : tailB k.toArray (k.take m).length t.length = true)
    (h : wpQuiet P k.toArray (fun w' => ∃ n, w' = w.drewN n) (fun a' => ∀ n, wpList P k.toArray Q (o :: t) a' (w.drewN n)) (k.take m) a) :
    wpAny P .any k.toArray Q k.toArray.size (Array.replicate k.toArray.size false) a w.drew := by
  obtain ⟨q, hq⟩ : ∃ q, k.take m = q := ⟨_, rfl⟩
  have e : k = q ++ o :: t := by rw [← hq, ← hc]; exact (List.take_append_drop m k).symm
  rw [hq] at h hB
  subst e
  exact any_tail hB h
theorem round_tail {l n : Nat} (m : Nat) {id : Nat} {Q : Exit → Act → World → Prop} {a : Act} {w : World} {k : List Oper} {o : Oper} {t : List Oper} (hm : P.follows .mixedOrders = true) (hQ : ∀ a w, Q .outgrown a w → False)
    (hd : noDefer k.toArray = true) (hc : k.drop m = o :: t) (hB : tailB k.toArray (k.take m).length t.length = true)
    (h : wpQuiet P k.toArray (fun w' => ∃ n, w' = w.drewN n) (fun a' => ∀ n, wpList P k.toArray Q (o :: t) a' (w.drewN n)) (k.take m) a) : (Code.region id k.toArray true).wpIn (rndF l) n P Q a w :=
  round_any hm hQ hd (any_tail_at m hc hB h)
end
end Go.Proofs.Ytopibkoklagceaa.H

/- Words of 32 bits, SHA-256's rounds and blocks as plain mathematics, and the walk's own spelling of sums and bits against it. -/
namespace Go.Proofs.Ytopibkoklagceaa.H
open Go.RowKit

theorem hid {p : Prop} (h : p) : Hid p := h
/-- A word of 32 bits, as the number that the program has. -/
def wv (x : BitVec 32) : Int := ((x.toNat : Nat) : Int)
theorem wv_nonneg (x : BitVec 32) : 0 ≤ wv x := by unfold wv; omega
theorem wv_lt (x : BitVec 32) : wv x < 4294967296 := by unfold wv; have := x.isLt; omega
theorem wadd (x y : BitVec 32) : (wv x + wv y) % 4294967296 = wv (x + y) := by
  unfold wv; rw [BitVec.toNat_add]; omega
theorem wxor (x y : BitVec 32) : bits .xor .u32 (wv x) (wv y) = wv (x ^^^ y) := by
  unfold wv; rw [u32_xor_nat _ _ x.isLt y.isLt, BitVec.toNat_xor]
theorem wand (x y : BitVec 32) : bits .and .u32 (wv x) (wv y) = wv (x &&& y) := by
  unfold wv; rw [u32_and_nat _ _ x.isLt y.isLt, BitVec.toNat_and]
theorem wor (x y : BitVec 32) : bits .or .u32 (wv x) (wv y) = wv (x ||| y) := by
  unfold wv; rw [u32_or_nat _ _ x.isLt y.isLt, BitVec.toNat_or]
theorem wnot (x : BitVec 32) : bits .xor .u32 (if IntKind.u32.signed = true then -1 else IntKind.u32.max) (wv x) = wv (~~~x) := by
  have h : (if IntKind.u32.signed = true then -1 else IntKind.u32.max) = wv (4294967295#32) := by decide
  rw [h, wxor, BitVec.xor_comm]
  congr 1
  rw [show (4294967295#32) = BitVec.allOnes 32 by decide, BitVec.xor_allOnes]
theorem wshr (x : BitVec 32) (k : Nat) : wv x / 2 ^ k = wv (x >>> k) := by
  unfold wv; rw [BitVec.toNat_ushiftRight, Nat.shiftRight_eq_div_pow]; simp
theorem wshl (x : BitVec 32) (k : Nat) : wv x * 2 ^ k % 4294967296 = wv (x <<< k) := by
  unfold wv; rw [BitVec.toNat_shiftLeft, Nat.shiftLeft_eq]; simp
theorem waddW (x y : BitVec 32) : IntKind.u32.wrap (wv x + wv y) = wv (x + y) := by rw [IntKind.wrap_u32, wadd]
def rr (x : BitVec 32) (n : Nat) : BitVec 32 := (x >>> n) ||| (x <<< (32 - n))

theorem u64_low (n : Nat) (h0 : 1 ≤ n) (h1 : n ≤ 31) : bits .and .u64 (IntKind.u64.wrap (-(n : Int))) 31 = ((32 - n : Nat) : Int) := by
  have h : ∀ k : Fin 31, bits .and .u64 (IntKind.u64.wrap (-((k.val + 1 : Nat) : Int))) 31 = ((32 - (k.val + 1) : Nat) : Int) := by decide +kernel
  have := h ⟨n - 1, by omega⟩
  simpa [show n - 1 + 1 = n by omega] using this

theorem rotl_any (x : BitVec 32) (n : Nat) (h0 : 1 ≤ n) (h1 : n ≤ 31) (w : World) :
    Calls Try.prog 65 #[.int .u32 (wv x), .int .i64 (-(n : Int))] w fun e w' => e = .returned (.int .u32 (wv (rr x n))) ∧ w' = w := by
  have l := u64_low n h0 h1
  have l2 : ((32 - n : Nat) : Int) = 32 - (n : Int) := by omega
  rw [l2] at l
  go_enter Try.func65, Try.ntmps65
  go_wp2
  go_ret
  refine ⟨?_, rfl⟩
  show Ending.returned (.int .u32 _) = _
  rw [wshl, wshr, wor, show 32 - (32 - n) = n by omega]
  unfold rr
  rw [BitVec.or_comm]
theorem right_any (x : BitVec 32) (i : Int) (n : Nat) (hi : i = (n : Int)) (h0 : 1 ≤ n) (h1 : n ≤ 31) (w : World) :
    Calls Try.prog 49 #[.int .u32 (wv x), .int .i64 i] w fun e w' => e = .returned (.int .u32 (wv (rr x n))) ∧ w' = w := by
  subst hi
  go_enter Try.func49, Try.ntmps49
  go_wp2_with (go_at_call 65; refine (rotl_any x n h0 h1 _).mono ?_; rintro e w' ⟨rfl, rfl⟩)
  go_ret
  exact ⟨rfl, rfl⟩
theorem right_i (x : BitVec 32) (i : Int) (h0 : 1 ≤ i) (h1 : i ≤ 31) (w : World) :
    Calls Try.prog 49 #[.int .u32 (wv x), .int .i64 i] w fun e w' => e = .returned (.int .u32 (wv (rr x i.toNat))) ∧ w' = w :=
  right_any x i i.toNat (by omega) (by omega) (by omega) w
end Go.Proofs.Ytopibkoklagceaa.H

/- SHA-256 as plain mathematics: a block's words, the rounds, the blocks one behind the other, the filling up; and that mixing block by block with a filled-up end is mixing the filled-up whole. -/
namespace Go.Proofs.Ytopibkoklagceaa.H
open Go.RowKit

def sg0 (x : BitVec 32) : BitVec 32 := rr x 7 ^^^ rr x 18 ^^^ (x >>> 3)
def sg1 (x : BitVec 32) : BitVec 32 := rr x 17 ^^^ rr x 19 ^^^ (x >>> 10)
/-- A block's word t, as far as its j-th byte. -/
def wpart (x : Nat → Nat) (t : Nat) : Nat → BitVec 32
  | 0 => 0
  | j + 1 => (wpart x t j <<< 8) ||| BitVec.ofNat 32 (x (4 * t + j))
def word (x : Nat → Nat) (t : Nat) : BitVec 32 := wpart x t 4
/-- The first n words of a block, and those that follow from them. -/
def schL (x : Nat → Nat) : Nat → List (BitVec 32)
  | 0 => []
  | n + 1 => schL x n ++ [if n < 16 then word x n else sg1 ((schL x n).getD (n - 2) 0) + (schL x n).getD (n - 7) 0 + sg0 ((schL x n).getD (n - 15) 0) + (schL x n).getD (n - 16) 0]
def sch (x : Nat → Nat) (t : Nat) : BitVec 32 := (schL x (t + 1)).getD t 0
theorem schL_len (x : Nat → Nat) : ∀ n, (schL x n).length = n
  | 0 => rfl
  | n + 1 => by simp [schL, schL_len x n]
theorem schL_get (x : Nat → Nat) (t : Nat) : ∀ n, t < n → (schL x n).getD t 0 = sch x t
  | 0, h => by omega
  | n + 1, h => by
    by_cases e : t = n
    · subst e; rfl
    · have : (schL x (n + 1)).getD t 0 = (schL x n).getD t 0 := by
        rw [schL]; simp only [List.getD_eq_getElem?_getD]
        rw [List.getElem?_append_left (by rw [schL_len]; omega)]
      rw [this, schL_get x t n (by omega)]
theorem sch_last (x : Nat → Nat) (n : Nat) : sch x n = (if n < 16 then word x n else sg1 ((schL x n).getD (n - 2) 0) + (schL x n).getD (n - 7) 0 + sg0 ((schL x n).getD (n - 15) 0) + (schL x n).getD (n - 16) 0) := by
  unfold sch; rw [schL]; simp only [List.getD_eq_getElem?_getD]
  rw [List.getElem?_append_right (by rw [schL_len]; omega), schL_len]; simp
theorem sch_low (x : Nat → Nat) (t : Nat) (h : t < 16) : sch x t = word x t := by rw [sch_last, if_pos h]
theorem sch_high (x : Nat → Nat) (t : Nat) (h : 16 ≤ t) : sch x t = sg1 (sch x (t - 2)) + sch x (t - 7) + sg0 (sch x (t - 15)) + sch x (t - 16) := by
  rw [sch_last, if_neg (by omega), schL_get _ _ _ (by omega), schL_get _ _ _ (by omega), schL_get _ _ _ (by omega), schL_get _ _ _ (by omega)]
/-- The eight words. -/
structure St where
  a : BitVec 32
  b : BitVec 32
  c : BitVec 32
  d : BitVec 32
  e : BitVec 32
  f : BitVec 32
  g : BitVec 32
  h : BitVec 32
def St.get (s : St) : Nat → BitVec 32
  | 0 => s.a
  | 1 => s.b
  | 2 => s.c
  | 3 => s.d
  | 4 => s.e
  | 5 => s.f
  | 6 => s.g
  | _ => s.h
def kL : List (BitVec 32) := [0x428a2f98#32, 0x71374491#32, 0xb5c0fbcf#32, 0xe9b5dba5#32, 0x3956c25b#32, 0x59f111f1#32, 0x923f82a4#32, 0xab1c5ed5#32, 0xd807aa98#32, 0x12835b01#32, 0x243185be#32, 0x550c7dc3#32, 0x72be5d74#32, 0x80deb1fe#32, 0x9bdc06a7#32, 0xc19bf174#32, 0xe49b69c1#32, 0xefbe4786#32, 0x0fc19dc6#32, 0x240ca1cc#32, 0x2de92c6f#32, 0x4a7484aa#32, 0x5cb0a9dc#32, 0x76f988da#32, 0x983e5152#32, 0xa831c66d#32, 0xb00327c8#32, 0xbf597fc7#32, 0xc6e00bf3#32, 0xd5a79147#32, 0x06ca6351#32, 0x14292967#32, 0x27b70a85#32, 0x2e1b2138#32, 0x4d2c6dfc#32, 0x53380d13#32, 0x650a7354#32, 0x766a0abb#32, 0x81c2c92e#32, 0x92722c85#32, 0xa2bfe8a1#32, 0xa81a664b#32, 0xc24b8b70#32, 0xc76c51a3#32, 0xd192e819#32, 0xd6990624#32, 0xf40e3585#32, 0x106aa070#32, 0x19a4c116#32, 0x1e376c08#32, 0x2748774c#32, 0x34b0bcb5#32, 0x391c0cb3#32, 0x4ed8aa4a#32, 0x5b9cca4f#32, 0x682e6ff3#32, 0x748f82ee#32, 0x78a5636f#32, 0x84c87814#32, 0x8cc70208#32, 0x90befffa#32, 0xa4506ceb#32, 0xbef9a3f7#32, 0xc67178f2#32]
def kk (t : Nat) : BitVec 32 := kL.getD t 0
def st0 : St := ⟨0x6a09e667#32, 0xbb67ae85#32, 0x3c6ef372#32, 0xa54ff53a#32, 0x510e527f#32, 0x9b05688c#32, 0x1f83d9ab#32, 0x5be0cd19#32⟩
def t1f (s : St) (k w : BitVec 32) : BitVec 32 := s.h + (rr s.e 6 ^^^ rr s.e 11 ^^^ rr s.e 25) + ((s.e &&& s.f) ^^^ (~~~s.e &&& s.g)) + k + w
def t2f (s : St) : BitVec 32 := (rr s.a 2 ^^^ rr s.a 13 ^^^ rr s.a 22) + ((s.a &&& s.b) ^^^ (s.a &&& s.c) ^^^ (s.b &&& s.c))
def rnd (s : St) (k w : BitVec 32) : St := ⟨t1f s k w + t2f s, s.a, s.b, s.c, s.d + t1f s k w, s.e, s.f, s.g⟩
def rnds (s : St) (x : Nat → Nat) : Nat → St
  | 0 => s
  | t + 1 => rnd (rnds s x t) (kk t) (sch x t)
def comp (s : St) (x : Nat → Nat) : St :=
  let r := rnds s x 64
  ⟨s.a + r.a, s.b + r.b, s.c + r.c, s.d + r.d, s.e + r.e, s.f + r.f, s.g + r.g, s.h + r.h⟩
theorem comp_get (s : St) (x : Nat → Nat) (i : Nat) : (comp s x).get i = s.get i + (rnds s x 64).get i := by
  unfold comp St.get
  match i with
  | 0 | 1 | 2 | 3 | 4 | 5 | 6 => rfl
  | _ + 7 => rfl
theorem sch_congr {x y : Nat → Nat} (h : ∀ i, i < 64 → x i = y i) : ∀ n, n ≤ 64 → schL x n = schL y n
  | 0, _ => rfl
  | n + 1, hn => by
    rw [schL, schL, sch_congr h n (by omega)]
    have : n < 16 → word x n = word y n := fun hl => by
      unfold word wpart wpart wpart wpart wpart
      rw [h _ (by omega), h _ (by omega), h _ (by omega), h _ (by omega)]
    split
    · rw [this (by omega)]
    · rfl
theorem rnds_congr (s : St) {x y : Nat → Nat} (h : ∀ i, i < 64 → x i = y i) : ∀ n, n ≤ 64 → rnds s x n = rnds s y n
  | 0, _ => rfl
  | n + 1, hn => by
    rw [rnds, rnds, rnds_congr s h n (by omega)]
    unfold sch
    rw [sch_congr h (n + 1) (by omega)]
theorem comp_congr (s : St) {x y : Nat → Nat} (h : ∀ i, i < 64 → x i = y i) : comp s x = comp s y := by
  unfold comp; rw [rnds_congr s h 64 (by omega)]
/-- The words behind n blocks of a message. -/
def hs (x : Nat → Nat) : Nat → St
  | 0 => st0
  | n + 1 => comp (hs x n) (fun i => x (64 * n + i))
theorem hs_congr {x y : Nat → Nat} : ∀ n, (∀ i, i < 64 * n → x i = y i) → hs x n = hs y n
  | 0, _ => rfl
  | n + 1, h => by
    rw [hs, hs, hs_congr n (fun i hi => h i (by omega))]
    exact comp_congr _ fun i hi => h _ (by omega)
/-- How many blocks n bytes have, filled up. -/
def nbl (n : Nat) : Nat := (n + 72) / 64
/-- n bytes filled up. -/
def padF (n : Nat) (x : Nat → Nat) (i : Nat) : Nat :=
  if i < n then x i else if i = n then 128 else if i < 64 * nbl n - 8 then 0 else (8 * n) / 256 ^ (64 * nbl n - 1 - i) % 256
def shaSt (n : Nat) (x : Nat → Nat) : St := hs (padF n x) (nbl n)
/-- A digest's bytes. -/
def outB (s : St) (i : Nat) : Nat := (s.get (i / 4)).toNat / 2 ^ (24 - 8 * (i % 4)) % 256
def sha (n : Nat) (x : Nat → Nat) (i : Nat) : Nat := outB (shaSt n x) i
theorem outB_lt (s : St) (i : Nat) : outB s i < 256 := Nat.mod_lt _ (by omega)
theorem sha_lt (n : Nat) (x : Nat → Nat) (i : Nat) : sha n x i < 256 := outB_lt _ _
theorem padF_congr (n : Nat) {x y : Nat → Nat} (h : ∀ i, i < n → x i = y i) (i : Nat) : padF n x i = padF n y i := by
  unfold padF; by_cases q : i < n
  · rw [if_pos q, if_pos q, h i q]
  · rw [if_neg q, if_neg q]
theorem sha_congr (n : Nat) {x y : Nat → Nat} (h : ∀ i, i < n → x i = y i) (i : Nat) : sha n x i = sha n y i := by
  unfold sha shaSt; rw [hs_congr (nbl n) (fun i _ => padF_congr n h i)]
/-- The last block of r bytes that are left of n, filled up, with the count if there is room. -/
def lastA (r : Nat) (x : Nat → Nat) (i : Nat) : Nat := if i < r then x i else if i = r then 128 else 0
def withC (n : Nat) (f : Nat → Nat) (i : Nat) : Nat := if i < 56 then f i else (8 * n) / 256 ^ (63 - i) % 256
theorem hs_full (n : Nat) (x : Nat → Nat) (q : Nat) (h : 64 * q ≤ n) : hs (padF n x) q = hs x q :=
  hs_congr q fun i hi => by unfold padF; rw [if_pos (by omega)]
theorem shaSt_short (n : Nat) (x : Nat → Nat) (h : n % 64 < 56) :
    shaSt n x = comp (hs x (n / 64)) (withC n (lastA (n % 64) (fun i => x (64 * (n / 64) + i)))) := by
  have e : nbl n = n / 64 + 1 := by unfold nbl; omega
  unfold shaSt; rw [e, hs, hs_full n x _ (by omega)]
  refine comp_congr _ fun i hi => ?_
  unfold padF withC lastA
  rw [e]
  by_cases c1 : i < 56
  · rw [if_pos c1]
    by_cases c2 : i < n % 64
    · rw [if_pos c2, if_pos (by omega)]
    · rw [if_neg c2, if_neg (by omega)]
      by_cases c3 : i = n % 64
      · rw [if_pos c3, if_pos (by omega)]
      · rw [if_neg c3, if_neg (by omega), if_pos (by omega)]
  · rw [if_neg c1, if_neg (by omega), if_neg (by omega), if_neg (by omega), show 64 * (n / 64 + 1) - 1 - (64 * (n / 64) + i) = 63 - i by omega]
theorem shaSt_long (n : Nat) (x : Nat → Nat) (h : 56 ≤ n % 64) :
    shaSt n x = comp (comp (hs x (n / 64)) (lastA (n % 64) (fun i => x (64 * (n / 64) + i)))) (withC n (fun _ => 0)) := by
  have e : nbl n = n / 64 + 1 + 1 := by unfold nbl; omega
  unfold shaSt; rw [e, hs, hs, hs_full n x _ (by omega)]
  have e1 : comp (hs x (n / 64)) (fun i => padF n x (64 * (n / 64) + i)) = comp (hs x (n / 64)) (lastA (n % 64) (fun i => x (64 * (n / 64) + i))) := by
    refine comp_congr _ fun i hi => ?_
    unfold padF lastA
    rw [e]
    by_cases c2 : i < n % 64
    · rw [if_pos c2, if_pos (by omega)]
    · rw [if_neg c2, if_neg (by omega)]
      by_cases c3 : i = n % 64
      · rw [if_pos c3, if_pos (by omega)]
      · rw [if_neg c3, if_neg (by omega), if_pos (by omega)]
  rw [e1]
  refine comp_congr _ fun i hi => ?_
  unfold padF withC
  rw [e, if_neg (by omega), if_neg (by omega)]
  by_cases c1 : i < 56
  · rw [if_pos c1, if_pos (by omega)]
  · rw [if_neg c1, if_neg (by omega), show 64 * (n / 64 + 1 + 1) - 1 - (64 * (n / 64 + 1) + i) = 63 - i by omega]
end Go.Proofs.Ytopibkoklagceaa.H
