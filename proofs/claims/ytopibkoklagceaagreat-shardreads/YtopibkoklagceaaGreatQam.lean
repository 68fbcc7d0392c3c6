/- Texts laid into one, cut to what is needed: the remark ahead of each part says what is proved there. -/
import Derived.Test.YtopibkoklagceaaGreatQai
import Derived.RangeFuncNested
import Derived.RangeFuncBound
import Derived.RangeFuncCalls
import Derived.RangeFuncLeaves
import Derived.OrdersIn
import Derived.TacticsIn
import Derived.Test.YtopibkoklagceaaGreatQaj
import Derived.Shelf.Abstract
import Derived.WalkKit
import Derived.OwnWalkIn
import Derived.TacticsInMore
import Derived.LoopNIn
import Derived.LoopIn
import Derived.Test.YtopibkoklagceaaGreatProg
import Derived.Test.YtopibkoklagceaaGreatQak
import Derived.Laws.OwnMore
/- A loop's body within a range over a function: its regions walked as everywhere (no fence, no round), and regions that draw their order of which the last operations write. -/
namespace Go.Proofs.YtopibkoklagceaaGreat.H
open Go Go.RowKit

section
variable {P : Program} {ops : Array Oper} {Q : Exit → Act → World → Prop} {md : Region.Mode} {l n : Nat}

abbrev rndF (l : Nat) : Fence := Fence.wide.inRound l
theorem calls_rnd {f : FuncId} {args : Array Value} {w : World} {R : Ending → World → Prop} (h : Calls P f args w R) : CallsIn (rndF l) n P f args w R := CallsIn.inRound l (callsIn_wide.2 h)
theorem rows_rnd {row : String} {args : Array Value} {w : World} {R : Value → World → Prop} (h : Rows P row args w R) : RowsIn (rndF l) n P row args w R :=
 fun c cs _ => let ⟨v, w', r, s⟩ := h c cs; ⟨v, w', r, stepsIn_wide.2 s⟩

def noDefer (ops : Array Oper) : Bool := ops.all fun o => match o.op with | .defer _ => false | _ => true
theorem noDefer_at {o : Oper} (h : noDefer ops = true) (ho : o ∈ ops) : ∀ c, o.op ≠ .defer c := by
 intro c e
 have := Array.all_eq_true_iff_forall_mem.1 h o ho
 simp [e] at this

theorem oper_rnd {o : Oper} {a : Act} {w : World} {K : Act → World → Prop} (hd : ∀ c, o.op ≠ .defer c) (h : o.wp P a w K Q) : o.wpIn (rndF l) n P a w K Q := by
 refine ⟨fun _ _ => trivial, ?_⟩
 rw [Oper.semAt_eq _ _ _ hd]
 unfold Oper.wp at h
 generalize (execOp a.eval o).run P w = r at *
 cases r with
 | ok x w' =>
  cases x <;> simp only [Oper.upon, Oper.uponIn] at h ⊢ <;>
   first
    | exact h
    | exact ⟨fun e => (by cases e), calls_rnd h⟩
    | exact ⟨fun e => (by cases e), rows_rnd h⟩
    | exact h.elim
 | halt x w' => cases x <;> simp only [Oper.upon, Oper.uponIn] at h ⊢ <;> exact h

theorem list_rnd (hQ : ¬ LetsOut Q) : ∀ (k : List Oper) (a : Act) (w : World), (∀ o ∈ k, ∀ c, o.op ≠ .defer c) → wpList P ops Q k a w → wpListIn (rndF l) n P ops Q k a w
 | [], _, _, _, h => h
 | o :: k, a, w, hd, h => by
  unfold wpList at h
  unfold wpListIn
  have ih := fun a w => list_rnd hQ k a w (fun o' ho' => hd o' (List.mem_cons_of_mem _ ho'))
  split
  ·rename_i hw
   rw [if_pos hw] at h
   rcases h with h | h
   ·exact Oper.wpIn_mono (fun a w h => ih a w h) (oper_rnd (hd o (List.mem_cons_self ..)) h)
   ·exact absurd h.2 hQ
  ·rename_i hw
   rw [if_neg hw] at h
   exact ⟨fun _ _ => trivial, ih _ _ h⟩

theorem op_rnd (hQ : ¬ LetsOut Q) (hd : noDefer ops = true) {i : Nat} {K : Act → World → Prop} {a : Act} {w : World} (h : wpOp P ops Q i K a w) : wpOpIn (rndF l) n P ops Q i K a w := by
 unfold wpOp at h
 unfold wpOpIn
 cases ho : ops[i]? with
 | none => simpa [ho] using h
 | some o =>
  simp only [ho] at h ⊢
  split
  ·rename_i hw
   rw [if_pos hw] at h
   rcases h with h | h
   ·exact oper_rnd (noDefer_at hd (Array.mem_of_getElem? ho)) h
   ·exact absurd h.2 hQ
  ·rename_i hw
   rw [if_neg hw] at h
   exact ⟨fun _ _ => trivial, h⟩

theorem any_rnd (hQ : ¬ LetsOut Q) (hd : noDefer ops = true) : ∀ (k : Nat) (listed : Array Bool) (a : Act) (w : World), wpAny P md ops Q k listed a w → wpAnyIn (rndF l) n P md ops Q k listed a w
 | 0, _, _, _, h => h
 | k + 1, _, _, _, h => ⟨h.1, fun i hi => wpOpIn_mono (fun a w h => any_rnd hQ hd k _ a w h) (op_rnd hQ hd (h.2 i hi))⟩

/-- A region in a round, walked plain. -/
theorem round_list {id : Nat} {k : List Oper} {a : Act} {w : World} (hQ : ∀ a w, Q .outgrown a w → False) (hd : noDefer k.toArray = true) (h : wpList P k.toArray Q k a w) : (Code.region id k.toArray false).wpIn (rndF l) n P Q a w :=
 wpIn_region_lit (list_rnd (fun ⟨a, w, q⟩ => hQ a w q) k a w (fun o ho => noDefer_at hd (by simpa using ho)) h)
theorem round_any {id : Nat} {a : Act} {w : World} (hm : P.follows .mixedOrders = true) (hQ : ∀ a w, Q .outgrown a w → False) (hd : noDefer ops = true)
  (h : wpAny P .any ops Q ops.size (Array.replicate ops.size false) a w.drew) : (Code.region id ops true).wpIn (rndF l) n P Q a w :=
 wpIn_region_any hm (any_rnd (fun ⟨a, w, q⟩ => hQ a w q) hd _ _ _ _ h)
end

section
variable {P : Program} {ops : Array Oper} {md : Region.Mode} {C : World → Prop}

/-- What is listed has all listed for which it waits. -/
def Cl (md : Region.Mode) (ops : Array Oper) (listed : Array Bool) : Prop := ∀ j o, ops[j]? = some o → listed.getD j false = true → ∀ e ∈ o.after, Region.binds md e = true → listed.getD e.on false = true
theorem getD_flip {listed : Array Bool} {j : Nat} (h : listed.getD j true = false) : listed.getD j false = false := by
 rcases Nat.lt_or_ge j listed.size with h' | h'
 ·simp [h'] at h ⊢; exact h
 ·simp [Array.getElem?_eq_none h'] at h
theorem Cl.set {listed : Array Bool} {i : Nat} (h : Cl md ops listed) (hi : i ∈ Region.ready md ops listed) : Cl md ops (listed.setIfInBounds i true) := by
 intro j o ho hj e he hb
 obtain ⟨hun, oi, hoi, hall⟩ := mem_ready.1 hi
 by_cases hji : j = i
 ·subst hji
  rw [ho] at hoi; cases hoi
  exact getD_set_true (hall e he hb)
 ·rw [getD_set_ne false (Ne.symm hji)] at hj
  exact getD_set_true (h j o ho hj e he hb)
def waitsOn (md : Region.Mode) (ops : Array Oper) : Nat → Nat → Nat → Bool
 | 0, _, _ => false
 | f + 1, j, i => match ops[j]? with
  | none => false
  | some o => o.after.any fun e => Region.binds md e && (e.on == i || waitsOn md ops f e.on i)
theorem waits_listed {listed : Array Bool} (hc : Cl md ops listed) : ∀ (f j i : Nat), waitsOn md ops f j i = true → (listed.getD j false = true ∨ j ∈ Region.ready md ops listed) → listed.getD i false = true
 | 0, _, _, h, _ => by cases h
 | f + 1, j, i, h, hj => by
  unfold waitsOn at h
  cases ho : ops[j]? with
  | none => simp [ho] at h
  | some o =>
   simp only [ho, Array.any_eq_true', Bool.and_eq_true, Bool.or_eq_true, beq_iff_eq] at h
   obtain ⟨e, he, hb, h⟩ := h
   have hl : listed.getD e.on false = true := by
    rcases hj with hj | hj
    ·exact hc j o ho hj e he hb
    ·obtain ⟨_, o', ho', hall⟩ := mem_ready.1 hj
     rw [ho] at ho'; cases ho'
     exact hall e he hb
   rcases h with h | h
   ·rw [← h]; exact hl
   ·exact waits_listed hc f e.on i h (.inl hl)

/-- The operations tl come up one behind the other, and nothing else does. -/
def forced (md : Region.Mode) (ops : Array Oper) : List Nat → Array Bool → Prop
 | [], listed => Region.ready md ops listed = []
 | k :: ks, listed => Region.ready md ops listed = [k] ∧ forced md ops ks (listed.setIfInBounds k true)
def tailW (P : Program) (ops : Array Oper) (Q : Exit → Act → World → Prop) : List Nat → Act → World → Prop
 | [], a, w => Q .normal a w
 | k :: ks, a, w => wpOp P ops Q k (tailW P ops Q ks) a w
theorem any_of_forced {Q : Exit → Act → World → Prop} : ∀ (ks : List Nat) (listed : Array Bool) (a : Act) (w : World), forced md ops ks listed → tailW P ops Q ks a w → wpAny P md ops Q ks.length listed a w
 | [], _, _, _, hf, h => ⟨hf, h⟩
 | k :: ks, listed, a, w, hf, h => by
  refine ⟨fun h0 => (by rw [hf.1] at h0; cases h0), fun i hi => ?_⟩
  rw [hf.1, List.mem_singleton] at hi
  subst hi
  exact wpOp_mono (fun a w h => any_of_forced ks _ a w hf.2 h) h

/-- n more operations that only read come up, in whatever order; then those of the tail. -/
def wpAnyU (P : Program) (md : Region.Mode) (ops : Array Oper) (C : World → Prop) (tl : List Nat) (R : Act → Prop) : Nat → Array Bool → Act → Prop
 | 0, listed, a => forced md ops tl listed ∧ R a
 | n + 1, listed, a => Region.ready md ops listed ≠ [] ∧ ∀ i ∈ Region.ready md ops listed, qOp P ops C i (wpAnyU P md ops C tl R n (listed.setIfInBounds i true)) a

theorem wpAny_of_U {tl : List Nat} {R : Act → Prop} {Q : Exit → Act → World → Prop} (hR : ∀ a w, C w → R a → tailW P ops Q tl a w) : ∀ (n : Nat) (listed : Array Bool) (a : Act) (w : World), C w →
  wpAnyU P md ops C tl R n listed a → wpAny P md ops Q (n + tl.length) listed a w
 | 0, listed, a, w, hw, h => by
  rw [Nat.zero_add]
  exact any_of_forced tl listed a w h.1 (hR a w hw h.2)
 | n + 1, listed, a, w, hw, h => by
  obtain ⟨h1, h3⟩ := h
  rw [Nat.add_right_comm]
  exact ⟨fun h0 => absurd h0 h1, fun i hi => wpOp_of_qOp hw (fun a' w' hw' hh => wpAny_of_U hR n _ a' w' hw' hh) (h3 i hi)⟩

theorem wpAnyU_first {last : Nat} {ks : List Nat} {R : Act → Prop} {i f : Nat} {oi : Oper} {v : Value} (hi : ops[i]? = some oi) (hwait : waitsOn md ops f last i = true)
  (hsel : ∀ (j : Nat) (o : Oper) cs b, ops[j]? = some o → o.op ≠ .select cs b) : ∀ (n : Nat) (listed : Array Bool) (a : Act), Cl md ops listed →
   (∀ j oj, ops[j]? = some oj → j ≠ i → listed.getD j true = false → (∀ e ∈ oj.after, Region.binds md e = true → e.on ≠ i) → oi.apart ops oj = true) →
   i ∈ Region.ready md ops listed → YieldsIn P ops C oi v a →
   wpAnyU P md ops C (last :: ks) R n (listed.setIfInBounds i true) (a.put oi.dst v) → wpAnyU P md ops C (last :: ks) R (n + 1) listed a := by
 have hnl : ∀ listed : Array Bool, Cl md ops listed → i ∈ Region.ready md ops listed → last ∉ Region.ready md ops listed := fun listed hc hr hl => by
  have h1 := waits_listed hc f last i hwait (.inr hl)
  have h0 := getD_flip (mem_ready.1 hr).1
  rw [h0] at h1; cases h1
 intro n
 induction n with
 | zero =>
  intro listed a hc _ hr hy H
  refine ⟨fun h => (by rw [h] at hr; cases hr), fun j hj => ?_⟩
  by_cases hji : j = i
  ·subst hji; exact hy.qOp hi H
  ·have h1 := ready_mono hj hji
   rw [H.1.1, List.mem_singleton] at h1
   subst h1
   exact absurd hj (hnl _ hc hr)
 | succ n ih =>
  intro listed a hc hfree hr hy H
  refine ⟨fun h => (by rw [h] at hr; cases hr), fun j hj => ?_⟩
  by_cases hji : j = i
  ·subst hji; exact hy.qOp hi H
  ·have h1 := H.2 j (ready_mono hj hji)
   obtain ⟨hjun, oj, hoj, hall⟩ := mem_ready.1 hj
   have hnot : ∀ e ∈ oj.after, Region.binds md e = true → e.on ≠ i := fun e he hb heq => by
    have h1 := hall e he hb
    have h0 := getD_flip (mem_ready.1 hr).1
    rw [heq, h0] at h1; cases h1
   have h2 := qOp_put hoj (hfree j oj hoj hji hjun hnot) (fun cs b => hsel i oi cs b hi) (fun cs b => hsel j oj cs b hoj) hy h1
   refine qOp_mono (fun a' h3 => ih (listed.setIfInBounds j true) a' (hc.set hj) (fun k ok hk hki hun hno => ?_) (ready_mono hr (Ne.symm hji)) h3.1 ?_) h2
   ·refine hfree k ok hk hki ?_ hno
    by_cases hjk : j = k
    ·subst hjk; exact hjun
    ·rw [getD_set_ne true hjk] at hun; exact hun
   ·rw [Array.setIfInBounds_comm _ _ hji]
    exact h3.2

def forcedB (md : Region.Mode) (ops : Array Oper) : List Nat → Array Bool → Bool
 | [], listed => (Region.ready md ops listed).isEmpty
 | k :: ks, listed => decide (Region.ready md ops listed = [k]) && forcedB md ops ks (listed.setIfInBounds k true)
theorem forced_of : ∀ (ks : List Nat) (listed : Array Bool), forcedB md ops ks listed = true → forced md ops ks listed
 | [], _, h => List.isEmpty_iff.1 h
 | k :: ks, listed, h => by
  simp only [forcedB, Bool.and_eq_true, decide_eq_true_eq] at h
  exact ⟨h.1, forced_of ks _ h.2⟩
def lexU (md : Region.Mode) (ops : Array Oper) (tl : List Nat) : Nat → Nat → Array Bool → Bool
 | 0, _, listed => forcedB md ops tl listed
 | n + 1, k, listed => (Region.ready md ops listed).contains k && Region.free md ops listed k && (match tl with | [] => false | last :: _ => waitsOn md ops ops.size last k) && lexU md ops tl n (k + 1) (listed.setIfInBounds k true)

theorem wpAnyU_lex {last : Nat} {ks : List Nat} {R : Act → Prop} (hs : Region.noSelect ops = true) : ∀ (l : List Oper) (k : Nat) (listed : Array Bool) (a : Act), Cl md ops listed → (∀ j, j < l.length → l[j]? = ops[k + j]?) →
  lexU md ops (last :: ks) l.length k listed = true → wpQuiet P ops C R l a → wpAnyU P md ops C (last :: ks) R l.length listed a
 | [], _, _, _, _, _, hB, h => ⟨forced_of _ _ hB, h⟩
 | o :: l, k, listed, a, hc, hl, hB, h => by
  have h0 : ops[k]? = some o := by simpa using (hl 0 (by simp)).symm
  simp only [List.length_cons, lexU, Bool.and_eq_true] at hB
  obtain ⟨⟨⟨hr, hf⟩, hw⟩, hB'⟩ := hB
  have hr' : k ∈ Region.ready md ops listed := by simpa using hr
  have hst : qOp P ops C k (wpQuiet P ops C R l) a := by unfold qOp; simp only [h0]; exact h
  obtain ⟨v, hy, hK⟩ := yieldsIn_of_qOp h0 hst
  exact wpAnyU_first h0 hw (Region.noSelect_spec hs) l.length listed a hc (Region.free_spec h0 hf) hr' hy
   (wpAnyU_lex hs l (k + 1) _ _ (hc.set hr') (fun j hj => by have := hl (j + 1) (by simp; omega); simpa [Nat.add_assoc, Nat.add_comm 1 j] using this) hB' hK)

theorem Cl.start (ops : Array Oper) (n : Nat) : Cl md ops (Array.replicate n false) := fun j o _ hj => by
 rcases Nat.lt_or_ge j n with h | h
 ·simp [h] at hj
 ·have : (Array.replicate n false)[j]? = none := Array.getElem?_eq_none (by simpa using h)
  simp [this] at hj

def tailB (ops : Array Oper) (m k : Nat) : Bool := Region.noSelect ops && lexU .any ops (List.range' m (k + 1)) m 0 (Array.replicate ops.size false)

theorem tailW_list {Q : Exit → Act → World → Prop} : ∀ (t : List Oper) (m : Nat) (a : Act) (w : World), (∀ j, j < t.length → t[j]? = ops[m + j]?) → wpList P ops Q t a w → tailW P ops Q (List.range' m t.length) a w
 | [], _, _, _, _, h => h
 | o :: t, m, a, w, hl, h => by
  have h0 : ops[m]? = some o := by simpa using (hl 0 (by simp)).symm
  have ih := fun a w => tailW_list t (m + 1) a w (fun j hj => by have := hl (j + 1) (by simp; omega); simpa [Nat.add_assoc, Nat.add_comm 1 j] using this) (Q := Q)
  simp only [List.length_cons, List.range'_succ, tailW, wpOp, h0]
  unfold wpList at h
  split
  ·rename_i hw
   rw [if_pos hw] at h
   exact h.imp (fun h => Oper.wp_mono (fun a w h => ih a w h) h) id
  ·rename_i hw
   rw [if_neg hw] at h
   exact ih _ _ h

/-- A region that draws: the quiet walk of q, then those of t, as in a plain region. -/
theorem any_tail {Q : Exit → Act → World → Prop} {a : Act} {w : World} {q t : List Oper} {o : Oper} (hB : tailB (q ++ o :: t).toArray q.length t.length = true)
  (h : wpQuiet P (q ++ o :: t).toArray (fun w' => ∃ n, w' = w.drewN n) (fun a' => ∀ n, wpList P (q ++ o :: t).toArray Q (o :: t) a' (w.drewN n)) q a) :
  wpAny P .any (q ++ o :: t).toArray Q (q ++ o :: t).toArray.size (Array.replicate (q ++ o :: t).toArray.size false) a w.drew := by
 simp only [tailB, Bool.and_eq_true, List.range'_succ] at hB
 have hsz : (q ++ o :: t).toArray.size = q.length + (List.range' q.length (t.length + 1)).length := by simp
 have hg : wpAny P .any (q ++ o :: t).toArray Q (q.length + (List.range' q.length (t.length + 1)).length) (Array.replicate (q ++ o :: t).toArray.size false) a w.drew := by
  refine wpAny_of_U (C := fun w' => ∃ n, w' = w.drewN n) (R := fun a' => ∀ n, wpList P (q ++ o :: t).toArray Q (o :: t) a' (w.drewN n)) ?_ q.length _ _ _ ⟨1, rfl⟩ ?_
  ·rintro a' w' ⟨n, rfl⟩ hr
   exact tailW_list (o :: t) q.length a' _ (fun j _ => by rw [List.getElem?_toArray, List.getElem?_append_right (Nat.le_add_right _ _), Nat.add_sub_cancel_left]) (hr n)
  ·rw [List.range'_succ]
   exact wpAnyU_lex hB.1 q 0 _ a (Cl.start _ _) (fun j hj => by simp [List.getElem?_append_left hj]) hB.2 h
 rw [hsz]
 rw [hsz] at hg
 exact hg
/-- Cut behind m operations by the kernel. -/
theorem any_tail_at (m : Nat) {Q : Exit → Act → World → Prop} {a : Act} {w : World} {k : List Oper} {o : Oper} {t : List Oper} (hc : k.drop m = o :: t) (hB : tailB k.toArray (k.take m).length t.length = true)
  (h : wpQuiet P k.toArray (fun w' => ∃ n, w' = w.drewN n) (fun a' => ∀ n, wpList P k.toArray Q (o :: t) a' (w.drewN n)) (k.take m) a) :
  wpAny P .any k.toArray Q k.toArray.size (Array.replicate k.toArray.size false) a w.drew := by
 obtain ⟨q, hq⟩ : ∃ q, k.take m = q := ⟨_, rfl⟩
 have e : k = q ++ o :: t := by rw [← hq, ← hc]; exact (List.take_append_drop m k).symm
 rw [hq] at h hB
 subst e
 exact any_tail hB h
theorem round_tail {l n : Nat} (m : Nat) {id : Nat} {Q : Exit → Act → World → Prop} {a : Act} {w : World} {k : List Oper} {o : Oper} {t : List Oper} (hm : P.follows .mixedOrders = true) (hQ : ∀ a w, Q .outgrown a w → False)
  (hd : noDefer k.toArray = true) (hc : k.drop m = o :: t) (hB : tailB k.toArray (k.take m).length t.length = true)
  (h : wpQuiet P k.toArray (fun w' => ∃ n, w' = w.drewN n) (fun a' => ∀ n, wpList P k.toArray Q (o :: t) a' (w.drewN n)) (k.take m) a) : (Code.region id k.toArray true).wpIn (rndF l) n P Q a w :=
 round_any hm hQ hd (any_tail_at m hc hB h)
end
end Go.Proofs.YtopibkoklagceaaGreat.H

/- Blocks of bytes: how many there are, where each begins and ends; and the iterator over them. -/
namespace Go.Proofs.YtopibkoklagceaaGreat.H
open Go Go.RowKit Go.Shelf

def cnt (n : Nat) : Nat := (n + 255) / 256
def bend (n i : Nat) : Nat := min (256 * i + 256) n
def bEnc (n : Nat) (i : Fin (cnt n)) : Array Value := #[.int .i64 ((256 * i.val : Nat) : Int), .int .i64 ((bend n i.val : Nat) : Int)]
theorem take_snoc (c k : Nat) (h : k < c) : (List.finRange c).take (k + 1) = (List.finRange c).take k ++ [⟨k, h⟩] := by
 rw [List.take_add_one]; simp [h]
def keepsAt (B : Nat) (X Y : World) : Prop := Y.heap[B]? = X.heap[B]?
theorem keepsAt_t {B : Nat} {X Y Z : World} (h : keepsAt B X Y) (k : keepsAt B Y Z) : keepsAt B X Z := Eq.trans k h
theorem keepsAt_b {B : Nat} {w : World} (hB : B < w.heap.size) (W : World) (l : Nat) (o o' : Obj) (hl : w.heap.size ≤ l) (_ : W.heap[l]? = some o) (_ : o.isCells = false) (_ : o.isWalk = false) : keepsAt B W (W.putObj l o') :=
 World.putObj_heap_other (by omega)

/-- Contract of the closure that blocks makes. -/
theorem blocks1_in (l Bn n : Nat) (hn : n ≤ 65536) (J Jx : List (Fin (cnt n)) → World → Prop) (d : Nat)
  (hY : ∀ pre x W, J pre W → pre.length < cnt n → YieldAt Fence.wide d Tryz.prog l (bEnc n x) W fun e W' =>
   (e = .returned (.bool true) ∧ J (pre ++ [x]) W' ∧ keepsAt Bn W W') ∨ (e = .returned (.bool false) ∧ Jx (pre ++ [x]) W'))
  (W : World) (hBn : Boxed W Bn 3 (.int .i64 (n : Int))) (h0 : J [] W) :
  CallsIn Fence.wide (d + 1) Tryz.prog 72 #[.func (.yield l) #[] #[], .pointer (some ⟨Bn, 0, none⟩)] W fun e W' => (∃ v, e = .returned v) ∧
   ((∃ ys, ys = List.finRange (cnt n) ∧ J ys W') ∨ (∃ pre, pre <+: List.finRange (cnt n) ∧ Jx pre W')) := by
 have HN := hid hn
 refine callsIn_of_wp Tryz.func72 rfl trivial ?_ rfl
 simp only [Tryz.ntmps72, List.size_toArray, List.length_cons, List.length_nil, Nat.reduceAdd, Nat.reduceSub, Array.replicate_succ, Array.replicate_zero, List.push_toArray, List.append_toArray, List.nil_append, List.cons_append]
 gi_wp2
 gi_loopw [3] (fun p wr => ∃ k : Nat, k ≤ cnt n ∧ p = .int .i64 ((256 * k : Nat) : Int) ∧ Boxed wr Bn 3 (.int .i64 (n : Int)) ∧ J ((List.finRange (cnt n)).take k) wr)
  (fun p _ => (65536 + 256 - intOf p).toNat)
 case atStart => exact ⟨0, by omega, rfl, hBn, by simpa using h0⟩
 case round =>
  obtain ⟨k, hk, rfl, hb, hJ⟩ := hrel
  have hc := hb.cell
  have hcn : cnt n = (n + 255) / 256 := rfl
  by_cases hlt : k < cnt n
  ·have hq : 256 * k < n := by omega
   have hlen : ((List.finRange (cnt n)).take k).length < cnt n := by simp; omega
   obtain ⟨fn, tmps, assign, body, hy, hR⟩ := hY _ ⟨k, hlt⟩ wr hJ hlen
   obtain ⟨q, hqe⟩ : ∃ q, 256 * k = q := ⟨_, rfl⟩
   have HQ := hid hqe
   simp only [bEnc, bend, hqe] at hy
   rw [hqe] at hq ⊢
   clear hqe
   have hq' : (q : Int) < (n : Int) := by omega
   have hw : IntKind.i64.wrap ((q : Int) + 256) = (q : Int) + 256 := IntWalk.i64_in _ ⟨by omega, by omega⟩
   by_cases hm : n < q + 256
   ·have hm' : (n : Int) < (q : Int) + 256 := by omega
    rw [Nat.min_eq_right (by omega)] at hy
    gi_wp2
    refine hR.mono ?_
    rintro e W3 (⟨rfl, hJ3, hk3⟩ | ⟨rfl, hJx3⟩)
    ·gi_wp2
     go_roundw
     case rel => exact ⟨k + 1, hlt, by have := HQ.out; congr 1; omega, hk3.trans hb, by rw [take_snoc _ _ hlt]; exact hJ3⟩
     case measure => simp [intOf]; omega
    ·gi_wp2
     refine bodyPost_ret (results_none rfl _ _ _) rfl ?_
     exact ⟨⟨_, rfl⟩, .inr ⟨_, by rw [← take_snoc _ _ hlt]; exact List.take_prefix _ _, hJx3⟩⟩
   ·have hm' : ¬ (n : Int) < (q : Int) + 256 := by omega
    rw [Nat.min_eq_left (by omega)] at hy
    have e2 : ((q + 256 : Nat) : Int) = (q : Int) + 256 := by omega
    rw [e2] at hy
    clear e2
    gi_wp2
    refine hR.mono ?_
    rintro e W3 (⟨rfl, hJ3, hk3⟩ | ⟨rfl, hJx3⟩)
    ·gi_wp2
     go_roundw
     case rel => exact ⟨k + 1, hlt, by have := HQ.out; congr 1; omega, hk3.trans hb, by rw [take_snoc _ _ hlt]; exact hJ3⟩
     case measure => simp [intOf]; omega
    ·gi_wp2
     refine bodyPost_ret (results_none rfl _ _ _) rfl ?_
     exact ⟨⟨_, rfl⟩, .inr ⟨_, by rw [← take_snoc _ _ hlt]; exact List.take_prefix _ _, hJx3⟩⟩
  ·have hq : n ≤ 256 * k := by omega
   have hk' : k = cnt n := by omega
   gi_wp2
   go_end0
   exact ⟨⟨_, rfl⟩, .inl ⟨(List.finRange (cnt n)).take k, by rw [hk']; exact List.take_of_length_le (by simp), hJ⟩⟩
theorem blocks_stops (d Bn n : Nat) (hn : n ≤ 65536) (w : World) (hc : Boxed w Bn 3 (.int .i64 (n : Int))) :
  SeqStopsK Fence.wide (d + 1) Tryz.prog 72 #[.pointer (some ⟨Bn, 0, none⟩)] (bEnc n) (keepsAt Bn) (fun ys => ys = List.finRange (cnt n)) (fun pre => pre <+: List.finRange (cnt n)) (cnt n) w :=
 fun l J Jx W hW _ _ hY h0 => blocks1_in l Bn n hn J Jx d hY W ((hW.block Bn hc.lt).trans hc) h0
theorem blocks_any (n : Nat) (w : World) : Calls Tryz.prog 50 #[.int .i64 (n : Int)] w fun e w' => e = .returned (.func (.func 72) #[] #[.pointer (some ⟨w.heap.size, 0, none⟩)]) ∧ w' = w.alloc (.cells #[.int .i64 (n : Int)] 3) := by
 go_enter Tryz.func50, Tryz.ntmps50
 have hmf : ∀ (fn : Fn) (first cap : Array Value) (w : World), (Instr.makeFunc fn first cap).run Tryz.prog w = .ok (.func fn first cap) w := fun _ _ _ _ => rfl
 go_wp2
 go_ret
 exact ⟨rfl, rfl⟩
/-- How many bytes a file has, and the error. -/
def szV (z : Int) : Int := if 0 ≤ z ∧ z ≤ 65536 then z + 32 * ((z + 255) / 256) else 0
def szE (z : Int) : Int := if 0 ≤ z ∧ z ≤ 65536 then 0 else 5
theorem szV_nat (n : Nat) (hn : n ≤ 65536) : szV n = ((n + 32 * cnt n : Nat) : Int) := by
 unfold szV cnt; rw [if_pos (by omega)]; omega
theorem szE_nat (n : Nat) (hn : n ≤ 65536) : szE n = 0 := by unfold szE; rw [if_pos (by omega)]
theorem size_any (z : Int) (w : World) : Calls Tryz.prog 49 #[.int .i64 z] w fun e w' => e = .returned (.tuple #[.int .i64 (szV z), .int .i64 (szE z)]) ∧ w' = w := by
 have hV : szV z = if 0 ≤ z ∧ z ≤ 65536 then z + 32 * ((z + 255) / 256) else 0 := rfl
 have hE : szE z = if 0 ≤ z ∧ z ≤ 65536 then 0 else 5 := rfl
 by_cases h : 0 ≤ z ∧ z ≤ 65536
 ·rw [if_pos h] at hV hE
  have h1 : ¬ z < 0 := by omega
  have h2 : ¬ z > 65536 := by omega
  have e1 : IntKind.i64.wrap (z + 256) = z + 256 := IntWalk.i64_in _ ⟨by omega, by omega⟩
  have e2 : IntKind.i64.wrap (z + 256 - 1) = z + 255 := by rw [IntWalk.i64_in _ ⟨by omega, by omega⟩]; omega
  have e3 : IntKind.i64.wrap ((z + 255).tdiv 256) = (z + 255) / 256 := IntWalk.i64_quo _ _ ⟨by omega, by omega, by omega⟩
  have e4 : IntKind.i64.wrap ((z + 255) / 256 * 32) = 32 * ((z + 255) / 256) := by rw [IntWalk.i64_in _ ⟨by omega, by omega⟩]; omega
  have e5 : IntKind.i64.wrap (z + 32 * ((z + 255) / 256)) = z + 32 * ((z + 255) / 256) := IntWalk.i64_in _ ⟨by omega, by omega⟩
  go_enter Tryz.func49, Tryz.ntmps49
  go_wp2
  go_ret2
  try rw [hV, hE]
  exact ⟨rfl, rfl⟩
 ·rw [if_neg h] at hV hE
  by_cases h1 : z < 0
  ·go_enter Tryz.func49, Tryz.ntmps49
   go_wp2
   go_ret2
   try rw [hV, hE]
   exact ⟨rfl, rfl⟩
  ·have h2 : z > 65536 := by omega
   go_enter Tryz.func49, Tryz.ntmps49
   go_wp2
   go_ret2
   try rw [hV, hE]
   exact ⟨rfl, rfl⟩
theorem place_any (i k : Nat) (hi : i ≤ 65536) (hk : i / 256 = k) (w : World) : Calls Tryz.prog 131 #[.int .i64 (i : Int)] w fun e w' => e = .returned (.int .i64 ((i + 32 * k + 32 : Nat) : Int)) ∧ w' = w := by
 have e3 : IntKind.i64.wrap ((i : Int).tdiv 256) = (k : Int) := by rw [IntWalk.i64_quo _ _ ⟨by omega, by omega, by omega⟩]; omega
 have e4 : IntKind.i64.wrap ((k : Int) + 1) = (k : Int) + 1 := IntWalk.i64_in _ ⟨by omega, by omega⟩
 have e5 : IntKind.i64.wrap (((k : Int) + 1) * 32) = 32 * (k : Int) + 32 := by rw [IntWalk.i64_in _ ⟨by omega, by omega⟩]; omega
 have e6 : IntKind.i64.wrap ((i : Int) + (32 * (k : Int) + 32)) = ((i + 32 * k + 32 : Nat) : Int) := by rw [IntWalk.i64_in _ ⟨by omega, by omega⟩]; omega
 go_enter Tryz.func131, Tryz.ntmps131
 go_wp2
 go_ret
 simp
 try omega
end Go.Proofs.YtopibkoklagceaaGreat.H

/- Buffers of bytes as lists; parts of slices; the file of bytes as a list. -/
namespace Go.Proofs.YtopibkoklagceaaGreat.H
open Go Go.RowKit

def u8 (k : Nat) : Value := .int .u8 (k : Int)
/-- The value v owns just the bytes L. -/
def BufL (B : Nat) (w : World) (v : Value) (L : List Nat) : Prop := w.ownsRow B 5 1 v L.length (L.map u8)
theorem BufL.nil (B : Nat) (w : World) : BufL B w (.slice none 0 0) [] := World.ownsRow_nil w B 5 1
theorem BufL.buf {B : Nat} {w : World} {v : Value} {L : List Nat} (h : BufL B w v L) : Buf B w v L.length (fun i => L.getD i 0) := by
 unfold Buf BufL at *
 rwa [show valN L.length (fun i => L.getD i 0) = L.map u8 from by
  apply List.ext_getElem?
  intro i
  by_cases hi : i < L.length
  ·rw [valN_get _ _ _ hi]; simp [hi, u8]
  ·rw [List.getElem?_eq_none (by rw [valN_len]; omega), List.getElem?_eq_none (by simpa using hi)]]
theorem BufL.kept {B : Nat} {w w' : World} {v : Value} {L : List Nat} {row : Option Nat} (h : BufL B w v L) (hg : w.grownBy w' row) (hne : v.ownBlock = none ∨ v.ownBlock ≠ row) : BufL B w' v L := World.ownsRow.kept h hg hne
theorem BufL.below {B : Nat} {w w' : World} {v : Value} {L : List Nat} (h : BufL B w v L) (hb : Below w.heap.size w w') : BufL B w' v L := by
 obtain ⟨hl, h | ⟨g, cap, cur, rfl, hB, hg, hc, hm, hs, ht⟩⟩ := h
 ·exact ⟨hl, .inl h⟩
 ·refine ⟨hl, .inr ⟨g, cap, cur, rfl, hB, ?_, hc, hm, hs, ht⟩⟩
  exact (hb.block g (CAt.lt hg)).trans hg
theorem map_range_u8 (l : Nat) (y : Nat → Nat) : ((List.range l).map y).map u8 = valN l y := by simp [valN, u8]
theorem append_none (v : Value) (L : List Nat) (B : Nat) (w : World) (hv : BufL B w v L) : (Builtin.append_ #[22, 22] 22 #[v, .slice none 0 0]).run Tryz.prog w = .ok v w := by
 obtain ⟨i0, hi0, hz0, hz1, hz2⟩ := info_parts Tryz.info5
 exact run_append_owned_none (P := Tryz.prog) (w := w) B 22 22 5 i0 1 Tryz.underlying22 hi0 v _ _ hv
/-- Bytes behind a buffer: it stays where it is if there is room. -/
theorem BufL.app {B : Nat} {w : World} {v : Value} {L : List Nat} (hv : BufL B w v L) (p : Option Addr) (l c : Nat) (y : Nat → Nat) (hy : StrAt w p l y) (hp : p = none → l = 0 ∧ c = 0) (hn : L.length + l ≤ 2000000) (hB : B ≤ w.heap.size) :
  ∃ v' w', (Builtin.append_ #[22, 22] 22 #[v, .slice p l c]).run Tryz.prog w = .ok v' w' ∧ BufL B w' v' (L ++ (List.range l).map y) ∧ w.grownBy w' v.ownBlock ∧
   (∀ g k c', v = .slice (some ⟨g, 0, none⟩) k c' → L.length + l ≤ c' → v' = .slice (some ⟨g, 0, none⟩) (L.length + l) c') := by
 obtain ⟨i0, hi0, hz0, hz1, hz2⟩ := info_parts Tryz.info5
 cases p with
 | none =>
  obtain ⟨rfl, rfl⟩ := hp rfl
  refine ⟨v, w, append_none v L B w hv, by simpa using hv, ⟨rfl, rfl, rfl, Nat.le_refl _, fun _ _ _ => rfl⟩, ?_⟩
  rintro g k c' rfl _
  obtain ⟨_, h | ⟨g', cap, cur, h, _⟩⟩ := hv
  ·cases h.1
  ·cases h; simp
 | some a =>
  have hcells : ∀ j u, (valN l y)[j]? = some u → w.cell? (a.add j) = some u := fun j u hj => by
    have hlt : j < l := by
     rcases Nat.lt_or_ge j l with h | h
     ·exact h
     ·rw [List.getElem?_eq_none (by rw [valN_len]; exact h)] at hj; cases hj
    rw [valN_get _ _ _ hlt] at hj
    cases hj
    rcases hy with h | ⟨b, o, e, hr⟩
    ·omega
    ·cases e
     rw [add_plain']; exact hr j hlt
  have hone : ∀ u ∈ valN l y, u.oneCell' = true := fun u hu => by
    simp only [valN, List.mem_map] at hu
    obtain ⟨i, _, rfl⟩ := hu; rfl
  have hL : (L ++ (List.range l).map y).length = L.length + l := by simp
  have hM : (L ++ (List.range l).map y).map u8 = L.map u8 ++ valN l y := by rw [List.map_append, map_range_u8]
  by_cases hfit : ∃ g k c', v = .slice (some ⟨g, 0, none⟩) k c' ∧ L.length + l ≤ c'
  ·obtain ⟨g, k, c', rfl, hroom⟩ := hfit
   have hv0 : w.ownsRow B 5 1 (.slice (some ⟨g, 0, none⟩) k c') L.length (L.map u8) := hv
   obtain rfl : k = L.length := by
    obtain ⟨_, h | ⟨g', cap, cur, h, _⟩⟩ := hv0
    ·cases h.1
    ·cases h; rfl
   obtain ⟨w', hr, h2, h3⟩ := run_append_fits (P := Tryz.prog) w B 22 22 5 i0 1 Tryz.underlying22 hi0 hz1 g L.length c' (L.map u8) hv0 a l c (valN l y) (by rw [valN_len, Nat.mul_one]) hcells hone hroom
   refine ⟨_, w', hr, ?_, h3, ?_⟩
   ·unfold BufL; rw [hL, hM]; exact h2
   ·rintro g2 k2 c2 h _; cases h; rfl
  ·obtain ⟨v', w', hr, h2, h3, _, _⟩ := run_append_own_at (P := Tryz.prog) w B 22 22 5 i0 (.int .u8 0) 1 1 Tryz.underlying22 hi0 hz0 hz1 hz2 rfl (by decide) v L.length (L.map u8) hv a l c (valN l y) (by rw [valN_len, Nat.mul_one]) hcells hone (by unfold maxLen; omega) (by omega) hB
   refine ⟨v', w', hr, ?_, h3, ?_⟩
   ·unfold BufL; rw [hL, hM]; exact h2
   ·intro g k c' h h'; exact absurd ⟨g, k, c', h, h'⟩ hfit
theorem BufL.cells {B : Nat} {w : World} {v : Value} {L : List Nat} (h : BufL B w v L) : ∀ (j : Nat) (o : Obj), v.ownBlock = some j → w.heap[j]? = some o → o.isCells = true := by
 intro j o hj ho
 obtain ⟨_, h | ⟨g, cap, cur, rfl, _, hg, _⟩⟩ := h
 ·rw [h.1] at hj; cases hj
 ·cases hj; rw [hg] at ho; cases ho; rfl
theorem BufL.ge {B : Nat} {w : World} {v : Value} {L : List Nat} (h : BufL B w v L) : ∀ j, v.ownBlock = some j → B ≤ j ∧ j < w.heap.size := fun j hj => World.ownsRow.lt h j hj
theorem boxed_notBuf {B C : Nat} {t : TypeId} {w : World} {u v : Value} {L : List Nat} (h : Boxed w C t u) (ht : t ≠ 5) (hv : BufL B w v L) : some C ≠ v.ownBlock := h.not_row ht hv
/-- make([]byte, 0, c) -/
theorem run_make_cap (c : Nat) (hc : c ≤ 100000) (w : World) :
  (Instr.makeSlice 22 (.int .i64 0) (.int .i64 (c : Int))).run Tryz.prog w = .ok (.slice (some ⟨w.heap.size, 0, none⟩) 0 c) (w.alloc (.cells (madeCells #[.int .u8 0] c) 5)) := by
 obtain ⟨i0, hi, hz0, hz1, hz2⟩ := info_parts Tryz.info5
 have h := run_make (P := Tryz.prog) w 22 5 i0 (.int .u8 0) Tryz.underlying22 hi hz0 .i64 .i64 0 c (by omega) (by omega) (by rw [hz2]; omega) (by omega)
 rw [hz1] at h
 simpa [Value.cells] using h
theorem BufL.made (w : World) (B c : Nat) (hB : B ≤ w.heap.size) (hc : c ≤ 100000) : BufL B (w.alloc (.cells (madeCells #[.int .u8 0] c) 5)) (.slice (some ⟨w.heap.size, 0, none⟩) 0 c) [] :=
 ⟨rfl, .inr ⟨_, _, _, rfl, hB, heap_alloc_new _ _, by simp, by unfold maxLen; omega, by simp [madeCells], by simp⟩⟩
/-- s[l:h] -/
theorem run_cut (p : Option Addr) (n c l h : Nat) (hlh : l ≤ h) (hh : h ≤ c) : ∃ p2 : Option Addr, (∀ w : World, (Instr.slice 22 (.slice p n c) (some (.int .i64 (l : Int))) (some (.int .i64 (h : Int))) none).run Tryz.prog w = .ok (.slice p2 (h - l) (c - l)) w) ∧
  (∀ b o, p = some ⟨b, o, none⟩ → l < c → p2 = some ⟨b, o + l, none⟩) ∧ (p2 = none → p = none) := by
 have hr : ∀ w, (Instr.slice 22 (.slice p n c) (some (.int .i64 (l : Int))) (some (.int .i64 (h : Int))) none).run Tryz.prog w = .ok (sliced p l h c 1) w := fun w => by
  rw [run_slice_lh (P := Tryz.prog) w 22 p n c under41 .i64 .i64 (l : Int) (h : Int) (by omega) (by omega) (by omega), size41]
  simp [Result.andThen]
 cases p with
 | none => exact ⟨none, fun w => by rw [hr]; simp [sliced], (fun b o e => by cases e), fun _ => rfl⟩
 | some a =>
  by_cases e : c = l
  ·exact ⟨some a, fun w => by rw [hr]; simp [sliced, e], (fun b o _ q => by omega), fun e => by cases e⟩
  ·refine ⟨some (a.add l), fun w => by rw [hr]; simp [sliced, e], (fun b o q _ => ?_), fun e => by cases e⟩
   cases q
   rw [add_plain']
theorem StrAt.cut {w : World} {p p2 : Option Addr} {n c l h : Nat} {x : Nat → Nat} (hs : StrAt w p n x) (hc : n ≤ c) (hh : h ≤ n) (hp : ∀ b o, p = some ⟨b, o, none⟩ → l < c → p2 = some ⟨b, o + l, none⟩) : StrAt w p2 (h - l) (fun j => x (l + j)) :=
 (hs.drop hc hp).short (by omega)
/-- The block of bytes that begins at 256 i, behind its digest. -/
def blkL (n : Nat) (x : Nat → Nat) (i : Nat) : List Nat := (List.range 32).map (sha (bend n i - 256 * i) (fun j => x (256 * i + j))) ++ (List.range (bend n i - 256 * i)).map (fun j => x (256 * i + j))
def fileL (n : Nat) (x : Nat → Nat) : List Nat := (List.range (cnt n)).flatMap (blkL n x)
def preL (n : Nat) (x : Nat → Nat) (pre : List (Fin (cnt n))) : List Nat := pre.flatMap fun i => blkL n x i.val
theorem blkL_len (n : Nat) (x : Nat → Nat) (i : Nat) : (blkL n x i).length = 32 + (bend n i - 256 * i) := by simp [blkL]
theorem blkL_le (n : Nat) (x : Nat → Nat) (i : Nat) : (blkL n x i).length ≤ 288 := by rw [blkL_len]; unfold bend; omega
theorem preL_snoc (n : Nat) (x : Nat → Nat) (pre : List (Fin (cnt n))) (i : Fin (cnt n)) : preL n x (pre ++ [i]) = preL n x pre ++ blkL n x i.val := by simp [preL]
theorem preL_len (n : Nat) (x : Nat → Nat) : ∀ pre : List (Fin (cnt n)), (preL n x pre).length ≤ 288 * pre.length
 | [] => by simp [preL]
 | i :: pre => by
  have := preL_len n x pre
  have h := blkL_le n x i.val
  unfold preL at *
  rw [List.flatMap_cons, List.length_append, List.length_cons]; omega
theorem preL_all (n : Nat) (x : Nat → Nat) : preL n x (List.finRange (cnt n)) = fileL n x := by
 unfold preL fileL
 have h : (List.finRange (cnt n)).map (fun i => i.val) = List.range (cnt n) := by
  apply List.ext_getElem
  ·simp
  ·intro i h1 h2; simp
 rw [← h, List.flatMap_map]
theorem BufL.form {B : Nat} {w : World} {v : Value} {L : List Nat} (h : BufL B w v L) : ∃ po cc, v = .slice po L.length cc := by
 obtain ⟨_, ⟨h1, h2⟩ | ⟨g, cap, cur, rfl, _⟩⟩ := h
 ·exact ⟨none, 0, by rw [h1, h2]⟩
 ·exact ⟨_, _, rfl⟩
theorem BufL.form3 {B : Nat} {w : World} {v : Value} {L : List Nat} (h : BufL B w v L) : ∃ po k cc, v = .slice po k cc := by
 obtain ⟨po, cc, e⟩ := h.form
 exact ⟨po, _, cc, e⟩
/-- A buffer in a variable's box: bytes put behind it, and the variable set. -/
theorem box_app {W : World} {Bx B : Nat} {v : Value} {L : List Nat} (hv : Boxed W Bx 22 v) (hb : BufL B W v L) (hB : B ≤ W.heap.size) (hBx : B ≤ Bx) (p : Option Addr) (l c : Nat) (y : Nat → Nat) (hy : StrAt W p l y) (hp : p = none → l = 0 ∧ c = 0) (hn : L.length + l ≤ 2000000) :
  ∃ po cc W1, (Builtin.append_ #[22, 22] 22 #[v, .slice p l c]).run Tryz.prog W = .ok (.slice po (L.length + l) cc) W1 ∧ Boxed W1 Bx 22 v ∧
   Boxed (W1.setCell ⟨Bx, 0, none⟩ (.slice po (L.length + l) cc)) Bx 22 (.slice po (L.length + l) cc) ∧ BufL B (W1.setCell ⟨Bx, 0, none⟩ (.slice po (L.length + l) cc)) (.slice po (L.length + l) cc) (L ++ (List.range l).map y) ∧
   KeepsOthers W (W1.setCell ⟨Bx, 0, none⟩ (.slice po (L.length + l) cc)) ∧ (∀ C t u, C ≠ Bx → t ≠ 5 → Boxed W C t u → Boxed (W1.setCell ⟨Bx, 0, none⟩ (.slice po (L.length + l) cc)) C t u) ∧
   Below B W (W1.setCell ⟨Bx, 0, none⟩ (.slice po (L.length + l) cc)) ∧ (∀ g k c', v = .slice (some ⟨g, 0, none⟩) k c' → L.length + l ≤ c' → po = some ⟨g, 0, none⟩ ∧ cc = c') := by
 obtain ⟨v', W1, hr, h2, h3, h4⟩ := hb.app p l c y hy hp hn hB
 obtain ⟨po, cc, rfl⟩ := h2.form
 have hL : (L ++ (List.range l).map y).length = L.length + l := by simp
 rw [hL] at hr h2 h4
 have b1 : Boxed W1 Bx 22 v := hv.kept h3 (boxed_notBuf hv (by decide) hb)
 have hne : some Bx ≠ Value.ownBlock (.slice po (L.length + l) cc) := boxed_notBuf b1 (by decide) h2
 refine ⟨po, cc, W1, hr, b1, b1.set _, h2.kept (grownBy_setCell' W1 Bx _) (.inr hne.symm), (KeepsOthers.of_grownBy h3 hb.cells).trans (KeepsOthers.setCell _ _ _), ?_, ?_, ?_⟩
 ·intro C t u hC ht hb2
  have := hb2.kept h3 (boxed_notBuf hb2 ht hb)
  exact this.other hC _
 ·exact ((Below.refl B W).grown h3 hB (fun k e => (hb.ge k e).1)).setCell (p := ⟨Bx, 0, none⟩) hBx _
 ·intro g k c' e h'
  have := h4 g k c' e h'
  cases this
  exact ⟨rfl, rfl⟩
/-- A row of bytes known whole. -/
def RowL (w : World) (g : Nat) (L : List Nat) : Prop := w.heap[g]? = some (.cells (L.map u8).toArray 5 (0, 0))
theorem BufL.full {B : Nat} {w : World} {g : Nat} {L : List Nat} (h : BufL B w (.slice (some ⟨g, 0, none⟩) L.length L.length) L) : RowL w g L := by
 obtain ⟨_, h | ⟨g', cap, cur, e, _, hg, _, _, hs, ht⟩⟩ := h
 ·cases h.1
 ·cases e
  unfold RowL
  rw [hg]
  congr 2
  have hl : cur.toList.length = L.length := by simpa using hs
  rw [Nat.mul_one, List.take_of_length_le (by omega)] at ht
  rw [← ht]
theorem RowL.lt {w : World} {g : Nat} {L : List Nat} (h : RowL w g L) : g < w.heap.size := (Array.getElem?_eq_some_iff.1 h).1
theorem RowL.below {B : Nat} {w w' : World} {g : Nat} {L : List Nat} (h : RowL w g L) (hb : Below B w w') (hg : g < B) : RowL w' g L := (hb.block g hg).trans h
theorem take_pre {n : Nat} {pre : List (Fin (cnt n))} {i : Fin (cnt n)} (h : ∃ k, k ≤ cnt n ∧ pre ++ [i] = (List.finRange (cnt n)).take k) : ∃ k, k < cnt n ∧ pre = (List.finRange (cnt n)).take k ∧ i.val = k := by
 obtain ⟨k, hk, e⟩ := h
 cases k with
 | zero => simp at e
 | succ k =>
  rw [take_snoc _ k hk] at e
  have h1 := List.append_inj' e rfl
  exact ⟨k, hk, h1.1, by have := h1.2; simp at this; rw [this]⟩
theorem preL_take (n : Nat) (x : Nat → Nat) : ∀ k, k ≤ cnt n → (preL n x ((List.finRange (cnt n)).take k)).length = 32 * k + min n (256 * k)
 | 0, _ => by simp [preL]
 | k + 1, hk => by
  have ih := preL_take n x k (by omega)
  rw [take_snoc _ k hk, preL_snoc, List.length_append, ih, blkL_len]
  show _ + (32 + (bend n k - 256 * k)) = _
  have : cnt n = (n + 255) / 256 := rfl
  unfold bend; omega
theorem fileL_len (n : Nat) (x : Nat → Nat) : (fileL n x).length = n + 32 * cnt n := by
 have h := preL_take n x (cnt n) (Nat.le_refl _)
 rw [List.take_of_length_le (by simp), preL_all] at h
 rw [h]
 have : cnt n = (n + 255) / 256 := rfl
 omega
end Go.Proofs.YtopibkoklagceaaGreat.H
