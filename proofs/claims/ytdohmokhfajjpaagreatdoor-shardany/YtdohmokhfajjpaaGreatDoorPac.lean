/- Texts laid into one, cut to what is needed: the remark ahead of each part says what is proved there. -/
import Derived.Test.YtdohmokhfajjpaaGreatDoorPab
import Derived.RangeFuncNested
import Derived.RangeFuncBound
import Derived.RangeFuncCalls
import Derived.RangeFuncLeaves
import Derived.OrdersIn
import Derived.TacticsIn
import Derived.Test.YtdohmokhfajjpaaGreatDoorPaa
import Derived.Laws.Rows
import Derived.Laws.CopyOwn
/- A loop's body within a range over a function: its regions walked as everywhere (no fence, no round), and regions that draw their order of which the last operations write. -/
namespace Go.Proofs.YtdohmokhfajjpaaGreatDoor.H
open Go Go.RowKit

section
variable {P : Program} {ops : Array Oper} {Q : Exit → Act → World → Prop} {md : Region.Mode} {l n : Nat}

abbrev rndF (l : Nat) : Fence := Fence.wide.inRound l
theorem calls_rnd {f : FuncId} {args : Array Value} {w : World} {R : Ending → World → Prop} (h : Calls P f args w R) : CallsIn (rndF l) n P f args w R := CallsIn.inRound l (callsIn_wide.2 h)
theorem rows_rnd {row : String} {args : Array Value} {w : World} {R : Value → World → Prop} (h : Rows P row args w R) : RowsIn (rndF l) n P row args w R :=
 fun c cs _ => let ⟨v, w', r, s⟩ := h c cs; ⟨v, w', r, stepsIn_wide.2 s⟩

def noDefer (ops : Array Oper) : Bool := ops.all fun o => match o.op with | .defer _ => false | _ => true
theorem noDefer_at {o : Oper} (h : noDefer ops = true) (ho : o ∈ ops) : ∀ c, o.op ≠ .defer c := by
 intro c e
 have := Array.all_eq_true_iff_forall_mem.1 h o ho
 simp [e] at this

theorem oper_rnd {o : Oper} {a : Act} {w : World} {K : Act → World → Prop} (hd : ∀ c, o.op ≠ .defer c) (h : o.wp P a w K Q) : o.wpIn (rndF l) n P a w K Q := by
 refine ⟨fun _ _ => trivial, ?_⟩
 rw [Oper.semAt_eq _ _ _ hd]
 unfold Oper.wp at h
 generalize (execOp a.eval o).run P w = r at *
 cases r with
 | ok x w' =>
  cases x <;> simp only [Oper.upon, Oper.uponIn] at h ⊢ <;>
   first
    | exact h
    | exact ⟨fun e => (by cases e), calls_rnd h⟩
    | exact ⟨fun e => (by cases e), rows_rnd h⟩
    | exact h.elim
 | halt x w' => cases x <;> simp only [Oper.upon, Oper.uponIn] at h ⊢ <;> exact h

theorem list_rnd (hQ : ¬ LetsOut Q) : ∀ (k : List Oper) (a : Act) (w : World), (∀ o ∈ k, ∀ c, o.op ≠ .defer c) → wpList P ops Q k a w → wpListIn (rndF l) n P ops Q k a w
 | [], _, _, _, h => h
 | o :: k, a, w, hd, h => by
  unfold wpList at h
  unfold wpListIn
  have ih := fun a w => list_rnd hQ k a w (fun o' ho' => hd o' (List.mem_cons_of_mem _ ho'))
  split
  ·rename_i hw
   rw [if_pos hw] at h
   rcases h with h | h
   ·exact Oper.wpIn_mono (fun a w h => ih a w h) (oper_rnd (hd o (List.mem_cons_self ..)) h)
   ·exact absurd h.2 hQ
  ·rename_i hw
   rw [if_neg hw] at h
   exact ⟨fun _ _ => trivial, ih _ _ h⟩

theorem op_rnd (hQ : ¬ LetsOut Q) (hd : noDefer ops = true) {i : Nat} {K : Act → World → Prop} {a : Act} {w : World} (h : wpOp P ops Q i K a w) : wpOpIn (rndF l) n P ops Q i K a w := by
 unfold wpOp at h
 unfold wpOpIn
 cases ho : ops[i]? with
 | none => simpa [ho] using h
 | some o =>
  simp only [ho] at h ⊢
  split
  ·rename_i hw
   rw [if_pos hw] at h
   rcases h with h | h
   ·exact oper_rnd (noDefer_at hd (Array.mem_of_getElem? ho)) h
   ·exact absurd h.2 hQ
  ·rename_i hw
   rw [if_neg hw] at h
   exact ⟨fun _ _ => trivial, h⟩

theorem any_rnd (hQ : ¬ LetsOut Q) (hd : noDefer ops = true) : ∀ (k : Nat) (listed : Array Bool) (a : Act) (w : World), wpAny P md ops Q k listed a w → wpAnyIn (rndF l) n P md ops Q k listed a w
 | 0, _, _, _, h => h
 | k + 1, _, _, _, h => ⟨h.1, fun i hi => wpOpIn_mono (fun a w h => any_rnd hQ hd k _ a w h) (op_rnd hQ hd (h.2 i hi))⟩

/-- A region in a round, walked plain. -/
theorem round_list {id : Nat} {k : List Oper} {a : Act} {w : World} (hQ : ∀ a w, Q .outgrown a w → False) (hd : noDefer k.toArray = true) (h : wpList P k.toArray Q k a w) : (Code.region id k.toArray false).wpIn (rndF l) n P Q a w :=
 wpIn_region_lit (list_rnd (fun ⟨a, w, q⟩ => hQ a w q) k a w (fun o ho => noDefer_at hd (by simpa using ho)) h)
theorem round_any {id : Nat} {a : Act} {w : World} (hm : P.follows .mixedOrders = true) (hQ : ∀ a w, Q .outgrown a w → False) (hd : noDefer ops = true)
  (h : wpAny P .any ops Q ops.size (Array.replicate ops.size false) a w.drew) : (Code.region id ops true).wpIn (rndF l) n P Q a w :=
 wpIn_region_any hm (any_rnd (fun ⟨a, w, q⟩ => hQ a w q) hd _ _ _ _ h)
end

section
variable {P : Program} {ops : Array Oper} {md : Region.Mode} {C : World → Prop}

/-- What is listed has all listed for which it waits. -/
def Cl (md : Region.Mode) (ops : Array Oper) (listed : Array Bool) : Prop := ∀ j o, ops[j]? = some o → listed.getD j false = true → ∀ e ∈ o.after, Region.binds md e = true → listed.getD e.on false = true
theorem getD_flip {listed : Array Bool} {j : Nat} (h : listed.getD j true = false) : listed.getD j false = false := by
 rcases Nat.lt_or_ge j listed.size with h' | h'
 ·simp [h'] at h ⊢; exact h
 ·simp [Array.getElem?_eq_none h'] at h
theorem Cl.set {listed : Array Bool} {i : Nat} (h : Cl md ops listed) (hi : i ∈ Region.ready md ops listed) : Cl md ops (listed.setIfInBounds i true) := by
 intro j o ho hj e he hb
 obtain ⟨hun, oi, hoi, hall⟩ := mem_ready.1 hi
 by_cases hji : j = i
 ·subst hji
  rw [ho] at hoi; cases hoi
  exact getD_set_true (hall e he hb)
 ·rw [getD_set_ne false (Ne.symm hji)] at hj
  exact getD_set_true (h j o ho hj e he hb)
def waitsOn (md : Region.Mode) (ops : Array Oper) : Nat → Nat → Nat → Bool
 | 0, _, _ => false
 | f + 1, j, i => match ops[j]? with
  | none => false
  | some o => o.after.any fun e => Region.binds md e && (e.on == i || waitsOn md ops f e.on i)
theorem waits_listed {listed : Array Bool} (hc : Cl md ops listed) : ∀ (f j i : Nat), waitsOn md ops f j i = true → (listed.getD j false = true ∨ j ∈ Region.ready md ops listed) → listed.getD i false = true
 | 0, _, _, h, _ => by cases h
 | f + 1, j, i, h, hj => by
  unfold waitsOn at h
  cases ho : ops[j]? with
  | none => simp [ho] at h
  | some o =>
   simp only [ho, Array.any_eq_true', Bool.and_eq_true, Bool.or_eq_true, beq_iff_eq] at h
   obtain ⟨e, he, hb, h⟩ := h
   have hl : listed.getD e.on false = true := by
    rcases hj with hj | hj
    ·exact hc j o ho hj e he hb
    ·obtain ⟨_, o', ho', hall⟩ := mem_ready.1 hj
     rw [ho] at ho'; cases ho'
     exact hall e he hb
   rcases h with h | h
   ·rw [← h]; exact hl
   ·exact waits_listed hc f e.on i h (.inl hl)

/-- The operations tl come up one behind the other, and nothing else does. -/
def forced (md : Region.Mode) (ops : Array Oper) : List Nat → Array Bool → Prop
 | [], listed => Region.ready md ops listed = []
 | k :: ks, listed => Region.ready md ops listed = [k] ∧ forced md ops ks (listed.setIfInBounds k true)
def tailW (P : Program) (ops : Array Oper) (Q : Exit → Act → World → Prop) : List Nat → Act → World → Prop
 | [], a, w => Q .normal a w
 | k :: ks, a, w => wpOp P ops Q k (tailW P ops Q ks) a w
theorem any_of_forced {Q : Exit → Act → World → Prop} : ∀ (ks : List Nat) (listed : Array Bool) (a : Act) (w : World), forced md ops ks listed → tailW P ops Q ks a w → wpAny P md ops Q ks.length listed a w
 | [], _, _, _, hf, h => ⟨hf, h⟩
 | k :: ks, listed, a, w, hf, h => by
  refine ⟨fun h0 => (by rw [hf.1] at h0; cases h0), fun i hi => ?_⟩
  rw [hf.1, List.mem_singleton] at hi
  subst hi
  exact wpOp_mono (fun a w h => any_of_forced ks _ a w hf.2 h) h

/-- n more operations that only read come up, in whatever order; then those of the tail. -/
def wpAnyU (P : Program) (md : Region.Mode) (ops : Array Oper) (C : World → Prop) (tl : List Nat) (R : Act → Prop) : Nat → Array Bool → Act → Prop
 | 0, listed, a => forced md ops tl listed ∧ R a
 | n + 1, listed, a => Region.ready md ops listed ≠ [] ∧ ∀ i ∈ Region.ready md ops listed, qOp P ops C i (wpAnyU P md ops C tl R n (listed.setIfInBounds i true)) a

theorem wpAny_of_U {tl : List Nat} {R : Act → Prop} {Q : Exit → Act → World → Prop} (hR : ∀ a w, C w → R a → tailW P ops Q tl a w) : ∀ (n : Nat) (listed : Array Bool) (a : Act) (w : World), C w →
  wpAnyU P md ops C tl R n listed a → wpAny P md ops Q (n + tl.length) listed a w
 | 0, listed, a, w, hw, h => by
  rw [Nat.zero_add]
  exact any_of_forced tl listed a w h.1 (hR a w hw h.2)
 | n + 1, listed, a, w, hw, h => by
  obtain ⟨h1, h3⟩ := h
  rw [Nat.add_right_comm]
  exact ⟨fun h0 => absurd h0 h1, fun i hi => wpOp_of_qOp hw (fun a' w' hw' hh => wpAny_of_U hR n _ a' w' hw' hh) (h3 i hi)⟩

theorem wpAnyU_first {last : Nat} {ks : List Nat} {R : Act → Prop} {i f : Nat} {oi : Oper} {v : Value} (hi : ops[i]? = some oi) (hwait : waitsOn md ops f last i = true)
  (hsel : ∀ (j : Nat) (o : Oper) cs b, ops[j]? = some o → o.op ≠ .select cs b) : ∀ (n : Nat) (listed : Array Bool) (a : Act), Cl md ops listed →
   (∀ j oj, ops[j]? = some oj → j ≠ i → listed.getD j true = false → (∀ e ∈ oj.after, Region.binds md e = true → e.on ≠ i) → oi.apart ops oj = true) →
   i ∈ Region.ready md ops listed → YieldsIn P ops C oi v a →
   wpAnyU P md ops C (last :: ks) R n (listed.setIfInBounds i true) (a.put oi.dst v) → wpAnyU P md ops C (last :: ks) R (n + 1) listed a := by
 have hnl : ∀ listed : Array Bool, Cl md ops listed → i ∈ Region.ready md ops listed → last ∉ Region.ready md ops listed := fun listed hc hr hl => by
  have h1 := waits_listed hc f last i hwait (.inr hl)
  have h0 := getD_flip (mem_ready.1 hr).1
  rw [h0] at h1; cases h1
 intro n
 induction n with
 | zero =>
  intro listed a hc _ hr hy H
  refine ⟨fun h => (by rw [h] at hr; cases hr), fun j hj => ?_⟩
  by_cases hji : j = i
  ·subst hji; exact hy.qOp hi H
  ·have h1 := ready_mono hj hji
   rw [H.1.1, List.mem_singleton] at h1
   subst h1
   exact absurd hj (hnl _ hc hr)
 | succ n ih =>
  intro listed a hc hfree hr hy H
  refine ⟨fun h => (by rw [h] at hr; cases hr), fun j hj => ?_⟩
  by_cases hji : j = i
  ·subst hji; exact hy.qOp hi H
  ·have h1 := H.2 j (ready_mono hj hji)
   obtain ⟨hjun, oj, hoj, hall⟩ := mem_ready.1 hj
   have hnot : ∀ e ∈ oj.after, Region.binds md e = true → e.on ≠ i := fun e he hb heq => by
    have h1 := hall e he hb
    have h0 := getD_flip (mem_ready.1 hr).1
    rw [heq, h0] at h1; cases h1
   have h2 := qOp_put hoj (hfree j oj hoj hji hjun hnot) (fun cs b => hsel i oi cs b hi) (fun cs b => hsel j oj cs b hoj) hy h1
   refine qOp_mono (fun a' h3 => ih (listed.setIfInBounds j true) a' (hc.set hj) (fun k ok hk hki hun hno => ?_) (ready_mono hr (Ne.symm hji)) h3.1 ?_) h2
   ·refine hfree k ok hk hki ?_ hno
    by_cases hjk : j = k
    ·subst hjk; exact hjun
    ·rw [getD_set_ne true hjk] at hun; exact hun
   ·rw [Array.setIfInBounds_comm _ _ hji]
    exact h3.2

def forcedB (md : Region.Mode) (ops : Array Oper) : List Nat → Array Bool → Bool
 | [], listed => (Region.ready md ops listed).isEmpty
 | k :: ks, listed => decide (Region.ready md ops listed = [k]) && forcedB md ops ks (listed.setIfInBounds k true)
theorem forced_of : ∀ (ks : List Nat) (listed : Array Bool), forcedB md ops ks listed = true → forced md ops ks listed
 | [], _, h => List.isEmpty_iff.1 h
 | k :: ks, listed, h => by
  simp only [forcedB, Bool.and_eq_true, decide_eq_true_eq] at h
  exact ⟨h.1, forced_of ks _ h.2⟩
def lexU (md : Region.Mode) (ops : Array Oper) (tl : List Nat) : Nat → Nat → Array Bool → Bool
 | 0, _, listed => forcedB md ops tl listed
 | n + 1, k, listed => (Region.ready md ops listed).contains k && Region.free md ops listed k && (match tl with | [] => false | last :: _ => waitsOn md ops ops.size last k) && lexU md ops tl n (k + 1) (listed.setIfInBounds k true)

theorem wpAnyU_lex {last : Nat} {ks : List Nat} {R : Act → Prop} (hs : Region.noSelect ops = true) : ∀ (l : List Oper) (k : Nat) (listed : Array Bool) (a : Act), Cl md ops listed → (∀ j, j < l.length → l[j]? = ops[k + j]?) →
  lexU md ops (last :: ks) l.length k listed = true → wpQuiet P ops C R l a → wpAnyU P md ops C (last :: ks) R l.length listed a
 | [], _, _, _, _, _, hB, h => ⟨forced_of _ _ hB, h⟩
 | o :: l, k, listed, a, hc, hl, hB, h => by
  have h0 : ops[k]? = some o := by simpa using (hl 0 (by simp)).symm
  simp only [List.length_cons, lexU, Bool.and_eq_true] at hB
  obtain ⟨⟨⟨hr, hf⟩, hw⟩, hB'⟩ := hB
  have hr' : k ∈ Region.ready md ops listed := by simpa using hr
  have hst : qOp P ops C k (wpQuiet P ops C R l) a := by unfold qOp; simp only [h0]; exact h
  obtain ⟨v, hy, hK⟩ := yieldsIn_of_qOp h0 hst
  exact wpAnyU_first h0 hw (Region.noSelect_spec hs) l.length listed a hc (Region.free_spec h0 hf) hr' hy
   (wpAnyU_lex hs l (k + 1) _ _ (hc.set hr') (fun j hj => by have := hl (j + 1) (by simp; omega); simpa [Nat.add_assoc, Nat.add_comm 1 j] using this) hB' hK)

theorem Cl.start (ops : Array Oper) (n : Nat) : Cl md ops (Array.replicate n false) := fun j o _ hj => by
 rcases Nat.lt_or_ge j n with h | h
 ·simp [h] at hj
 ·have : (Array.replicate n false)[j]? = none := Array.getElem?_eq_none (by simpa using h)
  simp [this] at hj

def tailB (ops : Array Oper) (m k : Nat) : Bool := Region.noSelect ops && lexU .any ops (List.range' m (k + 1)) m 0 (Array.replicate ops.size false)

theorem tailW_list {Q : Exit → Act → World → Prop} : ∀ (t : List Oper) (m : Nat) (a : Act) (w : World), (∀ j, j < t.length → t[j]? = ops[m + j]?) → wpList P ops Q t a w → tailW P ops Q (List.range' m t.length) a w
 | [], _, _, _, _, h => h
 | o :: t, m, a, w, hl, h => by
  have h0 : ops[m]? = some o := by simpa using (hl 0 (by simp)).symm
  have ih := fun a w => tailW_list t (m + 1) a w (fun j hj => by have := hl (j + 1) (by simp; omega); simpa [Nat.add_assoc, Nat.add_comm 1 j] using this) (Q := Q)
  simp only [List.length_cons, List.range'_succ, tailW, wpOp, h0]
  unfold wpList at h
  split
  ·rename_i hw
   rw [if_pos hw] at h
   exact h.imp (fun h => Oper.wp_mono (fun a w h => ih a w h) h) id
  ·rename_i hw
   rw [if_neg hw] at h
   exact ih _ _ h

/-- A region that draws: the quiet walk of q, then those of t, as in a plain region. -/
theorem any_tail {Q : Exit → Act → World → Prop} {a : Act} {w : World} {q t : List Oper} {o : Oper} (hB : tailB (q ++ o :: t).toArray q.length t.length = true)
  (h : wpQuiet P (q ++ o :: t).toArray (fun w' => ∃ n, w' = w.drewN n) (fun a' => ∀ n, wpList P (q ++ o :: t).toArray Q (o :: t) a' (w.drewN n)) q a) :
  wpAny P .any (q ++ o :: t).toArray Q (q ++ o :: t).toArray.size (Array.replicate (q ++ o :: t).toArray.size false) a w.drew := by
 simp only [tailB, Bool.and_eq_true, List.range'_succ] at hB
 have hsz : (q ++ o :: t).toArray.size = q.length + (List.range' q.length (t.length + 1)).length := by simp
 have hg : wpAny P .any (q ++ o :: t).toArray Q (q.length + (List.range' q.length (t.length + 1)).length) (Array.replicate (q ++ o :: t).toArray.size false) a w.drew := by
  refine wpAny_of_U (C := fun w' => ∃ n, w' = w.drewN n) (R := fun a' => ∀ n, wpList P (q ++ o :: t).toArray Q (o :: t) a' (w.drewN n)) ?_ q.length _ _ _ ⟨1, rfl⟩ ?_
  ·rintro a' w' ⟨n, rfl⟩ hr
   exact tailW_list (o :: t) q.length a' _ (fun j _ => by rw [List.getElem?_toArray, List.getElem?_append_right (Nat.le_add_right _ _), Nat.add_sub_cancel_left]) (hr n)
  ·rw [List.range'_succ]
   exact wpAnyU_lex hB.1 q 0 _ a (Cl.start _ _) (fun j hj => by simp [List.getElem?_append_left hj]) hB.2 h
 rw [hsz]
 rw [hsz] at hg
 exact hg
/-- Cut behind m operations by the kernel. -/
theorem any_tail_at (m : Nat) {Q : Exit → Act → World → Prop} {a : Act} {w : World} {k : List Oper} {o : Oper} {t : List Oper} (hc : k.drop m = o :: t) (hB : tailB k.toArray (k.take m).length t.length = true)
  (h : wpQuiet P k.toArray (fun w' => ∃ n, w' = w.drewN n) (fun a' => ∀ n, wpList P k.toArray Q (o :: t) a' (w.drewN n)) (k.take m) a) :
  wpAny P .any k.toArray Q k.toArray.size (Array.replicate k.toArray.size false) a w.drew := by
 obtain ⟨q, hq⟩ : ∃ q, k.take m = q := ⟨_, rfl⟩
 have e : k = q ++ o :: t := by rw [← hq, ← hc]; exact (List.take_append_drop m k).symm
 rw [hq] at h hB
 subst e
 exact any_tail hB h
theorem round_tail {l n : Nat} (m : Nat) {id : Nat} {Q : Exit → Act → World → Prop} {a : Act} {w : World} {k : List Oper} {o : Oper} {t : List Oper} (hm : P.follows .mixedOrders = true) (hQ : ∀ a w, Q .outgrown a w → False)
  (hd : noDefer k.toArray = true) (hc : k.drop m = o :: t) (hB : tailB k.toArray (k.take m).length t.length = true)
  (h : wpQuiet P k.toArray (fun w' => ∃ n, w' = w.drewN n) (fun a' => ∀ n, wpList P k.toArray Q (o :: t) a' (w.drewN n)) (k.take m) a) : (Code.region id k.toArray true).wpIn (rndF l) n P Q a w :=
 round_any hm hQ hd (any_tail_at m hc hB h)
end
end Go.Proofs.YtdohmokhfajjpaaGreatDoor.H

/- Arrays of words and of bytes as the model has them. -/
namespace Go.Proofs.YtdohmokhfajjpaaGreatDoor.H
open Go.RowKit

def aW (n : Nat) (f : Nat → BitVec 32) : Array Value := Array.ofFn fun i : Fin n => Value.int .u32 (wv (f i.val))
def aB (n : Nat) (x : Nat → Nat) : Array Value := Array.ofFn fun i : Fin n => Value.int .u8 ((x i.val : Nat) : Int)
def zW : Nat → BitVec 32 := fun _ => 0
def zB : Nat → Nat := fun _ => 0
theorem wmod (x : BitVec 32) : wv x % 4294967296 = wv x := by have := wv_nonneg x; have := wv_lt x; omega
theorem aW_size (n : Nat) (f : Nat → BitVec 32) : (aW n f).size = n := by simp [aW]
theorem aB_size (n : Nat) (x : Nat → Nat) : (aB n x).size = n := by simp [aB]
theorem aW_get (n : Nat) (f : Nat → BitVec 32) (i : Nat) (h : i < n) : (aW n f)[i]? = some (.int .u32 (wv (f i))) := by simp [aW, h]
theorem aB_get (n : Nat) (x : Nat → Nat) (i : Nat) (h : i < n) : (aB n x)[i]? = some (.int .u8 ((x i : Nat) : Int)) := by simp [aB, h]
theorem aW_congr (n : Nat) {f g : Nat → BitVec 32} (h : ∀ i, i < n → f i = g i) : aW n f = aW n g := by
 unfold aW; congr 1; funext i; rw [h i.val i.isLt]
theorem aB_congr (n : Nat) {x y : Nat → Nat} (h : ∀ i, i < n → x i = y i) : aB n x = aB n y := by
 unfold aB; congr 1; funext i; rw [h i.val i.isLt]
def upW (f : Nat → BitVec 32) (k : Nat) (v : BitVec 32) (i : Nat) : BitVec 32 := if i = k then v else f i
def upB (x : Nat → Nat) (k : Nat) (v : Nat) (i : Nat) : Nat := if i = k then v else x i
theorem aW_elem (n : Nat) (f : Nat → BitVec 32) (i : Nat) (h : i < (aW n f).size) : (aW n f)[i] = .int .u32 (wv (f i)) := by simp [aW]
theorem aB_elem (n : Nat) (x : Nat → Nat) (i : Nat) (h : i < (aB n x).size) : (aB n x)[i] = .int .u8 ((x i : Nat) : Int) := by simp [aB]
theorem aW_set (n : Nat) (f : Nat → BitVec 32) (k : Nat) (v : BitVec 32) : (aW n f).setIfInBounds k (.int .u32 (wv v)) = aW n (upW f k v) := by
 apply Array.ext
 ·simp [aW]
 ·intro i h1 h2
  have hi : i < n := by simpa [aW] using h2
  rw [Array.getElem_setIfInBounds (by rw [aW_size]; omega)]
  rw [aW_elem, aW_elem]
  unfold upW
  by_cases e : i = k
  ·rw [if_pos e.symm, if_pos e]
  ·rw [if_neg (Ne.symm e), if_neg e]
theorem aB_set (n : Nat) (x : Nat → Nat) (k : Nat) (v : Nat) : (aB n x).setIfInBounds k (.int .u8 ((v : Nat) : Int)) = aB n (upB x k v) := by
 apply Array.ext
 ·simp [aB]
 ·intro i h1 h2
  have hi : i < n := by simpa [aB] using h2
  rw [Array.getElem_setIfInBounds (by rw [aB_size]; omega)]
  rw [aB_elem, aB_elem]
  unfold upB
  by_cases e : i = k
  ·rw [if_pos e.symm, if_pos e]
  ·rw [if_neg (Ne.symm e), if_neg e]
theorem aW_st (s : St) : aW 8 s.get = #[.int .u32 (wv s.a), .int .u32 (wv s.b), .int .u32 (wv s.c), .int .u32 (wv s.d), .int .u32 (wv s.e), .int .u32 (wv s.f), .int .u32 (wv s.g), .int .u32 (wv s.h)] := by
 apply Array.ext
 ·simp [aW]
 ·intro i h1 h2
  have hi : i < 8 := by simpa [aW] using h1
  simp only [aW, Array.getElem_ofFn]
  match i, hi with
  | 0, _ | 1, _ | 2, _ | 3, _ | 4, _ | 5, _ | 6, _ | 7, _ => rfl

theorem ret_row {P : Program} {fn : Func} {p : Tmp} {ty : TypeId} (h : fn.results = #[.cell p ty]) {R : Ending → World → Prop} {a : Act} {w : World} (g : Nat) (t : TypeId) (cs : Array Value) (fr : Nat × Nat) (d : TypeDesc)
  (hd0 : a.defers = []) (hp : a.tmps.getD p undef = .pointer (some ⟨g, 0, none⟩)) (hg : w.heap[g]? = some (.cells cs t fr)) (hu : P.underlying ty = some d)
  (hd : (match d with | .struct _ | .array _ _ => true | _ => false) = true) (hi : (P.info? ty).map (·.size) = some cs.size) (hR : R (.returned (.agg cs)) w) : bodyPost P fn R .ret a w :=
 ⟨hd0, _, results_cell_row h _ _ g t cs fr d hp hg hu hd hi, hR⟩

theorem wpList_alloc_row {P : Program} {ops : Array Oper} {rest : List Oper} {o : Oper} {a : Act} {w : World} {Q : Exit → Act → World → Prop} (hg : o.guard = none) (t : TypeId) (ho : o.op = .alloc t) (cs : Array Value)
  (hz : (P.info? t).map (·.zero) = some (some (.agg cs))) (h : wpList P ops Q rest (a.put o.dst (.pointer (some ⟨w.heap.size, 0, none⟩))) (w.alloc (.cells cs t))) : wpList P ops Q (o :: rest) a w := by
 refine wpList_plain hg fun _ hK => ?_
 cases hq : P.info? t with
 | none => simp [hq] at hz
 | some i =>
  have hz' : i.zero = some (.agg cs) := by simpa [hq] using hz
  unfold Oper.wp execOp
  simp only [ho, Instr.alloc, zeroValue, typeInfo, Sem.run_bind, newVar, newRow]
  simp [hq, hz', Value.cells]
  exact hK _ _ h
theorem wpList_build_to {P : Program} {ops : Array Oper} {rest : List Oper} {o : Oper} {a : Act} {w : World} {Q : Exit → Act → World → Prop} (hg : o.guard = none) (t : TypeId) (parts : Array (Nat × Operand)) (ho : o.op = .build t parts) (cs : Array Value)
  (hf : P.built t (parts.map fun (i, x) => (i, a.eval x)).toList = some cs) (h : wpList P ops Q rest (a.put o.dst (.agg cs)) w) : wpList P ops Q (o :: rest) a w :=
 wpList_build hg t parts ho (by rw [hf]; rfl) (by rw [hf]; exact h)

theorem firstWords_any (w : World) : Calls Tryz.prog 35 #[] w fun e w' => e = .returned (.agg (aW 8 st0.get)) ∧ Below w.heap.size w w' := by
 go_enter Tryz.func35, Tryz.ntmps35
 go_wp2
 refine ret_row rfl _ _ _ _ _ rfl rfl (heap_alloc_new _ _) Tryz.underlying80 rfl (by kernel_rfl) ⟨?_, (Below.refl _ _).alloc (by omega) _⟩
 rw [aW_st]; rfl
theorem aW_one (n : Nat) (f : Nat → BitVec 32) : (aW n f).all (·.oneCell') = true := by
 rw [Array.all_eq_true]; intro i h; rw [aW_elem]; rfl
theorem aB_one (n : Nat) (x : Nat → Nat) : (aB n x).all (·.oneCell') = true := by
 rw [Array.all_eq_true]; intro i h; rw [aB_elem]; rfl
theorem zero64 : (Tryz.prog.info? 117).map (·.zero) = some (some (.agg (aW 64 zW))) := by kernel_rfl
theorem size64 (f : Nat → BitVec 32) : (Tryz.prog.info? 117).map (·.size) = some (aW 64 f).size := by rw [aW_size]; kernel_rfl
theorem constants_any (w : World) : Calls Tryz.prog 55 #[] w fun e w' => e = .returned (.agg (aW 64 kk)) ∧ Below w.heap.size w w' := by
 go_enter Tryz.func55, Tryz.ntmps55
 go_wp2_with (first
  | refine wpList_alloc_row rfl 117 rfl _ zero64 ?_
  | refine wpList_build_to rfl 117 _ rfl (aW 64 kk) (by kernel_rfl) ?_
  | refine wpList_store_row rfl 117 _ _ rfl _ _ rfl rfl _ _ (heap_alloc_new _ _) (size64 _) (by rw [aW_size, aW_size]) (aW_one _ _) ?_)
 refine ret_row rfl _ _ _ _ _ rfl rfl (setRow_heap _ _ _ _ _ _ (heap_alloc_new _ _)) Tryz.underlying117 rfl (size64 _) ⟨rfl, below_setRow ((Below.refl _ _).alloc (by omega) _) (by omega) _⟩
/-- A block holds just these cells, and may be written. -/
def CAt (w : World) (g : Nat) (cs : Array Value) (t : TypeId) : Prop := w.heap[g]? = some (.cells cs t (0, 0))
theorem CAt.lt {w : World} {g : Nat} {cs : Array Value} {t : TypeId} (h : CAt w g cs t) : g < w.heap.size := by
 rcases Nat.lt_or_ge g w.heap.size with h1 | h1
 ·exact h1
 ·unfold CAt at h; rw [Array.getElem?_eq_none h1] at h; cases h
theorem CAt.cellW {w : World} {g n : Nat} {t : TypeId} {f : Nat → BitVec 32} (h : CAt w g (aW n f) t) (i : Nat) (hi : i < n) : w.cell? ⟨g, i, none⟩ = some (.int .u32 (wv (f i))) := by
 rw [cell_of_row w g i _ _ _ h, aW_get n f i hi]
theorem CAt.cellB {w : World} {g n : Nat} {t : TypeId} {x : Nat → Nat} (h : CAt w g (aB n x) t) (i : Nat) (hi : i < n) : w.cell? ⟨g, i, none⟩ = some (.int .u8 ((x i : Nat) : Int)) := by
 rw [cell_of_row w g i _ _ _ h, aB_get n x i hi]
theorem CAt.free {w : World} {g : Nat} {cs : Array Value} {t : TypeId} (h : CAt w g cs t) (i : Nat) : w.frozen? ⟨g, i, none⟩ = false := by
 simp [World.frozen?, show w.heap[g]? = _ from h]
theorem CAt.setW {w : World} {g n : Nat} {t : TypeId} {f : Nat → BitVec 32} (h : CAt w g (aW n f) t) (i : Nat) (v : BitVec 32) : CAt (w.setCell ⟨g, i, none⟩ (.int .u32 (wv v))) g (aW n (upW f i v)) t := by
 have := heap_setCell_same w g i _ t (.int .u32 (wv v)) h
 rwa [aW_set] at this
theorem CAt.setB {w : World} {g n : Nat} {t : TypeId} {x : Nat → Nat} (h : CAt w g (aB n x) t) (i : Nat) (v : Nat) : CAt (w.setCell ⟨g, i, none⟩ (.int .u8 ((v : Nat) : Int))) g (aB n (upB x i v)) t := by
 have := heap_setCell_same w g i _ t (.int .u8 ((v : Nat) : Int)) h
 rwa [aB_set] at this
theorem CAt.other {w : World} {g : Nat} {cs : Array Value} {t : TypeId} (h : CAt w g cs t) (a : Addr) (v : Value) (hne : g ≠ a.block) : CAt (w.setCell a v) g cs t :=
 (heap_setCell_other w a g v hne).trans h
theorem CAt.alloc {w : World} {g : Nat} {cs : Array Value} {t : TypeId} (h : CAt w g cs t) (o : Obj) : CAt (w.alloc o) g cs t :=
 (Below.heap_alloc w o g h.lt).trans h
theorem CAt.new (w : World) (cs : Array Value) (t : TypeId) : CAt (w.alloc (.cells cs t)) w.heap.size cs t := heap_alloc_new _ _
theorem CAt.new' (w : World) (cs : Array Value) (t : TypeId) (H : Nat) (h : w.heap.size = H) : CAt (w.alloc (.cells cs t)) H cs t := h ▸ heap_alloc_new _ _
theorem CAt.row {w : World} {g : Nat} {old : Array Value} {t : TypeId} (h : CAt w g old t) (cs : Array Value) : CAt (w.setRow g cs) g cs t := setRow_heap w g old cs t _ h
theorem CAt.rowOther {w : World} {g k : Nat} {cs : Array Value} {t : TypeId} (h : CAt w g cs t) (c : Array Value) (hne : g ≠ k) : CAt (w.setRow k c) g cs t := (setRow_other w k g c hne).trans h
theorem CAt.below {B : Nat} {w w' : World} {g : Nat} {cs : Array Value} {t : TypeId} (h : CAt w g cs t) (hb : Below B w w') (hg : g < B) : CAt w' g cs t := (hb.block g hg).trans h
theorem drewN_heap (w : World) : ∀ m, (w.drewN m).heap = w.heap
 | m => by simp
theorem CAt.drewN {w : World} {g : Nat} {cs : Array Value} {t : TypeId} (h : CAt w g cs t) (m : Nat) : CAt (w.drewN m) g cs t := by unfold CAt; rw [drewN_heap]; exact h
theorem CAt.congr {w : World} {g : Nat} {cs cs' : Array Value} {t : TypeId} (h : CAt w g cs t) (e : cs = cs') : CAt w g cs' t := e ▸ h
theorem Below.drewN' {B : Nat} {a w : World} (h : Below B a w) (m : Nat) : Below B a (w.drewN m) := by
 refine h.trans ⟨rfl, rfl, rfl, ?_, ?_⟩
 ·rw [drewN_heap]; exact Nat.le_refl _
 ·intro k _; rw [drewN_heap]
theorem run_index_row {P : Program} (t e : TypeId) (n : Nat) (cs : Array Value) (i : Nat) (v : Value) (hu : P.underlying t = some (.array n e)) (hi : i < n) (hv : cs[i]? = some v)
  (he : (P.info? e).map (·.size) = some 1) (ha : ∀ w, (isAgg e).run P w = .ok false w) (w : World) : (Instr.index t (.agg cs) (.int .i64 (i : Int))).run P w = .ok v w := by
 cases hq : P.info? e with
 | none => simp [hq] at he
 | some j =>
  have hs : j.size = 1 := by simpa [hq] using he
  have h1 : (0 : Int) ≤ (i : Int) ∧ (i : Int) < (n : Int) := by omega
  simp [Instr.index, run_underlying hu, asIntOf, h1, sizeOf, typeInfo, hq, hs, part, Sem.run_bind, ha, hv]
  intro hbad; omega
end Go.Proofs.YtdohmokhfajjpaaGreatDoor.H

/- Bytes in memory; contracts of SameBytes, LentBytes and KeptBytes of the statements' kit. -/
namespace Go.Proofs.YtdohmokhfajjpaaGreatDoor.H
open Go.RowKit

theorem Tryz.info5 : (Tryz.prog.info? 5).map (fun i => (i.zero, i.size, i.bytes)) = some (some (.int .u8 0), 1, 1) := by kernel_rfl

/-- A row of n bytes lies at block b from o on. -/
def RowAt (w : World) (b o n : Nat) (x : Nat → Nat) : Prop := ∀ i, i < n → w.cell? ⟨b, o + i, none⟩ = some (.int .u8 (x i : Nat))
/-- The world w has one block more than w0 has: n bytes, x, which may be written; what was there is as it was. -/
structure NewRow (w0 w : World) (n : Nat) (x : Nat → Nat) : Prop where
 size : w.heap.size = w0.heap.size + 1
 below : Below w0.heap.size w0 w
 cells : ∀ i, i < n → w.cell? ⟨w0.heap.size, i, none⟩ = some (.int .u8 (x i : Nat))
 free : ∀ i, w.frozen? ⟨w0.heap.size, i, none⟩ = false

theorem madeCells_get (z : Value) (n i : Nat) (h : i < n) : (madeCells #[z] n)[i]? = some z := by
 simp [madeCells, h, Nat.mod_one]
theorem run_make_u8 (n : Nat) (hn : n ≤ 70003) (w : World) :
  (Instr.makeSlice 22 (.int .i64 (n : Int)) (.int .i64 (n : Int))).run Tryz.prog w = .ok (.slice (some ⟨w.heap.size, 0, none⟩) n n) (w.alloc (.cells (madeCells #[.int .u8 0] n) 5)) := by
 obtain ⟨i0, hi, hz0, hz1, hz2⟩ := info_parts Tryz.info5
 have h := run_make (P := Tryz.prog) w 22 5 i0 (.int .u8 0) Tryz.underlying22 hi hz0 .i64 .i64 n n (by omega) (Int.le_refl _) (by rw [hz2]; omega) (by omega)
 rw [hz1] at h
 simpa [Value.cells] using h

theorem NewRow.made (w : World) (n : Nat) : NewRow w (w.alloc (.cells (madeCells #[.int .u8 0] n) 5)) n (fun _ => 0) where
 size := by simp
 below := (Below.refl _ _).alloc (Nat.le_refl _) _
 cells := fun i h => by rw [World.cell?_alloc_new, madeCells_get _ _ _ h]; rfl
 free := fun i => World.frozen?_alloc_new _ _ _ _
theorem NewRow.set {w0 w : World} {n : Nat} {x : Nat → Nat} (h : NewRow w0 w n x) (k : Nat) (v : Nat) (hk : k < n) :
  NewRow w0 (w.setCell ⟨w0.heap.size, k, none⟩ (.int .u8 (v : Nat))) n (fun i => if i = k then v else x i) where
 size := by simp [h.size]
 below := h.below.setCell (Nat.le_refl _) _
 cells := fun i hi => by
  by_cases e : i = k
  ·subst e
   rw [World.cell?_setCell_same _ _ _ (h.cells i hi)]; simp
  ·rw [World.cell?_setCell_other _ _ _ _ (by intro h2; cases h2; exact e rfl), h.cells i hi]; simp [e]
 free := fun i => by rw [World.frozen?_setCell]; exact h.free i
theorem NewRow.congr {w0 w : World} {n : Nat} {x y : Nat → Nat} (h : NewRow w0 w n x) (e : ∀ i, i < n → x i = y i) : NewRow w0 w n y where
 size := h.size
 below := h.below
 cells := fun i hi => by rw [h.cells i hi, e i hi]
 free := h.free

end Go.Proofs.YtdohmokhfajjpaaGreatDoor.H

/- Contract of SameBytes of the statements' kit: of two slices that read alike it returns true, and leaves the world as it was. -/
namespace Go.Proofs.YtdohmokhfajjpaaGreatDoor.H
open Go.RowKit

/-- The slice's value leads to n bytes x; one of no byte may lead anywhere. -/
def StrAt (w : World) (p : Option Addr) (n : Nat) (x : Nat → Nat) : Prop := n = 0 ∨ ∃ b o, p = some ⟨b, o, none⟩ ∧ RowAt w b o n x
def strN (n : Nat) (x : Nat → Nat) : ByteArray := strOfNums ((List.range n).map fun i => (x i : Int))
theorem conv_str (w : World) (p : Option Addr) (n c : Nat) (x : Nat → Nat) (h : StrAt w p n x) :
  (convert 22 9 (.slice p n c)).run Tryz.prog w = .ok (.string (strN n x)) w := by
 rcases h with rfl | ⟨b, o, rfl, h⟩
 ·rw [run_convert_bytes_string w 22 9 5 _ 0 c Tryz.underlying22 Tryz.underlying5 Tryz.underlying9]
  cases p <;> simp [Conv.bytesToString, loadCells, strN]
  all_goals rfl
 ·exact run_convert_bytes_arg w 22 5 Tryz.underlying22 Tryz.underlying5 b o n c _ (by simp) (fun i hi => by rw [h i hi]; simp [List.getD, hi]) 9 Tryz.underlying9

end Go.Proofs.YtdohmokhfajjpaaGreatDoor.H

/- Contract of LentBytes of the statements' kit: a copy of the bytes lies in a new block, with three marked bytes of spare room behind it; what was there is as it was. -/
namespace Go.Proofs.YtdohmokhfajjpaaGreatDoor.H
open Go.RowKit

theorem size_setCells (b : Nat) : ∀ (vs : List Value) (o : Nat) (w : World), (w.setCells b o vs).heap.size = w.heap.size
 | [], _, _ => rfl
 | v :: r, o, w => by rw [World.setCells, size_setCells b r, World.size_setCell]
theorem below_setCells (b B : Nat) (hB : B ≤ b) : ∀ (vs : List Value) (o : Nat) (w0 w : World), Below B w0 w → Below B w0 (w.setCells b o vs)
 | [], _, _, _, h => h
 | v :: r, o, w0, w, h => by rw [World.setCells]; exact below_setCells b B hB r (o + 1) w0 _ (h.setCell hB _)

/-- n bytes as values. -/
def valN (n : Nat) (x : Nat → Nat) : List Value := (List.range n).map fun i => .int .u8 (x i : Nat)
theorem valN_len (n : Nat) (x : Nat → Nat) : (valN n x).length = n := by simp [valN]
theorem valN_get (n : Nat) (x : Nat → Nat) (i : Nat) (h : i < n) : (valN n x)[i]? = some (.int .u8 (x i : Nat)) := by simp [valN, h]

theorem NewRow.copied {w0 w : World} {n : Nat} {x : Nat → Nat} (h : NewRow w0 w n x) (m : Nat) (y : Nat → Nat) (hm : m ≤ n) :
  NewRow w0 (w.setCells w0.heap.size 0 (valN m y)) n (fun i => if i < m then y i else x i) where
 size := by rw [size_setCells, h.size]
 below := below_setCells _ _ (Nat.le_refl _) _ _ _ _ h.below
 cells := fun i hi => by
  by_cases e : i < m
  ·have hin := World.cell?_setCells_in w0.heap.size (valN m y) 0 w (fun j hj => by
     rw [valN_len] at hj
     rw [Nat.zero_add, h.cells j (by omega)]; rfl) i (by rw [valN_len]; exact e)
   rw [Nat.zero_add] at hin
   rw [hin, if_pos e]
   have g := valN_get m y i e
   rw [List.getElem?_eq_getElem (by rw [valN_len]; exact e)] at g
   exact g
  ·rw [World.cell?_setCells_out _ _ _ _ _ (fun _ _ => by rw [valN_len]; right; simp; omega), if_neg e, h.cells i hi]
 free := fun i => by rw [World.frozen?_setCells]; exact h.free i

/-- What a lent list reads as, its spare room with it. -/
def lentN (n : Nat) (x : Nat → Nat) (i : Nat) : Nat := if i < n then x i else 160 + i % 90

end Go.Proofs.YtdohmokhfajjpaaGreatDoor.H

/- Contract of KeptBytes of the statements' kit: it returns true of a lent list that reads as it was lent. -/
namespace Go.Proofs.YtdohmokhfajjpaaGreatDoor.H
open Go.RowKit

theorem RowAt.below {B : Nat} {w w' : World} {b o n : Nat} {x : Nat → Nat} (h : RowAt w b o n x) (hb : Below B w w') (hlt : b < B) : RowAt w' b o n x :=
 fun i hi => (hb.cell (p := ⟨b, o + i, none⟩) hlt).trans (h i hi)
theorem NewRow.row {w0 w : World} {n : Nat} {x : Nat → Nat} (h : NewRow w0 w n x) : RowAt w w0.heap.size 0 n x :=
 fun i hi => by rw [Nat.zero_add]; exact h.cells i hi

/-- The first m of x over y. -/
def ovl (m : Nat) (x y : Nat → Nat) (i : Nat) : Nat := if i < m then x i else y i
theorem aB_take (N m : Nat) (x y : Nat → Nat) (h : m ≤ N) : ((aB N y).toList.take 0 ++ valN m x ++ (aB N y).toList.drop (0 + (valN m x).length)).toArray = aB N (ovl m x y) := by
 apply Array.ext
 ·simp [valN_len, aB_size]; omega
 ·intro i h1 h2
  have hi : i < N := by rw [aB_size] at h2; exact h2
  rw [aB_elem]
  unfold ovl
  simp only [List.take_zero, List.nil_append, List.getElem_toArray]
  by_cases e : i < m
  ·rw [if_pos e, List.getElem_append_left (by rw [valN_len]; exact e)]
   simp [valN]
  ·rw [if_neg e, List.getElem_append_right (by rw [valN_len]; omega)]
   simp only [valN_len, List.getElem_drop, Array.getElem_toList, aB_elem]
   congr 3; omega
/-- copy into a block that is known whole. -/
theorem run_copy_blk (w : World) (g N : Nat) (t : TypeId) (y : Nat → Nat) (p : Option Addr) (n c : Nat) (x : Nat → Nat) (hg : CAt w g (aB N y) t) (hx : StrAt w p n x) (ty : TypeId) :
  (Builtin.copy_ #[22, 22] ty #[.slice (some ⟨g, 0, none⟩) N N, .slice p n c]).run Tryz.prog w = .ok (.int .i64 ((min n N : Nat) : Int)) (w.setRow g (aB N (ovl (min n N) x y))) := by
 have hself : min n N = 0 → w.setRow g (aB N (ovl (min n N) x y)) = w := fun h => by
  rw [h, aB_congr N (x := ovl 0 x y) (y := y) (fun i _ => by unfold ovl; rw [if_neg (by omega)])]
  exact setRow_self w g _ t _ hg
 rcases Nat.eq_zero_or_pos (min n N) with h0 | h0
 ·rw [hself h0, h0]
  exact run_copy_none (P := Tryz.prog) _ 22 22 ty 5 _ _ _ _ _ _ Tryz.underlying22 (by kernel_rfl) h0
 ·rcases hx with rfl | ⟨b, o, rfl, hr⟩
  ·omega
  ·have := run_copy_row (P := Tryz.prog) w 22 22 ty 5 g 0 N N ⟨b, o, none⟩ n c (aB N y) t (valN (min n N) x) Tryz.underlying22 (by kernel_rfl) hg (by rw [valN_len])
     (fun j v hj => by
      have hlt : j < min n N := by
       rcases Nat.lt_or_ge j (min n N) with h | h
       ·exact h
       ·rw [List.getElem?_eq_none (by rw [valN_len]; exact h)] at hj; cases hj
      rw [valN_get _ _ _ hlt] at hj
      cases hj
      have h2 := hr j (by omega)
      have h3 : (⟨b, o, none⟩ : Addr).add j = ⟨b, o + j, none⟩ := by unfold Addr.add; split <;> simp_all
      rw [h3]; exact h2) (by rw [valN_len, aB_size]; omega) (fun v hv => by
      simp only [valN, List.mem_map] at hv
      obtain ⟨i, _, rfl⟩ := hv; rfl)
   rw [this, aB_take N (min n N) x y (by omega), valN_len]
   rfl
end Go.Proofs.YtdohmokhfajjpaaGreatDoor.H
