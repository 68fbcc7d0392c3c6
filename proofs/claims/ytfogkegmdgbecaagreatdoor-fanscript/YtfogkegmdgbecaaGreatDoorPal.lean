/- Texts laid into one, cut to what is needed: the remark ahead of each part says what is proved there. -/
import Derived.Test.YtfogkegmdgbecaaGreatDoorPab
import Derived.RangeFuncNested
import Derived.RangeFuncBound
import Derived.RangeFuncCalls
import Derived.RangeFuncLeaves
import Derived.OrdersIn
import Derived.TacticsIn
import Derived.Test.YtfogkegmdgbecaaGreatDoorPag
import Derived.Shelf.Abstract
import Derived.WalkKit
import Derived.OwnWalkIn
import Derived.TacticsInMore
import Derived.LoopNIn
import Derived.LoopIn
/- A loop's body within a range over a function: its regions walked as everywhere; a range over a function whose iterator may hold such ranges itself. -/
namespace Go.Proofs.YtfogkegmdgbecaaGreatDoor
open Go Go.RowKit

section
variable {P : Program} {ops : Array Oper} {Q : Exit → Act → World → Prop} {md : Region.Mode} {l n : Nat}

abbrev rndF (l : Nat) : Fence := Fence.wide.inRound l
theorem calls_rnd {f : FuncId} {args : Array Value} {w : World} {R : Ending → World → Prop} (h : Calls P f args w R) : CallsIn (rndF l) n P f args w R := CallsIn.inRound l (callsIn_wide.2 h)
theorem rows_rnd {row : String} {args : Array Value} {w : World} {R : Value → World → Prop} (h : Rows P row args w R) : RowsIn (rndF l) n P row args w R :=
 fun c cs _ => let ⟨v, w', r, s⟩ := h c cs; ⟨v, w', r, stepsIn_wide.2 s⟩

def noDefer (ops : Array Oper) : Bool := ops.all fun o => match o.op with | .defer _ => false | _ => true
theorem noDefer_at {o : Oper} (h : noDefer ops = true) (ho : o ∈ ops) : ∀ c, o.op ≠ .defer c := by
 intro c e
 have := Array.all_eq_true_iff_forall_mem.1 h o ho
 simp [e] at this

theorem oper_rnd {o : Oper} {a : Act} {w : World} {K : Act → World → Prop} (hd : ∀ c, o.op ≠ .defer c) (h : o.wp P a w K Q) : o.wpIn (rndF l) n P a w K Q := by
 refine ⟨fun _ _ => trivial, ?_⟩
 rw [Oper.semAt_eq _ _ _ hd]
 unfold Oper.wp at h
 generalize (execOp a.eval o).run P w = r at *
 cases r with
 | ok x w' =>
  cases x <;> simp only [Oper.upon, Oper.uponIn] at h ⊢ <;>
   first
    | exact h
    | exact ⟨fun e => (by cases e), calls_rnd h⟩
    | exact ⟨fun e => (by cases e), rows_rnd h⟩
    | exact h.elim
 | halt x w' => cases x <;> simp only [Oper.upon, Oper.uponIn] at h ⊢ <;> exact h

theorem list_rnd (hQ : ¬ LetsOut Q) : ∀ (k : List Oper) (a : Act) (w : World), (∀ o ∈ k, ∀ c, o.op ≠ .defer c) → wpList P ops Q k a w → wpListIn (rndF l) n P ops Q k a w
 | [], _, _, _, h => h
 | o :: k, a, w, hd, h => by
  unfold wpList at h
  unfold wpListIn
  have ih := fun a w => list_rnd hQ k a w (fun o' ho' => hd o' (List.mem_cons_of_mem _ ho'))
  split
  ·rename_i hw
   rw [if_pos hw] at h
   rcases h with h | h
   ·exact Oper.wpIn_mono (fun a w h => ih a w h) (oper_rnd (hd o (List.mem_cons_self ..)) h)
   ·exact absurd h.2 hQ
  ·rename_i hw
   rw [if_neg hw] at h
   exact ⟨fun _ _ => trivial, ih _ _ h⟩

/-- A region in a round, walked plain. -/
theorem round_list {id : Nat} {k : List Oper} {a : Act} {w : World} (hQ : ∀ a w, Q .outgrown a w → False) (hd : noDefer k.toArray = true) (h : wpList P k.toArray Q k a w) : (Code.region id k.toArray false).wpIn (rndF l) n P Q a w :=
 wpIn_region_lit (list_rnd (fun ⟨a, w, q⟩ => hQ a w q) k a w (fun o ho => noDefer_at hd (by simpa using ho)) h)
end

section
variable {P : Program}
end

/-! ### A range over a function whose iterator may hold such ranges itself -/
/-- What keeps a loop's books. -/
def bkO : Obj → Bool
 | .loop _ => true
 | .deferred _ => true
 | _ => false
/-- New blocks, and at most one block from B on that keeps a loop's books has turned. -/
def Tn (B : Nat) (A C : World) : Prop := ∃ row : Option Nat, A.grownBy C row ∧ ∀ r, row = some r → B ≤ r ∧ ∃ o : Obj, A.heap[r]? = some o ∧ bkO o = true
theorem Tn.mono {B B' : Nat} {A C : World} (h : Tn B A C) (hB : B' ≤ B) : Tn B' A C := by
 obtain ⟨row, hg, hr⟩ := h
 exact ⟨row, hg, fun r e => ⟨Nat.le_trans hB (hr r e).1, (hr r e).2⟩⟩
theorem Tn.alloc (B : Nat) (A : World) (o : Obj) : Tn B A (A.alloc o) := ⟨none, World.grownBy_alloc A o none, fun _ e => by cases e⟩
theorem Tn.put {B : Nat} {A : World} {r : Nat} {o : Obj} (o' : Obj) (hB : B ≤ r) (h : A.heap[r]? = some o) (hb : bkO o = true) : Tn B A (A.putObj r o') :=
 ⟨some r, grownBy_putObj' A r o', fun q e => by cases e; exact ⟨hB, o, h, hb⟩⟩
theorem Tn.low {B : Nat} {A C : World} (h : Tn B A C) {k : Nat} (hk : k < B) (hA : k < A.heap.size) : C.heap[k]? = A.heap[k]? := by
 obtain ⟨row, hg, hr⟩ := h
 exact hg.block k hA fun e => by have := (hr k e.symm).1; omega
theorem Tn.other {B : Nat} {A C : World} (h : Tn B A C) {k : Nat} {o : Obj} (hk : A.heap[k]? = some o) (ho : bkO o = false) : C.heap[k]? = A.heap[k]? := by
 obtain ⟨row, hg, hr⟩ := h
 refine hg.block k (Array.getElem?_eq_some_iff.1 hk).1 fun e => ?_
 obtain ⟨_, o', h1, h2⟩ := hr k e.symm
 rw [hk] at h1; cases h1; rw [ho] at h2; cases h2
theorem Tn.size {B : Nat} {A C : World} (h : Tn B A C) : A.heap.size ≤ C.heap.size := by obtain ⟨_, hg, _⟩ := h; exact hg.size
/-- I abides that. -/
def OwL (B : Nat) (I : World → Prop) : Prop := ∀ A C, I A → Tn B A C → I C
/-- What no call of a drive turns: books, and cells that are no drive's, no fuse's and no bytes. -/
def prO : Obj → Bool
 | .loop _ => true
 | .deferred _ => true
 | .cells _ t _ => decide (t ≠ 5 ∧ t ≠ 92 ∧ t ≠ 136)
 | _ => false
/-- Such from B on lie as they lay. -/
structure KpL (B : Nat) (W W' : World) : Prop where
 size : W.heap.size ≤ W'.heap.size
 same : ∀ (r : Nat) (o : Obj), B ≤ r → W.heap[r]? = some o → prO o = true → W'.heap[r]? = some o
theorem KpL.refl (B : Nat) (W : World) : KpL B W W := ⟨Nat.le_refl _, fun _ _ _ h _ => h⟩
theorem KpL.trans {B : Nat} {X Y Z : World} (h : KpL B X Y) (k : KpL B Y Z) : KpL B X Z := ⟨Nat.le_trans h.size k.size, fun r o hB hr ho => k.same r o hB (h.same r o hB hr ho) ho⟩
theorem KpL.mono {B B' : Nat} {X Y : World} (h : KpL B X Y) (hB : B ≤ B') : KpL B' X Y := ⟨h.size, fun r _o hr => h.same r _o (Nat.le_trans hB hr)⟩
theorem KpL.below {B : Nat} {X Y : World} (h : Below X.heap.size X Y) : KpL B X Y := ⟨h.size, fun r _ _ hr _ => (h.block r (Array.getElem?_eq_some_iff.1 hr).1).trans hr⟩
/-- How a round may be left. -/
def rdP (B : Nat) (Go : World → Prop) (Ix : Code → World → Prop) (W : World) : Exit → Act → World → Prop
 | .normal, _, W' => KpL B W W' ∧ Go W'
 | .ret, _, W' => KpL B W W' ∧ Ix .ret W'
 | .exit id, _, W' => KpL B W W' ∧ Ix (.exit id) W'
 | .goto t, _, W' => KpL B W W' ∧ Ix (.goto t) W'
 | .panic _, _, _ => False
 | .outgrown, _, _ => False
/-- What a call of yield comes to. -/
def Yld (P : Program) (l : Nat) (args : Array Value) (B : Nat) (W : World) (Go St : World → Prop) : Prop :=
 YieldAt Fence.wide 0 P l args W fun e W' => KpL B W W' ∧ ((e = .returned (.bool true) ∧ Go W') ∨ (e = .returned (.bool false) ∧ St W'))
/-- What an iterator gf with the captured values lb does that is called in W1, for the caller's I: it goes on from J i to J (i + 1) by a call of yield where En i holds, or for itself. -/
def ItC (P : Program) (gf : Nat) (lb : Array Value) (k : Nat) (encs : Nat → Array Value) (En I : Nat → World → Prop) (B : Nat) : Prop :=
 ∀ (l : Nat) (W1 : World) (J : Nat → World → Prop) (Jx : World → Prop), B ≤ W1.heap.size → (∀ i, OwL W1.heap.size (J i)) → OwL W1.heap.size Jx → (∀ i W, J i W → I i W) → (∀ i i' W, J i W → I i' W → J i' W) →
  (∀ i W, i < k → J i W → En i W → Yld P l (encs i) W1.heap.size W (J (i + 1)) Jx) → J 0 W1 → Calls P gf (#[.func (.yield l) #[] #[]] ++ lb) W1 fun e W' => (∃ v, e = .returned v) ∧ (J k W' ∨ Jx W')
def endAct (a : Act) (D : Nat) : Act := { a with defers := { target := .collected D, args := #[] } :: a.defers }
theorem range_law {P : Program} {g : Operand} {ps : Array Tmp} {assign body : Code} {Q : Exit → Act → World → Prop} {a : Act} {w : World} {gf : Nat} {lb : Array Value}
  (hg : a.eval g = .func (.func gf) #[] lb) (eg : ∀ args w, (callFunc gf args).run P w = .ok (.enter gf args) w) (k : Nat) (encs : Nat → Array Value) (hps : ∀ i, (encs i).size = ps.size)
  (En I : Nat → World → Prop) (Ix : Code → World → Prop) (hI : ∀ i, OwL w.heap.size (I i)) (hIx : ∀ c, OwL w.heap.size (Ix c)) (h0 : I 0 w) (hseq : ItC P gf lb k encs En I w.heap.size)
  (Ax : Nat → Act → World → Prop) (hAx : ∀ i a', OwL w.heap.size (Ax i a'))
  (hassign : ∀ (l i : Nat) (W : World) (K : Act → World → Prop), i < k → I i W → En i W → (∀ a' W', KpL w.heap.size W W' → I i W' → Ax i a' W' → K a' W') →
   assign.wpIn (rndF l) 0 P (Exit.then K (fun _ _ _ => False)) { tmps := (ps.zip (encs i)).foldl (fun t (p, v) => t.setIfInBounds p v) a.tmps, defers := [] } W)
  (hbody : ∀ (l i : Nat) (a' : Act) (W : World), i < k → I i W → Ax i a' W → body.wpIn (rndF l) 0 P (rdP w.heap.size (I (i + 1)) Ix W) a' W)
  (hdone : ∀ (D : Nat) (W : World), w.heap.size ≤ D → I k W → W.heap[D]? = some (.deferred (some [])) → Q .normal (endAct a D) W)
  (hstop : ∀ (D : Nat) (c : Code) (W : World), w.heap.size ≤ D → Ix c W → W.heap[D]? = some (.deferred (some [])) → c.wpIn Fence.wide 0 P Q (endAct a D) W) :
  (Code.rangeFunc g ps assign body).wpIn Fence.wide 0 P Q a w := by
 refine wpIn_rangeFunc fun fn hfn => ?_
 let bk : LoopState → Option Code → Loop := fun st pe => { state := st, pending := pe, fn, tmps := a.tmps, params := ps, assign, body, defers := w.heap.size }
 obtain ⟨W1, hW1⟩ : ∃ W1, (w.alloc (.deferred (some []))).alloc (.loop (bk .ready none)) = W1 := ⟨_, rfl⟩
 have hsz : W1.heap.size = w.heap.size + 2 := by rw [← hW1]; simp
 have hd1 : W1.heap[w.heap.size]? = some (.deferred (some [])) := by rw [← hW1]; exact (Below.heap_alloc _ _ _ (by simp)).trans (World.alloc_heap_new w _)
 have hl1 : W1.heap[w.heap.size + 1]? = some (.loop (bk .ready none)) := by
  rw [← hW1]; have := World.alloc_heap_new (w.alloc (.deferred (some []))) (.loop (bk .ready none)); rwa [World.size_alloc] at this
 have hi1 : I 0 W1 := by rw [← hW1]; exact hI 0 _ _ (hI 0 _ _ h0 (Tn.alloc _ _ _)) (Tn.alloc _ _ _)
 let J : Nat → World → Prop := fun i W => I i W ∧ W.heap[w.heap.size + 1]? = some (.loop (bk .ready none)) ∧ W.heap[w.heap.size]? = some (.deferred (some []))
 let Jx : World → Prop := fun W => ∃ c, Ix c W ∧ W.heap[w.heap.size + 1]? = some (.loop (bk .done (some c))) ∧ W.heap[w.heap.size]? = some (.deferred (some []))
 have kept : ∀ {A C : World} {r : Nat} {o : Obj}, Tn W1.heap.size A C → r < w.heap.size + 2 → A.heap[r]? = some o → C.heap[r]? = some o := fun ht hr h => (ht.low (by omega) (Array.getElem?_eq_some_iff.1 h).1).trans h
 refine ⟨w.heap.size + 1, [{ target := .collected w.heap.size, args := #[] }], W1, { target := .fn (.func gf) lb, args := #[.func (.yield (w.heap.size + 1)) #[] #[]] }, W1, gf, #[.func (.yield (w.heap.size + 1)) #[] #[]] ++ lb, W1, ?_, ?_, fun _ _ => trivial, ?_, fun h => (by cases h), ?_⟩
 ·rw [← hW1]; exact run_enterLoop_outer _ _ _ _ _
 ·simp only [resolve, hg]; simp [go_sem]
 ·simp [invoke, go_sem, eg]
 refine callsIn_wide.2 ((hseq (w.heap.size + 1) W1 J Jx (by omega) (fun i A C hA ht => ⟨hI i A C hA.1 (ht.mono (by omega)), kept ht (by omega) hA.2.1, kept ht (by omega) hA.2.2⟩)
  (fun A C hA ht => by obtain ⟨c, h1, h2, h3⟩ := hA; exact ⟨c, hIx c A C h1 (ht.mono (by omega)), kept ht (by omega) h2, kept ht (by omega) h3⟩)
  (fun i W h => h.1) (fun i i' W h h' => ⟨h', h.2⟩) ?_ ⟨hi1, hl1, hd1⟩).mono ?_)
 ·rintro i W hik ⟨hi, hl, hd⟩ hen
  have hy := run_yield (P := P) (args := encs i) hl (hps i)
  refine ⟨fn, _, assign, body, hy, roundIn_of_wpIn hfn (hassign _ i W _ hik hi hen ?_)⟩
  clear hy
  intro a' Wa hka hia hax
  have hla := hka.same _ _ (by omega) hl rfl
  have hda := hka.same _ _ (Nat.le_refl _) hd rfl
  have hlt : w.heap.size + 1 < Wa.heap.size := (Array.getElem?_eq_some_iff.1 hla).1
  refine ⟨_, run_beginRound hla rfl, ?_⟩
  have tb : Tn w.heap.size Wa (Wa.putObj (w.heap.size + 1) (.loop { bk .ready none with state := .busy })) := Tn.put _ (by omega) hla rfl
  have hl2 : (Wa.putObj (w.heap.size + 1) (.loop { bk .ready none with state := .busy })).heap[w.heap.size + 1]? = some (.loop { bk .ready none with state := .busy }) := World.putObj_heap_same hlt
  have hd2 : (Wa.putObj (w.heap.size + 1) (.loop { bk .ready none with state := .busy })).heap[w.heap.size]? = some (.deferred (some [])) := (World.putObj_heap_other (by omega)).trans hda
  have far : ∀ (r : Nat) (o : Obj), W1.heap.size ≤ r → Wa.heap[r]? = some o → (Wa.putObj (w.heap.size + 1) (.loop { bk .ready none with state := .busy })).heap[r]? = some o := fun r o hr h => (World.putObj_heap_other (by omega)).trans h
  refine wpIn_mono (hbody _ i a' _ hik (hI i _ _ hia tb) (hAx i a' _ _ hax tb)) ?_
  have fin : ∀ (jump : Option Code) (W3 : World), KpL w.heap.size (Wa.putObj (w.heap.size + 1) (.loop { bk .ready none with state := .busy })) W3 →
    (Instr.endRound (w.heap.size + 1) jump).run P W3 = .ok (.bool jump.isNone) (W3.putObj (w.heap.size + 1) (.loop (bk (if jump.isNone then .ready else .done) jump))) ∧
    Tn w.heap.size W3 (W3.putObj (w.heap.size + 1) (.loop (bk (if jump.isNone then .ready else .done) jump))) ∧
    (W3.putObj (w.heap.size + 1) (.loop (bk (if jump.isNone then .ready else .done) jump))).heap[w.heap.size + 1]? = some (.loop (bk (if jump.isNone then .ready else .done) jump)) ∧
    (W3.putObj (w.heap.size + 1) (.loop (bk (if jump.isNone then .ready else .done) jump))).heap[w.heap.size]? = some (.deferred (some [])) ∧
    KpL W1.heap.size W (W3.putObj (w.heap.size + 1) (.loop (bk (if jump.isNone then .ready else .done) jump))) := fun jump W3 hk3 => by
   have hl3 := hk3.same _ _ (by omega) hl2 rfl
   exact ⟨run_endRound (P := P) jump hl3, Tn.put _ (by omega) hl3 rfl, World.putObj_heap_same (Array.getElem?_eq_some_iff.1 hl3).1, (World.putObj_heap_other (by omega)).trans (hk3.same _ _ (Nat.le_refl _) hd2 rfl),
    ⟨by have := hka.size; have := hk3.size; simp at this ⊢; omega, fun r o hr h hb => (World.putObj_heap_other (by omega)).trans (hk3.same r o (by omega) (far r o hr (hka.same r o (by omega) h hb)) hb)⟩⟩
  rintro e a3 W3 hp
  cases e with
  | normal =>
   obtain ⟨hk3, hi3⟩ := hp
   obtain ⟨hr, ht, hl4, hd4, hkp⟩ := fin none W3 hk3
   exact ⟨_, _, hr, hkp, .inl ⟨rfl, hI _ _ _ hi3 ht, hl4, hd4⟩⟩
  | ret =>
   obtain ⟨hk3, hi3⟩ := hp
   obtain ⟨hr, ht, hl4, hd4, hkp⟩ := fin (some .ret) W3 hk3
   exact ⟨_, _, hr, hkp, .inr ⟨rfl, .ret, hIx _ _ _ hi3 ht, hl4, hd4⟩⟩
  | exit id =>
   obtain ⟨hk3, hi3⟩ := hp
   obtain ⟨hr, ht, hl4, hd4, hkp⟩ := fin (some (.exit id)) W3 hk3
   exact ⟨_, _, hr, hkp, .inr ⟨rfl, .exit id, hIx _ _ _ hi3 ht, hl4, hd4⟩⟩
  | goto t =>
   obtain ⟨hk3, hi3⟩ := hp
   obtain ⟨hr, ht, hl4, hd4, hkp⟩ := fin (some (.goto t)) W3 hk3
   exact ⟨_, _, hr, hkp, .inr ⟨rfl, .goto t, hIx _ _ _ hi3 ht, hl4, hd4⟩⟩
  | panic ch => exact hp.elim
  | outgrown => exact hp.elim
 ·rintro e W2 ⟨⟨v, rfl⟩, (⟨hi, hl, hd⟩ | ⟨c, hi, hl, hd⟩)⟩
  ·exact ⟨none, _, run_endLoop (P := P) hl (by simp [bk]), hdone _ _ (Nat.le_refl _) (hI k _ _ hi (Tn.put _ (by omega) hl rfl)) ((World.putObj_heap_other (by omega)).trans hd)⟩
  ·exact ⟨some c, _, run_endLoop (P := P) hl (by simp [bk]), hstop _ c _ (Nat.le_refl _) (hIx c _ _ hi (Tn.put _ (by omega) hl rfl)) ((World.putObj_heap_other (by omega)).trans hd)⟩
/-- .. where the loop's variables are no boxes. -/
theorem range_plain {P : Program} {g : Operand} {ps : Array Tmp} {assign body : Code} {Q : Exit → Act → World → Prop} {a : Act} {w : World} {gf : Nat} {lb : Array Value}
  (hg : a.eval g = .func (.func gf) #[] lb) (eg : ∀ args w, (callFunc gf args).run P w = .ok (.enter gf args) w) (k : Nat) (encs : Nat → Array Value) (hps : ∀ i, (encs i).size = ps.size)
  (En I : Nat → World → Prop) (Ix : Code → World → Prop) (hEn : ∀ i, OwL w.heap.size (En i)) (hI : ∀ i, OwL w.heap.size (I i)) (hIx : ∀ c, OwL w.heap.size (Ix c)) (h0 : I 0 w) (hseq : ItC P gf lb k encs En I w.heap.size) (asg : Nat → Act)
  (hassign : ∀ (l i : Nat) (W : World) (K : Act → World → Prop), i < k → K (asg i) W → assign.wpIn (rndF l) 0 P (Exit.then K (fun _ _ _ => False)) { tmps := (ps.zip (encs i)).foldl (fun t (p, v) => t.setIfInBounds p v) a.tmps, defers := [] } W)
  (hbody : ∀ (l i : Nat) (W : World), i < k → I i W → En i W → body.wpIn (rndF l) 0 P (rdP w.heap.size (I (i + 1)) Ix W) (asg i) W)
  (hdone : ∀ (D : Nat) (W : World), w.heap.size ≤ D → I k W → W.heap[D]? = some (.deferred (some [])) → Q .normal (endAct a D) W)
  (hstop : ∀ (D : Nat) (c : Code) (W : World), w.heap.size ≤ D → Ix c W → W.heap[D]? = some (.deferred (some [])) → c.wpIn Fence.wide 0 P Q (endAct a D) W) :
  (Code.rangeFunc g ps assign body).wpIn Fence.wide 0 P Q a w :=
 range_law hg eg k encs hps En I Ix hI hIx h0 hseq (fun i a' W => a' = asg i ∧ En i W) (fun i _ A C h ht => ⟨h.1, hEn i A C h.2 ht⟩)
  (fun l i W K hik hi hen hK => hassign l i W K hik (hK _ _ (KpL.refl _ _) hi ⟨rfl, hen⟩)) (fun l i a' W hik hi hax => by obtain ⟨rfl, hen⟩ := hax; exact hbody l i W hik hi hen) hdone hstop
/-! ### A region in a round that calls another loop's yield -/
section
variable {P : Program} {ops : Array Oper} {Q : Exit → Act → World → Prop} {l n : Nat}
def cutQ (l n : Nat) (P : Program) (ops : Array Oper) (Q : Exit → Act → World → Prop) (k2 : List Oper) : Exit → Act → World → Prop
 | .normal, a, w => wpListIn (rndF l) n P ops Q k2 a w
 | .ret, a, w => Q .ret a w
 | .exit id, a, w => Q (.exit id) a w
 | .goto t, a, w => Q (.goto t) a w
 | .panic c, a, w => Q (.panic c) a w
 | .outgrown, a, w => Q .outgrown a w
theorem oper_cut {o : Oper} {a : Act} {w : World} {K : Act → World → Prop} {k2 : List Oper} (hd : ∀ c, o.op ≠ .defer c) (h : o.wp P a w K (cutQ l n P ops Q k2)) : o.wpIn (rndF l) n P a w K Q := by
 refine ⟨fun _ _ => trivial, ?_⟩
 rw [Oper.semAt_eq _ _ _ hd]
 unfold Oper.wp at h
 generalize (execOp a.eval o).run P w = r at *
 cases r with
 | ok x w' =>
  cases x <;> simp only [Oper.upon, Oper.uponIn] at h ⊢ <;>
   first
    | exact h
    | exact ⟨fun e => (by cases e), calls_rnd (h.mono fun e w h => by cases e <;> exact h)⟩
    | exact ⟨fun e => (by cases e), rows_rnd h⟩
    | exact h.elim
 | halt x w' => cases x <;> simp only [Oper.upon, Oper.uponIn] at h ⊢ <;> exact h
theorem list_cut (hQ : ¬ LetsOut Q) {k2 : List Oper} : ∀ (k : List Oper) (a : Act) (w : World), (∀ o ∈ k, ∀ c, o.op ≠ .defer c) → wpList P ops (cutQ l n P ops Q k2) k a w → wpListIn (rndF l) n P ops Q (k ++ k2) a w
 | [], _, _, _, h => h
 | o :: k, a, w, hd, h => by
  unfold wpList at h
  rw [List.cons_append]
  unfold wpListIn
  have ih := fun a w => list_cut (k2 := k2) hQ k a w (fun o' ho' => hd o' (List.mem_cons_of_mem _ ho'))
  split
  ·rename_i hw
   rw [if_pos hw] at h
   rcases h with h | h
   ·exact Oper.wpIn_mono (fun a w h => ih a w h) (oper_cut (hd o (List.mem_cons_self ..)) h)
   ·exact absurd h.2 hQ
  ·rename_i hw
   rw [if_neg hw] at h
   exact ⟨fun _ _ => trivial, ih _ _ h⟩
/-- The call of yield itself. -/
theorem yield_at {l2 : Nat} {o : Oper} {rest : List Oper} {a : Act} {w : World} {x : Operand} {args : Array Operand} {ts : Array TypeId} {vs : Array Value} {R : Ending → World → Prop} (ho : o.op = .call { callee := .value x, args := args, argTypes := ts })
  (hx : a.eval x = .func (.yield l2) #[] #[]) (hv : args.map a.eval = vs) (hw : Region.wanted o (yielded ops a.tmps) = true) (hY : YieldAt Fence.wide 0 P l2 vs w R)
  (hK : ∀ e w', R e w' → ∃ v, e = .returned v ∧ wpListIn (rndF l) 0 P ops Q rest (a.put o.dst v) w') : wpListIn (rndF l) 0 P ops Q (o :: rest) a w := by
 obtain ⟨fn, tmps, assign, body, hy, hR⟩ := hY
 unfold wpListIn
 rw [if_pos hw]
 refine ⟨fun _ _ => trivial, ?_⟩
 rw [Oper.semAt_eq _ _ _ (by rw [ho]; intro c e; cases e)]
 have hrun : (execOp a.eval o).run P w = .ok (.round l2 fn tmps assign body) w := by
  have h1 : (resolve a.eval { callee := .value x, args := args, argTypes := ts } o.type).run P w = .ok { target := .fn (.yield l2) #[], args := vs } w := by
   unfold resolve
   simp only [hx, hv, Deferred.ofValue]
   simp
  unfold execOp
  simp only [ho]
  simp only [Sem.run_bind, h1, Result.andThen]
  simpa [invoke] using hy
 rw [hrun]
 refine ⟨fun e => (by cases e), RoundIn.mono (F := rndF l) hR ?_⟩
 intro e w' hr
 obtain ⟨v, rfl, h⟩ := hK e w' hr
 exact h
/-- A region whose operation number m calls yield. -/
theorem round_yield {id m : Nat} {k : List Oper} {a : Act} {w : World} (hQ : ∀ a w, Q .outgrown a w → False) (hd : noDefer (k.take m).toArray = true) (h : wpList P k.toArray (cutQ l 0 P k.toArray Q (k.drop m)) (k.take m) a w) :
  (Code.region id k.toArray false).wpIn (rndF l) 0 P Q a w := by
 refine wpIn_region_lit ?_
 have := list_cut (fun ⟨a, w, q⟩ => hQ a w q) (k.take m) a w (fun o ho => noDefer_at hd (by simpa using ho)) h
 rwa [List.take_append_drop] at this
end
end Go.Proofs.YtfogkegmdgbecaaGreatDoor

/- The drives of a set: k drives beside one another that have a fuse together, or none. -/
namespace Go.Proofs.YtfogkegmdgbecaaGreatDoor
open Go Go.RowKit

/-! ### What abides books being kept -/
section
variable {A C : World} {S : Nat → Prop} {p m : Nat} {fu : Option Nat} {d : Pd} {L : List (Nm × Ent)} {B : Nat}
theorem CAt.tn {b : Nat} {cs : Array Value} {t : TypeId} (h : CAt A b cs t) (ht : Tn B A C) : CAt C b cs t := (ht.other h rfl).trans h
theorem DrC.tn (h : DrC A S p m fu d L) (ht : Tn B A C) : DrC C S p m fu d L :=
 ⟨h.c.tn ht, by obtain ⟨es, ck, hm⟩ := ownsMap_at h.mp; exact ownsMap_keep h.mp (ht.other hm rfl), h.fs, fun x hx => ownsRow_keep (h.ow x hx) fun b hb => by obtain ⟨cur, hc⟩ := h.file_at hx hb; exact ht.other hc rfl,
  h.ap, h.by8, h.so, h.nm, h.sp, h.sm, h.sf, fun b hb => Nat.lt_of_lt_of_le (h.lt b hb) ht.size, h.us, h.sz⟩
theorem Only.tn {w : World} {T : Nat → Prop} (h : Only T w A) (ht : Tn B A C) (hB : w.heap.size ≤ B) : Only T w C := by
 have hl := @Tn.low B A C ht
 obtain ⟨row, hg, hr⟩ := ht
 exact ⟨hg.os.trans h.os, hg.tape.trans h.tape, hg.output.trans h.output, Nat.le_trans h.size hg.size, fun k hk hT => (hl (by omega) (Nat.lt_of_lt_of_le hk h.size)).trans (h.block k hk hT)⟩
theorem below_tn {w : World} (h : Below w.heap.size w A) (ht : Tn B A C) (hB : w.heap.size ≤ B) : Below w.heap.size w C := by
 have hl := @Tn.low B A C ht
 obtain ⟨row, hg, hr⟩ := ht
 exact ⟨hg.os.trans h.os, hg.tape.trans h.tape, hg.output.trans h.output, Nat.le_trans h.size hg.size, fun k hk => (hl (by omega) (Nat.lt_of_lt_of_le hk h.size)).trans (h.block k hk)⟩
/-- A block that no call of a drive turns. -/
def isBk (W : World) (b : Nat) : Prop := ∃ o : Obj, W.heap[b]? = some o ∧ prO o = true
theorem CAt.nbk {b : Nat} {cs : Array Value} {t : TypeId} (h : CAt A b cs t) (ht : prO (.cells cs t (0, 0)) = false) : ¬ isBk A b := fun ⟨o, h1, h2⟩ => by rw [show A.heap[b]? = _ from h] at h1; cases h1; rw [ht] at h2; cases h2
theorem DrC.slim (h : DrC A S p m fu d L) : DrC A (fun b => S b ∧ ¬ isBk A b) p m fu d L :=
 { h with
  sp := ⟨h.sp, h.c.nbk rfl⟩
  sm := ⟨h.sm, fun ⟨o, h1, h2⟩ => by obtain ⟨es, ck, hm⟩ := ownsMap_at h.mp; rw [hm] at h1; cases h1; cases h2⟩
  sf := fun x hx b hb => ⟨h.sf x hx b hb, fun ⟨o, h1, h2⟩ => by obtain ⟨cur, hc⟩ := h.file_at hx hb; rw [hc] at h1; cases h1; cases h2⟩
  lt := fun b hb => h.lt b hb.1 }
end
section
variable {w wr : World} {k : Nat} {D : Nat → Dv} {Z : Nat → Nat × Bool}
theorem Sys.only (h : Sys w wr k D Z) {Y : Nat → Prop} {w' : World} (ho : Only Y wr w') (hY : ∀ b, b < w.heap.size → ¬ Y b) (hS : ∀ i, i < k → ∀ b, (D i).S b → ¬ Y b) (hF : ∀ i, i < k → ∀ q, (D i).fu = some q → ¬ Y q) : Sys w w' k D Z :=
 ⟨fun i hi => (h.dr i hi).keep ho.size fun b hb => ho.block b (h.lt hi b hb) (hS i hi b hb), fun i hi q hq => by obtain ⟨h1, h2⟩ := h.fz i hi q hq; exact ⟨h1.keep (ho.block q h1.lt (hF i hi q hq)), h2⟩, h.dj, h.ge,
  ⟨ho.os.trans h.be.os, ho.tape.trans h.be.tape, ho.output.trans h.be.output, Nat.le_trans h.be.size ho.size, fun b hb => (ho.block b (Nat.lt_of_lt_of_le hb h.be.size) (hY b hb)).trans (h.be.block b hb)⟩⟩
theorem Sys.tn (h : Sys w wr k D Z) {B : Nat} {w' : World} (ht : Tn B wr w') (hB : w.heap.size ≤ B) : Sys w w' k D Z :=
 ⟨fun i hi => by obtain ⟨m, L, hd⟩ := h.dr i hi; exact ⟨m, L, hd.tn ht⟩, fun i hi q hq => by obtain ⟨h1, h2⟩ := h.fz i hi q hq; exact ⟨h1.tn ht, h2⟩, h.dj, h.ge, below_tn h.be ht hB⟩
def slimD (W : World) (D : Nat → Dv) : Nat → Dv := fun i => { D i with S := fun b => (D i).S b ∧ ¬ isBk W b }
theorem Sys.slim (h : Sys w wr k D Z) : Sys w wr k (slimD wr D) Z :=
 ⟨fun i hi => by obtain ⟨m, L, hd⟩ := h.dr i hi; exact ⟨m, L, hd.slim⟩, fun i hi q hq => by obtain ⟨h1, h2, h3, h4⟩ := h.fz i hi q hq; exact ⟨h1, h2, h3, fun j hj hs => h4 j hj hs.1⟩,
  fun i j hi hj hij b hb hb2 => h.dj i j hi hj hij b hb.1 hb2.1, fun i hi b hb => h.ge i hi b hb.1, h.be⟩
end

/-! ### The drives of a set: those from c on have the fuse -/
def fAt (c : Nat) (f : Fs) (i : Nat) : Fs := if i < c then none else f
def upd {α : Type} (d : Nat → α) (i : Nat) (x : α) : Nat → α := fun j => if j = i then x else d j
theorem upd_same {α : Type} (d : Nat → α) (i : Nat) (x : α) : upd d i x i = x := by simp [upd]
theorem upd_ne {α : Type} (d : Nat → α) {i j : Nat} (x : α) (h : j ≠ i) : upd d i x j = d j := by simp [upd, h]
structure FA (w wr : World) (T : Nat → Prop) (k : Nat) (p : Nat → Nat) (d : Nat → Pd) (f : Fs) (c : Nat) : Prop where
 ex : ∃ D Z fu, Sys w wr k D Z ∧ (∀ i, i < k → (D i).p = p i ∧ (D i).fu = (if i < c then none else fu) ∧ (D i).d = d i ∧ ∀ b, (D i).S b → T b) ∧ fu.map Z = f ∧ (∀ q, fu = some q → T q)
 lt : ∀ b, T b → b < wr.heap.size
 ge : ∀ b, T b → w.heap.size ≤ b
 be : Below w.heap.size w wr
section
variable {w wr : World} {T : Nat → Prop} {k : Nat} {p : Nat → Nat} {d : Nat → Pd} {f : Fs} {c : Nat}
theorem FA.only (h : FA w wr T k p d f c) {Y : Nat → Prop} {w' : World} (ho : Only Y wr w') (hY : ∀ b, b < w.heap.size → ¬ Y b) (hT : ∀ b, T b → ¬ Y b) : FA w w' T k p d f c := by
 obtain ⟨D, Z, fu, hs, hd, hf, hq⟩ := h.ex
 have hs2 := hs.only ho hY (fun i hi b hb => hT b ((hd i hi).2.2.2 b hb)) (fun i hi q e => hT q (hq q (by have := (hd i hi).2.1; rw [e] at this; split at this <;> simp_all)))
 exact ⟨⟨D, Z, fu, hs2, hd, hf, hq⟩, fun b hb => Nat.lt_of_lt_of_le (h.lt b hb) ho.size, h.ge, ⟨ho.os.trans h.be.os, ho.tape.trans h.be.tape, ho.output.trans h.be.output, Nat.le_trans h.be.size ho.size, fun b hb => (ho.block b (Nat.lt_of_lt_of_le hb h.be.size) (hY b hb)).trans (h.be.block b hb)⟩⟩
theorem FA.below (h : FA w wr T k p d f c) {w' : World} (hb : Below wr.heap.size wr w') : FA w w' T k p d f c := h.only (Only.of_below (S := fun _ => False) hb) (fun _ _ h => h) (fun _ _ h => h)
theorem FA.tn (h : FA w wr T k p d f c) {B : Nat} {w' : World} (ht : Tn B wr w') (hB : w.heap.size ≤ B) : FA w w' T k p d f c := by
 obtain ⟨D, Z, fu, hs, hd, hf, hq⟩ := h.ex
 exact ⟨⟨D, Z, fu, hs.tn ht hB, hd, hf, hq⟩, fun b hb => Nat.lt_of_lt_of_le (h.lt b hb) ht.size, h.ge, below_tn h.be ht hB⟩
theorem FA.look (h : FA w wr T k p d f c) {i : Nat} (hi : i < k) {g : FuncId} {args : Array Value} {R : Ending → World → Prop} (hc : ∀ fu S m L, DrC wr S (p i) m fu (d i) L → FuAt wr S fu (fAt c f i) → Calls Tryz.prog g args wr R) : Calls Tryz.prog g args wr R := by
 obtain ⟨D, Z, fu, hs, hd, hf, hq⟩ := h.ex
 obtain ⟨h1, h2, h3, h4⟩ := hd i hi
 obtain ⟨m, L, hr⟩ := hs.dr i hi
 have hu := hs.fu hi
 rw [h1, h3] at hr
 refine hc _ _ m L hr ?_
 have e : fsOf Z (D i) = fAt c f i := by unfold fsOf fAt; rw [h2, ← hf]; split <;> rfl
 rw [← e]; exact hu
/-- What a call leaves that changed drive i: books lie as they lay. -/
def FStep (w wr : World) (T : Nat → Prop) (k : Nat) (p : Nat → Nat) (d : Nat → Pd) (f : Fs) (c : Nat) (w' : World) : Prop :=
 ∃ T', Grows wr T T' ∧ FA w w' T' k p d f c ∧ Only T wr w' ∧ KpL 0 wr w'
theorem FA.turn (h : FA w wr T k p d f c) {i : Nat} (hi : i < k) {g : FuncId} {args : Array Value} {d2 : Pd} {f2 : Fs} {c2 : Nat} {R : Ending → Prop}
  (hc2 : (∀ j, j < k → j ≠ i → (j < c2 ↔ j < c)) ∧ ((i < c2 ↔ i < c) ∨ (i < c2)))
  (hc : ∀ fu S m L, (∀ b, S b → T b) → DrC wr S (p i) m fu (d i) L → FuAt wr S fu (fAt c f i) → Calls Tryz.prog g args wr fun e w' => R e ∧ ∃ S2, Grows wr S S2 ∧ DrAt w' S2 (p i) (if (i < c2 ∧ ¬ i < c) then none else fu) d2 ∧ FuAt w' S2 fu (fAt c f2 i) ∧ Only (fun b => S b ∨ fu = some b) wr w')
  (hn : i < c → f2 = f) (hsm : f2.isSome = f.isSome) :
  Calls Tryz.prog g args wr fun e w' => R e ∧ FStep w wr T k p (upd d i d2) f2 c2 w' := by
 obtain ⟨D, Z, fu, hs0, hd0, hf, hq⟩ := h.ex
 have hs := hs0.slim
 have hd : ∀ i, i < k → (slimD wr D i).p = p i ∧ (slimD wr D i).fu = (if i < c then none else fu) ∧ (slimD wr D i).d = d i ∧ ∀ b, (slimD wr D i).S b → T b ∧ ¬ isBk wr b := fun i hi => ⟨(hd0 i hi).1, (hd0 i hi).2.1, (hd0 i hi).2.2.1, fun b hb => ⟨(hd0 i hi).2.2.2 b hb.1, hb.2⟩⟩
 generalize slimD wr D = E at hs hd
 clear hs0 hd0
 obtain ⟨h1, h2, h3, h4⟩ := hd i hi
 obtain ⟨m, L, hr⟩ := hs.dr i hi
 have hu := hs.fu hi
 have e : fsOf Z (E i) = fAt c f i := by unfold fsOf fAt; rw [h2, ← hf]; split <;> rfl
 rw [h1, h3] at hr
 rw [e] at hu
 refine (hc _ _ m L (fun b hb => (h4 b hb).1) hr hu).mono ?_
 rintro en w' ⟨hR, S2, hg, hda, hfa, ho⟩
 refine ⟨hR, fun b => T b ∨ S2 b, ⟨fun b hb => Or.inl hb, fun b hb => hb.elim Or.inl fun hb => (hg.2 b hb).elim (fun hb => Or.inl (h4 b hb).1) Or.inr⟩, ?_, ?_, ?_⟩
 ·have hfu2 : (if (i < c2 ∧ ¬ i < c) then none else (E i).fu) = (E i).fu ∨ (if (i < c2 ∧ ¬ i < c) then none else (E i).fu) = none := by split <;> simp
  have hda' : DrAt w' S2 (E i).p (if (i < c2 ∧ ¬ i < c) then none else (E i).fu) d2 := by rw [h1]; exact hda
  have hT := hs.turn hi hg hda' hfu2 hfa ho
  refine ⟨⟨_, _, fu, hT, fun j hj => ?_, ?_, fun q e => Or.inl (hq q e)⟩, fun b hb => ?_, fun b hb => ?_, ?_⟩
  ·by_cases ej : j = i
   ·subst ej
    rw [setD_same, upd_same]
    refine ⟨h1, ?_, rfl, fun b hb => Or.inr hb⟩
    show (if (j < c2 ∧ ¬ j < c) then none else (E j).fu) = _
    rw [h2]
    have := hc2.2
    by_cases a1 : j < c2 <;> by_cases a2 : j < c <;> simp [a1, a2] <;> simp [a1, a2] at this
   ·rw [setD_ne _ _ ej, upd_ne _ _ ej]
    obtain ⟨g1, g2, g3, g4⟩ := hd j hj
    have := hc2.1 j hj ej
    exact ⟨g1, by rw [g2]; by_cases a : j < c <;> simp [a, this], g3, fun b hb => Or.inl (g4 b hb).1⟩
  ·by_cases hic : i < c
   ·rw [hn hic, ← hf, h2, if_pos hic]
    cases fu with
    | none => rfl
    | some q => show some (setZ Z none _ q) = some (Z q); unfold setZ; rw [if_neg (by simp)]
   ·rw [h2, if_neg hic]
    cases fu with
    | none => rw [← hf] at hsm; cases f2 with
     | none => rfl
     | some _ => simp at hsm
    | some q =>
     show some (setZ Z (some q) _ q) = f2
     unfold setZ; rw [if_pos rfl]
     unfold fAt; rw [if_neg hic]
     rw [← hf] at hsm
     cases f2 with
     | none => simp at hsm
     | some _ => rfl
  ·rcases hb with hb | hb
   ·exact Nat.lt_of_lt_of_le (h.lt b hb) ho.size
   ·obtain ⟨m2, L2, hr2⟩ := hda; exact hr2.lt b hb
  ·rcases hb with hb | hb
   ·exact h.ge b hb
   ·rcases hg.2 b hb with hb | hb
    ·exact h.ge b (h4 b hb).1
    ·exact Nat.le_trans h.be.size hb
  ·exact hT.be
 ·refine ho.mono fun b hb => ?_
  rcases hb with hb | hb
  ·exact (h4 b hb).1
  ·refine hq b ?_
   rw [h2] at hb; split at hb
   ·cases hb
   ·exact hb
 ·refine ⟨ho.size, fun r o _ hr2 hb2 => (ho.block r (Array.getElem?_eq_some_iff.1 hr2).1 fun hb => ?_).trans hr2⟩
  rcases hb with hb | hb
  ·exact (h4 r hb).2 ⟨o, hr2, hb2⟩
  ·have := (hs.fz i hi r hb).1; exact this.nbk rfl ⟨o, hr2, hb2⟩
theorem FA.step (h : FA w wr T k p d f 0) {i : Nat} (hi : i < k) {g : FuncId} {args : Array Value} {r : Nat × Pd × Fs} (hc : ∀ fu S m L, DrC wr S (p i) m fu (d i) L → FuAt wr S fu f → Calls Tryz.prog g args wr (Done wr S (p i) fu r)) (hsm : r.2.2.isSome = f.isSome) :
  Calls Tryz.prog g args wr fun e w' => e = .returned (.int .i64 (r.1 : Int)) ∧ FStep w wr T k p (upd d i r.2.1) r.2.2 0 w' := by
 refine h.turn hi (c2 := 0) (R := fun e => e = .returned (.int .i64 (r.1 : Int))) ⟨fun _ _ _ => Iff.rfl, Or.inl Iff.rfl⟩ (fun fu S m L _ hd hf => (hc fu S m L hd (by simpa [fAt] using hf)).mono ?_) (fun h => absurd h (Nat.not_lt_zero _)) hsm
 rintro e w' ⟨h1, S2, hg, hda, hfa, ho⟩
 exact ⟨h1, S2, hg, by simpa using hda, by simpa [fAt] using hfa, ho⟩
theorem chg_sm (d : Pd) (f : Fs) (F : List (Nm × Fi)) : (d.chg f F).2.2.isSome = f.isSome := by
 unfold Pd.chg; cases f with
 | none => rfl
 | some z => obtain ⟨n, g⟩ := z; cases n <;> rfl
theorem write_sm (d : Pd) (f : Fs) (s : Nm) (b : List Nat) : (d.write f s b).2.2.isSome = f.isSome := by
 unfold Pd.write; split; rfl; split; rfl; exact chg_sm d f _
theorem sync_sm (d : Pd) (f : Fs) (s : Nm) : (d.sync f s).2.2.isSome = f.isSome := by
 unfold Pd.sync; split; rfl; split; rfl; exact chg_sm d f _
theorem rename_sm (d : Pd) (f : Fs) (s t : Nm) : (d.rename f s t).2.2.isSome = f.isSome := by
 unfold Pd.rename; split; rfl; split; rfl; exact chg_sm d f _
theorem delete_sm (d : Pd) (f : Fs) (s : Nm) : (d.delete f s).2.2.isSome = f.isSome := by
 unfold Pd.delete; split; rfl; split; rfl; exact chg_sm d f _
end

/-! ### A loop over them, begun in wr: what is written besides are blocks X that lay there -/
structure FI (w wr : World) (T X : Nat → Prop) (k : Nat) (p : Nat → Nat) (d : Nat → Pd) (f : Fs) (W : World) : Prop where
 ex : ∃ T', Grows wr T T' ∧ FA w W T' k p d f 0
 on : Only (fun b => T b ∨ X b) wr W
section
variable {w wr W : World} {T X : Nat → Prop} {k : Nat} {p : Nat → Nat} {d : Nat → Pd} {f : Fs}
/-- What lay in wr, outside T, has not turned from W to W'. -/
def Kpt (wr : World) (T : Nat → Prop) (W W' : World) : Prop := ∀ b, b < wr.heap.size → ¬ T b → W'.heap[b]? = W.heap[b]?
theorem FI.start (h : FA w wr T k p d f 0) : FI w wr T X k p d f wr := ⟨⟨T, Grows.refl _ _, h⟩, Only.refl _ _⟩
theorem FI.be (h : FI w wr T X k p d f W) : Below w.heap.size w W := by obtain ⟨T', _, hf⟩ := h.ex; exact hf.be
theorem FI.sz (h : FI w wr T X k p d f W) : wr.heap.size ≤ W.heap.size := h.on.size
theorem FI.below (h : FI w wr T X k p d f W) {W' : World} (hb : Below W.heap.size W W') : FI w wr T X k p d f W' := by
 obtain ⟨T', hg, hf⟩ := h.ex
 exact ⟨⟨T', hg, hf.below hb⟩, h.on.then (Only.of_below (S := fun _ => False) hb) (fun _ _ e => e.elim)⟩
theorem FI.tn (h : FI w wr T X k p d f W) {W' : World} (ht : Tn wr.heap.size W W') (hw : w.heap.size ≤ wr.heap.size) : FI w wr T X k p d f W' := by
 obtain ⟨T', hg, hf⟩ := h.ex
 exact ⟨⟨T', hg, hf.tn ht hw⟩, h.on.tn ht (Nat.le_refl _)⟩
theorem FI.look (h : FI w wr T X k p d f W) {i : Nat} (hi : i < k) {g : FuncId} {args : Array Value} {R : Ending → World → Prop} (hc : ∀ fu S m L, DrC W S (p i) m fu (d i) L → FuAt W S fu f → Calls Tryz.prog g args W R) : Calls Tryz.prog g args W R := by
 obtain ⟨T', hg, hf⟩ := h.ex
 exact hf.look hi fun fu S m L h1 h2 => hc fu S m L h1 (by simpa [fAt] using h2)
theorem FI.set (h : FI w wr T X k p d f W) {b : Nat} (hX : X b) (hb : b < wr.heap.size) (hT : ¬ T b) (hw : w.heap.size ≤ b) (i : Nat) (v : Value) : FI w wr T X k p d f (W.setCell ⟨b, i, none⟩ v) := by
 obtain ⟨T', hg, hf⟩ := h.ex
 have ho : Only (fun x => x = b) W (W.setCell ⟨b, i, none⟩ v) := Only.set W _ v rfl
 exact ⟨⟨T', hg, hf.only ho (fun x hx e => by omega) (fun x hx e => by subst e; exact (hg.2 x hx).elim hT (fun h => by omega))⟩, h.on.then ho (fun x _ e => by subst e; exact Or.inr hX)⟩
def FIs (w wr : World) (T X : Nat → Prop) (k : Nat) (p : Nat → Nat) (d : Nat → Pd) (f : Fs) (W W' : World) : Prop := FI w wr T X k p d f W' ∧ Kpt wr T W W' ∧ KpL 0 W W'
theorem FI.step (h : FI w wr T X k p d f W) {i : Nat} (hi : i < k) {g : FuncId} {args : Array Value} {r : Nat × Pd × Fs} (hc : ∀ fu S m L, DrC W S (p i) m fu (d i) L → FuAt W S fu f → Calls Tryz.prog g args W (Done W S (p i) fu r)) (hsm : r.2.2.isSome = f.isSome) :
  Calls Tryz.prog g args W fun e W' => e = .returned (.int .i64 (r.1 : Int)) ∧ FIs w wr T X k p (upd d i r.2.1) r.2.2 W W' := by
 obtain ⟨T', hg, hf⟩ := h.ex
 refine (hf.step hi hc hsm).mono ?_
 rintro e W' ⟨h1, T2, hg2, hf2, ho, hk⟩
 have hTT : ∀ b, b < wr.heap.size → T' b → T b := fun b hb ht => (hg.2 b ht).elim id (fun h => by omega)
 exact ⟨h1, ⟨⟨T2, ⟨fun b hb => hg2.1 b (hg.1 b hb), fun b hb => (hg2.2 b hb).elim (hg.2 b) (fun hl => Or.inr (Nat.le_trans h.on.size hl))⟩, hf2⟩, h.on.then ho (fun b hb ht => Or.inl (hTT b hb ht))⟩,
  fun b hb hT => ho.block b (Nat.lt_of_lt_of_le hb h.on.size) (fun ht => hT (hTT b hb ht)), hk⟩
theorem FI.done (h : FI w wr T X k p d f W) (hX : ∀ b, ¬ X b) : ∃ T', Grows wr T T' ∧ FA w W T' k p d f 0 ∧ Only T wr W := by
 obtain ⟨T', hg, hf⟩ := h.ex
 exact ⟨T', hg, hf, h.on.mono fun b hb => hb.elim id (fun x => absurd x (hX b))⟩
end
end Go.Proofs.YtfogkegmdgbecaaGreatDoor

/- Lists of drives: each (an iterator), none, checkDrives; a fuse of any number of drives. -/
namespace Go.Proofs.YtfogkegmdgbecaaGreatDoor
open Go Go.RowKit Go.Shelf

/-- A list of drives in memory, at a block that is none of T. -/
structure LsAt (w : World) (T : Nat → Prop) (v : Value) (k : Nat) (p : Nat → Nat) : Prop where
 ex : (k = 0 ∧ v = .slice none 0 0) ∨ (0 < k ∧ ∃ b c, v = .slice (some ⟨b, 0, none⟩) k c ∧ ¬ T b ∧ ∀ j, j < k → w.cell? ⟨b, j, none⟩ = some (ptr (p j)))
theorem cell_lt2 {w : World} {b i : Nat} {v : Value} (h : w.cell? ⟨b, i, none⟩ = some v) : b < w.heap.size := by
 rcases Nat.lt_or_ge b w.heap.size with h' | h'
 ·exact h'
 ·simp [World.cell?, Array.getElem?_eq_none h'] at h
theorem LsAt.keep {w w' : World} {T T' : Nat → Prop} {v : Value} {k : Nat} {p : Nat → Nat} (h : LsAt w T v k p) (hk : ∀ b, b < w.heap.size → ¬ T b → w'.heap[b]? = w.heap[b]?) (hT : ∀ b, b < w.heap.size → T' b → T b) : LsAt w' T' v k p := by
 rcases h.ex with h | ⟨h0, b, c, h1, h2, h3⟩
 ·exact ⟨.inl h⟩
 ·have hb := cell_lt2 (h3 0 h0)
  exact ⟨.inr ⟨h0, b, c, h1, fun ht => h2 (hT b hb ht), fun j hj => (World.cell?_of_block (hk b hb h2)).trans (h3 j hj)⟩⟩
theorem LsAt.tn {w w' : World} {T : Nat → Prop} {v : Value} {k : Nat} {p : Nat → Nat} {B : Nat} (h : LsAt w T v k p) (ht : Tn B w w') : LsAt w' T v k p := by
 rcases h.ex with h | ⟨h0, b, c, h1, h2, h3⟩
 ·exact ⟨.inl h⟩
 ·obtain ⟨o, ho, hc⟩ := cells_of_cell (h3 0 h0)
  have : bkO o = false := by cases o <;> first | rfl | (simp [Obj.isCells] at hc)
  exact ⟨.inr ⟨h0, b, c, h1, h2, fun j hj => (World.cell?_of_block (a := ⟨b, j, none⟩) (ht.other ho this)).trans (h3 j hj)⟩⟩
theorem LsAt.none {w : World} {T : Nat → Prop} {v : Value} {k : Nat} {p : Nat → Nat} (h : LsAt w T v k p) : LsAt w (fun _ => False) v k p := h.keep (fun _ _ _ => rfl) (fun _ _ h => h.elim)
theorem LsAt.form {w : World} {T : Nat → Prop} {v : Value} {k : Nat} {p : Nat → Nat} (h : LsAt w T v k p) : ∃ po c, v = .slice po k c := by
 rcases h.ex with ⟨rfl, h'⟩ | ⟨h0, b, c, h1, h2, h3⟩
 ·exact ⟨_, _, h'⟩
 ·exact ⟨_, _, h1⟩
def eEnc (p : Nat → Nat) (i : Nat) : Array Value := #[.int .i64 (i : Int), ptr (p i)]
theorem each_it (B Bx : Nat) (v : Value) (k : Nat) (p : Nat → Nat) (I : Nat → World → Prop) (hk : k ≤ 1000000) (hm : ∀ i W, I i W → CAt W Bx #[v] 23 ∧ LsAt W (fun _ => False) v k p) :
  ItC Tryz.prog 121 #[ptr Bx] k (eEnc p) (fun _ _ => True) I B := by
 intro l W1 J Jx _ hJ hJx hJI hJJ hY h0
 have HK := hid hk
 obtain ⟨m1, m2⟩ := hm 0 W1 (hJI 0 W1 h0)
 obtain ⟨po, c, rfl⟩ := m2.form
 have c0 : W1.cell? ⟨Bx, 0, none⟩ = some (.slice po k c) := m1.cell 0
 refine (callsIn_wide (n := 1)).1 ?_
 refine callsIn_of_wp Tryz.func121 rfl trivial ?_ rfl
 simp only [Tryz.ntmps121, List.size_toArray, List.length_cons, List.length_nil, Nat.reduceAdd, Nat.reduceSub, Array.replicate_succ, Array.replicate_zero, List.push_toArray, List.append_toArray, List.nil_append, List.cons_append]
 clear m1 m2
 gi_wp2
 clear c0
 gi_loopw [7] (fun q wr => ∃ i : Nat, i ≤ k ∧ q = .int .i64 (i : Int) ∧ J i wr) (fun q _ => (1000000 - intOf q).toNat)
 case atStart => exact ⟨0, Nat.zero_le _, rfl, h0⟩
 case round =>
  obtain ⟨i, hi, rfl, hj⟩ := hrel
  by_cases hlt : i < k
  ·obtain ⟨m1, m2⟩ := hm i wr (hJI i wr hj)
   rcases m2.ex with ⟨h0', h'⟩ | ⟨h0', b, c', h1, h2, h3⟩
   ·omega
   cases h1
   have hc := h3 i hlt
   obtain ⟨fn, tmps, assign, body, hy, hR⟩ := hY i wr hlt hj trivial
   simp only [eEnc] at hy
   have hi' : (i : Int) < (k : Int) := by omega
   have hw : IntKind.i64.wrap ((i : Int) + 1) = (i : Int) + 1 := IntWalk.i64_in _ ⟨by omega, by omega⟩
   clear m1 m2 h3 hm hJI hY
   gi_wp2
   refine hR.mono ?_
   rintro e W3 ⟨_, (⟨rfl, hJ3⟩ | ⟨rfl, hJx3⟩)⟩
   ·gi_wp2
    go_roundw
    case rel => exact ⟨i + 1, hlt, by congr 1, hJ3⟩
    case measure => simp [intOf]; omega
   ·gi_wp2
    refine bodyPost_ret (results_none rfl _ _ _) rfl ?_
    exact ⟨⟨_, rfl⟩, .inr hJx3⟩
  ·have hq : ¬ (i : Int) < (k : Int) := by omega
   have hk' : i = k := by omega
   gi_wp2
   go_end0
   exact ⟨⟨_, rfl⟩, .inl (hk' ▸ hj)⟩
theorem each_any (po : Option Addr) (n c : Nat) (w : World) : Calls Tryz.prog 73 #[.slice po n c] w fun e w' => e = .returned (.func (.func 121) #[] #[ptr w.heap.size]) ∧ w' = w.alloc (.cells #[.slice po n c] 23) := by
 go_enter Tryz.func73, Tryz.ntmps73
 have hmf : ∀ (fn : Fn) (first cap : Array Value) (w : World), (Instr.makeFunc fn first cap).run Tryz.prog w = .ok (.func fn first cap) w := fun _ _ _ _ => rfl
 go_wp2
 go_ret
 exact ⟨rfl, rfl⟩
end Go.Proofs.YtfogkegmdgbecaaGreatDoor
