/- Texts laid into one, cut to what is needed: the remark ahead of each part says what is proved there. -/
import Derived.Test.YtkiojnledimihaaPag
/- A range over a function whose body may write what is new: only loops' books must lie as they lay. (Written by tools/gen_Yo.py.) -/
namespace Go.Proofs.Ytkiojnledimihaa
open Go Go.RowKit Go.Shelf

/-- Such from B on lie as they lay. -/
structure KpM (B : Nat) (W W' : World) : Prop where
  size : W.heap.size ≤ W'.heap.size
  same : ∀ (r : Nat) (o : Obj), B ≤ r → W.heap[r]? = some o → bkO o = true → W'.heap[r]? = some o
theorem KpM.refl (B : Nat) (W : World) : KpM B W W := ⟨Nat.le_refl _, fun _ _ _ h _ => h⟩
theorem KpM.trans {B : Nat} {X Y Z : World} (h : KpM B X Y) (k : KpM B Y Z) : KpM B X Z := ⟨Nat.le_trans h.size k.size, fun r o hB hr ho => k.same r o hB (h.same r o hB hr ho) ho⟩
theorem KpM.mono {B B' : Nat} {X Y : World} (h : KpM B X Y) (hB : B ≤ B') : KpM B' X Y := ⟨h.size, fun r _o hr => h.same r _o (Nat.le_trans hB hr)⟩
theorem KpM.below {B : Nat} {X Y : World} (h : Below X.heap.size X Y) : KpM B X Y := ⟨h.size, fun r _ _ hr _ => (h.block r (Array.getElem?_eq_some_iff.1 hr).1).trans hr⟩
/-- How a round may be left. -/
def rdM (B : Nat) (Go : World → Prop) (Ix : Code → World → Prop) (W : World) : Exit → Act → World → Prop
  | .normal, _, W' => KpM B W W' ∧ Go W'
  | .ret, _, W' => KpM B W W' ∧ Ix .ret W'
  | .exit id, _, W' => KpM B W W' ∧ Ix (.exit id) W'
  | .goto t, _, W' => KpM B W W' ∧ Ix (.goto t) W'
  | .panic _, _, _ => False
  | .outgrown, _, _ => False
/-- What a call of yield comes to. -/
def YlM (P : Program) (l : Nat) (args : Array Value) (B : Nat) (W : World) (Go St : World → Prop) : Prop :=
  YieldAt Fence.wide 0 P l args W fun e W' => KpM B W W' ∧ ((e = .returned (.bool true) ∧ Go W') ∨ (e = .returned (.bool false) ∧ St W'))
/-- What an iterator gf with the captured values lb does that is called in W1, for the caller's I: it goes on from J i to J (i + 1) by a call of yield where En i holds, or for itself. -/
def ItM (P : Program) (gf : Nat) (lb : Array Value) (k : Nat) (encs : Nat → Array Value) (En I : Nat → World → Prop) (B : Nat) : Prop :=
  ∀ (l : Nat) (W1 : World) (J : Nat → World → Prop) (Jx : World → Prop), B ≤ W1.heap.size → (∀ i, OwL W1.heap.size (J i)) → OwL W1.heap.size Jx → (∀ i W, J i W → I i W) → (∀ i i' W, J i W → I i' W → J i' W) →
    (∀ i W, i < k → J i W → En i W → YlM P l (encs i) W1.heap.size W (J (i + 1)) Jx) → J 0 W1 → Calls P gf (#[.func (.yield l) #[] #[]] ++ lb) W1 fun e W' => (∃ v, e = .returned v) ∧ (J k W' ∨ Jx W')
theorem range_lawM {P : Program} {g : Operand} {ps : Array Tmp} {assign body : Code} {Q : Exit → Act → World → Prop} {a : Act} {w : World} {gf : Nat} {lb : Array Value}
    (hg : a.eval g = .func (.func gf) #[] lb) (eg : ∀ args w, (callFunc gf args).run P w = .ok (.enter gf args) w) (k : Nat) (encs : Nat → Array Value) (hps : ∀ i, (encs i).size = ps.size)
    (En I : Nat → World → Prop) (Ix : Code → World → Prop) (hI : ∀ i, OwL w.heap.size (I i)) (hIx : ∀ c, OwL w.heap.size (Ix c)) (h0 : I 0 w) (hseq : ItM P gf lb k encs En I w.heap.size)
    (Ax : Nat → Act → World → Prop) (hAx : ∀ i a', OwL w.heap.size (Ax i a'))
    (hassign : ∀ (l i : Nat) (W : World) (K : Act → World → Prop), i < k → I i W → En i W → (∀ a' W', KpM w.heap.size W W' → I i W' → Ax i a' W' → K a' W') →
      assign.wpIn (rndF l) 0 P (Exit.then K (fun _ _ _ => False)) { tmps := (ps.zip (encs i)).foldl (fun t (p, v) => t.setIfInBounds p v) a.tmps, defers := [] } W)
    (hbody : ∀ (l i : Nat) (a' : Act) (W : World), i < k → I i W → Ax i a' W → body.wpIn (rndF l) 0 P (rdM w.heap.size (I (i + 1)) Ix W) a' W)
    (hdone : ∀ (D : Nat) (W : World), w.heap.size ≤ D → I k W → W.heap[D]? = some (.deferred (some [])) → Q .normal (endAct a D) W)
    (hstop : ∀ (D : Nat) (c : Code) (W : World), w.heap.size ≤ D → Ix c W → W.heap[D]? = some (.deferred (some [])) → c.wpIn Fence.wide 0 P Q (endAct a D) W) :
    (Code.rangeFunc g ps assign body).wpIn Fence.wide 0 P Q a w := by
  refine wpIn_rangeFunc fun fn hfn => ?_
  let bk : LoopState → Option Code → Loop := fun st pe => { state := st, pending := pe, fn, tmps := a.tmps, params := ps, assign, body, defers := w.heap.size }
  obtain ⟨W1, hW1⟩ : ∃ W1, (w.alloc (.deferred (some []))).alloc (.loop (bk .ready none)) = W1 := ⟨_, rfl⟩
  have hsz : W1.heap.size = w.heap.size + 2 := by rw [← hW1]; simp
  have hd1 : W1.heap[w.heap.size]? = some (.deferred (some [])) := by rw [← hW1]; exact (Below.heap_alloc _ _ _ (by simp)).trans (World.alloc_heap_new w _)
  have hl1 : W1.heap[w.heap.size + 1]? = some (.loop (bk .ready none)) := by
    rw [← hW1]; have := World.alloc_heap_new (w.alloc (.deferred (some []))) (.loop (bk .ready none)); rwa [World.size_alloc] at this
  have hi1 : I 0 W1 := by rw [← hW1]; exact hI 0 _ _ (hI 0 _ _ h0 (Tn.alloc _ _ _)) (Tn.alloc _ _ _)
  let J : Nat → World → Prop := fun i W => I i W ∧ W.heap[w.heap.size + 1]? = some (.loop (bk .ready none)) ∧ W.heap[w.heap.size]? = some (.deferred (some []))
  let Jx : World → Prop := fun W => ∃ c, Ix c W ∧ W.heap[w.heap.size + 1]? = some (.loop (bk .done (some c))) ∧ W.heap[w.heap.size]? = some (.deferred (some []))
  have kept : ∀ {A C : World} {r : Nat} {o : Obj}, Tn W1.heap.size A C → r < w.heap.size + 2 → A.heap[r]? = some o → C.heap[r]? = some o := fun ht hr h => (ht.low (by omega) (Array.getElem?_eq_some_iff.1 h).1).trans h
  refine ⟨w.heap.size + 1, [{ target := .collected w.heap.size, args := #[] }], W1, { target := .fn (.func gf) lb, args := #[.func (.yield (w.heap.size + 1)) #[] #[]] }, W1, gf, #[.func (.yield (w.heap.size + 1)) #[] #[]] ++ lb, W1, ?_, ?_, fun _ _ => trivial, ?_, fun h => (by cases h), ?_⟩
  · rw [← hW1]; exact run_enterLoop_outer _ _ _ _ _
  · simp only [resolve, hg]; simp [go_sem]
  · simp [invoke, go_sem, eg]
  refine callsIn_wide.2 ((hseq (w.heap.size + 1) W1 J Jx (by omega) (fun i A C hA ht => ⟨hI i A C hA.1 (ht.mono (by omega)), kept ht (by omega) hA.2.1, kept ht (by omega) hA.2.2⟩)
    (fun A C hA ht => by obtain ⟨c, h1, h2, h3⟩ := hA; exact ⟨c, hIx c A C h1 (ht.mono (by omega)), kept ht (by omega) h2, kept ht (by omega) h3⟩)
    (fun i W h => h.1) (fun i i' W h h' => ⟨h', h.2⟩) ?_ ⟨hi1, hl1, hd1⟩).mono ?_)
  · rintro i W hik ⟨hi, hl, hd⟩ hen
    have hy := run_yield (P := P) (args := encs i) hl (hps i)
    refine ⟨fn, _, assign, body, hy, roundIn_of_wpIn hfn (hassign _ i W _ hik hi hen ?_)⟩
    clear hy
    intro a' Wa hka hia hax
    have hla := hka.same _ _ (by omega) hl rfl
    have hda := hka.same _ _ (Nat.le_refl _) hd rfl
    have hlt : w.heap.size + 1 < Wa.heap.size := (Array.getElem?_eq_some_iff.1 hla).1
    refine ⟨_, run_beginRound hla rfl, ?_⟩
    have tb : Tn w.heap.size Wa (Wa.putObj (w.heap.size + 1) (.loop { bk .ready none with state := .busy })) := Tn.put _ (by omega) hla rfl
    have hl2 : (Wa.putObj (w.heap.size + 1) (.loop { bk .ready none with state := .busy })).heap[w.heap.size + 1]? = some (.loop { bk .ready none with state := .busy }) := World.putObj_heap_same hlt
    have hd2 : (Wa.putObj (w.heap.size + 1) (.loop { bk .ready none with state := .busy })).heap[w.heap.size]? = some (.deferred (some [])) := (World.putObj_heap_other (by omega)).trans hda
    have far : ∀ (r : Nat) (o : Obj), W1.heap.size ≤ r → Wa.heap[r]? = some o → (Wa.putObj (w.heap.size + 1) (.loop { bk .ready none with state := .busy })).heap[r]? = some o := fun r o hr h => (World.putObj_heap_other (by omega)).trans h
    refine wpIn_mono (hbody _ i a' _ hik (hI i _ _ hia tb) (hAx i a' _ _ hax tb)) ?_
    have fin : ∀ (jump : Option Code) (W3 : World), KpM w.heap.size (Wa.putObj (w.heap.size + 1) (.loop { bk .ready none with state := .busy })) W3 →
        (Instr.endRound (w.heap.size + 1) jump).run P W3 = .ok (.bool jump.isNone) (W3.putObj (w.heap.size + 1) (.loop (bk (if jump.isNone then .ready else .done) jump))) ∧
        Tn w.heap.size W3 (W3.putObj (w.heap.size + 1) (.loop (bk (if jump.isNone then .ready else .done) jump))) ∧
        (W3.putObj (w.heap.size + 1) (.loop (bk (if jump.isNone then .ready else .done) jump))).heap[w.heap.size + 1]? = some (.loop (bk (if jump.isNone then .ready else .done) jump)) ∧
        (W3.putObj (w.heap.size + 1) (.loop (bk (if jump.isNone then .ready else .done) jump))).heap[w.heap.size]? = some (.deferred (some [])) ∧
        KpM W1.heap.size W (W3.putObj (w.heap.size + 1) (.loop (bk (if jump.isNone then .ready else .done) jump))) := fun jump W3 hk3 => by
      have hl3 := hk3.same _ _ (by omega) hl2 rfl
      exact ⟨run_endRound (P := P) jump hl3, Tn.put _ (by omega) hl3 rfl, World.putObj_heap_same (Array.getElem?_eq_some_iff.1 hl3).1, (World.putObj_heap_other (by omega)).trans (hk3.same _ _ (Nat.le_refl _) hd2 rfl),
        ⟨by have := hka.size; have := hk3.size; simp at this ⊢; omega, fun r o hr h hb => (World.putObj_heap_other (by omega)).trans (hk3.same r o (by omega) (far r o hr (hka.same r o (by omega) h hb)) hb)⟩⟩
    rintro e a3 W3 hp
    cases e with
    | normal =>
      obtain ⟨hk3, hi3⟩ := hp
      obtain ⟨hr, ht, hl4, hd4, hkp⟩ := fin none W3 hk3
      exact ⟨_, _, hr, hkp, .inl ⟨rfl, hI _ _ _ hi3 ht, hl4, hd4⟩⟩
    | ret =>
      obtain ⟨hk3, hi3⟩ := hp
      obtain ⟨hr, ht, hl4, hd4, hkp⟩ := fin (some .ret) W3 hk3
      exact ⟨_, _, hr, hkp, .inr ⟨rfl, .ret, hIx _ _ _ hi3 ht, hl4, hd4⟩⟩
    | exit id =>
      obtain ⟨hk3, hi3⟩ := hp
      obtain ⟨hr, ht, hl4, hd4, hkp⟩ := fin (some (.exit id)) W3 hk3
      exact ⟨_, _, hr, hkp, .inr ⟨rfl, .exit id, hIx _ _ _ hi3 ht, hl4, hd4⟩⟩
    | goto t =>
      obtain ⟨hk3, hi3⟩ := hp
      obtain ⟨hr, ht, hl4, hd4, hkp⟩ := fin (some (.goto t)) W3 hk3
      exact ⟨_, _, hr, hkp, .inr ⟨rfl, .goto t, hIx _ _ _ hi3 ht, hl4, hd4⟩⟩
    | panic ch => exact hp.elim
    | outgrown => exact hp.elim
  · rintro e W2 ⟨⟨v, rfl⟩, (⟨hi, hl, hd⟩ | ⟨c, hi, hl, hd⟩)⟩
    · exact ⟨none, _, run_endLoop (P := P) hl (by simp [bk]), hdone _ _ (Nat.le_refl _) (hI k _ _ hi (Tn.put _ (by omega) hl rfl)) ((World.putObj_heap_other (by omega)).trans hd)⟩
    · exact ⟨some c, _, run_endLoop (P := P) hl (by simp [bk]), hstop _ c _ (Nat.le_refl _) (hIx c _ _ hi (Tn.put _ (by omega) hl rfl)) ((World.putObj_heap_other (by omega)).trans hd)⟩
/-- .. where the loop's variables are no boxes. -/
theorem range_plainM {P : Program} {g : Operand} {ps : Array Tmp} {assign body : Code} {Q : Exit → Act → World → Prop} {a : Act} {w : World} {gf : Nat} {lb : Array Value}
    (hg : a.eval g = .func (.func gf) #[] lb) (eg : ∀ args w, (callFunc gf args).run P w = .ok (.enter gf args) w) (k : Nat) (encs : Nat → Array Value) (hps : ∀ i, (encs i).size = ps.size)
    (En I : Nat → World → Prop) (Ix : Code → World → Prop) (hEn : ∀ i, OwL w.heap.size (En i)) (hI : ∀ i, OwL w.heap.size (I i)) (hIx : ∀ c, OwL w.heap.size (Ix c)) (h0 : I 0 w) (hseq : ItM P gf lb k encs En I w.heap.size) (asg : Nat → Act)
    (hassign : ∀ (l i : Nat) (W : World) (K : Act → World → Prop), i < k → K (asg i) W → assign.wpIn (rndF l) 0 P (Exit.then K (fun _ _ _ => False)) { tmps := (ps.zip (encs i)).foldl (fun t (p, v) => t.setIfInBounds p v) a.tmps, defers := [] } W)
    (hbody : ∀ (l i : Nat) (W : World), i < k → I i W → En i W → body.wpIn (rndF l) 0 P (rdM w.heap.size (I (i + 1)) Ix W) (asg i) W)
    (hdone : ∀ (D : Nat) (W : World), w.heap.size ≤ D → I k W → W.heap[D]? = some (.deferred (some [])) → Q .normal (endAct a D) W)
    (hstop : ∀ (D : Nat) (c : Code) (W : World), w.heap.size ≤ D → Ix c W → W.heap[D]? = some (.deferred (some [])) → c.wpIn Fence.wide 0 P Q (endAct a D) W) :
    (Code.rangeFunc g ps assign body).wpIn Fence.wide 0 P Q a w :=
  range_lawM hg eg k encs hps En I Ix hI hIx h0 hseq (fun i a' W => a' = asg i ∧ En i W) (fun i _ A C h ht => ⟨h.1, hEn i A C h.2 ht⟩)
    (fun l i W K hik hi hen hK => hassign l i W K hik (hK _ _ (KpM.refl _ _) hi ⟨rfl, hen⟩)) (fun l i a' W hik hi hax => by obtain ⟨rfl, hen⟩ := hax; exact hbody l i W hik hi hen) hdone hstop
end Go.Proofs.Ytkiojnledimihaa

/- Names of package fan. -/
namespace Go.Proofs.Ytkiojnledimihaa
open Go Go.RowKit Go.Shelf

theorem KpM.only {B : Nat} {W W' : World} {S : Nat → Prop} (h : Only S W W') (hS : ∀ b, S b → b < W.heap.size → ∃ cs t q, W.heap[b]? = some (.cells cs t q)) : KpM B W W' := ⟨h.size, fun r o _ hr ho => (h.block r (Array.getElem?_eq_some_iff.1 hr).1 (fun hs => by
  obtain ⟨cs, t, q, e⟩ := hS r hs (Array.getElem?_eq_some_iff.1 hr).1
  rw [e] at hr; cases hr; cases ho)).trans hr⟩
theorem KpM.set {B b : Nat} {W : World} {cs : Array Value} {t : TypeId} (h : CAt W b cs t) (i : Nat) (v : Value) : KpM B W (W.setCell ⟨b, i, none⟩ v) :=
  KpM.only (S := fun x => x = b) (Only.set W ⟨b, i, none⟩ v rfl) (fun x e _ => by subst e; exact ⟨_, _, _, h⟩)
end Go.Proofs.Ytkiojnledimihaa

/- Two rising lists as one that rises: the mathematics; what a loop carries that puts texts behind one another in a list of its own. -/
namespace Go.Proofs.Ytkiojnledimihaa
open Go Go.RowKit Go.Shelf

/-- Both, put together by rising texts. -/
def mrg (A B : List Nm) : List Nm := List.merge A B fun x y => decide (x ≤ y)
theorem mrg_len (A B : List Nm) : (mrg A B).length = A.length + B.length := by unfold mrg; rw [List.length_merge]
theorem mrg_mem {A B : List Nm} {x : Nm} : x ∈ mrg A B ↔ x ∈ A ∨ x ∈ B := by unfold mrg; rw [List.mem_merge]
theorem mrg_nil (A : List Nm) : mrg A [] = A := by unfold mrg; simp
theorem nil_mrg (B : List Nm) : mrg [] B = B := by unfold mrg; simp
theorem mrg_srt {A B : List Nm} (hA : A.Pairwise fun x y => decide (x ≤ y) = true) (hB : B.Pairwise fun x y => decide (x ≤ y) = true) : (mrg A B).Pairwise fun x y => decide (x ≤ y) = true :=
  List.pairwise_merge (fun a b c h1 h2 => by simp only [decide_eq_true_eq] at *; exact Std.le_trans h1 h2) (fun a b => by have := Std.le_total (a := a) (b := b); simpa [Bool.or_eq_true] using this) A B hA hB
/-- So far i of A and j of B are gone through. -/
structure MrP (A B : List Nm) (i j : Nat) : Prop where
  ia : i ≤ A.length
  jb : j ≤ B.length
  at_ : (mrg A B).drop (i + j) = mrg (A.drop i) (B.drop j)
theorem MrP.start (A B : List Nm) : MrP A B 0 0 := ⟨Nat.zero_le _, Nat.zero_le _, by simp⟩
theorem drop_head {L : List Nm} {k : Nat} {x : Nm} {r : List Nm} (h : L.drop k = x :: r) : L.getD k [] = x ∧ L.drop (k + 1) = r := by
  constructor
  · have : (L.drop k)[0]? = some x := by rw [h]; rfl
    rw [List.getElem?_drop] at this
    simp at this; simp [List.getD, this]
  · rw [← List.drop_drop, h]; rfl
theorem MrP.left {A B : List Nm} {i j : Nat} (h : MrP A B i j) (hi : i < A.length) (hc : j = B.length ∨ A.getD i [] ≤ B.getD j []) : MrP A B (i + 1) j ∧ (mrg A B).getD (i + j) [] = A.getD i [] := by
  have e : mrg (A.drop i) (B.drop j) = A.getD i [] :: mrg (A.drop (i + 1)) (B.drop j) := by
    rw [List.drop_eq_getElem_cons hi, getD_in _ _ _ hi]
    by_cases hj : j < B.length
    · rw [List.drop_eq_getElem_cons hj]
      rcases hc with hc | hc
      · omega
      · rw [getD_in _ _ _ hi, getD_in _ _ _ hj] at hc
        unfold mrg
        rw [List.cons_merge_cons_pos]
        simpa using hc
    · rw [show B.drop j = [] from List.drop_eq_nil_of_le (by omega), mrg_nil, mrg_nil]
  obtain ⟨h1, h2⟩ := drop_head (h.at_.trans e)
  exact ⟨⟨hi, h.jb, by rw [show i + 1 + j = i + j + 1 by omega]; exact h2⟩, h1⟩
theorem MrP.right {A B : List Nm} {i j : Nat} (h : MrP A B i j) (hj : j < B.length) (hc : i = A.length ∨ ¬ A.getD i [] ≤ B.getD j []) : MrP A B i (j + 1) ∧ (mrg A B).getD (i + j) [] = B.getD j [] := by
  have e : mrg (A.drop i) (B.drop j) = B.getD j [] :: mrg (A.drop i) (B.drop (j + 1)) := by
    rw [List.drop_eq_getElem_cons hj, getD_in _ _ _ hj]
    by_cases hi : i < A.length
    · rw [List.drop_eq_getElem_cons hi]
      rcases hc with hc | hc
      · omega
      · rw [getD_in _ _ _ hi, getD_in _ _ _ hj] at hc
        unfold mrg
        rw [List.cons_merge_cons_neg]
        simpa using hc
    · rw [show A.drop i = [] from List.drop_eq_nil_of_le (by omega), nil_mrg, nil_mrg]
  obtain ⟨h1, h2⟩ := drop_head (h.at_.trans e)
  exact ⟨⟨h.ia, hj, by rw [show i + (j + 1) = i + j + 1 by omega]; exact h2⟩, h1⟩
theorem ssrt_le {L : List Nm} (h : SSrt L) : L.Pairwise fun x y => decide (x ≤ y) = true :=
  List.Pairwise.imp (fun {a b} h => by rw [decide_eq_true_eq]; exact Std.le_of_lt ((bb_lt a b).1 h)) h
/-- What is merged and compacted is what there is. -/
theorem mrg_wths {A B : List Nm} (hA : SSrt A) (hB : SSrt B) : cmpL (mrg A B) = wths [] (A ++ B) :=
  ssrt_ext (cmpL_srt _ (mrg_srt (ssrt_le hA) (ssrt_le hB))) (wths_srt _ [] (by simp [SSrt])) fun s => by rw [cmpL_mem, wths_mem, mrg_mem, List.mem_append]; simp
theorem flT_app (l m : List TV) : flT (l ++ m) = flT l ++ flT m := by unfold flT; rw [List.flatMap_append]
theorem mgT_half (l : List TV) (k : Nat) : cmpL (mrg (mgT (l.take k)) (mgT (l.drop k))) = mgT l := by
  unfold mgT
  rw [mrg_wths (wths_srt _ [] (by simp [SSrt])) (wths_srt _ [] (by simp [SSrt]))]
  refine wths_eq fun x => ?_
  rw [List.mem_append, wths_mem, wths_mem]
  conv => rhs; rw [← List.take_append_drop k l, flT_app, List.mem_append]
  simp
theorem mgT_len (l : List TV) : (mgT l).length ≤ (flT l).length := by have := wths_len (flT l) []; simpa [mgT] using this
theorem mgT_mem {l : List TV} {x : Nm} : x ∈ mgT l ↔ x ∈ flT l := by unfold mgT; rw [wths_mem]; simp
/-- A list of its own that is filled, whose place is in a box g. -/
structure ApI (w : World) (g : Nat) (L : List Nm) (W : World) : Prop where
  be : Below w.heap.size w W
  ge : w.heap.size ≤ g
  ex : ∃ v, CAt W g #[v] 30 ∧ TxtS w.heap.size W v L
theorem TxtS.tn {B D : Nat} {W W' : World} {v : Value} {L : List Nm} (h : TxtS B W v L) (ht : Tn D W W') : TxtS B W' v L := h.keep fun b hb => by obtain ⟨cur, hc⟩ := h.t.blk hb; exact ht.other hc rfl
theorem ApI.tn {w W W' : World} {g D : Nat} {L : List Nm} (h : ApI w g L W) (ht : Tn D W W') (hD : w.heap.size ≤ D) : ApI w g L W' := by
  obtain ⟨v, h1, h2⟩ := h.ex
  exact ⟨below_tn h.be ht hD, h.ge, v, h1.tn ht, h2.tn ht⟩
theorem TxO.keep {W W' : World} {po : Option Addr} {ns : List Nm} (h : TxO W po ns) (hb : Below W.heap.size W W') : TxO W' po ns := h.below hb
theorem cat_ne {W : World} {g b : Nat} {v : Value} {L : List Nm} {B : Nat} (h1 : CAt W g #[v] 30) {v2 : Value} (h2 : TxtL B W v2 L) (hb : v2.ownBlock = some b) : b ≠ g := fun e => by
  obtain ⟨cur, hc⟩ := h2.blk hb
  have h3 : W.heap[g]? = _ := h1
  rw [← e, hc] at h3
  simp only [Option.some.injEq, Obj.cells.injEq] at h3
  exact absurd h3.2.1 (by decide)
/-- One more: what the load, append and store find, and what they leave. -/
theorem ApI.next {w W : World} {g : Nat} {L : List Nm} (h : ApI w g L W) (x : Nm) (hx : x.length ≤ 512) (hl : L.length ≤ 10000000) :
    ∃ vp vc vp' vc' w6, W.cell? ⟨g, 0, none⟩ = some (.slice vp L.length vc) ∧ (Builtin.append_ #[30, 30] 30 #[.slice vp L.length vc, .slice (some ⟨W.heap.size, 0, none⟩) 1 1]).run Try.prog (W.alloc (.cells #[sv x] 9)) = .ok (.slice vp' (L.length + 1) vc') w6 ∧
      (∃ u, w6.cell? ⟨g, 0, none⟩ = some u) ∧ w6.frozen? ⟨g, 0, none⟩ = false ∧ ApI w g (L ++ [x]) (w6.setCell ⟨g, 0, none⟩ (.slice vp' (L.length + 1) vc')) ∧
      Only (fun b => b = g ∨ (Value.slice vp L.length vc).ownBlock = some b) W (w6.setCell ⟨g, 0, none⟩ (.slice vp' (L.length + 1) vc')) ∧ (∀ b, (Value.slice vp L.length vc).ownBlock = some b → ∃ cur, W.heap[b]? = some (.cells cur 9)) ∧ CAt W g #[.slice vp L.length vc] 30 := by
  obtain ⟨v, h1, h2⟩ := h.ex
  obtain ⟨vp, vc, hvf⟩ := own_form h2.t
  subst hvf
  obtain ⟨v', w', hr, ht, hg, ho⟩ := h2.push x hx (by omega) h.be.size
  obtain ⟨vp', vc', hv'⟩ := own_form ht.t
  rw [List.length_append, List.length_singleton] at hv'
  subst hv'
  have hgl : g < W.heap.size := h1.lt
  have hba : Below W.heap.size W (W.alloc (.cells #[sv x] 9)) := (Below.refl _ _).alloc (Nat.le_refl _) _
  have hgo : (Value.slice vp L.length vc).ownBlock ≠ some g := fun e => cat_ne h1 h2.t e rfl
  have old : ∀ b, b < W.heap.size → (Value.slice vp L.length vc).ownBlock ≠ some b → w'.heap[b]? = W.heap[b]? := fun b hb hn => (hg.block b (by rw [size_al]; omega) (fun e => hn e.symm)).trans (hba.block b hb)
  have c1 : CAt w' g #[.slice vp L.length vc] 30 := h1.keep (old g hgl hgo)
  have hsz : W.heap.size ≤ w'.heap.size := Nat.le_trans hba.size hg.size
  have ho6 : Only (fun b => b = g ∨ (Value.slice vp L.length vc).ownBlock = some b) W (w'.setCell ⟨g, 0, none⟩ (.slice vp' (L.length + 1) vc')) := by
    refine ((Only.of_grown (S := fun b => (Value.slice vp L.length vc).ownBlock = some b) (World.grownBy_alloc W (.cells #[sv x] 9) none) (fun _ e => by cases e)).then (Only.of_grown (S := fun b => (Value.slice vp L.length vc).ownBlock = some b) hg (fun k hk _ => hk)) (fun _ _ h => h)).mono (fun b e => .inr e) |>.then ((Only.set w' ⟨g, 0, none⟩ (.slice vp' (L.length + 1) vc') (rfl : (fun b => b = g) _)).mono fun b e => .inl e.symm) (fun _ _ h => h)
  refine ⟨vp, vc, vp', vc', w', h1.cell 0, hr, ⟨_, c1.cell 0⟩, c1.free 0, ⟨?_, h.ge, _, by have := c1.set 0 (.slice vp' (L.length + 1) vc'); simpa using this, ?_⟩, ho6, fun b hb => h2.t.blk hb, h1⟩
  · refine ⟨ho6.os.trans h.be.os, ho6.tape.trans h.be.tape, ho6.output.trans h.be.output, Nat.le_trans h.be.size ho6.size, fun b hb => (ho6.block b (Nat.lt_of_lt_of_le hb h.be.size) ?_).trans (h.be.block b hb)⟩
    rintro (e | e)
    · have := h.ge; omega
    · have := (own_ge h2.t b e).1; omega
  · refine ht.keep fun b hb => heap_setCell_ne _ _ _ _ ?_
    show b ≠ g
    exact cat_ne c1 ht.t hb
end Go.Proofs.Ytkiojnledimihaa

/- slices.Values, AppendSeq, Collect, Sorted of texts; package place's risen. -/
namespace Go.Proofs.Ytkiojnledimihaa
open Go Go.RowKit Go.Shelf

theorem values_any (po : Option Addr) (n c : Nat) (w : World) : Calls Try.prog 40 #[.slice po n c] w fun e w' => e = .returned (.func (.func 48) #[] #[ptr w.heap.size]) ∧ w' = w.alloc (.cells #[.slice po n c] 30) := by
  go_enter Try.func40, Try.ntmps40
  have hmf : ∀ (fn : Fn) (first cap : Array Value) (w : World), (Instr.makeFunc fn first cap).run Try.prog w = .ok (.func fn first cap) w := fun _ _ _ _ => rfl
  go_wp2
  go_ret
  exact ⟨rfl, rfl⟩
def atT (L : List Nm) (i : Nat) : Nm := L.getD i []
abbrev tEnc (L : List Nm) (i : Nat) : Array Value := #[sv (atT L i)]
theorem values_itM (B Bx : Nat) (po : Option Addr) (c : Nat) (ns : List Nm) (I : Nat → World → Prop) (hk : ns.length ≤ 1000000) (hm : ∀ i W, I i W → CAt W Bx #[.slice po ns.length c] 30 ∧ TxO W po ns) :
    ItM Try.prog 48 #[ptr Bx] ns.length (tEnc ns) (fun _ _ => True) I B := by
  intro l W1 J Jx _ hJ hJx hJI hJJ hY h0
  have HK := hid hk
  obtain ⟨m1, m2⟩ := hm 0 W1 (hJI 0 W1 h0)
  have c0 : W1.cell? ⟨Bx, 0, none⟩ = some (.slice po ns.length c) := m1.cell 0
  refine (callsIn_wide (n := 1)).1 ?_
  refine callsIn_of_wp Try.func48 rfl trivial ?_ rfl
  simp only [Try.ntmps48, List.size_toArray, List.length_cons, List.length_nil, Nat.reduceAdd, Nat.reduceSub, Array.replicate_succ, Array.replicate_zero, List.push_toArray, List.append_toArray, List.nil_append, List.cons_append]
  clear m1 m2
  gi_wp2
  clear c0
  gi_loopw [7] (fun q wr => ∃ i : Nat, i ≤ ns.length ∧ q = .int .i64 (i : Int) ∧ J i wr) (fun q _ => ((1000000 : Int) - intOf q).toNat)
  case atStart => exact ⟨0, Nat.zero_le _, rfl, h0⟩
  case round =>
    obtain ⟨i, hi, rfl, hj⟩ := hrel
    by_cases hlt : i < ns.length
    · obtain ⟨m1, m2⟩ := hm i wr (hJI i wr hj)
      obtain ⟨b, o, hp, hc⟩ := m2.cell hlt
      subst hp
      obtain ⟨fn, tmps, assign, body, hy, hR⟩ := hY i wr hlt hj trivial
      simp only [tEnc, atT] at hy
      have hi' : (i : Int) < (ns.length : Int) := by omega
      have hw : IntKind.i64.wrap ((i : Int) + 1) = (i : Int) + 1 := IntWalk.i64_in _ ⟨by omega, by omega⟩
      clear m1 m2 hm hJI hY
      generalize ns.getD i [] = x at *
      gi_wp2
      refine hR.mono ?_
      rintro e W3 ⟨_, (⟨rfl, hJ3⟩ | ⟨rfl, hJx3⟩)⟩
      · gi_wp2
        go_roundw
        case rel => exact ⟨i + 1, hlt, by congr 1, hJ3⟩
        case measure => have := HK.out; simp only [intOf]; omega
      · gi_wp2
        refine bodyPost_ret (results_none rfl _ _ _) rfl ?_
        exact ⟨⟨_, rfl⟩, .inr hJx3⟩
    · have hq : ¬ (i : Int) < (ns.length : Int) := by omega
      have hk' : i = ns.length := by omega
      gi_wp2
      go_end0
      exact ⟨⟨_, rfl⟩, .inl (hk' ▸ hj)⟩
theorem take_next (L : List Nm) (i : Nat) (h : i < L.length) : L.take (i + 1) = L.take i ++ [L.getD i []] := by rw [List.take_add_one, List.getElem?_eq_getElem h, getD_in _ _ _ h]; rfl
/-- What AppendSeq, Collect and risen answer. -/
def RsP (w : World) (L : List Nm) (e : Ending) (w' : World) : Prop := ∃ po c, e = .returned (.slice po L.length c) ∧ TxtS w.heap.size w' (.slice po L.length c) L ∧ Below w.heap.size w w'
set_option maxHeartbeats 4000000 in
set_option maxRecDepth 100000 in
theorem appendSeq_any {w1 : World} {po : Option Addr} {ns : List Nm} (c Bx : Nat) (hx : CAt w1 Bx #[.slice po ns.length c] 30) (hns : TxO w1 po ns) (hl : ns.length ≤ 1000000) (hs : ∀ x ∈ ns, x.length ≤ 512) :
    Calls Try.prog 50 #[.slice none 0 0, .func (.func 48) #[] #[ptr Bx]] w1 (RsP w1 ns) := by
  refine (callsIn_wide (n := 0)).1 ?_
  refine callsIn_of_wp_marks Try.func50 rfl trivial ?_ rfl
  refine wpIn_wide.2 ?_
  simp only [Try.ntmps50, List.size_toArray, List.length_cons, List.length_nil, Nat.reduceAdd, Nat.reduceSub, Array.replicate_succ, Array.replicate_zero, List.push_toArray, List.append_toArray, List.nil_append, List.cons_append]
  go_wp2
  rename_i Kx hKx
  refine (wpIn_wide (n := 0)).1 ?_
  obtain ⟨W0, hW0⟩ : ∃ W0, w1.alloc (.cells #[.slice none 0 0] 30) = W0 := ⟨_, rfl⟩
  have hb0 : Below w1.heap.size w1 W0 := by rw [← hW0]; exact (Below.refl _ _).alloc (Nat.le_refl _) _
  have x0 : CAt W0 w1.heap.size #[.slice none 0 0] 30 := by rw [← hW0]; exact CAt.made _ _ _
  have hsz : W0.heap.size = w1.heap.size + 1 := by rw [← hW0]; simp
  have hA0 : Hid (ApI w1 w1.heap.size (ns.take 0) W0) := hid ⟨hb0, Nat.le_refl _, _, x0, TxtS.nil _ _⟩
  have HMEM : Hid (∀ W, Below w1.heap.size w1 W → CAt W Bx #[.slice po ns.length c] 30 ∧ TxO W po ns) := hid (fun W hb => ⟨hx.below hb, hns.below hb⟩)
  have HEND : Hid (∀ v W, TxtS w1.heap.size W v ns → Below w1.heap.size w1 W → RsP w1 ns (.returned v) W) := hid (fun v W ht hb => by obtain ⟨vp, vc, rfl⟩ := own_form ht.t; exact ⟨vp, vc, rfl, ht, hb⟩)
  rw [hW0]
  clear hW0 x0 hb0 hx hns
  generalize RsP w1 ns = PP at *
  refine range_plainM (gf := 48) (lb := #[ptr Bx]) rfl (enters_of Try.func48 (by kernel_rfl) rfl) ns.length (tEnc ns) (fun _ => rfl) (fun _ _ => True) (fun i W => ApI w1 w1.heap.size (ns.take i) W)
    (fun _ _ => False) (fun _ _ _ h _ => h) ?hI ?hIx ?h0 ?hseq ?asg ?assign ?body ?done ?stop
  case hI => intro i A C hi ht; exact hi.tn ht (by omega)
  case hIx => intro c A C hi ht; exact hi
  case h0 => exact hA0.out
  case hseq => exact values_itM _ _ po c ns _ hl fun i W hi => HMEM.out W hi.be
  case assign =>
    intro l i W K hik hK
    unfold tEnc
    refine round_list (fun _ _ h => h) (by kernel_rfl) ?_
    go_wp2
    exact hK
  case done =>
    intro D W hD hi hd
    rw [List.take_length] at hi
    obtain ⟨v, a1, t1⟩ := hi.ex
    have c0 : W.cell? ⟨w1.heap.size, 0, none⟩ = some v := a1.cell 0
    have ht : Tn W0.heap.size W (W.putObj D (.deferred none)) := Tn.put _ (by omega) hd rfl
    have HE := hid (HEND.out v _ (t1.tn ht) (below_tn hi.be ht (by omega)))
    refine hKx _ _ ?_
    dsimp only [endAct]
    clear hKx hi a1 t1 ht hA0 HMEM HEND
    go_wp2
    refine ⟨by simp, .inl ⟨_, _, rfl, run_takeDeferred hd, ?_⟩⟩
    refine ⟨v, ?_, HE.out⟩
    simp [results, Try.f50, go_sem]
  case stop =>
    intro D c W hD hi hd
    exact hi.elim
  case body =>
    intro l i W hik hi _
    have hx5 : (ns.getD i []).length ≤ 512 := hs _ (by rw [getD_in _ _ _ hik]; exact List.getElem_mem hik)
    obtain ⟨vp, vc, vp', vc', w6, c1, hr, ⟨u, c6⟩, y6, hn, ho, hbk, hg⟩ := hi.next (ns.getD i []) hx5 (by rw [List.length_take]; omega)
    rw [← take_next ns i hik] at hn
    have hkp : KpM W0.heap.size W (w6.setCell ⟨w1.heap.size, 0, none⟩ (.slice vp' ((ns.take i).length + 1) vc')) := KpM.only ho fun b hb _ => by
      rcases hb with rfl | hb
      · exact ⟨_, _, _, hg⟩
      · obtain ⟨cur, hc⟩ := hbk b hb; exact ⟨_, _, _, hc⟩
    have HN := hid hn
    have HR := hid hr
    have HKP := hid hkp
    clear hn hr hkp ho hbk hg hi hx5
    rw [show ns.getD i [] = atT ns i from rfl] at HR
    generalize (ns.take i).length = k at *
    generalize hk1 : k + 1 = k1 at *
    generalize atT ns i = x at *
    refine wpIn_block ?_
    refine round_list (fun _ _ h => h) (by kernel_rfl) ?_
    go_wp2_with (at_builtin; refine wpList_append_run _ _ 30 rfl rfl _ _ (.slice vp' k1 vc') rfl rfl HR.out ?_)
    exact ⟨HKP.out, HN.out⟩
theorem collect_any {w1 : World} {po : Option Addr} {ns : List Nm} (c Bx : Nat) (hx : CAt w1 Bx #[.slice po ns.length c] 30) (hns : TxO w1 po ns) (hl : ns.length ≤ 1000000) (hs : ∀ x ∈ ns, x.length ≤ 512) :
    Calls Try.prog 46 #[.func (.func 48) #[] #[ptr Bx]] w1 (RsP w1 ns) := by
  have HA := hid (appendSeq_any c Bx hx hns hl hs)
  clear hx hns hs
  go_enter Try.func46, Try.ntmps46
  go_wp2_with (go_at_call 50; refine HA.out.mono ?_; rintro e w2 ⟨vp, vc, rfl, ht, hb⟩; have HT := hid ht; have HB := hid hb; clear ht hb)
  go_ret
  exact ⟨vp, vc, rfl, HT.out, HB.out⟩
theorem sorted_any {w1 : World} {po : Option Addr} {ns : List Nm} (c Bx : Nat) (hx : CAt w1 Bx #[.slice po ns.length c] 30) (hns : TxO w1 po ns) (hl : ns.length ≤ 1000000) (hs : ∀ x ∈ ns, x.length ≤ 512) :
    Calls Try.prog 39 #[.func (.func 48) #[] #[ptr Bx]] w1 (RsP w1 (ns.mergeSort fun x y => decide (x ≤ y))) := by
  have HA := hid (collect_any c Bx hx hns hl hs)
  have hlen : (ns.mergeSort fun x y => decide (x ≤ y)).length = ns.length := List.length_mergeSort _
  have HEND : Hid (∀ vp vc w2 w3, TxtS w1.heap.size w2 (.slice vp ns.length vc) ns → Below w1.heap.size w1 w2 → TxtS w1.heap.size w3 (.slice vp ns.length vc) (ns.mergeSort fun x y => decide (x ≤ y)) → w2.grownBy w3 (Value.slice vp ns.length vc).ownBlock → RsP w1 (ns.mergeSort fun x y => decide (x ≤ y)) (.returned (.slice vp ns.length vc)) w3) := hid (fun vp vc w2 w3 h2 hb h3 hg => by
    unfold RsP
    rw [hlen]
    exact ⟨vp, vc, rfl, h3, below_on_grown hb hg fun b hb => (own_ge h2.t b hb).1⟩)
  generalize RsP w1 (ns.mergeSort fun x y => decide (x ≤ y)) = PP at *
  clear hx hns hs hlen
  go_enter Try.func39, Try.ntmps39
  go_wp2_with (first
    | (go_at_call 46; refine HA.out.mono ?_; rintro e w2 ⟨vp, vc, rfl, ht, hb⟩; have HT := hid ht; have HB := hid hb; clear ht hb)
    | (go_at_call 47; refine (sort2_any HT.out (by omega)).mono ?_; rintro e w3 ⟨rfl, ht3, hg3⟩; have HE := hid (HEND.out _ _ _ _ HT.out HB.out ht3 hg3); clear ht3 hg3))
  exact HE.out
end Go.Proofs.Ytkiojnledimihaa

namespace Go.Proofs.Ytkiojnledimihaa
open Go Go.RowKit Go.Shelf
set_option maxHeartbeats 1000000 in
theorem risen_any {w : World} {po : Option Addr} {ns : List Nm} (c : Nat) (hns : TxO w po ns) (hl : ns.length ≤ 1000000) (hs : ∀ x ∈ ns, x.length ≤ 512) :
    Calls Try.prog 27 #[.slice po ns.length c] w (RsP w (wths [] ns)) := by
  have hb1 : Below w.heap.size w (w.alloc (.cells #[.slice po ns.length c] 30)) := (Below.refl _ _).alloc (Nat.le_refl _) _
  have HS := hid (sorted_any (w1 := w.alloc (.cells #[.slice po ns.length c] 30)) c w.heap.size (CAt.made _ _ _) (hns.below hb1) hl hs)
  have hlen : (ns.mergeSort fun x y => decide (x ≤ y)).length = ns.length := List.length_mergeSort _
  have HEND : Hid (∀ v vp vc w2 w3, Below w.heap.size w w2 → TxtS w.heap.size w2 v (ns.mergeSort fun x y => decide (x ≤ y)) → TxtS w.heap.size w3 (.slice vp (cmpL (ns.mergeSort fun x y => decide (x ≤ y))).length vc) (cmpL (ns.mergeSort fun x y => decide (x ≤ y))) → Only (fun b => v.ownBlock = some b) w2 w3 → RsP w (wths [] ns) (.returned (.slice vp (cmpL (ns.mergeSort fun x y => decide (x ≤ y))).length vc)) w3) := hid (fun v vp vc w2 w3 hb h2 h3 ho => by
    rw [names_one] at h3 ⊢
    exact ⟨vp, vc, rfl, h3, ho.os.trans hb.os, ho.tape.trans hb.tape, ho.output.trans hb.output, Nat.le_trans hb.size ho.size, fun b hb2 => (ho.block b (Nat.lt_of_lt_of_le hb2 hb.size) (fun e => by have := (own_ge h2.t b e).1; omega)).trans (hb.block b hb2)⟩)
  have HB1 := hid hb1
  have HLN : Hid ((ns.mergeSort fun x y => decide (x ≤ y)).length ≤ 1000000) := hid (by rw [hlen]; exact hl)
  clear hlen
  generalize RsP w (wths [] ns) = PP at *
  generalize (ns.mergeSort fun x y => decide (x ≤ y)) = ss at *
  clear hns hs hb1
  go_enter Try.func27, Try.ntmps27
  go_wp2_with (first
    | (go_at_call 40; refine (values_any _ _ _ _).mono ?_; rintro e w2 ⟨rfl, rfl⟩)
    | (go_at_call 39; refine HS.out.mono ?_; rintro e w3 ⟨vp, vc, rfl, ht, hb⟩; have HT := hid (ht.base (B2 := w.heap.size) (by rw [size_al]; omega)); have HB := hid (below_on _ _ HB1.out hb); clear ht hb)
    | (go_at_call 29; refine (compactS_any HT.out HLN.out).mono ?_; rintro e w4 ⟨up, uc, rfl, ht4, ho4⟩; have HE := hid (HEND.out _ up uc _ _ HB.out HT.out ht4 ho4); clear ht4 ho4))
  exact HE.out
end Go.Proofs.Ytkiojnledimihaa
