/- Texts laid into one, cut to what is needed: the remark ahead of each part says what is proved there. -/
import Derived.Test.YtfogkegmdgbecaaGreatDoorPay
import Derived.Test.YtfogkegmdgbecaaGreatDoorPaz
import Derived.Test.YtfogkegmdgbecaaGreatDoorPak
import Derived.Deep.RegionHeld3
/- A range over a function whose body may write what is new: only loops' books must lie as they lay. (Written by tools/gen_Yo.py.) -/
namespace Go.Proofs.YtfogkegmdgbecaaGreatDoor
open Go Go.RowKit Go.Shelf

/-- Such from B on lie as they lay. -/
structure KpM (B : Nat) (W W' : World) : Prop where
 size : W.heap.size ≤ W'.heap.size
 same : ∀ (r : Nat) (o : Obj), B ≤ r → W.heap[r]? = some o → bkO o = true → W'.heap[r]? = some o
theorem KpM.refl (B : Nat) (W : World) : KpM B W W := ⟨Nat.le_refl _, fun _ _ _ h _ => h⟩
theorem KpM.trans {B : Nat} {X Y Z : World} (h : KpM B X Y) (k : KpM B Y Z) : KpM B X Z := ⟨Nat.le_trans h.size k.size, fun r o hB hr ho => k.same r o hB (h.same r o hB hr ho) ho⟩
theorem KpM.mono {B B' : Nat} {X Y : World} (h : KpM B X Y) (hB : B ≤ B') : KpM B' X Y := ⟨h.size, fun r _o hr => h.same r _o (Nat.le_trans hB hr)⟩
theorem KpM.below {B : Nat} {X Y : World} (h : Below X.heap.size X Y) : KpM B X Y := ⟨h.size, fun r _ _ hr _ => (h.block r (Array.getElem?_eq_some_iff.1 hr).1).trans hr⟩
/-- How a round may be left. -/
def rdM (B : Nat) (Go : World → Prop) (Ix : Code → World → Prop) (W : World) : Exit → Act → World → Prop
 | .normal, _, W' => KpM B W W' ∧ Go W'
 | .ret, _, W' => KpM B W W' ∧ Ix .ret W'
 | .exit id, _, W' => KpM B W W' ∧ Ix (.exit id) W'
 | .goto t, _, W' => KpM B W W' ∧ Ix (.goto t) W'
 | .panic _, _, _ => False
 | .outgrown, _, _ => False
/-- What a call of yield comes to. -/
def YlM (P : Program) (l : Nat) (args : Array Value) (B : Nat) (W : World) (Go St : World → Prop) : Prop :=
 YieldAt Fence.wide 0 P l args W fun e W' => KpM B W W' ∧ ((e = .returned (.bool true) ∧ Go W') ∨ (e = .returned (.bool false) ∧ St W'))
/-- What an iterator gf with the captured values lb does that is called in W1, for the caller's I: it goes on from J i to J (i + 1) by a call of yield where En i holds, or for itself. -/
def ItM (P : Program) (gf : Nat) (lb : Array Value) (k : Nat) (encs : Nat → Array Value) (En I : Nat → World → Prop) (B : Nat) : Prop :=
 ∀ (l : Nat) (W1 : World) (J : Nat → World → Prop) (Jx : World → Prop), B ≤ W1.heap.size → (∀ i, OwL W1.heap.size (J i)) → OwL W1.heap.size Jx → (∀ i W, J i W → I i W) → (∀ i i' W, J i W → I i' W → J i' W) →
  (∀ i W, i < k → J i W → En i W → YlM P l (encs i) W1.heap.size W (J (i + 1)) Jx) → J 0 W1 → Calls P gf (#[.func (.yield l) #[] #[]] ++ lb) W1 fun e W' => (∃ v, e = .returned v) ∧ (J k W' ∨ Jx W')
theorem range_lawM {P : Program} {g : Operand} {ps : Array Tmp} {assign body : Code} {Q : Exit → Act → World → Prop} {a : Act} {w : World} {gf : Nat} {lb : Array Value}
  (hg : a.eval g = .func (.func gf) #[] lb) (eg : ∀ args w, (callFunc gf args).run P w = .ok (.enter gf args) w) (k : Nat) (encs : Nat → Array Value) (hps : ∀ i, (encs i).size = ps.size)
  (En I : Nat → World → Prop) (Ix : Code → World → Prop) (hI : ∀ i, OwL w.heap.size (I i)) (hIx : ∀ c, OwL w.heap.size (Ix c)) (h0 : I 0 w) (hseq : ItM P gf lb k encs En I w.heap.size)
  (Ax : Nat → Act → World → Prop) (hAx : ∀ i a', OwL w.heap.size (Ax i a'))
  (hassign : ∀ (l i : Nat) (W : World) (K : Act → World → Prop), i < k → I i W → En i W → (∀ a' W', KpM w.heap.size W W' → I i W' → Ax i a' W' → K a' W') →
   assign.wpIn (rndF l) 0 P (Exit.then K (fun _ _ _ => False)) { tmps := (ps.zip (encs i)).foldl (fun t (p, v) => t.setIfInBounds p v) a.tmps, defers := [] } W)
  (hbody : ∀ (l i : Nat) (a' : Act) (W : World), i < k → I i W → Ax i a' W → body.wpIn (rndF l) 0 P (rdM w.heap.size (I (i + 1)) Ix W) a' W)
  (hdone : ∀ (D : Nat) (W : World), w.heap.size ≤ D → I k W → W.heap[D]? = some (.deferred (some [])) → Q .normal (endAct a D) W)
  (hstop : ∀ (D : Nat) (c : Code) (W : World), w.heap.size ≤ D → Ix c W → W.heap[D]? = some (.deferred (some [])) → c.wpIn Fence.wide 0 P Q (endAct a D) W) :
  (Code.rangeFunc g ps assign body).wpIn Fence.wide 0 P Q a w := by
 refine wpIn_rangeFunc fun fn hfn => ?_
 let bk : LoopState → Option Code → Loop := fun st pe => { state := st, pending := pe, fn, tmps := a.tmps, params := ps, assign, body, defers := w.heap.size }
 obtain ⟨W1, hW1⟩ : ∃ W1, (w.alloc (.deferred (some []))).alloc (.loop (bk .ready none)) = W1 := ⟨_, rfl⟩
 have hsz : W1.heap.size = w.heap.size + 2 := by rw [← hW1]; simp
 have hd1 : W1.heap[w.heap.size]? = some (.deferred (some [])) := by rw [← hW1]; exact (Below.heap_alloc _ _ _ (by simp)).trans (World.alloc_heap_new w _)
 have hl1 : W1.heap[w.heap.size + 1]? = some (.loop (bk .ready none)) := by
  rw [← hW1]; have := World.alloc_heap_new (w.alloc (.deferred (some []))) (.loop (bk .ready none)); rwa [World.size_alloc] at this
 have hi1 : I 0 W1 := by rw [← hW1]; exact hI 0 _ _ (hI 0 _ _ h0 (Tn.alloc _ _ _)) (Tn.alloc _ _ _)
 let J : Nat → World → Prop := fun i W => I i W ∧ W.heap[w.heap.size + 1]? = some (.loop (bk .ready none)) ∧ W.heap[w.heap.size]? = some (.deferred (some []))
 let Jx : World → Prop := fun W => ∃ c, Ix c W ∧ W.heap[w.heap.size + 1]? = some (.loop (bk .done (some c))) ∧ W.heap[w.heap.size]? = some (.deferred (some []))
 have kept : ∀ {A C : World} {r : Nat} {o : Obj}, Tn W1.heap.size A C → r < w.heap.size + 2 → A.heap[r]? = some o → C.heap[r]? = some o := fun ht hr h => (ht.low (by omega) (Array.getElem?_eq_some_iff.1 h).1).trans h
 refine ⟨w.heap.size + 1, [{ target := .collected w.heap.size, args := #[] }], W1, { target := .fn (.func gf) lb, args := #[.func (.yield (w.heap.size + 1)) #[] #[]] }, W1, gf, #[.func (.yield (w.heap.size + 1)) #[] #[]] ++ lb, W1, ?_, ?_, fun _ _ => trivial, ?_, fun h => (by cases h), ?_⟩
 ·rw [← hW1]; exact run_enterLoop_outer _ _ _ _ _
 ·simp only [resolve, hg]; simp [go_sem]
 ·simp [invoke, go_sem, eg]
 refine callsIn_wide.2 ((hseq (w.heap.size + 1) W1 J Jx (by omega) (fun i A C hA ht => ⟨hI i A C hA.1 (ht.mono (by omega)), kept ht (by omega) hA.2.1, kept ht (by omega) hA.2.2⟩)
  (fun A C hA ht => by obtain ⟨c, h1, h2, h3⟩ := hA; exact ⟨c, hIx c A C h1 (ht.mono (by omega)), kept ht (by omega) h2, kept ht (by omega) h3⟩)
  (fun i W h => h.1) (fun i i' W h h' => ⟨h', h.2⟩) ?_ ⟨hi1, hl1, hd1⟩).mono ?_)
 ·rintro i W hik ⟨hi, hl, hd⟩ hen
  have hy := run_yield (P := P) (args := encs i) hl (hps i)
  refine ⟨fn, _, assign, body, hy, roundIn_of_wpIn hfn (hassign _ i W _ hik hi hen ?_)⟩
  clear hy
  intro a' Wa hka hia hax
  have hla := hka.same _ _ (by omega) hl rfl
  have hda := hka.same _ _ (Nat.le_refl _) hd rfl
  have hlt : w.heap.size + 1 < Wa.heap.size := (Array.getElem?_eq_some_iff.1 hla).1
  refine ⟨_, run_beginRound hla rfl, ?_⟩
  have tb : Tn w.heap.size Wa (Wa.putObj (w.heap.size + 1) (.loop { bk .ready none with state := .busy })) := Tn.put _ (by omega) hla rfl
  have hl2 : (Wa.putObj (w.heap.size + 1) (.loop { bk .ready none with state := .busy })).heap[w.heap.size + 1]? = some (.loop { bk .ready none with state := .busy }) := World.putObj_heap_same hlt
  have hd2 : (Wa.putObj (w.heap.size + 1) (.loop { bk .ready none with state := .busy })).heap[w.heap.size]? = some (.deferred (some [])) := (World.putObj_heap_other (by omega)).trans hda
  have far : ∀ (r : Nat) (o : Obj), W1.heap.size ≤ r → Wa.heap[r]? = some o → (Wa.putObj (w.heap.size + 1) (.loop { bk .ready none with state := .busy })).heap[r]? = some o := fun r o hr h => (World.putObj_heap_other (by omega)).trans h
  refine wpIn_mono (hbody _ i a' _ hik (hI i _ _ hia tb) (hAx i a' _ _ hax tb)) ?_
  have fin : ∀ (jump : Option Code) (W3 : World), KpM w.heap.size (Wa.putObj (w.heap.size + 1) (.loop { bk .ready none with state := .busy })) W3 →
    (Instr.endRound (w.heap.size + 1) jump).run P W3 = .ok (.bool jump.isNone) (W3.putObj (w.heap.size + 1) (.loop (bk (if jump.isNone then .ready else .done) jump))) ∧
    Tn w.heap.size W3 (W3.putObj (w.heap.size + 1) (.loop (bk (if jump.isNone then .ready else .done) jump))) ∧
    (W3.putObj (w.heap.size + 1) (.loop (bk (if jump.isNone then .ready else .done) jump))).heap[w.heap.size + 1]? = some (.loop (bk (if jump.isNone then .ready else .done) jump)) ∧
    (W3.putObj (w.heap.size + 1) (.loop (bk (if jump.isNone then .ready else .done) jump))).heap[w.heap.size]? = some (.deferred (some [])) ∧
    KpM W1.heap.size W (W3.putObj (w.heap.size + 1) (.loop (bk (if jump.isNone then .ready else .done) jump))) := fun jump W3 hk3 => by
   have hl3 := hk3.same _ _ (by omega) hl2 rfl
   exact ⟨run_endRound (P := P) jump hl3, Tn.put _ (by omega) hl3 rfl, World.putObj_heap_same (Array.getElem?_eq_some_iff.1 hl3).1, (World.putObj_heap_other (by omega)).trans (hk3.same _ _ (Nat.le_refl _) hd2 rfl),
    ⟨by have := hka.size; have := hk3.size; simp at this ⊢; omega, fun r o hr h hb => (World.putObj_heap_other (by omega)).trans (hk3.same r o (by omega) (far r o hr (hka.same r o (by omega) h hb)) hb)⟩⟩
  rintro e a3 W3 hp
  cases e with
  | normal =>
   obtain ⟨hk3, hi3⟩ := hp
   obtain ⟨hr, ht, hl4, hd4, hkp⟩ := fin none W3 hk3
   exact ⟨_, _, hr, hkp, .inl ⟨rfl, hI _ _ _ hi3 ht, hl4, hd4⟩⟩
  | ret =>
   obtain ⟨hk3, hi3⟩ := hp
   obtain ⟨hr, ht, hl4, hd4, hkp⟩ := fin (some .ret) W3 hk3
   exact ⟨_, _, hr, hkp, .inr ⟨rfl, .ret, hIx _ _ _ hi3 ht, hl4, hd4⟩⟩
  | exit id =>
   obtain ⟨hk3, hi3⟩ := hp
   obtain ⟨hr, ht, hl4, hd4, hkp⟩ := fin (some (.exit id)) W3 hk3
   exact ⟨_, _, hr, hkp, .inr ⟨rfl, .exit id, hIx _ _ _ hi3 ht, hl4, hd4⟩⟩
  | goto t =>
   obtain ⟨hk3, hi3⟩ := hp
   obtain ⟨hr, ht, hl4, hd4, hkp⟩ := fin (some (.goto t)) W3 hk3
   exact ⟨_, _, hr, hkp, .inr ⟨rfl, .goto t, hIx _ _ _ hi3 ht, hl4, hd4⟩⟩
  | panic ch => exact hp.elim
  | outgrown => exact hp.elim
 ·rintro e W2 ⟨⟨v, rfl⟩, (⟨hi, hl, hd⟩ | ⟨c, hi, hl, hd⟩)⟩
  ·exact ⟨none, _, run_endLoop (P := P) hl (by simp [bk]), hdone _ _ (Nat.le_refl _) (hI k _ _ hi (Tn.put _ (by omega) hl rfl)) ((World.putObj_heap_other (by omega)).trans hd)⟩
  ·exact ⟨some c, _, run_endLoop (P := P) hl (by simp [bk]), hstop _ c _ (Nat.le_refl _) (hIx c _ _ hi (Tn.put _ (by omega) hl rfl)) ((World.putObj_heap_other (by omega)).trans hd)⟩
/-- .. where the loop's variables are no boxes. -/
theorem range_plainM {P : Program} {g : Operand} {ps : Array Tmp} {assign body : Code} {Q : Exit → Act → World → Prop} {a : Act} {w : World} {gf : Nat} {lb : Array Value}
  (hg : a.eval g = .func (.func gf) #[] lb) (eg : ∀ args w, (callFunc gf args).run P w = .ok (.enter gf args) w) (k : Nat) (encs : Nat → Array Value) (hps : ∀ i, (encs i).size = ps.size)
  (En I : Nat → World → Prop) (Ix : Code → World → Prop) (hEn : ∀ i, OwL w.heap.size (En i)) (hI : ∀ i, OwL w.heap.size (I i)) (hIx : ∀ c, OwL w.heap.size (Ix c)) (h0 : I 0 w) (hseq : ItM P gf lb k encs En I w.heap.size) (asg : Nat → Act)
  (hassign : ∀ (l i : Nat) (W : World) (K : Act → World → Prop), i < k → K (asg i) W → assign.wpIn (rndF l) 0 P (Exit.then K (fun _ _ _ => False)) { tmps := (ps.zip (encs i)).foldl (fun t (p, v) => t.setIfInBounds p v) a.tmps, defers := [] } W)
  (hbody : ∀ (l i : Nat) (W : World), i < k → I i W → En i W → body.wpIn (rndF l) 0 P (rdM w.heap.size (I (i + 1)) Ix W) (asg i) W)
  (hdone : ∀ (D : Nat) (W : World), w.heap.size ≤ D → I k W → W.heap[D]? = some (.deferred (some [])) → Q .normal (endAct a D) W)
  (hstop : ∀ (D : Nat) (c : Code) (W : World), w.heap.size ≤ D → Ix c W → W.heap[D]? = some (.deferred (some [])) → c.wpIn Fence.wide 0 P Q (endAct a D) W) :
  (Code.rangeFunc g ps assign body).wpIn Fence.wide 0 P Q a w :=
 range_lawM hg eg k encs hps En I Ix hI hIx h0 hseq (fun i a' W => a' = asg i ∧ En i W) (fun i _ A C h ht => ⟨h.1, hEn i A C h.2 ht⟩)
  (fun l i W K hik hi hen hK => hassign l i W K hik (hK _ _ (KpM.refl _ _) hi ⟨rfl, hen⟩)) (fun l i a' W hik hi hax => by obtain ⟨rfl, hen⟩ := hax; exact hbody l i W hik hi hen) hdone hstop
theorem each_itM (B Bx : Nat) (v : Value) (k : Nat) (p : Nat → Nat) (I : Nat → World → Prop) (hk : k ≤ 1000000) (hm : ∀ i W, I i W → CAt W Bx #[v] 23 ∧ LsAt W (fun _ => False) v k p) :
  ItM Tryz.prog 121 #[ptr Bx] k (eEnc p) (fun _ _ => True) I B := by
 intro l W1 J Jx _ hJ hJx hJI hJJ hY h0
 have HK := hid hk
 obtain ⟨m1, m2⟩ := hm 0 W1 (hJI 0 W1 h0)
 obtain ⟨po, c, rfl⟩ := m2.form
 have c0 : W1.cell? ⟨Bx, 0, none⟩ = some (.slice po k c) := m1.cell 0
 refine (callsIn_wide (n := 1)).1 ?_
 refine callsIn_of_wp Tryz.func121 rfl trivial ?_ rfl
 simp only [Tryz.ntmps121, List.size_toArray, List.length_cons, List.length_nil, Nat.reduceAdd, Nat.reduceSub, Array.replicate_succ, Array.replicate_zero, List.push_toArray, List.append_toArray, List.nil_append, List.cons_append]
 clear m1 m2
 gi_wp2
 clear c0
 gi_loopw [7] (fun q wr => ∃ i : Nat, i ≤ k ∧ q = .int .i64 (i : Int) ∧ J i wr) (fun q _ => (1000000 - intOf q).toNat)
 case atStart => exact ⟨0, Nat.zero_le _, rfl, h0⟩
 case round =>
  obtain ⟨i, hi, rfl, hj⟩ := hrel
  by_cases hlt : i < k
  ·obtain ⟨m1, m2⟩ := hm i wr (hJI i wr hj)
   rcases m2.ex with ⟨h0', h'⟩ | ⟨h0', b, c', h1, h2, h3⟩
   ·omega
   cases h1
   have hc := h3 i hlt
   obtain ⟨fn, tmps, assign, body, hy, hR⟩ := hY i wr hlt hj trivial
   simp only [eEnc] at hy
   have hi' : (i : Int) < (k : Int) := by omega
   have hw : IntKind.i64.wrap ((i : Int) + 1) = (i : Int) + 1 := IntWalk.i64_in _ ⟨by omega, by omega⟩
   clear m1 m2 h3 hm hJI hY
   gi_wp2
   refine hR.mono ?_
   rintro e W3 ⟨_, (⟨rfl, hJ3⟩ | ⟨rfl, hJx3⟩)⟩
   ·gi_wp2
    go_roundw
    case rel => exact ⟨i + 1, hlt, by congr 1, hJ3⟩
    case measure => simp [intOf]; omega
   ·gi_wp2
    refine bodyPost_ret (results_none rfl _ _ _) rfl ?_
    exact ⟨⟨_, rfl⟩, .inr hJx3⟩
  ·have hq : ¬ (i : Int) < (k : Int) := by omega
   have hk' : i = k := by omega
   gi_wp2
   go_end0
   exact ⟨⟨_, rfl⟩, .inl (hk' ▸ hj)⟩
end Go.Proofs.YtfogkegmdgbecaaGreatDoor

/- Names of package fan. -/
namespace Go.Proofs.YtfogkegmdgbecaaGreatDoor
open Go Go.RowKit Go.Shelf

abbrev nmX (z : Nat) : Nat → Prop := fun b => b = z + 1 ∨ b = z + 2 ∨ b = z + 3
structure NMI (w w1 W0 : World) (T : Nat → Prop) (k : Nat) (p : Nat → Nat) (X0 : FS) (s : Nm) (i : Nat) (W : World) : Prop where
 fi : FR w W0 T (nmX w1.heap.size) k p X0.d X0.f W
 r1 : CAt W (w1.heap.size + 1) #[.slice none 0 0] 32
 r2 : CAt W (w1.heap.size + 2) #[.int .i64 0] 39
 al : ∃ v, CAt W (w1.heap.size + 3) #[v] 32 ∧ TxtL W0.heap.size W v (nmA X0 s i)
 ok : ∀ j, j < i → (X0.d j).ans X0.f [] ≠ 11
def NMX (w w1 W0 : World) (T : Nat → Prop) (k : Nat) (p : Nat → Nat) (X0 : FS) (c : Code) (W : World) : Prop :=
 c = .ret ∧ (∃ j, j < k ∧ (X0.d j).ans X0.f [] = 11) ∧ FR w W0 T (nmX w1.heap.size) k p X0.d X0.f W ∧ CAt W (w1.heap.size + 1) #[.slice none 0 0] 32 ∧ CAt W (w1.heap.size + 2) #[.int .i64 11] 39
theorem KpM.only {B : Nat} {W W' : World} {S : Nat → Prop} (h : Only S W W') (hS : ∀ b, S b → b < W.heap.size → ∃ cs t q, W.heap[b]? = some (.cells cs t q)) : KpM B W W' := ⟨h.size, fun r o _ hr ho => (h.block r (Array.getElem?_eq_some_iff.1 hr).1 (fun hs => by
 obtain ⟨cs, t, q, e⟩ := hS r hs (Array.getElem?_eq_some_iff.1 hr).1
 rw [e] at hr; cases hr; cases ho)).trans hr⟩
theorem FR.only {w wr W W' : World} {T X Y : Nat → Prop} {k : Nat} {p : Nat → Nat} {d : Nat → Pd} {f : Fs} (h : FR w wr T X k p d f W) (ho : Only Y W W') (hY : ∀ b, Y b → b < W.heap.size → wr.heap.size ≤ b) (hw : w.heap.size ≤ wr.heap.size) (hT : ∀ b, T b → b < wr.heap.size) : FR w wr T X k p d f W' := by
 have ho' : Only (fun b => Y b ∧ b < W.heap.size) W W' := ⟨ho.os, ho.tape, ho.output, ho.size, fun b hb hn => ho.block b hb (fun hy => hn ⟨hy, hb⟩)⟩
 exact ⟨h.fa.only ho' (fun b hb ⟨h1, h2⟩ => by have := hY b h1 h2; omega) (fun b ht ⟨h1, h2⟩ => by have := hY b h1 h2; have := hT b ht; omega), h.on.then ho' (fun b hb ⟨h1, h2⟩ => by have := hY b h1 h2; omega)⟩
theorem KpM.set {B b : Nat} {W : World} {cs : Array Value} {t : TypeId} (h : CAt W b cs t) (i : Nat) (v : Value) : KpM B W (W.setCell ⟨b, i, none⟩ v) :=
 KpM.only (S := fun x => x = b) (Only.set W ⟨b, i, none⟩ v rfl) (fun x e _ => by subst e; exact ⟨_, _, _, h⟩)
/-- What lies beside the names, while they are worked on. -/
structure NMD (w w1 W0 : World) (T : Nat → Prop) (k : Nat) (p : Nat → Nat) (X0 : FS) (D : Nat) (W : World) : Prop where
 fi : FR w W0 T (nmX w1.heap.size) k p X0.d X0.f W
 r1 : CAt W (w1.heap.size + 1) #[.slice none 0 0] 32
 r2 : CAt W (w1.heap.size + 2) #[.int .i64 0] 39
 dd : W.heap[D]? = some (.deferred (some []))
theorem NMD.only {w w1 W0 W W' : World} {T : Nat → Prop} {k : Nat} {p : Nat → Nat} {X0 : FS} {D : Nat} {v : Value} {L : List Nm} (h : NMD w w1 W0 T k p X0 D W) (ht : TxtL W0.heap.size W v L) (ho : Only (fun b => v.ownBlock = some b) W W') (hz : W0.heap.size = w1.heap.size + 5) (hw : w.heap.size ≤ W0.heap.size) (hT : ∀ b, T b → b < W0.heap.size) : NMD w w1 W0 T k p X0 D W' := by
 have hge : ∀ b, v.ownBlock = some b → W0.heap.size ≤ b := fun b hb => (own_ge ht b hb).1
 have hs := h.fi.sz
 have kp : ∀ b, b < W0.heap.size → W'.heap[b]? = W.heap[b]? := fun b hb => ho.block b (by omega) (fun e => by have := hge b e; omega)
 refine ⟨h.fi.only ho (fun b hb _ => hge b hb) hw hT, h.r1.keep (kp _ (by omega)), h.r2.keep (kp _ (by omega)), (ho.block D (Array.getElem?_eq_some_iff.1 h.dd).1 (fun e => ?_)).trans h.dd⟩
 obtain ⟨cur, hc⟩ := ht.blk e
 rw [h.dd] at hc; cases hc
theorem tx_arg {B : Nat} {w : World} {po : Option Addr} {c : Nat} {ns : List Nm} (h : TxtL B w (.slice po ns.length c) ns) : (po = none ∧ ns.length = 0 ∧ c = 0) ∨ ∃ b o, po = some ⟨b, o, none⟩ ∧ ∀ i, i < ns.length → w.cell? ⟨b, o + i, none⟩ = some (sv (ns.getD i [])) := by
 rcases h.2 with ⟨e, h0⟩ | ⟨g, cap, cur, e, _⟩
 ·simp only [Value.slice.injEq] at e; exact .inl ⟨e.1, h0, e.2.2⟩
 ·simp only [Value.slice.injEq] at e; obtain ⟨rfl, -, rfl⟩ := e; exact .inr ⟨g, 0, rfl, fun i hi => by rw [Nat.zero_add]; exact tx_cells h i hi⟩
set_option maxHeartbeats 4000000 in
set_option maxRecDepth 100000 in
theorem fnames_any {w w1 : World} {T : Nat → Prop} {k : Nat} {p : Nat → Nat} {X0 : FS} (h : FA w w1 T k p X0.d X0.f 0) {lv : Value} (hl : LsAt w1 T lv k p) (hk : k ≤ 1000) (hE : Erh w) (hB : ∀ i, i < k → (X0.d i).F.length ≤ 50000) (s : Nm) :
  Calls Tryz.prog 24 #[lv, sv s] w1 (ListAt w1 (nmE k X0) (nmR k X0 s)) := by
 have HCK : Hid (∀ o1 o2 o3, Calls Tryz.prog 71 #[lv] (((w1.alloc o1).alloc o2).alloc o3) fun e w' => e = .returned (.int .i64 (ckD k : Int)) ∧ w' = (((w1.alloc o1).alloc o2).alloc o3)) := fun o1 o2 o3 =>
  have hb : Below w1.heap.size w1 (((w1.alloc o1).alloc o2).alloc o3) := (((Below.refl w1.heap.size w1).alloc (Nat.le_refl _) _).alloc (by simp only [size_al]; omega) _).alloc (by simp only [size_al]; omega) _
  checkDrives_fa (h.below hb) (hl.keep (fun b hb' _ => hb.block b hb') (fun _ _ h => h)) hk
 by_cases hck : ckD k = 0
 ·have hk16 : 1 ≤ k ∧ k ≤ 16 := by unfold ckD at hck; split at hck <;> simp_all
  rw [hck] at HCK
  obtain ⟨po, cc, rfl⟩ := hl.form
  have HK := hid hk16
  have HL := hid hl
  have HBE := hid h.be
  have hmf := run_mf Tryz.prog
  refine (callsIn_wide (n := 0)).1 ?_
  refine callsIn_of_wp_marks Tryz.func24 rfl trivial ?_ rfl
  refine wpIn_wide.2 ?_
  simp only [Tryz.ntmps24, List.size_toArray, List.length_cons, List.length_nil, Nat.reduceAdd, Nat.reduceSub, Array.replicate_succ, Array.replicate_zero, List.push_toArray, List.append_toArray, List.nil_append, List.cons_append]
  clear hl
  go_wp2_with (first
   | (go_at_call 71; refine (HCK.out _ _ _).mono ?_; rintro e w5 ⟨rfl, hw5⟩; have hw6 := hw5.symm; subst hw6)
   | (go_at_call 73; refine (each_any _ _ _ _).mono ?_; rintro e w5 ⟨rfl, rfl⟩))
  rename_i Kx hKx
  refine (wpIn_wide (n := 0)).1 ?_
  obtain ⟨W0, hW0⟩ : ∃ W0, (((((w1.alloc (.cells #[sv s] 9)).alloc (.cells #[.slice none 0 0] 32)).alloc (.cells #[.int .i64 0] 39)).alloc (.cells #[.slice none 0 0] 32)).alloc (.cells #[.slice po k cc] 23)) = W0 := ⟨_, rfl⟩
  have hb0 : Below w1.heap.size w1 W0 := by
   rw [← hW0]
   exact ((((((Below.refl w1.heap.size w1).alloc (Nat.le_refl _) _).alloc (by simp only [size_al]; omega) _).alloc (by simp only [size_al]; omega) _).alloc (by simp only [size_al]; omega) _).alloc (by simp only [size_al]; omega) _)
  have x0 : CAt W0 w1.heap.size #[sv s] 9 := by rw [← hW0]; exact ((((CAt.made w1 #[sv s] 9).old _).old _).old _).old _
  have x1 : CAt W0 (w1.heap.size + 1) #[.slice none 0 0] 32 := by rw [← hW0]; have := (((CAt.made (w1.alloc (.cells #[sv s] 9)) #[.slice none 0 0] 32).old (.cells #[.int .i64 0] 39)).old (.cells #[.slice none 0 0] 32)).old (.cells #[.slice po k cc] 23); simpa only [World.size_alloc] using this
  have x2 : CAt W0 (w1.heap.size + 2) #[.int .i64 0] 39 := by rw [← hW0]; have := ((CAt.made ((w1.alloc (.cells #[sv s] 9)).alloc (.cells #[.slice none 0 0] 32)) #[.int .i64 0] 39).old (.cells #[.slice none 0 0] 32)).old (.cells #[.slice po k cc] 23); simpa only [World.size_alloc] using this
  have x3 : CAt W0 (w1.heap.size + 3) #[.slice none 0 0] 32 := by rw [← hW0]; have := (CAt.made (((w1.alloc (.cells #[sv s] 9)).alloc (.cells #[.slice none 0 0] 32)).alloc (.cells #[.int .i64 0] 39)) #[.slice none 0 0] 32).old (.cells #[.slice po k cc] 23); simpa only [World.size_alloc] using this
  have x4 : CAt W0 (w1.heap.size + 4) #[.slice po k cc] 23 := by rw [← hW0]; have := CAt.made ((((w1.alloc (.cells #[sv s] 9)).alloc (.cells #[.slice none 0 0] 32)).alloc (.cells #[.int .i64 0] 39)).alloc (.cells #[.slice none 0 0] 32)) #[.slice po k cc] 23; simpa only [World.size_alloc] using this
  have hsz : W0.heap.size = w1.heap.size + 5 := by rw [← hW0]; simp
  rw [hW0]
  clear hW0
  have hTl : ∀ b, T b → b < w1.heap.size := h.lt
  have hA0 : FA w W0 T k p X0.d X0.f 0 := h.below hb0
  have hwW : w.heap.size ≤ W0.heap.size := by have := HBE.out.size; omega
  have hwW1 : Hid (w.heap.size ≤ w1.heap.size) := HBE.out.size
  have MEM : Hid (∀ W, FR w W0 T (nmX w1.heap.size) k p X0.d X0.f W → CAt W w1.heap.size #[sv s] 9 ∧ CAt W (w1.heap.size + 4) #[.slice po k cc] 23 ∧ LsAt W T (.slice po k cc) k p) := hid (fun W hf =>
   have bx : ∀ b, b < W0.heap.size → ¬ nmX w1.heap.size b → W.heap[b]? = W0.heap[b]? := fun b h2 h3 => hf.on.block b h2 h3
   ⟨x0.keep (bx _ (by omega) (fun e => by rcases e with e | e | e <;> omega)), x4.keep (bx _ (by omega) (fun e => by rcases e with e | e | e <;> omega)), HL.out.keep (fun b hb _ => hf.keepX hb0 hb (fun e => by rcases e with e | e | e <;> omega)) (fun _ _ h => h)⟩)
  have HTL := hid hTl
  have HSZ := hid hsz
  have HB0 := hid hb0
  have HE := hid hE
  have HTO : Hid (∀ W, Erh W → Calls Tryz.prog 58 #[.iface 160 (.agg #[.int .i64 11])] W fun e W' => e = .returned (.int .i64 11) ∧ Below W.heap.size W W') := fun W hW => told_any 11 W hW
  have FIN : Hid (∀ W' (v : Value) (L : List Nm) (er : Nat), Below w1.heap.size w1 W' → TxtL w1.heap.size W' v L → nmE k X0 = er → nmR k X0 s = L → ListAt w1 (nmE k X0) (nmR k X0 s) (.returned (.tuple #[v, .int .i64 (er : Int)])) W') := hid (fun W' v L er hb ht e1 e2 => by
   obtain ⟨vp, vc, rfl⟩ := own_form ht
   rw [e1, e2]; exact ⟨vp, vc, rfl, ht, hb⟩)
  have HBW : Hid (∀ W', Only (fun b => nmX w1.heap.size b ∨ W0.heap.size ≤ b) W0 W' → Below w1.heap.size w1 W') := hid (fun W' ho => ⟨ho.os.trans HB0.out.os, ho.tape.trans HB0.out.tape, ho.output.trans HB0.out.output, Nat.le_trans HB0.out.size ho.size, fun b hb => (ho.block b (by have := HB0.out.size; omega) (fun e => by rcases e with (e | e | e) | e <;> omega)).trans (HB0.out.block b hb)⟩)
  have HRN : Hid ((∃ j, j < k ∧ (X0.d j).ans X0.f [] = 11) → nmE k X0 = 11 ∧ nmR k X0 s = []) := hid (fun ⟨j, hj, hr⟩ => by have := nmE_brk hck hj hr; exact ⟨this, by unfold nmR; rw [this, if_neg (by decide)]⟩)
  have HRZ : Hid ((∀ j, j < k → (X0.d j).ans X0.f [] ≠ 11) → nmE k X0 = 0 ∧ nmR k X0 s = cmpL ((nmA X0 s k).mergeSort fun x y => decide (x ≤ y))) := hid (fun hr => by have := nmE_ok hck hr; exact ⟨this, by unfold nmR; rw [this, if_pos rfl, names_one]⟩)
  have HLEN : Hid (∀ i, i ≤ k → (nmA X0 s i).length ≤ 800000) := hid (fun i hi => Nat.le_trans (nmA_len i (fun j hj => hB j (by omega))) (by have := HK.out.2; omega))
  have HFL : Hid (∀ W i, FR w W0 T (nmX w1.heap.size) k p X0.d X0.f W → i < k → Calls Tryz.prog 83 #[ptr (p i), sv s] W (NmAt W ((X0.d i).ans X0.f [], (X0.d i).list X0.f s))) := hid (fun W i hf hi => hf.look hi fun fu S m L hd hff => flist_any hd hff s (Nat.lt_of_le_of_lt (hB i hi) (by decide)))
  generalize ListAt w1 (nmE k X0) (nmR k X0 s) = PP at *
  clear x0 x4 h hE hB
  refine range_plainM (gf := 121) (lb := #[ptr (w1.heap.size + 4)]) rfl (enters_of Tryz.func121 (by kernel_rfl) rfl) k (eEnc p) (fun _ => rfl) (fun _ _ => True) (NMI w w1 W0 T k p X0 s)
   (NMX w w1 W0 T k p X0) (fun _ _ _ h _ => h) ?hI ?hIx ?h0 ?hseq ?asg ?assign ?body ?done ?stop
  case hI =>
   intro i A C hi ht
   obtain ⟨v, a1, a2⟩ := hi.al
   exact ⟨hi.fi.tn ht hwW, hi.r1.tn ht, hi.r2.tn ht, ⟨v, a1.tn ht, own_tn a2 ht⟩, hi.ok⟩
  case hIx =>
   intro c A C hi ht
   obtain ⟨h1, h2, h3, h4, h5⟩ := hi
   exact ⟨h1, h2, h3.tn ht hwW, h4.tn ht, h5.tn ht⟩
  case h0 => exact ⟨FR.start hA0, x1, x2, ⟨_, x3, World.ownsRow_nil _ _ _ _⟩, fun j hj => absurd hj (Nat.not_lt_zero _)⟩
  case hseq =>
   refine each_itM _ _ (.slice po k cc) k p _ (by have := HK.out.2; omega) fun i W hi => ?_
   obtain ⟨m1, m2, m3⟩ := MEM.out W hi.fi
   exact ⟨m2, m3.none⟩
  case assign =>
   intro l i W K hik hK
   unfold eEnc
   refine round_list (fun _ _ h => h) (by kernel_rfl) ?_
   go_wp2
   exact hK
  case done =>
   intro D W hD hi hd
   obtain ⟨v, a3, tv⟩ := hi.al
   have hT5 : ∀ b, T b → b < W0.heap.size := fun b hb => by have := HTL.out b hb; omega
   have z := HSZ.out
   have hsW := hi.fi.sz
   have D0 : NMD w w1 W0 T k p X0 D W := ⟨hi.fi, hi.r1, hi.r2, hd⟩
   obtain ⟨e1, e2⟩ := HRZ.out hi.ok
   obtain ⟨ss, hss⟩ : ∃ ss, (nmA X0 s k).mergeSort (fun x y => decide (x ≤ y)) = ss := ⟨_, rfl⟩
   have hsl : ss.length ≤ 800000 := by rw [← hss, List.length_mergeSort]; exact HLEN.out k (Nat.le_refl _)
   rw [hss] at e2
   have HSO : Hid (Calls Tryz.prog 85 #[v] W fun e w7 => e = .returned (.tuple #[]) ∧ NMD w w1 W0 T k p X0 D w7 ∧ TxtL W0.heap.size w7 v ss ∧ CAt w7 (w1.heap.size + 3) #[v] 32) := hid ((sort_any tv (Nat.lt_of_le_of_lt (HLEN.out k (Nat.le_refl _)) (by decide))).mono (by
    rintro e w7 ⟨rfl, t7, g7⟩
    rw [hss] at t7
    have ho : Only (fun b => v.ownBlock = some b) W w7 := Only.of_grown g7 (fun x hx _ => hx)
    exact ⟨rfl, D0.only tv ho z hwW hT5, t7, a3.keep (ho.block _ (by omega) (fun e => by have := (own_ge tv _ e).1; omega))⟩))
   have HCO : Hid (∀ w7, NMD w w1 W0 T k p X0 D w7 → TxtL W0.heap.size w7 v ss → Calls Tryz.prog 86 #[v] w7 fun e w8 => ∃ vp vc, e = .returned (.slice vp (cmpL ss).length vc) ∧ NMD w w1 W0 T k p X0 D w8 ∧ TxtL W0.heap.size w8 (.slice vp (cmpL ss).length vc) (cmpL ss)) := hid (fun w7 h7 t7 => (compact_any t7 (by omega)).mono (by
    rintro e w8 ⟨vp, vc, rfl, t8, o8⟩
    exact ⟨vp, vc, rfl, h7.only t7 o8 z hwW hT5, t8⟩))
   have c3 : W.cell? ⟨w1.heap.size + 3, 0, none⟩ = some v := a3.cell 0
   obtain ⟨vp0, vc0, hv0⟩ := own_form tv
   have HE1 := hid e1
   have HE2 := hid e2
   refine hKx _ _ ?_
   dsimp only [endAct]
   clear hKx hi D0 hd tv a3 e1 e2
   subst hv0
   clear hss
   generalize (nmA X0 s k).length = nk at *
   generalize hcl : (cmpL ss).length = ck at *
   go_wp2_with (first
    | (go_at_call 85; refine HSO.out.mono ?_; rintro e w7 ⟨rfl, d7, t7, a7⟩; have HD7 := hid d7; have HT7 := hid t7; have c7 : w7.cell? ⟨w1.heap.size + 3, 0, none⟩ = some (.slice vp0 nk vc0) := a7.cell 0; clear d7 t7 a7)
    | (go_at_call 86; refine (HCO.out _ HD7.out HT7.out).mono ?_; rintro e w8 ⟨vp, vc, rfl, d8, t8⟩; have HD8 := hid d8; have HT8 := hid t8; have q1 : w8.cell? ⟨w1.heap.size + 1, 0, none⟩ = some (.slice none 0 0) := d8.r1.cell 0; have y1 : w8.frozen? ⟨w1.heap.size + 1, 0, none⟩ = false := d8.r1.free 0; have r7 : CAt (w8.setCell ⟨w1.heap.size + 1, 0, none⟩ (.slice vp ck vc)) (w1.heap.size + 2) #[.int .i64 0] 39 := d8.r2.keep (heap_setCell_ne _ _ _ _ (by show w1.heap.size + 2 ≠ w1.heap.size + 1; omega)); have q2 : (w8.setCell ⟨w1.heap.size + 1, 0, none⟩ (.slice vp ck vc)).cell? ⟨w1.heap.size + 2, 0, none⟩ = some (.int .i64 0) := r7.cell 0; have y2 : (w8.setCell ⟨w1.heap.size + 1, 0, none⟩ (.slice vp ck vc)).frozen? ⟨w1.heap.size + 2, 0, none⟩ = false := r7.free 0; have HR7 := hid r7; clear d8 t8 r7))
   obtain ⟨w9, hw9⟩ : ∃ w9, (w8.setCell ⟨w1.heap.size + 1, 0, none⟩ (.slice vp ck vc)).setCell ⟨w1.heap.size + 2, 0, none⟩ (.int .i64 0) = w9 := ⟨_, rfl⟩
   have z8 := HD8.out.fi.sz
   have k9 : ∀ b, b ≠ w1.heap.size + 1 → b ≠ w1.heap.size + 2 → w9.heap[b]? = w8.heap[b]? := fun b h1 h2 => by rw [← hw9]; exact (heap_setCell_ne _ _ _ _ h2).trans (heap_setCell_ne _ _ _ _ h1)
   have hd2 : w9.heap[D]? = some (.deferred (some [])) := (k9 D (by omega) (by omega)).trans HD8.out.dd
   have r8 : CAt w9 (w1.heap.size + 2) #[.int .i64 0] 39 := by rw [← hw9]; have := HR7.out.set 0 (.int .i64 0); simpa using this
   have r9 : CAt w9 (w1.heap.size + 1) #[.slice vp ck vc] 32 := by
    rw [← hw9]
    refine CAt.keep (w := w8.setCell ⟨w1.heap.size + 1, 0, none⟩ (.slice vp ck vc)) ?_ (heap_setCell_ne _ _ _ _ (by show w1.heap.size + 1 ≠ w1.heap.size + 2; omega))
    have := HD8.out.r1.set 0 (.slice vp ck vc); simpa using this
   have t9 : TxtL W0.heap.size w9 (.slice vp ck vc) (cmpL ss) := HT8.out.keep (fun b hb => k9 b (by have := (own_ge HT8.out b hb).1; omega) (by have := (own_ge HT8.out b hb).1; omega))
   have o9 : Only (nmX w1.heap.size) w8 w9 := by
    rw [← hw9]
    exact ((Only.set w8 ⟨w1.heap.size + 1, 0, none⟩ (.slice vp ck vc) (rfl : (fun b => b = w1.heap.size + 1) _)).mono (fun b e => .inl e.symm)).then ((Only.set _ ⟨w1.heap.size + 2, 0, none⟩ (.int .i64 0) (rfl : (fun b => b = w1.heap.size + 2) _)).mono (fun b e => (.inr (.inl e.symm) : nmX w1.heap.size b))) (fun _ _ h => h)
   have ht : Tn W0.heap.size w9 (w9.putObj D (.deferred none)) := Tn.put _ (by omega) hd2 rfl
   rw [hw9]
   refine ⟨by simp, .inl ⟨_, _, rfl, run_takeDeferred hd2, ?_⟩⟩
   have q4 := (r9.tn ht).cell 0
   have q5 := (r8.tn ht).cell 0
   refine ⟨.tuple #[.slice vp ck vc, .int .i64 0], ?_, ?_⟩
   ·simp [results, Tryz.f24, go_sem, q4, q5]
   ·refine FIN.out _ _ (cmpL ss) 0 (HBW.out _ ?_) (TxtL.base (own_tn t9 ht) (by omega)) HE1.out HE2.out
    exact ((HD8.out.fi.on.then o9 (fun b _ h => h)).tn ht (Nat.le_refl _)).mono fun b hb => .inl hb
  case stop =>
   intro D c W hD hi hd
   obtain ⟨rfl, h1, h2, h3, h5⟩ := hi
   have ht : Tn W0.heap.size W (W.putObj D (.deferred none)) := Tn.put _ (by omega) hd rfl
   refine wpIn_ret ?_
   refine ⟨by simp, .inl ⟨_, _, rfl, run_takeDeferred hd, ?_⟩⟩
   have q4 := (h3.tn ht).cell 0
   have q5 := (h5.tn ht).cell 0
   obtain ⟨e1, e2⟩ := HRN.out h1
   refine ⟨.tuple #[.slice none 0 0, .int .i64 11], ?_, ?_⟩
   ·simp [results, Tryz.f24, endAct, go_sem, q4, q5]
   ·exact FIN.out _ _ [] 11 (HBW.out _ ((h2.tn ht hwW).on.mono fun b hb => .inl hb)) (World.ownsRow_nil _ _ _ _) e1 e2
  case body =>
   intro l i W hik hi _
   clear hsz
   obtain ⟨m1, m2, m3⟩ := MEM.out W hi.fi
   have c0 : W.cell? ⟨w1.heap.size, 0, none⟩ = some (sv s) := m1.cell 0
   have HAS := hid (HFL.out W i hi.fi hik)
   have HI := hid hi
   have HEW := hid (HE.out.on2 hi.fi.be)
   clear m1 m2 m3 hi
   by_cases h11 : (X0.d i).ans X0.f [] = 11
   ·have HX : Hid (∃ j, j < k ∧ (X0.d j).ans X0.f [] = 11) := ⟨i, hik, h11⟩
    rw [h11] at HAS
    have hb11 : brk 11 = .iface 160 (.agg #[.int .i64 11]) := rfl
    generalize (X0.d i).list X0.f s = ns at *
    refine wpIn_block (wpIn_seq (round_list (fun _ _ h => h) (by kernel_rfl) ?_))
    go_wp2_with (go_at_call 83; refine HAS.out.mono ?_; rintro e w5 ⟨qpo, qc, rfl, ho5, hb5⟩; rw [hb11]; have HB5 := hid hb5; clear hb5 ho5)
    have HS6 : Hid (∀ w7, Below w5.heap.size w5 w7 → FR w W0 T (nmX w1.heap.size) k p X0.d X0.f w7 ∧ CAt w7 (w1.heap.size + 1) #[.slice none 0 0] 32 ∧ CAt w7 (w1.heap.size + 2) #[.int .i64 0] 39 ∧ Below W.heap.size W w7) := fun w7 hb7 =>
     have hb := below_on _ _ HB5.out hb7
     ⟨HI.out.fi.below hb, HI.out.r1.below hb, HI.out.r2.below hb, hb⟩
    refine wpIn_seq (wpIn_seq (round_list (fun _ _ h => h) (by kernel_rfl) ?_))
    go_wp2
    refine wpIn_cond_true rfl (wpIn_seq (round_list (fun _ _ h => h) (by kernel_rfl) ?_))
    go_wp2_with (go_at_call 58; refine (HTO.out _ (HEW.out.on2 HB5.out)).mono ?_; rintro e w7 ⟨rfl, hb7⟩; have HS7 := hid (HS6.out w7 hb7); clear hb7; obtain ⟨f7, q1, q2, hb7⟩ := HS7.out; have a1 : w7.cell? ⟨w1.heap.size + 1, 0, none⟩ = some (.slice none 0 0) := q1.cell 0; have y1 : w7.frozen? ⟨w1.heap.size + 1, 0, none⟩ = false := q1.free 0; have r7 : CAt (w7.setCell ⟨w1.heap.size + 1, 0, none⟩ (.slice none 0 0)) (w1.heap.size + 2) #[.int .i64 0] 39 := q2.keep (heap_setCell_ne _ _ _ _ (by show w1.heap.size + 2 ≠ w1.heap.size + 1; omega)); have a2 : (w7.setCell ⟨w1.heap.size + 1, 0, none⟩ (.slice none 0 0)).cell? ⟨w1.heap.size + 2, 0, none⟩ = some (.int .i64 0) := r7.cell 0; have y2 : (w7.setCell ⟨w1.heap.size + 1, 0, none⟩ (.slice none 0 0)).frozen? ⟨w1.heap.size + 2, 0, none⟩ = false := r7.free 0; clear f7 q1 q2 hb7 r7)
    refine wpIn_ret ?_
    obtain ⟨f7, q1, q2, hb7⟩ := HS7.out
    have z := HSZ.out
    have zw := hwW1.out
    have r7 : CAt (w7.setCell ⟨w1.heap.size + 1, 0, none⟩ (.slice none 0 0)) (w1.heap.size + 2) #[.int .i64 0] 39 := q2.keep (heap_setCell_ne _ _ _ _ (by show w1.heap.size + 2 ≠ w1.heap.size + 1; omega))
    refine ⟨((KpM.below hb7).trans (KpM.set q1 _ _)).trans (KpM.set r7 _ _), rfl, HX.out, ?_, ?_, ?_⟩
    ·exact (f7.set (b := w1.heap.size + 1) (.inl rfl) (by omega) (fun ht => by have := HTL.out _ ht; omega) (by omega) 0 _).set (b := w1.heap.size + 2) (.inr (.inl rfl)) (by omega) (fun ht => by have := HTL.out _ ht; omega) (by omega) 0 _
    ·refine CAt.keep (w := w7.setCell ⟨w1.heap.size + 1, 0, none⟩ (.slice none 0 0)) ?_ (heap_setCell_ne _ _ _ _ (by show w1.heap.size + 1 ≠ w1.heap.size + 2; omega))
     have := q1.set 0 (.slice none 0 0); simpa using this
    ·have := r7.set 0 (.int .i64 11); simpa using this
   ·have H11 := hid h11
    have hbn : brk ((X0.d i).ans X0.f []) = .nilIface := by unfold brk; rw [if_neg h11]
    obtain ⟨v, a3, tv⟩ := HI.out.al
    have hnl : ((X0.d i).list X0.f s).length ≤ 800000 := by
     have h1 := HLEN.out (i + 1) hik
     have e : nmA X0 s (i + 1) = nmA X0 s i ++ (X0.d i).list X0.f s := rfl
     rw [e, List.length_append] at h1; omega
    have hnl0 := HLEN.out i (by omega)
    have HNX : Hid (∀ w5 npo nc, Below W.heap.size W w5 → TxtL 0 w5 (.slice npo ((X0.d i).list X0.f s).length nc) ((X0.d i).list X0.f s) → ∃ vp' m' vc' w6, (Builtin.append_ #[32, 32] 32 #[v, .slice npo ((X0.d i).list X0.f s).length nc]).run Tryz.prog w5 = .ok (.slice vp' m' vc') w6 ∧ NMI w w1 W0 T k p X0 s (i + 1) (w6.setCell ⟨w1.heap.size + 3, 0, none⟩ (.slice vp' m' vc')) ∧ KpM W0.heap.size W (w6.setCell ⟨w1.heap.size + 3, 0, none⟩ (.slice vp' m' vc')) ∧ w6.cell? ⟨w1.heap.size + 3, 0, none⟩ = some v ∧ w6.frozen? ⟨w1.heap.size + 3, 0, none⟩ = false) := hid (fun w5 npo nc hb5 t5 => by
     have z := HSZ.out
     have zw := hwW1.out
     have f5 := HI.out.fi.below hb5
     have z5 := f5.sz
     have tv5 := tv.below hb5
     have hT5 : ∀ b, T b → b < W0.heap.size := fun b hb => by have := HTL.out b hb; omega
     obtain ⟨v', w6, hr, t6, g6, o6⟩ := tv5.app npo _ nc _ rfl (tx_arg t5) (by omega) z5
     obtain ⟨vp', vc', rfl⟩ := own_form t6
     have ho : Only (fun b => v.ownBlock = some b) w5 w6 := Only.of_grown g6 (fun x hx _ => hx)
     have hge : ∀ b, v.ownBlock = some b → W0.heap.size ≤ b := fun b hb => (own_ge tv5 b hb).1
     have kp : ∀ b, b < W0.heap.size → w6.heap[b]? = w5.heap[b]? := fun b hb => ho.block b (by omega) (fun e => by have := hge b e; omega)
     have a6 : CAt w6 (w1.heap.size + 3) #[v] 32 := (a3.below hb5).keep (kp _ (by omega))
     have f6 := f5.only ho (fun b hb _ => hge b hb) hwW hT5
     refine ⟨vp', _, vc', w6, hr, ⟨f6.set (b := w1.heap.size + 3) (.inr (.inr rfl)) (by omega) (fun ht => by have := HTL.out _ ht; omega) (by omega) 0 _, ((HI.out.r1.below hb5).keep (kp _ (by omega))).keep (heap_setCell_ne _ _ _ _ (by show w1.heap.size + 1 ≠ w1.heap.size + 3; omega)), ((HI.out.r2.below hb5).keep (kp _ (by omega))).keep (heap_setCell_ne _ _ _ _ (by show w1.heap.size + 2 ≠ w1.heap.size + 3; omega)), ⟨_, by have := fun q => a6.set 0 q; simpa using this _, TxtL.keep t6 fun b hb => heap_setCell_ne _ _ _ _ ?_⟩, fun j hj => ?_⟩, ((KpM.below hb5).trans (KpM.only ho fun b hb _ => by obtain ⟨cur, hc⟩ := tv5.blk hb; exact ⟨_, _, _, hc⟩)).trans (KpM.set a6 _ _), a6.cell 0, a6.free 0⟩
     ·show b ≠ w1.heap.size + 3
      have := (own_ge t6 b hb).1; omega
     ·by_cases e : j = i
      ·subst e; exact H11.out
      ·exact HI.out.ok j (by omega))
    have c3 : W.cell? ⟨w1.heap.size + 3, 0, none⟩ = some v := a3.cell 0
    have HC3 : Hid (∀ w5, Below W.heap.size W w5 → w5.cell? ⟨w1.heap.size + 3, 0, none⟩ = some v) := hid (fun w5 hb5 => (a3.below hb5).cell 0)
    obtain ⟨vp0, vc0, hv0⟩ := own_form tv
    subst hv0
    clear tv a3 c3
    generalize (nmA X0 s i).length = nk at *
    generalize (X0.d i).list X0.f s = ns at *
    refine wpIn_block (wpIn_seq (round_list (fun _ _ h => h) (by kernel_rfl) ?_))
    go_wp2_with (go_at_call 83; refine HAS.out.mono ?_; rintro e w5 ⟨qpo, qc, rfl, ho5, hb5⟩; dsimp only; rw [hbn]; have HB5 := hid hb5; have HO5 := hid ho5; clear hb5 ho5)
    obtain ⟨vp', m', vc', w6, hrun, hnm, hkp, c6, y6⟩ := HNX.out w5 qpo qc HB5.out HO5.out
    have HRUN := hid hrun
    have HNM := hid hnm
    have HKP := hid hkp
    have c5 := HC3.out w5 HB5.out
    clear hrun hnm hkp
    refine wpIn_seq (wpIn_seq (round_list (fun _ _ h => h) (by kernel_rfl) ?_))
    go_wp2
    refine wpIn_cond_false rfl (wpIn_skip ?_)
    refine round_list (fun _ _ h => h) (by kernel_rfl) ?_
    go_wp2_with (at_builtin; refine wpList_append_run _ _ 32 rfl rfl _ _ (.slice vp' m' vc') rfl rfl HRUN.out ?_)
    exact ⟨HKP.out, HNM.out⟩
 ·have hc2 : ckD k = 2 := by unfold ckD at hck ⊢; split at hck; exact absurd rfl hck; rw [if_neg ‹_›]
  rw [hc2] at HCK
  have HE2 : Hid (∀ W, Below w1.heap.size w1 W → ListAt w1 (nmE k X0) (nmR k X0 s) (.returned (.tuple #[.slice none 0 0, .int .i64 2])) W) := hid (fun W hb => by
   have hE : nmE k X0 = 2 := by unfold nmE; rw [if_pos hck, hc2]
   unfold nmR; rw [hE, if_neg (by decide)]
   exact ⟨none, 0, rfl, World.ownsRow_nil _ _ _ _, hb⟩)
  obtain ⟨po, cc, rfl⟩ := hl.form
  generalize ListAt w1 (nmE k X0) (nmR k X0 s) = PP at *
  clear hl h hE hB
  go_enter Tryz.func24, Tryz.ntmps24
  go_wp2_with (first
   | (go_at_call 71; refine (HCK.out _ _ _).mono ?_; rintro e w5 ⟨rfl, hw5⟩; have hw6 := hw5.symm; subst hw6))
  refine ⟨rfl, .tuple #[.slice none 0 0, .int .i64 2], ?_, HE2.out _ ((((Below.refl w1.heap.size w1).alloc (Nat.le_refl _) _).alloc (by simp only [size_al]; omega) _).alloc (by simp only [size_al]; omega) _)⟩
  simp [results, Tryz.f24, go_sem]
end Go.Proofs.YtfogkegmdgbecaaGreatDoor

/- Contract of Light of the document's own answer. -/
namespace Go.Proofs.YtfogkegmdgbecaaGreatDoor
open Go Go.RowKit

theorem rlight_bad (po : Option Addr) (k c : Nat) (n : Int) (hn : n < 0) (w : World) : Calls Tryz.prog 30 #[.slice po k c, .int .i64 n] w fun e w' => e = .returned (.int .i64 2) ∧ w' = w := by
 go_enter Tryz.func30, Tryz.ntmps30
 go_wp2
 go_ret
 exact ⟨rfl, rfl⟩
section
variable {w w' : World} {R : Nat → Prop} {q : Nat} {v : Value} {fu : Option Nat} {d : Pd} {L : List (Nm × Ent)} {f : Fs}
theorem RfC.litC (h : RfC w R q v fu d L) (o : Bool) (z : Nat) : RfC ((w.setCell ⟨q, 4, none⟩ (.bool o)).setCell ⟨q, 5, none⟩ (ptr z)) R q v (some z) { d with out := o } L :=
 (h.setq 4 (.bool o) (d2 := { d with out := o }) (fu2 := fu) rfl rfl).setq 5 (ptr z) (d2 := { d with out := o }) (fu2 := some z) rfl rfl
theorem FuR.ne_drive (hf : FuR w R fu f) {p : Nat} {cs : Array Value} (hc : CAt w p cs 78) : ∀ z, fu = Option.some z → z ≠ p := by
 intro z hz e
 match fu, f, hf with
 | Option.some z2, Option.some (n, g), hf =>
  cases hz
  have h1 : w.heap[z]? = _ := hf.1
  have h2 : w.heap[p]? = _ := hc
  rw [e, h2] at h1
  have ht := (Obj.cells.inj (Option.some.inj h1)).2.1
  revert ht; decide
theorem RfC.box_ne (h : RfC w R q v fu d L) {b : Nat} {cs : Array Value} {t : TypeId} (hc : CAt w b cs t) (ht : t ≠ 78) : b ≠ q := fun e => by
 have h1 : w.heap[q]? = _ := h.c
 have h2 : w.heap[b]? = _ := hc
 rw [e, h1] at h2
 exact ht (Obj.cells.inj (Option.some.inj h2)).2.1.symm
variable {R2 : Nat → Prop} {q2 : Nat} {v2 : Value} {fu2 : Option Nat} {d2 : Pd} {L2 : List (Nm × Ent)} {f2 : Fs}
end
end Go.Proofs.YtfogkegmdgbecaaGreatDoor
