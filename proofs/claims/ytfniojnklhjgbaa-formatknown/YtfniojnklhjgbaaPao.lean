/- Texts laid into one, cut to what is needed: the remark ahead of each part says what is proved there. -/
import Derived.Test.YtfniojnklhjgbaaPam
import Derived.Sort.LoopGhostIn
/- A range over a function whose body may write what is new (S10's Yo over S11's Zb: no drives are asked for). -/
namespace Go.Proofs.Ytfniojnklhjgbaa.Rg
open Go Go.RowKit
open Go.Proofs.Ytfniojnklhjgbaa.H (rndF calls_rnd rows_rnd noDefer noDefer_at list_rnd round_list round_any)

/-- Such from B on lie as they lay. -/
structure KpM (B : Nat) (W W' : World) : Prop where
  size : W.heap.size ≤ W'.heap.size
  same : ∀ (r : Nat) (o : Obj), B ≤ r → W.heap[r]? = some o → bkO o = true → W'.heap[r]? = some o
theorem KpM.refl (B : Nat) (W : World) : KpM B W W := ⟨Nat.le_refl _, fun _ _ _ h _ => h⟩
theorem KpM.trans {B : Nat} {X Y Z : World} (h : KpM B X Y) (k : KpM B Y Z) : KpM B X Z := ⟨Nat.le_trans h.size k.size, fun r o hB hr ho => k.same r o hB (h.same r o hB hr ho) ho⟩
theorem KpM.mono {B B' : Nat} {X Y : World} (h : KpM B X Y) (hB : B ≤ B') : KpM B' X Y := ⟨h.size, fun r _o hr => h.same r _o (Nat.le_trans hB hr)⟩
theorem KpM.below {B : Nat} {X Y : World} (h : Below X.heap.size X Y) : KpM B X Y := ⟨h.size, fun r _ _ hr _ => (h.block r (Array.getElem?_eq_some_iff.1 hr).1).trans hr⟩
/-- How a round may be left. -/
def rdM (B : Nat) (Go : World → Prop) (Ix : Code → World → Prop) (W : World) : Exit → Act → World → Prop
  | .normal, _, W' => KpM B W W' ∧ Go W'
  | .ret, _, W' => KpM B W W' ∧ Ix .ret W'
  | .exit id, _, W' => KpM B W W' ∧ Ix (.exit id) W'
  | .goto t, _, W' => KpM B W W' ∧ Ix (.goto t) W'
  | .panic _, _, _ => False
  | .outgrown, _, _ => False
/-- What a call of yield comes to. -/
def YlM (P : Program) (l : Nat) (args : Array Value) (B : Nat) (W : World) (Go St : World → Prop) : Prop :=
  YieldAt Fence.wide 0 P l args W fun e W' => KpM B W W' ∧ ((e = .returned (.bool true) ∧ Go W') ∨ (e = .returned (.bool false) ∧ St W'))
/-- What an iterator gf with the captured values lb does that is called in W1, for the caller's I: it goes on from J i to J (i + 1) by a call of yield where En i holds, or for itself. -/
def ItM (P : Program) (gf : Nat) (lb : Array Value) (k : Nat) (encs : Nat → Array Value) (En I : Nat → World → Prop) (B : Nat) : Prop :=
  ∀ (l : Nat) (W1 : World) (J : Nat → World → Prop) (Jx : World → Prop), B ≤ W1.heap.size → (∀ i, OwL W1.heap.size (J i)) → OwL W1.heap.size Jx → (∀ i W, J i W → I i W) → (∀ i i' W, J i W → I i' W → J i' W) →
    (∀ i W, i < k → J i W → En i W → YlM P l (encs i) W1.heap.size W (J (i + 1)) Jx) → J 0 W1 → Calls P gf (#[.func (.yield l) #[] #[]] ++ lb) W1 fun e W' => (∃ v, e = .returned v) ∧ (J k W' ∨ Jx W')
theorem range_lawM {P : Program} {g : Operand} {ps : Array Tmp} {assign body : Code} {Q : Exit → Act → World → Prop} {a : Act} {w : World} {gf : Nat} {lb : Array Value}
    (hg : a.eval g = .func (.func gf) #[] lb) (eg : ∀ args w, (callFunc gf args).run P w = .ok (.enter gf args) w) (k : Nat) (encs : Nat → Array Value) (hps : ∀ i, (encs i).size = ps.size)
    (En I : Nat → World → Prop) (Ix : Code → World → Prop) (hI : ∀ i, OwL w.heap.size (I i)) (hIx : ∀ c, OwL w.heap.size (Ix c)) (h0 : I 0 w) (hseq : ItM P gf lb k encs En I w.heap.size)
    (Ax : Nat → Act → World → Prop) (hAx : ∀ i a', OwL w.heap.size (Ax i a'))
    (hassign : ∀ (l i : Nat) (W : World) (K : Act → World → Prop), i < k → I i W → En i W → (∀ a' W', KpM w.heap.size W W' → I i W' → Ax i a' W' → K a' W') →
      assign.wpIn (rndF l) 0 P (Exit.then K (fun _ _ _ => False)) { tmps := (ps.zip (encs i)).foldl (fun t (p, v) => t.setIfInBounds p v) a.tmps, defers := [] } W)
    (hbody : ∀ (l i : Nat) (a' : Act) (W : World), i < k → I i W → Ax i a' W → body.wpIn (rndF l) 0 P (rdM w.heap.size (I (i + 1)) Ix W) a' W)
    (hdone : ∀ (D : Nat) (W : World), w.heap.size ≤ D → I k W → W.heap[D]? = some (.deferred (some [])) → Q .normal (endAct a D) W)
    (hstop : ∀ (D : Nat) (c : Code) (W : World), w.heap.size ≤ D → Ix c W → W.heap[D]? = some (.deferred (some [])) → c.wpIn Fence.wide 0 P Q (endAct a D) W) :
    (Code.rangeFunc g ps assign body).wpIn Fence.wide 0 P Q a w := by
  refine wpIn_rangeFunc fun fn hfn => ?_
  let bk : LoopState → Option Code → Loop := fun st pe => { state := st, pending := pe, fn, tmps := a.tmps, params := ps, assign, body, defers := w.heap.size }
  obtain ⟨W1, hW1⟩ : ∃ W1, (w.alloc (.deferred (some []))).alloc (.loop (bk .ready none)) = W1 := ⟨_, rfl⟩
  have hsz : W1.heap.size = w.heap.size + 2 := by rw [← hW1]; simp
  have hd1 : W1.heap[w.heap.size]? = some (.deferred (some [])) := by rw [← hW1]; exact (Below.heap_alloc _ _ _ (by simp)).trans (World.alloc_heap_new w _)
  have hl1 : W1.heap[w.heap.size + 1]? = some (.loop (bk .ready none)) := by
    rw [← hW1]; have := World.alloc_heap_new (w.alloc (.deferred (some []))) (.loop (bk .ready none)); rwa [World.size_alloc] at this
  have hi1 : I 0 W1 := by rw [← hW1]; exact hI 0 _ _ (hI 0 _ _ h0 (Tn.alloc _ _ _)) (Tn.alloc _ _ _)
  let J : Nat → World → Prop := fun i W => I i W ∧ W.heap[w.heap.size + 1]? = some (.loop (bk .ready none)) ∧ W.heap[w.heap.size]? = some (.deferred (some []))
  let Jx : World → Prop := fun W => ∃ c, Ix c W ∧ W.heap[w.heap.size + 1]? = some (.loop (bk .done (some c))) ∧ W.heap[w.heap.size]? = some (.deferred (some []))
  have kept : ∀ {A C : World} {r : Nat} {o : Obj}, Tn W1.heap.size A C → r < w.heap.size + 2 → A.heap[r]? = some o → C.heap[r]? = some o := fun ht hr h => (ht.low (by omega) (Array.getElem?_eq_some_iff.1 h).1).trans h
  refine ⟨w.heap.size + 1, [{ target := .collected w.heap.size, args := #[] }], W1, { target := .fn (.func gf) lb, args := #[.func (.yield (w.heap.size + 1)) #[] #[]] }, W1, gf, #[.func (.yield (w.heap.size + 1)) #[] #[]] ++ lb, W1, ?_, ?_, fun _ _ => trivial, ?_, fun h => (by cases h), ?_⟩
  · rw [← hW1]; exact run_enterLoop_outer _ _ _ _ _
  · simp only [resolve, hg]; simp [go_sem]
  · simp [invoke, go_sem, eg]
  refine callsIn_wide.2 ((hseq (w.heap.size + 1) W1 J Jx (by omega) (fun i A C hA ht => ⟨hI i A C hA.1 (ht.mono (by omega)), kept ht (by omega) hA.2.1, kept ht (by omega) hA.2.2⟩)
    (fun A C hA ht => by obtain ⟨c, h1, h2, h3⟩ := hA; exact ⟨c, hIx c A C h1 (ht.mono (by omega)), kept ht (by omega) h2, kept ht (by omega) h3⟩)
    (fun i W h => h.1) (fun i i' W h h' => ⟨h', h.2⟩) ?_ ⟨hi1, hl1, hd1⟩).mono ?_)
  · rintro i W hik ⟨hi, hl, hd⟩ hen
    have hy := run_yield (P := P) (args := encs i) hl (hps i)
    refine ⟨fn, _, assign, body, hy, roundIn_of_wpIn hfn (hassign _ i W _ hik hi hen ?_)⟩
    clear hy
    intro a' Wa hka hia hax
    have hla := hka.same _ _ (by omega) hl rfl
    have hda := hka.same _ _ (Nat.le_refl _) hd rfl
    have hlt : w.heap.size + 1 < Wa.heap.size := (Array.getElem?_eq_some_iff.1 hla).1
    refine ⟨_, run_beginRound hla rfl, ?_⟩
    have tb : Tn w.heap.size Wa (Wa.putObj (w.heap.size + 1) (.loop { bk .ready none with state := .busy })) := Tn.put _ (by omega) hla rfl
    have hl2 : (Wa.putObj (w.heap.size + 1) (.loop { bk .ready none with state := .busy })).heap[w.heap.size + 1]? = some (.loop { bk .ready none with state := .busy }) := World.putObj_heap_same hlt
    have hd2 : (Wa.putObj (w.heap.size + 1) (.loop { bk .ready none with state := .busy })).heap[w.heap.size]? = some (.deferred (some [])) := (World.putObj_heap_other (by omega)).trans hda
    have far : ∀ (r : Nat) (o : Obj), W1.heap.size ≤ r → Wa.heap[r]? = some o → (Wa.putObj (w.heap.size + 1) (.loop { bk .ready none with state := .busy })).heap[r]? = some o := fun r o hr h => (World.putObj_heap_other (by omega)).trans h
    refine wpIn_mono (hbody _ i a' _ hik (hI i _ _ hia tb) (hAx i a' _ _ hax tb)) ?_
    have fin : ∀ (jump : Option Code) (W3 : World), KpM w.heap.size (Wa.putObj (w.heap.size + 1) (.loop { bk .ready none with state := .busy })) W3 →
        (Instr.endRound (w.heap.size + 1) jump).run P W3 = .ok (.bool jump.isNone) (W3.putObj (w.heap.size + 1) (.loop (bk (if jump.isNone then .ready else .done) jump))) ∧
        Tn w.heap.size W3 (W3.putObj (w.heap.size + 1) (.loop (bk (if jump.isNone then .ready else .done) jump))) ∧
        (W3.putObj (w.heap.size + 1) (.loop (bk (if jump.isNone then .ready else .done) jump))).heap[w.heap.size + 1]? = some (.loop (bk (if jump.isNone then .ready else .done) jump)) ∧
        (W3.putObj (w.heap.size + 1) (.loop (bk (if jump.isNone then .ready else .done) jump))).heap[w.heap.size]? = some (.deferred (some [])) ∧
        KpM W1.heap.size W (W3.putObj (w.heap.size + 1) (.loop (bk (if jump.isNone then .ready else .done) jump))) := fun jump W3 hk3 => by
      have hl3 := hk3.same _ _ (by omega) hl2 rfl
      exact ⟨run_endRound (P := P) jump hl3, Tn.put _ (by omega) hl3 rfl, World.putObj_heap_same (Array.getElem?_eq_some_iff.1 hl3).1, (World.putObj_heap_other (by omega)).trans (hk3.same _ _ (Nat.le_refl _) hd2 rfl),
        ⟨by have := hka.size; have := hk3.size; simp at this ⊢; omega, fun r o hr h hb => (World.putObj_heap_other (by omega)).trans (hk3.same r o (by omega) (far r o hr (hka.same r o (by omega) h hb)) hb)⟩⟩
    rintro e a3 W3 hp
    cases e with
    | normal =>
      obtain ⟨hk3, hi3⟩ := hp
      obtain ⟨hr, ht, hl4, hd4, hkp⟩ := fin none W3 hk3
      exact ⟨_, _, hr, hkp, .inl ⟨rfl, hI _ _ _ hi3 ht, hl4, hd4⟩⟩
    | ret =>
      obtain ⟨hk3, hi3⟩ := hp
      obtain ⟨hr, ht, hl4, hd4, hkp⟩ := fin (some .ret) W3 hk3
      exact ⟨_, _, hr, hkp, .inr ⟨rfl, .ret, hIx _ _ _ hi3 ht, hl4, hd4⟩⟩
    | exit id =>
      obtain ⟨hk3, hi3⟩ := hp
      obtain ⟨hr, ht, hl4, hd4, hkp⟩ := fin (some (.exit id)) W3 hk3
      exact ⟨_, _, hr, hkp, .inr ⟨rfl, .exit id, hIx _ _ _ hi3 ht, hl4, hd4⟩⟩
    | goto t =>
      obtain ⟨hk3, hi3⟩ := hp
      obtain ⟨hr, ht, hl4, hd4, hkp⟩ := fin (some (.goto t)) W3 hk3
      exact ⟨_, _, hr, hkp, .inr ⟨rfl, .goto t, hIx _ _ _ hi3 ht, hl4, hd4⟩⟩
    | panic ch => exact hp.elim
    | outgrown => exact hp.elim
  · rintro e W2 ⟨⟨v, rfl⟩, (⟨hi, hl, hd⟩ | ⟨c, hi, hl, hd⟩)⟩
    · exact ⟨none, _, run_endLoop (P := P) hl (by simp [bk]), hdone _ _ (Nat.le_refl _) (hI k _ _ hi (Tn.put _ (by omega) hl rfl)) ((World.putObj_heap_other (by omega)).trans hd)⟩
    · exact ⟨some c, _, run_endLoop (P := P) hl (by simp [bk]), hstop _ c _ (Nat.le_refl _) (hIx c _ _ hi (Tn.put _ (by omega) hl rfl)) ((World.putObj_heap_other (by omega)).trans hd)⟩
/-- .. where the loop's variable is a box. -/
theorem range_boxM {P : Program} {g : Operand} {ps : Array Tmp} {assign body : Code} {Q : Exit → Act → World → Prop} {a : Act} {w : World} {gf : Nat} {lb : Array Value}
    (hg : a.eval g = .func (.func gf) #[] lb) (eg : ∀ args w, (callFunc gf args).run P w = .ok (.enter gf args) w) (k : Nat) (encs : Nat → Array Value) (hps : ∀ i, (encs i).size = ps.size)
    (En I : Nat → World → Prop) (Ix : Code → World → Prop) (hI : ∀ i, OwL w.heap.size (I i)) (hIx : ∀ c, OwL w.heap.size (Ix c)) (h0 : I 0 w) (hseq : ItM P gf lb k encs En I w.heap.size) (asg : Nat → Nat → Act)
    (Bd : Nat → Nat → World → Prop) (hBd : ∀ i q, OwL w.heap.size (Bd i q))
    (hassign : ∀ (l i : Nat) (W : World) (K : Act → World → Prop), i < k → I i W → (∀ q W', KpM w.heap.size W W' → I i W' → Bd i q W' → K (asg i q) W') → assign.wpIn (rndF l) 0 P (Exit.then K (fun _ _ _ => False)) { tmps := (ps.zip (encs i)).foldl (fun t (p, v) => t.setIfInBounds p v) a.tmps, defers := [] } W)
    (hbody : ∀ (l i q : Nat) (W : World), i < k → I i W → Bd i q W → body.wpIn (rndF l) 0 P (rdM w.heap.size (I (i + 1)) Ix W) (asg i q) W)
    (hdone : ∀ (D : Nat) (W : World), w.heap.size ≤ D → I k W → W.heap[D]? = some (.deferred (some [])) → Q .normal (endAct a D) W)
    (hstop : ∀ (D : Nat) (c : Code) (W : World), w.heap.size ≤ D → Ix c W → W.heap[D]? = some (.deferred (some [])) → c.wpIn Fence.wide 0 P Q (endAct a D) W) :
    (Code.rangeFunc g ps assign body).wpIn Fence.wide 0 P Q a w :=
  range_lawM hg eg k encs hps En I Ix hI hIx h0 hseq (fun i a' W => ∃ q, a' = asg i q ∧ Bd i q W) (fun i _ A C h ht => by obtain ⟨q, h1, h2⟩ := h; exact ⟨q, h1, hBd i q A C h2 ht⟩)
    (fun l i W K hik hi _ hK => hassign l i W K hik hi (fun q W' hk hi' hb => hK _ _ hk hi' ⟨q, rfl, hb⟩)) (fun l i a' W hik hi hax => by obtain ⟨q, rfl, hb⟩ := hax; exact hbody l i q W hik hi hb) hdone hstop
end Go.Proofs.Ytfniojnklhjgbaa.Rg

/- Package format's every: an iterator of two nested loops. -/
namespace Go.Proofs.Ytfniojnklhjgbaa
open Go Go.RowKit

set_option maxRecDepth 100000 in
theorem every_any (k m s : Int) (w : World) : Calls Try.prog 35 #[.int .i64 k, .int .i64 m, .int .i64 s] w fun e w' => e = .returned (.func (.func 45) #[] #[ptr (w.heap.size + 1 + 1), ptr w.heap.size, ptr (w.heap.size + 1)]) ∧ w' = ((w.alloc (.cells #[.int .i64 k] 3)).alloc (.cells #[.int .i64 m] 3)).alloc (.cells #[.int .i64 s] 3) := by
  go_enter Try.func35, Try.ntmps35
  have hmf : ∀ (fn : Fn) (first cap : Array Value) (w : World), (Instr.makeFunc fn first cap).run Try.prog w = .ok (.func fn first cap) w := fun _ _ _ _ => rfl
  go_wp2
  go_ret
  exact ⟨rfl, rfl⟩
abbrev fEnc (k m s : Int) (i : Nat) : Array Value := #[.agg (alG k m s i).cs]
theorem every_itM (B bs bk bm : Nat) (k m s : Int) (hok : okAl k m s = true) (I : Nat → World → Prop) (hm : ∀ i W, I i W → CAt W bs #[.int .i64 s] 3 ∧ CAt W bk #[.int .i64 k] 3 ∧ CAt W bm #[.int .i64 m] 3) :
    Rg.ItM Try.prog 45 #[ptr bs, ptr bk, ptr bm] (alN k m s) (fEnc k m s) (fun _ _ => True) I B := by
  intro l W1 J Jx _ hJ hJx hJI hJJ hY h0
  have ho := okFm_of (f := ⟨k, m, s, 0, 0⟩) hok
  simp only at ho
  obtain ⟨q, hq⟩ : ∃ q, (k + m).toNat = q := ⟨_, rfl⟩
  obtain ⟨r, hr⟩ : ∃ r, s.toNat = r := ⟨_, rfl⟩
  have hkm : k + m = (q : Int) := by omega
  have hsr : s = (r : Int) := by omega
  have hN : alN k m s = r * q := by unfold alN; rw [hq, hr, Nat.mul_comm]
  have HG := hid (fun i j (hj : j < q) => alG_at (s := s) (i := i) hq hj)
  have HQ : Hid (q ≤ 16) := hid (by omega)
  have HR4 : Hid (r ≤ 4) := hid (by omega)
  have HNX : Hid (∀ i, (i + 1) * q = i * q + q) := hid (fun i => by rw [Nat.add_mul, Nat.one_mul])
  have HLE : Hid (∀ i j, i < r → j < q → i * q + j < alN k m s) := hid (fun i j hi hj => by
    rw [hN]
    exact Nat.lt_of_lt_of_le (show i * q + j < (i + 1) * q by rw [Nat.add_mul, Nat.one_mul]; omega) (Nat.mul_le_mul_right _ (by omega)))
  have HEND : Hid (∀ W, J (r * q) W → J (alN k m s) W) := hid (fun W h => by rw [hN]; exact h)
  obtain ⟨m1, m2, m3⟩ := hm 0 W1 (hJI 0 W1 h0)
  have c0 : W1.cell? ⟨bs, 0, none⟩ = some (.int .i64 s) := m1.cell 0
  rw [hsr] at c0
  clear hsr
  have HKM := hid hkm
  have HM := hid hm
  have HY := hid hY
  have HJI := hid hJI
  have hwkm : IntKind.i64.wrap (k + m) = (q : Int) := by rw [hkm]; exact IntWalk.i64_in _ ⟨by have := HQ.out; omega, by have := HQ.out; omega⟩
  refine (callsIn_wide (n := 1)).1 ?_
  refine callsIn_of_wp Try.func45 rfl trivial ?_ rfl
  simp only [Try.ntmps45, List.size_toArray, List.length_cons, List.length_nil, Nat.reduceAdd, Nat.reduceSub, Array.replicate_succ, Array.replicate_zero, List.push_toArray, List.append_toArray, List.nil_append, List.cons_append]
  clear m1 m2 m3 hm hY hJI hJJ hkm hN hq hr ho hok hJ hJx
  gi_wp2
  clear c0
  gi_loopg [8] r (fun gg v wr => ∃ i : Nat, i ≤ r ∧ r - i ≤ gg ∧ v = .int .i64 (i : Int) ∧ J (i * q) wr)
  case atStart => exact ⟨0, Nat.zero_le _, by omega, rfl, by rw [Nat.zero_mul]; exact h0⟩
  case round =>
    obtain ⟨i, hi, hgi, rfl, hj⟩ := hrel
    have HJ0 := hid hj
    clear hj h0
    have hi4 := HR4.out
    by_cases hlt : i < r
    · have hi' : (i : Int) < (r : Int) := by omega
      have hwi : IntKind.i64.wrap ((i : Int) + 1) = (i : Int) + 1 := IntWalk.i64_in _ ⟨by omega, by omega⟩
      obtain ⟨m1, m2, m3⟩ := HM.out _ wr (HJI.out _ wr HJ0.out)
      have c1 : wr.cell? ⟨bk, 0, none⟩ = some (.int .i64 k) := m2.cell 0
      have c2 : wr.cell? ⟨bm, 0, none⟩ = some (.int .i64 m) := m3.cell 0
      clear m1 m2 m3
      gi_wp2
      clear c1 c2
      gi_loopg [14] q (fun gg v wq => ∃ j : Nat, j ≤ q ∧ q - j ≤ gg ∧ v = .int .i64 (j : Int) ∧ J (i * q + j) wq)
      case atStart => exact ⟨0, Nat.zero_le _, by omega, rfl, by rw [Nat.add_zero]; exact HJ0.out⟩
      case round =>
        obtain ⟨j, hj, hgj, rfl, hjj⟩ := hrel
        have HJ1 := hid hjj
        clear hjj HJ0
        have hq16 := HQ.out
        by_cases hlt2 : j < q
        · have hj' : (j : Int) < (q : Int) := by omega
          have hwj : IntKind.i64.wrap ((j : Int) + 1) = (j : Int) + 1 := IntWalk.i64_in _ ⟨by omega, by omega⟩
          obtain ⟨m1, m2, m3⟩ := HM.out _ wr (HJI.out _ wr HJ1.out)
          have c0 : wr.cell? ⟨bs, 0, none⟩ = some (.int .i64 s) := m1.cell 0
          have c1 : wr.cell? ⟨bk, 0, none⟩ = some (.int .i64 k) := m2.cell 0
          have c2 : wr.cell? ⟨bm, 0, none⟩ = some (.int .i64 m) := m3.cell 0
          obtain ⟨fn, tmps, assign, body, hy, hR⟩ := HY.out (i * q + j) wr (HLE.out i j hlt hlt2) HJ1.out trivial
          simp only [fEnc, HG.out i j hlt2, FmV.cs] at hy
          have HRR := hid hR
          clear m1 m2 m3 hR
          have hbd := builtF5 k m s (i : Int) (j : Int)
          gi_wp2
          refine HRR.out.mono ?_
          rintro e W3 ⟨_, (⟨rfl, hJ3⟩ | ⟨rfl, hJx3⟩)⟩
          · gi_wp2
            gi_roundg (q - (j + 1))
            case measure => omega
            case rel => exact ⟨j + 1, hlt2, Nat.le_refl _, by congr 1, hJ3⟩
          · gi_wp2
            refine bodyPost_ret (results_none rfl _ _ _) rfl ?_
            exact ⟨⟨_, rfl⟩, .inr hJx3⟩
        · have hj' : ¬ (j : Int) < (q : Int) := by omega
          have hjq : j = q := by omega
          have HJ2 : Hid (J ((i + 1) * q) wr) := hid (by rw [HNX.out, ← hjq]; have := HJ1.out; rwa [hjq] at this ⊢)
          clear HJ1
          gi_wp2
          gi_roundg (r - (i + 1))
          case measure => omega
          case rel => exact ⟨i + 1, hlt, Nat.le_refl _, by congr 1, HJ2.out⟩
    · have hi' : ¬ (i : Int) < (r : Int) := by omega
      have hir : i = r := by omega
      have HJ2 : Hid (J (alN k m s) wr) := hid (HEND.out wr (hir ▸ HJ0.out))
      clear HJ0
      gi_wp2
      go_end0
      exact ⟨⟨_, rfl⟩, .inl HJ2.out⟩
end Go.Proofs.Ytfniojnklhjgbaa

/- Package format's All: what its iterator yields is gathered. -/
namespace Go.Proofs.Ytfniojnklhjgbaa
open Go Go.RowKit

theorem CAt.tnR {D : Nat} {W W' : World} {b : Nat} {cs : Array Value} {t : TypeId} (h : CAt W b cs t) (ht : Rg.Tn D W W') : CAt W' b cs t := h.keep (ht.other h rfl)
theorem below_tnR {w A C : World} {D : Nat} (h : Below w.heap.size w A) (ht : Rg.Tn D A C) (hB : w.heap.size ≤ D) : Below w.heap.size w C := by
  have hl := @Rg.Tn.low D A C ht
  obtain ⟨row, hg, hr⟩ := ht
  exact ⟨hg.os.trans h.os, hg.tape.trans h.tape, hg.output.trans h.output, Nat.le_trans h.size hg.size, fun k hk => (hl (by omega) (Nat.lt_of_lt_of_le hk h.size)).trans (h.block k hk)⟩
theorem FmL.blk {B : Nat} {W : World} {v : Value} {L : List FmV} (h : FmL B W v L) {b : Nat} (hb : v.ownBlock = some b) : ∃ cur, W.heap[b]? = some (.cells cur 23 (0, 0)) := by
  rcases h.2 with ⟨e, _⟩ | ⟨g, cap, cur, e, _, hg, _⟩
  · rw [e] at hb; cases hb
  · rw [e] at hb; cases hb; exact ⟨cur, hg⟩
theorem FmL.tnR {B D : Nat} {W W' : World} {v : Value} {L : List FmV} (h : FmL B W v L) (ht : Rg.Tn D W W') : FmL B W' v L := XB.keep h fun b hb => by obtain ⟨cur, hc⟩ := h.blk hb; exact ht.other hc rfl
theorem FmL.pushG {B : Nat} {w w1 : World} {v : Value} {L : List FmV} (h : FmL B w v L) (f : FmV) (hl : L.length ≤ 1000) (hB : B ≤ w.heap.size) {g : Nat} (hc : CAt w1 g f.cs 23) (hb : Below w.heap.size w w1) :
    ∃ po c w2, (Builtin.append_ #[40, 40] 40 #[v, .slice (some ⟨g, 0, none⟩) 1 1]).run Try.prog w1 = .ok (.slice po (L.length + 1) c) w2 ∧ FmL B w2 (.slice po (L.length + 1) c) (L ++ [f]) ∧ w1.grownBy w2 v.ownBlock := by
  obtain ⟨v', w2, hr, hx, hg, _⟩ := XB.app (h.below hb) (T := 40) (ty := 40) Try.underlying40 infoFm rfl (by omega) g 0 1 [f.cs.toList] (by intro r hr; simp at hr; subst hr; rfl) (by intro r hr u hu; simp at hr; subst hr; simp [FmV.cs] at hu; rcases hu with rfl | rfl | rfl | rfl | rfl <;> rfl)
    (by intro i r hi j u hj
        have : i = 0 := by rcases i with _ | i <;> simp at hi ⊢
        subst this
        simp at hi; subst hi
        rw [show 0 + 0 * 5 + j = j by omega, hc.cell]
        simpa using hj) (by rw [flR_len]; simp; omega) (by omega) (Nat.le_trans hB hb.size)
  have hx2 : FmL B w2 v' (L ++ [f]) := by unfold FmL flR; rw [List.map_append]; exact hx
  obtain ⟨po, c, e, _, _⟩ := hx2.form
  rw [List.length_append, List.length_singleton] at e
  subst e
  exact ⟨po, c, w2, hr, hx2, hg⟩
theorem Rg.KpM.grown {B : Nat} {A C : World} {row : Option Nat} (hg : A.grownBy C row) (hr : ∀ r, row = some r → ∃ cur t q, A.heap[r]? = some (.cells cur t q)) : Rg.KpM B A C := ⟨hg.size, fun r o _ ho hb => (hg.block r (Array.getElem?_eq_some_iff.1 ho).1 (fun e => by
  obtain ⟨cur, t, q, h⟩ := hr r e.symm
  rw [h] at ho; cases ho; cases hb)).trans ho⟩
theorem Rg.KpM.cell {B : Nat} {A : World} {g i : Nat} {cs : Array Value} {t : TypeId} {v : Value} (h : CAt A g cs t) : Rg.KpM B A (A.setCell ⟨g, i, none⟩ v) :=
  have ho : Only (fun b => b = g) A (A.setCell ⟨g, i, none⟩ v) := Only.set (S := fun b => b = g) _ ⟨g, i, none⟩ _ rfl
  ⟨ho.size, fun r o _ hr hb => (ho.block r (Array.getElem?_eq_some_iff.1 hr).1 (fun e => by subst e; rw [show A.heap[r]? = _ from h] at hr; cases hr; cases hb)).trans hr⟩
/-- What All carries through its range. -/
structure AlQ (w : World) (k m s : Int) (bk bm bs g8 p : Nat) (W : World) : Prop where
  be : Below w.heap.size w W
  ge : w.heap.size ≤ g8
  ck : CAt W bk #[.int .i64 k] 3
  cm : CAt W bm #[.int .i64 m] 3
  cs : CAt W bs #[.int .i64 s] 3
  ex : ∃ v, CAt W g8 #[v] 40 ∧ FmL w.heap.size W v (alP k m s p)
theorem AlQ.tn {w W W' : World} {k m s : Int} {bk bm bs g8 p D : Nat} (h : AlQ w k m s bk bm bs g8 p W) (ht : Rg.Tn D W W') (hD : w.heap.size ≤ D) : AlQ w k m s bk bm bs g8 p W' := by
  obtain ⟨v, h1, h2⟩ := h.ex
  exact ⟨below_tnR h.be ht hD, h.ge, h.ck.tnR ht, h.cm.tnR ht, h.cs.tnR ht, v, h1.tnR ht, h2.tnR ht⟩
theorem AlQ.below {w W W' : World} {k m s : Int} {bk bm bs g8 p : Nat} (h : AlQ w k m s bk bm bs g8 p W) (hb : Below W.heap.size W W') : AlQ w k m s bk bm bs g8 p W' := by
  obtain ⟨v, h1, h2⟩ := h.ex
  exact ⟨below_on h.be hb, h.ge, h.ck.below hb, h.cm.below hb, h.cs.below hb, v, h1.below hb, h2.below hb⟩
theorem cells_ne {W : World} {a b : Nat} {x y : Array Value} {t u : TypeId} (h1 : CAt W a x t) (h2 : W.heap[b]? = some (.cells y u (0, 0))) (hn : t ≠ u) : b ≠ a := fun e => by
  have h3 : W.heap[a]? = _ := h1
  rw [← e, h2] at h3
  simp only [Option.some.injEq, Obj.cells.injEq] at h3
  exact hn h3.2.1.symm
/-- One more: what the load, append and store find, and what they leave. -/
theorem AlQ.next {w W : World} {k m s : Int} {bk bm bs g8 p : Nat} (h : AlQ w k m s bk bm bs g8 p W) (hp : p ≤ 100) :
    ∃ vp vc, W.cell? ⟨g8, 0, none⟩ = some (.slice vp p vc) ∧ ∀ w5 g5, CAt w5 g5 (alG k m s p).cs 23 → Below W.heap.size W w5 → ∃ vp' vc' w6, (Builtin.append_ #[40, 40] 40 #[.slice vp p vc, .slice (some ⟨g5, 0, none⟩) 1 1]).run Try.prog w5 = .ok (.slice vp' (p + 1) vc') w6 ∧
      (∃ u, w6.cell? ⟨g8, 0, none⟩ = some u) ∧ w6.frozen? ⟨g8, 0, none⟩ = false ∧ AlQ w k m s bk bm bs g8 (p + 1) (w6.setCell ⟨g8, 0, none⟩ (.slice vp' (p + 1) vc')) ∧ ∀ B, Rg.KpM B W (w6.setCell ⟨g8, 0, none⟩ (.slice vp' (p + 1) vc')) := by
  obtain ⟨v, h1, h2⟩ := h.ex
  obtain ⟨vp, vc, e, _, _⟩ := h2.form
  rw [alP_len] at e
  subst e
  refine ⟨vp, vc, h1.cell 0, fun w5 g5 hc5 hb5 => ?_⟩
  obtain ⟨vp', vc', w6, hr, hx, hg⟩ := h2.pushG (alG k m s p) (by rw [alP_len]; omega) h.be.size hc5 hb5
  rw [alP_len] at hr hx
  rw [← alP_step] at hx
  have h5 := h.below hb5
  have hblk : ∀ b, (Value.slice vp p vc).ownBlock = some b → ∃ cur, w5.heap[b]? = some (.cells cur 23 (0, 0)) := fun b hb => (h2.below hb5).blk hb
  have stay : ∀ (a : Nat) (x : Array Value) (t : TypeId), CAt w5 a x t → t ≠ 23 → CAt w6 a x t := fun a x t hc hn => hc.keep (hg.block a hc.lt (fun e => by
    obtain ⟨cur, hcur⟩ := hblk a e.symm
    exact cells_ne hc hcur hn rfl))
  have c8 := stay _ _ _ (h1.below hb5) (by decide)
  have ck := stay _ _ _ h5.ck (by decide)
  have cm := stay _ _ _ h5.cm (by decide)
  have cs := stay _ _ _ h5.cs (by decide)
  have ho : Only (fun b => b = g8) w6 (w6.setCell ⟨g8, 0, none⟩ (.slice vp' (p + 1) vc')) := Only.set (S := fun b => b = g8) _ ⟨g8, 0, none⟩ _ rfl
  have be6 : Below w.heap.size w w6 := below_grown h5.be hg (Nat.le_refl _) (fun b hb => (own_ge h2 b hb).1)
  refine ⟨vp', vc', w6, hr, ⟨_, c8.cell 0⟩, c8.free 0, ⟨below_tr be6 (ho.below be6.size (fun i e => by have := h.ge; omega)), h.ge, ck.keep (ho.block _ ck.lt (fun e => ?_)), cm.keep (ho.block _ cm.lt (fun e => ?_)), cs.keep (ho.block _ cs.lt (fun e => ?_)), _, by have := c8.set 0 (.slice vp' (p + 1) vc'); simpa using this, ?_⟩, fun B => ?_⟩
  · exact cells_ne c8 ck (by decide) e
  · exact cells_ne c8 cm (by decide) e
  · exact cells_ne c8 cs (by decide) e
  · refine XB.keep hx fun b hb => heap_setCell_ne _ _ _ _ ?_
    obtain ⟨cur, hc⟩ := hx.blk hb
    exact cells_ne c8 hc (by decide)
  · exact ((Rg.KpM.below hb5).trans (Rg.KpM.grown hg (fun r e => by obtain ⟨cur, hc⟩ := hblk r e; exact ⟨_, _, _, hc⟩))).trans (Rg.KpM.cell c8)
theorem run_makeF (n : Nat) (hn : n ≤ 64) (w : World) : (Instr.makeSlice 40 (.int .i64 0) (.int .i64 (n : Int))).run Try.prog w = .ok (.slice (some ⟨w.heap.size, 0, none⟩) 0 n) (w.alloc (.cells (madeCells zF.cs (n * 5)) 23)) := by
  obtain ⟨i0, hi, hz0, hz1, hz2⟩ := info_parts infoFm
  have h := run_make (P := Try.prog) w 40 23 i0 (.agg zF.cs) Try.underlying40 hi hz0 .i64 .i64 0 n (by omega) (by omega) (by rw [hz2]; omega) (by omega)
  rw [hz1, show (Value.agg zF.cs).cells = zF.cs from rfl] at h
  simpa using h
theorem FmL.made {B n : Nat} (hn : n ≤ 64) (w : World) (hB : B ≤ w.heap.size) : FmL B (w.alloc (.cells (madeCells zF.cs (n * 5)) 23)) (.slice (some ⟨w.heap.size, 0, none⟩) 0 n) [] :=
  ⟨rfl, .inr ⟨w.heap.size, n, madeCells zF.cs (n * 5), rfl, hB, heap_alloc_new _ _, Nat.zero_le _, by unfold maxLen; omega, size_madeCells _ _, by simp [flR]⟩⟩
set_option linter.unusedVariables false in
set_option maxRecDepth 100000 in
set_option maxHeartbeats 4000000 in
theorem fall14_no (k m s : Int) (w : World) (hm : inI m) (hok : okAl k m s = false) : Calls Try.prog 19 #[.int .i64 k, .int .i64 m, .int .i64 s] w (AlR w k m s) := by
  have HMB := hid (fun W => fmayBe_any k m s W hm)
  rw [hok] at HMB
  have HE : Hid (AlR w k m s (.returned (.tuple #[.slice none 0 0, .int .i64 2])) w) := hid (.inr ⟨hok, rfl, Below.refl _ _⟩)
  generalize AlR w k m s = PP at *
  clear hok hm
  go_enter Try.func19, Try.ntmps19
  go_wp2_with (go_at_call 28; refine (HMB.out _).mono ?_; rintro e w' ⟨rfl, hw'⟩; have hw2 := hw'.symm; subst hw2)
  exact HE.out
set_option linter.unusedVariables false in
set_option maxRecDepth 100000 in
set_option maxHeartbeats 8000000 in
theorem fall14_ok (k m s : Int) (w : World) (hok : okAl k m s = true) : Calls Try.prog 19 #[.int .i64 k, .int .i64 m, .int .i64 s] w (AlR w k m s) := by
  have ho := okFm_of (f := ⟨k, m, s, 0, 0⟩) hok
  simp only at ho
  obtain ⟨n, hn⟩ : ∃ n, alN k m s = n := ⟨_, rfl⟩
  have hn64 : n ≤ 64 := by rw [← hn]; exact (alN_le hok).2
  have hnz : s * (k + m) = (n : Int) := by
    rw [← hn]; unfold alN
    rw [Int.natCast_mul, Int.toNat_of_nonneg (by omega), Int.toNat_of_nonneg (by omega), Int.mul_comm]
  have HMB := hid (fun W => fmayBe_any k m s W (by unfold inI; omega))
  rw [hok] at HMB
  have HEV := hid (fun W => every_any k m s W)
  have hwkm : IntKind.i64.wrap (k + m) = k + m := IntWalk.i64_in _ ⟨by omega, by omega⟩
  have hwsn : IntKind.i64.wrap (s * (k + m)) = (n : Int) := by rw [hnz]; exact IntWalk.i64_in _ ⟨by omega, by omega⟩
  have hmk := run_makeF n hn64
  have HN100 : Hid (∀ i, i < n → i ≤ 100) := hid (fun i hi => by omega)
  have HIT := hid (fun B bs bk bm I h => every_itM B bs bk bm k m s hok I h)
  rw [hn] at HIT
  have HEND : Hid (∀ bk bm bs g8 D W, AlQ w k m s bk bm bs g8 n W → w.heap.size ≤ D → W.heap[D]? = some (.deferred (some [])) → ∃ po c, W.cell? ⟨g8, 0, none⟩ = some (.slice po n c) ∧ AlR w k m s (.returned (.tuple #[.slice po n c, .int .i64 0])) (W.putObj D (.deferred none))) := hid (fun bk bm bs g8 D W h hD hd => by
    obtain ⟨v, h1, h2⟩ := h.ex
    obtain ⟨po, c, e, _, _⟩ := h2.form
    rw [alP_len] at e
    subst e
    have ht : Rg.Tn w.heap.size W (W.putObj D (.deferred none)) := Rg.Tn.put _ hD hd rfl
    refine ⟨po, c, h1.cell 0, .inl ⟨hok, po, c, by rw [hn], ?_, below_tnR h.be ht (Nat.le_refl _)⟩⟩
    unfold alL
    rw [hn]
    exact h2.tnR ht)
  have HW0 : Hid (∀ W5, W5 = ((((w.alloc (.cells (madeCells zF.cs (n * 5)) 23)).alloc (.cells #[.slice (some ⟨w.heap.size, 0, none⟩) 0 n] 40)).alloc (.cells #[.int .i64 k] 3)).alloc (.cells #[.int .i64 m] 3)).alloc (.cells #[.int .i64 s] 3) → W5.heap.size = w.heap.size + 5 ∧ AlQ w k m s (w.heap.size + 1 + 1) (w.heap.size + 1 + 1 + 1) (w.heap.size + 1 + 1 + 1 + 1) (w.heap.size + 1) 0 W5) := hid (fun W5 e => by
    obtain ⟨W1, e1⟩ : ∃ W1, w.alloc (.cells (madeCells zF.cs (n * 5)) 23) = W1 := ⟨_, rfl⟩
    obtain ⟨W2, e2⟩ : ∃ W2, W1.alloc (.cells #[.slice (some ⟨w.heap.size, 0, none⟩) 0 n] 40) = W2 := ⟨_, rfl⟩
    obtain ⟨W3, e3⟩ : ∃ W3, W2.alloc (.cells #[.int .i64 k] 3) = W3 := ⟨_, rfl⟩
    obtain ⟨W4, e4⟩ : ∃ W4, W3.alloc (.cells #[.int .i64 m] 3) = W4 := ⟨_, rfl⟩
    have s1 : W1.heap.size = w.heap.size + 1 := by rw [← e1]; simp
    have s2 : W2.heap.size = w.heap.size + 1 + 1 := by rw [← e2, ← s1]; simp
    have s3 : W3.heap.size = w.heap.size + 1 + 1 + 1 := by rw [← e3, ← s2]; simp
    have s4 : W4.heap.size = w.heap.size + 1 + 1 + 1 + 1 := by rw [← e4, ← s3]; simp
    rw [e1, e2, e3, e4] at e
    have b1 : Below w.heap.size w W1 := by rw [← e1]; exact below_al _ _
    have b2 : Below W1.heap.size W1 W2 := by rw [← e2]; exact below_al _ _
    have b3 : Below W2.heap.size W2 W3 := by rw [← e3]; exact below_al _ _
    have b4 : Below W3.heap.size W3 W4 := by rw [← e4]; exact below_al _ _
    have b5 : Below W4.heap.size W4 W5 := by rw [e]; exact below_al _ _
    have b35 := below_on b4 b5
    have b25 := below_on b3 b35
    have b15 := below_on b2 b25
    refine ⟨by rw [e]; simp [s4], below_on b1 b15, by omega, ?_, ?_, ?_, .slice (some ⟨w.heap.size, 0, none⟩) 0 n, ?_, ?_⟩
    · rw [← s2]; exact CAt.below (by rw [← e3]; exact CAt.made _ _ _) b35
    · rw [← s3]; exact CAt.below (by rw [← e4]; exact CAt.made _ _ _) b5
    · rw [← s4, e]; exact CAt.made _ _ _
    · rw [← s1]; exact CAt.below (by rw [← e2]; exact CAt.made _ _ _) b25
    · refine FmL.below ?_ b15
      rw [← e1]; exact FmL.made hn64 w (Nat.le_refl _))
  generalize AlR w k m s = PP at *
  clear hok ho hnz hn
  refine (callsIn_wide (n := 0)).1 ?_
  refine callsIn_of_wp_marks Try.func19 rfl trivial ?_ rfl
  refine wpIn_wide.2 ?_
  simp only [Try.ntmps19, List.size_toArray, List.length_cons, List.length_nil, Nat.reduceAdd, Nat.reduceSub, Array.replicate_succ, Array.replicate_zero, List.push_toArray, List.append_toArray, List.nil_append, List.cons_append]
  go_wp2_with (first
    | (go_at_call 28; refine (HMB.out _).mono ?_; rintro e w' ⟨rfl, hw'⟩; have hw2 := hw'.symm; subst hw2)
    | (go_at_call 35; refine (HEV.out _).mono ?_; rintro e W5 ⟨rfl, hw5⟩; have HW5 := hid hw5; clear hw5))
  rename_i Kx hKx
  refine (wpIn_wide (n := 0)).1 ?_
  obtain ⟨hsz, hA0⟩ := HW0.out _ HW5.out
  have HA0 := hid hA0
  have hsz' : w.heap.size ≤ W5.heap.size := by omega
  clear hA0 HW0 HW5 hmk HMB HEV
  refine Rg.range_boxM (gf := 45) (lb := #[ptr (w.heap.size + 1 + 1 + 1 + 1), ptr (w.heap.size + 1 + 1), ptr (w.heap.size + 1 + 1 + 1)]) rfl (enters_of Try.func45 (by kernel_rfl) rfl) n (fEnc k m s) (fun _ => rfl) (fun _ _ => True)
    (fun i W => AlQ w k m s (w.heap.size + 1 + 1) (w.heap.size + 1 + 1 + 1) (w.heap.size + 1 + 1 + 1 + 1) (w.heap.size + 1) i W) (fun _ _ => False) ?hI ?hIx ?h0 ?hseq (fun i q => { tmps := #[.int .i64 k, .int .i64 m, .int .i64 s, undef, undef, undef, .slice none 0 0, .int .i64 0, ptr (w.heap.size + 1), ptr q, .int .i64 k, .int .i64 m, .int .i64 s, .bool true, .bool false, .int .i64 s, .int .i64 k, .int .i64 m, .int .i64 (k + m), .int .i64 (n : Int), .slice (some ⟨w.heap.size, 0, none⟩) 0 n, .int .i64 k, .int .i64 m, .int .i64 s, .func (.func 45) #[] #[ptr (w.heap.size + 1 + 1 + 1 + 1), ptr (w.heap.size + 1 + 1), ptr (w.heap.size + 1 + 1 + 1)], .agg (alG k m s i).cs, undef, undef, undef, undef, undef], defers := [] }) (fun i q W => CAt W q (alG k m s i).cs 23) ?hBd ?assign ?body ?done ?stop
  case hI => intro i A C hi ht; exact hi.tn ht hsz'
  case hIx => intro c A C hi ht; exact hi
  case h0 => exact HA0.out
  case hBd => intro i q A C h ht; exact h.tnR ht
  case hseq => exact HIT.out _ _ _ _ _ fun i W hi => ⟨hi.cs, hi.ck, hi.cm⟩
  case assign =>
    intro l i W K hik hi hK
    have HI := hid hi
    clear hi
    unfold fEnc
    refine H.round_list (fun _ _ h => h) (by kernel_rfl) ?_
    (with_reducible refine wpList_allocF rfl rfl ?_)
    intro wa ga hza hba hga
    have HZA := hid hza; have HBA := hid hba; have HGA := hid (show W.heap.size ≤ ga by omega); clear hza hba hga
    refine wpList_storeF rfl rfl _ _ rfl ga ?_ (f := alG k m s i) ?_ HZA.out ?_
    · kernel_rfl
    · kernel_rfl
    intro wb hb9 ob9
    have hbb : Below W.heap.size W wb := below_tr HBA.out (ob9.below HBA.out.size (fun i e => by have := HGA.out; omega))
    refine wpList_nil ?_
    exact cast (congrArg (fun a => K a wb) (by kernel_rfl)) (hK ga wb (Rg.KpM.below hbb) (HI.out.below hbb) hb9)
  case done =>
    intro D W hD hi hd
    obtain ⟨po, c, c0, hE⟩ := HEND.out _ _ _ _ D W hi (by omega) hd
    have HE := hid hE
    refine hKx _ _ ?_
    dsimp only [Rg.endAct]
    clear hKx hi HA0 HEND HIT hE
    go_wp2
    refine ⟨by simp, .inl ⟨_, _, rfl, run_takeDeferred hd, ?_⟩⟩
    refine ⟨.tuple #[.slice po n c, .int .i64 0], ?_, HE.out⟩
    simp [results, Try.f19, go_sem]
  case stop =>
    intro D c W hD hi hd
    exact hi.elim
  case body =>
    intro l i q W hik hi hq
    obtain ⟨vp, vc, c0, hN⟩ := hi.next (HN100.out i hik)
    have HN := hid hN
    have HQ := hid hq
    clear hN hq hi HIT HEND HA0
    generalize hi1 : i + 1 = i1 at *
    generalize alG k m s i = G at *
    refine wpIn_block ?_
    refine H.round_list (fun _ _ h => h) (by kernel_rfl) ?_
    go_wp2_with (first
      | ((with_reducible refine wpList_loadF rfl _ rfl q ?_ HQ.out ?_); exact rfl)
      | ((with_reducible refine wpList_buildX (k := 5) Try.underlying40 infoFm (by omega) (by omega) rfl _ rfl G.cs rfl ?_ ?_); exact rfl; intro w5 g5 hc5 hb5 he5; obtain ⟨vp', vc', w6, hrun, ⟨u, c6⟩, y6, hn6, hkp⟩ := HN.out w5 g5 hc5 hb5; have HRUN := hid hrun; have HN6 := hid hn6; have HKP := hid hkp; clear hrun hn6 hkp hc5 hb5 he5 c0)
      | (at_builtin; refine wpList_append_run _ _ 40 40 rfl rfl _ _ _ rfl rfl HRUN.out ?_))
    exact ⟨HKP.out _, HN6.out⟩
theorem fall14_any (k m s : Int) (w : World) (hm : inI m) : Calls Try.prog 19 #[.int .i64 k, .int .i64 m, .int .i64 s] w (AlR w k m s) := by
  cases hok : okAl k m s with
  | true => exact fall14_ok k m s w hok
  | false => exact fall14_no k m s w hm hok
end Go.Proofs.Ytfniojnklhjgbaa
