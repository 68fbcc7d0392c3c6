/- Texts laid into one, cut to what is needed: the remark ahead of each part says what is proved there. -/
import Derived.Test.YtfniojnklhjgbaaPab
/- Contract of spread of package digest: a block's words, and those that follow from them; what was there is as it was. -/
namespace Go.Proofs.Ytfniojnklhjgbaa.H
open Go.RowKit

def spTo (x : Nat → Nat) (k i : Nat) : BitVec 32 := wpart x i (min (k - 4 * i) 4)
theorem spTo_step (x : Nat → Nat) (k i : Nat) : upW (spTo x k) (k / 4) ((spTo x k (k / 4) <<< 8) ||| BitVec.ofNat 32 (x k)) i = spTo x (k + 1) i := by
  unfold upW spTo
  by_cases e : i = k / 4
  · rw [if_pos e, e, show min (k - 4 * (k / 4)) 4 = k % 4 by omega, show min (k + 1 - 4 * (k / 4)) 4 = k % 4 + 1 by omega, wpart, show 4 * (k / 4) + k % 4 = k by omega]
  · rw [if_neg e]
    rcases Nat.lt_or_ge i (k / 4) with h | h
    · rw [show min (k - 4 * i) 4 = 4 by omega, show min (k + 1 - 4 * i) 4 = 4 by omega]
    · rw [show min (k - 4 * i) 4 = 0 by omega, show min (k + 1 - 4 * i) 4 = 0 by omega]
def schTo (x : Nat → Nat) (t i : Nat) : BitVec 32 := if i < t then sch x i else 0
theorem spTo_end (x : Nat → Nat) (i : Nat) : spTo x 64 i = schTo x 16 i := by
  unfold spTo schTo
  by_cases h : i < 16
  · rw [if_pos h, sch_low x i h, show min (64 - 4 * i) 4 = 4 by omega]; rfl
  · rw [if_neg h, show min (64 - 4 * i) 4 = 0 by omega]; rfl
theorem schTo_at (x : Nat → Nat) (t i : Nat) (h : i < t) : schTo x t i = sch x i := by unfold schTo; rw [if_pos h]
theorem schTo_step (x : Nat → Nat) (t : Nat) (h : 16 ≤ t) (i : Nat) : upW (schTo x t) t (sg1 (schTo x t (t - 2)) + schTo x t (t - 7) + sg0 (schTo x t (t - 15)) + schTo x t (t - 16)) i = schTo x (t + 1) i := by
  rw [schTo_at x t (t - 2) (by omega), schTo_at x t (t - 7) (by omega), schTo_at x t (t - 15) (by omega), schTo_at x t (t - 16) (by omega), ← sch_high x t h]
  unfold upW schTo
  by_cases e : i = t
  · rw [if_pos e, if_pos (by omega), e]
  · rw [if_neg e]
    by_cases q : i < t
    · rw [if_pos q, if_pos (by omega)]
    · rw [if_neg q, if_neg (by omega)]
theorem byte_word (n : Nat) (h : n < 256) : ((n : Nat) : Int) = wv (BitVec.ofNat 32 n) := by
  unfold wv; rw [BitVec.toNat_ofNat]; omega
theorem size64B (x : Nat → Nat) : (Try.prog.info? 73).map (·.size) = some (aB 64 x).size := by rw [aB_size]; kernel_rfl

theorem run_index_blk (x : Nat → Nat) (k : Nat) (hk : k < 64) (w : World) : (Instr.index 73 (.agg (aB 64 x)) (.int .i64 (k : Int))).run Try.prog w = .ok (.int .u8 ((x k : Nat) : Int)) w :=
  run_index_row 73 5 64 _ k _ Try.underlying73 hk (aB_get 64 x k hk) (by kernel_rfl) (fun _ => by kernel_rfl) w
set_option maxRecDepth 100000 in
set_option maxHeartbeats 400000 in
theorem spread_any (x : Nat → Nat) (hx : ∀ i, i < 64 → x i < 256) (w : World) :
    Calls Try.prog 48 #[.agg (aB 64 x)] w fun e w' => e = .returned (.agg (aW 64 (sch x))) ∧ Below w.heap.size w w' := by
  have HX := hid hx
  clear hx
  go_enter Try.func48, Try.ntmps48
  go_wp2_with (first
    | refine wpList_alloc_row rfl 79 rfl _ zero64 ?_
    | refine wpList_load_row rfl 73 _ rfl _ rfl _ _ _ _ (((CAt.new w (aB 64 x) 73).alloc (.cells (aW 64 zW) 79)).alloc (.cells (aW 64 zW) 79)) Try.underlying73 rfl (size64B x) ?_)
  go_loopw [12] (fun v wr => ∃ k : Nat, k ≤ 64 ∧ v = .int .i64 k ∧ CAt wr (w.heap.size + 1 + 1) (aW 64 (spTo x k)) 79 ∧ CAt wr (w.heap.size + 1) (aW 64 zW) 79 ∧ Below w.heap.size w wr) (fun v _ => (64 - intOf v).toNat)
  case atStart =>
    refine ⟨0, by omega, rfl, ?_, ?_, ?_⟩
    · exact (CAt.new' ((w.alloc (.cells (aB 64 x) 73)).alloc (.cells (aW 64 zW) 79)) (aW 64 zW) 79 _ (by simp)).congr (aW_congr 64 fun i _ => by show (0 : BitVec 32) = wpart x i (min (0 - 4 * i) 4); rw [show min (0 - 4 * i) 4 = 0 by omega]; rfl)
    · exact (CAt.new' (w.alloc (.cells (aB 64 x) 73)) (aW 64 zW) 79 _ (by simp)).alloc _
    · exact (((Below.refl _ _).alloc (by omega) _).alloc (by simp) _).alloc (by simp; omega) _
  case round =>
    obtain ⟨k, hk, rfl, hc, hz, hb⟩ := hrel
    by_cases hlt : k < 64
    · have hix := run_index_blk x k hlt
      have c1 := hc.cellW (k / 4) (by omega)
      have c2 := hc.free (k / 4)
      have hxk := byte_word (x k) (HX.out k hlt)
      have HC := hid hc
      have HZ := hid hz
      have HB := hid hb
      clear hc hz hb
      have e1 := wshl (spTo x k (k / 4)) 8
      simp only [Int.reducePow] at e1
      have e2 := wmod (BitVec.ofNat 32 (x k))
      have e3 := wor (spTo x k (k / 4) <<< 8) (BitVec.ofNat 32 (x k))
      go_wp2
      go_roundw
      case rel =>
        exact ⟨k + 1, by omega, by go_num, (HC.out.setW (k / 4) _).congr (aW_congr 64 fun i _ => spTo_step x k i), HZ.out.other _ _ (by simp), HB.out.setCell (by simp; omega) _⟩
      case measure => simp [intOf]; omega
    · have e : k = 64 := by omega
      have HC := hid (hc.congr (cs' := aW 64 (schTo x 16)) (aW_congr 64 fun i _ => (by rw [e]; exact spTo_end x i)))
      clear e
      have HZ := hid hz
      have HB := hid hb
      clear hc hz hb HX
      go_wp2
      go_loopw [6] (fun v wr => ∃ t : Nat, 16 ≤ t ∧ t ≤ 64 ∧ v = .int .i64 t ∧ CAt wr (w.heap.size + 1 + 1) (aW 64 (schTo x t)) 79 ∧ CAt wr (w.heap.size + 1) (aW 64 zW) 79 ∧ Below w.heap.size w wr) (fun v _ => (64 - intOf v).toNat)
      case atStart => exact ⟨16, by omega, by omega, rfl, HC.out, HZ.out, HB.out⟩
      case round =>
        clear HC HZ HB
        obtain ⟨t, ht0, ht, rfl, hc, hz, hb⟩ := hrel
        by_cases hlt : t < 64
        · have c1 := hc.cellW (t - 2) (by omega)
          have c2 := hc.cellW (t - 7) (by omega)
          have c3 := hc.cellW (t - 15) (by omega)
          have c4 := hc.cellW (t - 16) (by omega)
          have c5 := hc.free t
          have HC := hid hc
          have HZ := hid hz
          have HB := hid hb
          clear hc hz hb
          go_wp2_with fail
          go_quiet (fail)
          have a1 := wadd
          have a2 := wxor
          have a3 := wshr (schTo x t (t - 2)) 10
          have a4 := wshr (schTo x t (t - 15)) 3
          simp only [Int.reducePow] at a3 a4
          go_wp2_with (go_at_call 49; refine (right_i _ _ (by decide) (by decide) _).mono ?_; rintro e w' ⟨rfl, rfl⟩)
          have HC := hid (HC.out.drewN nq)
          have HZ := hid (HZ.out.drewN nq)
          have HB := hid (Below.drewN' HB.out nq)
          clear c1 c2 c3 c4 c5
          generalize wr.drewN nq = w5 at *
          have c7 := HC.out.cellW (t - 7) (by omega)
          have c8 := HC.out.cellW (t - 16) (by omega)
          have c9 := HC.out.free t
          refine wp_region_last_lit (by kernel_rfl) (by kernel_rfl) ?_
          dsimp only [List.dropLast, List.getLast]
          repeat (go_big_quiet_step (fail))
          refine wpQuiet_nil ?_
          intro nr
          have HC := hid (HC.out.drewN nr)
          have HZ := hid (HZ.out.drewN nr)
          have HB := hid (Below.drewN' HB.out nr)
          clear c7 c8 c9
          generalize w5.drewN nr = w6 at *
          have c9 := HC.out.free t
          have c10 := HC.out.cellW t hlt
          go_wp2
          go_roundw
          case rel => exact ⟨t + 1, by omega, by omega, by go_num, (HC.out.setW t _).congr (aW_congr 64 fun i _ => schTo_step x t ht0 i), HZ.out.other _ _ (by simp), HB.out.setCell (by simp; omega) _⟩
          case measure => simp [intOf]; omega
        · have e : t = 64 := by omega
          subst e
          have HC := hid hc
          have HZ := hid hz
          have HB := hid hb
          clear hc hz hb
          go_wp2_with (first
            | refine wpList_load_row rfl 79 _ rfl _ rfl _ _ _ _ HC.out Try.underlying79 rfl (size64 _) ?_
            | refine wpList_store_row rfl 79 _ _ rfl _ _ rfl rfl _ _ HZ.out (size64 _) (by rw [aW_size, aW_size]) (aW_one _ _) ?_)
          refine ret_row rfl _ _ _ _ _ rfl rfl (HZ.out.row _) Try.underlying79 rfl (size64 _) ⟨?_, below_setRow HB.out (by omega) _⟩
          rw [aW_congr 64 (fun i hi => schTo_at x 64 i hi)]
end Go.Proofs.Ytfniojnklhjgbaa.H

/- A region that draws its order, walked by what holds whenever some of its operations have come up. -/
namespace Go.Proofs.Ytfniojnklhjgbaa.H
open Go Go.RowKit

section
variable {P : Program} {ops : Array Oper} {md : Region.Mode}
theorem count_set : ∀ (l : List Bool) (i : Nat), l[i]? = some false → (l.set i true).count false + 1 = l.count false
  | [], i, h => by simp at h
  | b :: l, 0, h => by
    simp at h; subst h; simp
  | b :: l, i + 1, h => by
    simp only [List.set_cons_succ, List.count_cons]
    have := count_set l i (by simpa using h)
    omega
theorem wpAny_inv {Q : Exit → Act → World → Prop} (Inv : Array Bool → Act → World → Prop)
    (hstep : ∀ listed a w i, Inv listed a w → i ∈ Region.ready md ops listed → wpOp P ops Q i (Inv (listed.setIfInBounds i true)) a w)
    (hend : ∀ listed a w, Inv listed a w → Region.ready md ops listed = [] → Q .normal a w) :
    ∀ (fuel : Nat) (listed : Array Bool) (a : Act) (w : World), listed.toList.count false ≤ fuel → Inv listed a w → wpAny P md ops Q fuel listed a w
  | 0, listed, a, w, hc, h => by
    have hr : Region.ready md ops listed = [] := by
      apply List.eq_nil_iff_forall_not_mem.2
      intro i hi
      have h0 := (mem_ready.1 hi).1
      rcases Nat.lt_or_ge i listed.size with h' | h'
      · have h1 : listed.toList[i]? = some false := by simp [h'] at h0 ⊢; exact h0
        have := count_set _ _ h1
        omega
      · simp [Array.getElem?_eq_none h'] at h0
    exact ⟨hr, hend _ _ _ h hr⟩
  | fuel + 1, listed, a, w, hc, h => by
    refine ⟨fun hr => hend _ _ _ h hr, fun i hi => wpOp_mono (fun a' w' h' => wpAny_inv Inv hstep hend fuel _ a' w' ?_ h') (hstep _ _ _ _ h hi)⟩
    have h0 := (mem_ready.1 hi).1
    rcases Nat.lt_or_ge i listed.size with h1 | h1
    · have h2 : listed.toList[i]? = some false := by simp [h1] at h0 ⊢; exact h0
      have := count_set _ _ h2
      rw [Array.toList_setIfInBounds]
      omega
    · simp [Array.getElem?_eq_none h1] at h0
theorem wp_enter {o : Oper} {a : Act} {w : World} {K : Act → World → Prop} {Q : Exit → Act → World → Prop} (f : FuncId) (vs : Array Value) (hrun : (execOp a.eval o).run P w = .ok (.enter f vs) w)
    (h : Calls P f vs w fun e w' => ∃ v, e = .returned v ∧ K (a.put o.dst v) w') : o.wp P a w K Q := by
  unfold Oper.wp; rw [hrun]
  exact h.mono (by rintro e w' ⟨v, rfl, hk⟩; exact hk)
theorem wp_alloc_row {o : Oper} {a : Act} {w : World} {K : Act → World → Prop} {Q : Exit → Act → World → Prop} (t : TypeId) (ho : o.op = .alloc t) (cs : Array Value)
    (hz : (P.info? t).map (·.zero) = some (some (.agg cs))) (h : K (a.put o.dst (.pointer (some ⟨w.heap.size, 0, none⟩))) (w.alloc (.cells cs t))) : o.wp P a w K Q := by
  cases hq : P.info? t with
  | none => simp [hq] at hz
  | some i =>
    have hz' : i.zero = some (.agg cs) := by simpa [hq] using hz
    unfold Oper.wp execOp
    simp only [ho, Instr.alloc, zeroValue, typeInfo, Sem.run_bind, newVar, newRow]
    simp [hq, hz', Value.cells]
    exact h
end
end Go.Proofs.Ytfniojnklhjgbaa.H

/- The region of 'k, w := f(), g(b)' over arrays: two calls, a load, two new variables and two stores, in whatever order. -/
namespace Go.Proofs.Ytfniojnklhjgbaa.H
open Go Go.RowKit

theorem put_same (a : Act) (d : Nat) (v u : Value) : (a.put (some d) v).put (some d) u = a.put (some d) u := by
  simp [Act.put, Array.setIfInBounds_setIfInBounds]
theorem eval_put_same (a : Act) (d : Nat) (v : Value) (h : d < a.tmps.size) : (a.put (some d) v).eval (.tmp d) = v := by
  simp [Act.put, Act.eval, h]
theorem eval_put_ne (a : Act) (d k : Nat) (v : Value) (h : d ≠ k) : (a.put (some d) v).eval (.tmp k) = a.eval (.tmp k) := by
  simp [Act.put, Act.eval, Array.getElem?_setIfInBounds_ne h]
theorem put_size (a : Act) (d : Nat) (v : Value) : (a.put (some d) v).tmps.size = a.tmps.size := by simp [Act.put]
theorem wpOp_in {P : Program} {ops : Array Oper} {Q : Exit → Act → World → Prop} {i : Nat} {K : Act → World → Prop} {a : Act} {w : World} {o : Oper} (ho : ops[i]? = some o) (hg : o.guard = none) (h : o.wp P a w K Q) : wpOp P ops Q i K a w := by
  unfold wpOp; rw [ho]
  show (if Region.wanted o (yielded ops a.tmps) = true then _ else _)
  rw [if_pos (by unfold Region.wanted; rw [hg])]
  exact .inl h
/-- Five slots of a frame. -/
def fr5 (base : Act) (d0 d1 d2 p q : Nat) (v0 v1 v2 vp vq : Value) : Act := ((((base.put (some d0) v0).put (some d1) v1).put (some d2) v2).put (some p) vp).put (some q) vq
/-- What holds whenever some of the seven operations have come up. -/
def Two (base : Act) (W : World) (d0 d1 d2 p q : Nat) (T : TypeId) (A X B : Array Value) (listed : Array Bool) (a : Act) (w : World) : Prop :=
  ∃ b0 b1 b2 b3 b4 b5 b6 : Bool, listed = #[b0, b1, b2, b3, b4, b5, b6] ∧ ∃ v0 v1 v2 vp vq : Value, a = fr5 base d0 d1 d2 p q v0 v1 v2 vp vq ∧ Below W.heap.size W w ∧
    (b0 = true → v0 = .agg A) ∧ (b1 = true → v1 = .agg X) ∧ (b2 = true → v2 = .agg B) ∧
    (b3 = true → ∃ g cs, vp = .pointer (some ⟨g, 0, none⟩) ∧ W.heap.size ≤ g ∧ CAt w g cs T ∧ cs.size = A.size ∧ (b5 = true → cs = A)) ∧
    (b4 = true → ∃ g cs, vq = .pointer (some ⟨g, 0, none⟩) ∧ W.heap.size ≤ g ∧ CAt w g cs T ∧ cs.size = A.size ∧ (b6 = true → cs = B)) ∧
    (b3 = true → b4 = true → ∀ g g', vp = .pointer (some ⟨g, 0, none⟩) → vq = .pointer (some ⟨g', 0, none⟩) → g ≠ g') ∧ (b5 = true → b3 = true) ∧ (b6 = true → b4 = true)

def aggB (d : TypeDesc) : Bool := match d with | .struct _ | .array _ _ => true | _ => false
def okTwo (i : Nat) (b0 b1 b2 b3 b4 b5 b6 : Bool) : Bool :=
  match i with
  | 0 => !b0
  | 1 => !b1
  | 2 => !b2 && b0 && b1
  | 3 => !b3 && !b5
  | 4 => !b4 && !b6
  | 5 => !b5 && b0 && b3
  | 6 => !b6 && b2 && b4
  | _ => false

set_option maxHeartbeats 1000000 in
theorem region_two {P : Program} {ops : Array Oper} {Q : Exit → Act → World → Prop} {base : Act} {W : World} (d0 d1 d2 p q src : Nat) (T TB : TypeId) (A X B Z : Array Value) (f g gx : Nat)
    (hR : ∀ b0 b1 b2 b3 b4 b5 b6 : Bool, (b5 = true → b3 = true) → (b6 = true → b4 = true) → ((Region.ready .any ops #[b0, b1, b2, b3, b4, b5, b6]).all fun i => okTwo i b0 b1 b2 b3 b4 b5 b6) = true)
    (hE : ∀ b0 b1 b2 b3 b4 b5 b6 : Bool, Region.ready .any ops #[b0, b1, b2, b3, b4, b5, b6] = [] → (b0 && b1 && b2 && b3 && b4 && b5 && b6) = true)
    (hdist : [d0, d1, d2, p, q, src].Nodup) (N : Nat) (hN : base.tmps.size = N) (hsz : ∀ d ∈ [d0, d1, d2, p, q], d < N) {o0 o1 o2 o3 o4 o5 o6 : Oper}
    (h0 : ops[0]? = some o0) (h1 : ops[1]? = some o1) (h2 : ops[2]? = some o2) (h3 : ops[3]? = some o3) (h4 : ops[4]? = some o4) (h5 : ops[5]? = some o5) (h6 : ops[6]? = some o6)
    (hg : [o0, o1, o2, o3, o4, o5, o6].all (fun o => o.guard.isNone) = true)
    (e0 : o0.dst = some d0) (e1 : o1.dst = some d1) (e2 : o2.dst = some d2) (e3 : o3.dst = some p) (e4 : o4.dst = some q) (e5 : o5.dst = none) (e6 : o6.dst = none)
    (r0 : ∀ (a : Act) (w : World), (execOp a.eval o0).run P w = .ok (.enter f #[]) w) (r1 : o1.op = .load TB (.tmp src)) (r2 : ∀ (a : Act) (w : World), (execOp a.eval o2).run P w = .ok (.enter g (#[Operand.tmp d1].map a.eval)) w)
    (r3 : o3.op = .alloc T) (r4 : o4.op = .alloc T) (r5 : o5.op = .store T (.tmp p) (.tmp d0)) (r6 : o6.op = .store T (.tmp q) (.tmp d2))
    (hf : ∀ w, Calls P f #[] w fun e w' => e = .returned (.agg A) ∧ Below w.heap.size w w') (hgc : ∀ w, Calls P g #[.agg X] w fun e w' => e = .returned (.agg B) ∧ Below w.heap.size w w')
    (hsrc : base.eval (.tmp src) = .pointer (some ⟨gx, 0, none⟩)) {tb : TypeId} (hx : CAt W gx X tb) {dB : TypeDesc} (kB : aggB dB = true) (uB : P.underlying TB = some dB) (iB : (P.info? TB).map (·.size) = some X.size)
    (hz : (P.info? T).map (·.zero) = some (some (.agg Z))) (hZs : Z.size = A.size) (hBs : B.size = A.size) (iT : (P.info? T).map (·.size) = some A.size) (oA : A.all (·.oneCell') = true) (oB : B.all (·.oneCell') = true)
    (hend : ∀ gp gq w', Below W.heap.size W w' → CAt w' gp A T → CAt w' gq B T → W.heap.size ≤ gp → W.heap.size ≤ gq → gp ≠ gq → Q .normal (fr5 base d0 d1 d2 p q (.agg A) (.agg X) (.agg B) (.pointer (some ⟨gp, 0, none⟩)) (.pointer (some ⟨gq, 0, none⟩))) w') :
    wpAny P .any ops Q 7 (Array.replicate 7 false) (fr5 base d0 d1 d2 p q undef undef undef undef undef) W := by
  simp only [List.nodup_cons, List.mem_cons, List.not_mem_nil, or_false, not_or, not_false_eq_true, and_true, List.nodup_nil] at hdist
  obtain ⟨⟨n01, n02, n0p, n0q, n0s⟩, ⟨n12, n1p, n1q, n1s⟩, ⟨n2p, n2q, n2s⟩, ⟨npq, nps⟩, nqs⟩ := hdist
  subst hN
  have s0 := hsz d0 (by simp)
  have s1 := hsz d1 (by simp)
  have s2 := hsz d2 (by simp)
  have sp := hsz p (by simp)
  have sq := hsz q (by simp)
  simp only [List.all_cons, List.all_nil, Bool.and_true, Bool.and_eq_true, Option.isNone_iff_eq_none] at hg
  obtain ⟨g0, g1, g2, g3, g4, g5, g6⟩ := hg
  have E0 : ∀ v0 v1 v2 vp vq, (fr5 base d0 d1 d2 p q v0 v1 v2 vp vq).eval (.tmp d0) = v0 := fun v0 v1 v2 vp vq => by
    unfold fr5; rw [eval_put_ne _ _ _ _ (Ne.symm n0q), eval_put_ne _ _ _ _ (Ne.symm n0p), eval_put_ne _ _ _ _ (Ne.symm n02), eval_put_ne _ _ _ _ (Ne.symm n01), eval_put_same _ _ _ s0]
  have E1 : ∀ v0 v1 v2 vp vq, (fr5 base d0 d1 d2 p q v0 v1 v2 vp vq).eval (.tmp d1) = v1 := fun v0 v1 v2 vp vq => by
    unfold fr5; rw [eval_put_ne _ _ _ _ (Ne.symm n1q), eval_put_ne _ _ _ _ (Ne.symm n1p), eval_put_ne _ _ _ _ (Ne.symm n12), eval_put_same _ _ _ (by rw [put_size]; exact s1)]
  have E2 : ∀ v0 v1 v2 vp vq, (fr5 base d0 d1 d2 p q v0 v1 v2 vp vq).eval (.tmp d2) = v2 := fun v0 v1 v2 vp vq => by
    unfold fr5; rw [eval_put_ne _ _ _ _ (Ne.symm n2q), eval_put_ne _ _ _ _ (Ne.symm n2p), eval_put_same _ _ _ (by rw [put_size, put_size]; exact s2)]
  have Ep : ∀ v0 v1 v2 vp vq, (fr5 base d0 d1 d2 p q v0 v1 v2 vp vq).eval (.tmp p) = vp := fun v0 v1 v2 vp vq => by
    unfold fr5; rw [eval_put_ne _ _ _ _ (Ne.symm npq), eval_put_same _ _ _ (by rw [put_size, put_size, put_size]; exact sp)]
  have Eq : ∀ v0 v1 v2 vp vq, (fr5 base d0 d1 d2 p q v0 v1 v2 vp vq).eval (.tmp q) = vq := fun v0 v1 v2 vp vq => by
    unfold fr5; rw [eval_put_same _ _ _ (by rw [put_size, put_size, put_size, put_size]; exact sq)]
  have Es : ∀ v0 v1 v2 vp vq, (fr5 base d0 d1 d2 p q v0 v1 v2 vp vq).eval (.tmp src) = base.eval (.tmp src) := fun v0 v1 v2 vp vq => by
    unfold fr5; rw [eval_put_ne _ _ _ _ nqs, eval_put_ne _ _ _ _ nps, eval_put_ne _ _ _ _ n2s, eval_put_ne _ _ _ _ n1s, eval_put_ne _ _ _ _ n0s]
  have cm : ∀ (a : Act) (x y : Nat) (v u : Value), x ≠ y → (a.put (some x) v).put (some y) u = (a.put (some y) u).put (some x) v := fun a x y v u h =>
    (Act.put_comm a v u (fun d hd => by cases hd; intro hh; cases hh; exact h rfl))
  have P0 : ∀ v0 v1 v2 vp vq u, (fr5 base d0 d1 d2 p q v0 v1 v2 vp vq).put (some d0) u = fr5 base d0 d1 d2 p q u v1 v2 vp vq := fun v0 v1 v2 vp vq u => by
    unfold fr5; rw [cm _ q d0 _ _ (Ne.symm n0q), cm _ p d0 _ _ (Ne.symm n0p), cm _ d2 d0 _ _ (Ne.symm n02), cm _ d1 d0 _ _ (Ne.symm n01), put_same]
  have P1 : ∀ v0 v1 v2 vp vq u, (fr5 base d0 d1 d2 p q v0 v1 v2 vp vq).put (some d1) u = fr5 base d0 d1 d2 p q v0 u v2 vp vq := fun v0 v1 v2 vp vq u => by
    unfold fr5; rw [cm _ q d1 _ _ (Ne.symm n1q), cm _ p d1 _ _ (Ne.symm n1p), cm _ d2 d1 _ _ (Ne.symm n12), put_same]
  have P2 : ∀ v0 v1 v2 vp vq u, (fr5 base d0 d1 d2 p q v0 v1 v2 vp vq).put (some d2) u = fr5 base d0 d1 d2 p q v0 v1 u vp vq := fun v0 v1 v2 vp vq u => by
    unfold fr5; rw [cm _ q d2 _ _ (Ne.symm n2q), cm _ p d2 _ _ (Ne.symm n2p), put_same]
  have Pp : ∀ v0 v1 v2 vp vq u, (fr5 base d0 d1 d2 p q v0 v1 v2 vp vq).put (some p) u = fr5 base d0 d1 d2 p q v0 v1 v2 u vq := fun v0 v1 v2 vp vq u => by
    unfold fr5; rw [cm _ q p _ _ (Ne.symm npq), put_same]
  have Pq : ∀ v0 v1 v2 vp vq u, (fr5 base d0 d1 d2 p q v0 v1 v2 vp vq).put (some q) u = fr5 base d0 d1 d2 p q v0 v1 v2 vp u := fun v0 v1 v2 vp vq u => by
    unfold fr5; rw [put_same]
  refine wpAny_inv (Two base W d0 d1 d2 p q T A X B) ?_ ?_ 7 _ _ _ (by decide) ?_
  · rintro listed a w i ⟨b0, b1, b2, b3, b4, b5, b6, rfl, v0, v1, v2, vp, vq, rfl, hb, c0, c1, c2, c3, c4, c5, c6, c7⟩ hi
    have hok := List.all_eq_true.1 (hR b0 b1 b2 b3 b4 b5 b6 c6 c7) i hi
    have ks : ∀ {w' : World}, Below w.heap.size w w' → ∀ {g : Nat} {cs : Array Value}, CAt w g cs T → CAt w' g cs T := fun hb' _ _ hc => hc.below hb' hc.lt
    have hbm : ∀ {w' : World}, Below w.heap.size w w' → Below W.heap.size W w' := fun hb' => hb.trans (hb'.mono hb.size)
    match i, hok with
    | 0, hok =>
      refine wpOp_in h0 g0 ?_
      refine (wp_enter f _ (r0 _ _) ((hf w).mono ?_))
      rintro e w' ⟨rfl, hb'⟩
      refine ⟨_, rfl, true, b1, b2, b3, b4, b5, b6, rfl, .agg A, v1, v2, vp, vq, by rw [e0, P0], hbm hb', fun _ => rfl, c1, c2, fun h => ?_, fun h => ?_, c5, c6, c7⟩
      · obtain ⟨g', cs, k1, k2, k3, k4⟩ := c3 h; exact ⟨g', cs, k1, k2, ks hb' k3, k4⟩
      · obtain ⟨g', cs, k1, k2, k3, k4⟩ := c4 h; exact ⟨g', cs, k1, k2, ks hb' k3, k4⟩
    | 1, hok =>
      refine wpOp_in h1 g1 ?_
      refine (wp_load_row TB _ r1 gx (by rw [Es, hsrc]) tb X (0, 0) dB (hx.below hb hx.lt) uB (by cases dB <;> first | rfl | (simp [aggB] at kB)) iB ?_)
      exact ⟨b0, true, b2, b3, b4, b5, b6, rfl, v0, .agg X, v2, vp, vq, by rw [e1, P1], hb, c0, fun _ => rfl, c2, c3, c4, c5, c6, c7⟩
    | 2, hok =>
      simp only [okTwo, Bool.and_eq_true, Bool.not_eq_true'] at hok
      refine wpOp_in h2 g2 ?_
      refine (wp_enter g _ (r2 _ _) ?_)
      rw [show #[Operand.tmp d1].map (fr5 base d0 d1 d2 p q v0 v1 v2 vp vq).eval = #[(fr5 base d0 d1 d2 p q v0 v1 v2 vp vq).eval (.tmp d1)] by simp, E1, c1 hok.2]
      refine (hgc w).mono ?_
      rintro e w' ⟨rfl, hb'⟩
      refine ⟨_, rfl, b0, b1, true, b3, b4, b5, b6, rfl, v0, .agg X, .agg B, vp, vq, by rw [e2, P2], hbm hb', c0, fun _ => rfl, fun _ => rfl, fun h => ?_, fun h => ?_, c5, c6, c7⟩
      · obtain ⟨g', cs, k1, k2, k3, k4⟩ := c3 h; exact ⟨g', cs, k1, k2, ks hb' k3, k4⟩
      · obtain ⟨g', cs, k1, k2, k3, k4⟩ := c4 h; exact ⟨g', cs, k1, k2, ks hb' k3, k4⟩
    | 3, hok =>
      simp only [okTwo, Bool.and_eq_true, Bool.not_eq_true'] at hok
      refine wpOp_in h3 g3 ?_
      refine (wp_alloc_row T r3 Z hz ?_)
      have hb' : Below w.heap.size w (w.alloc (.cells Z T)) := (Below.refl _ _).alloc (Nat.le_refl _) _
      refine ⟨b0, b1, b2, true, b4, b5, b6, rfl, v0, v1, v2, .pointer (some ⟨w.heap.size, 0, none⟩), vq, by rw [e3, Pp], hbm hb', c0, c1, c2, fun _ => ⟨_, Z, rfl, hb.size, CAt.new _ _ _, hZs, fun h => by rw [hok.2] at h; cases h⟩, fun h => ?_, fun _ h4' g1' g2' k1 k2 => ?_, fun _ => rfl, c7⟩
      · obtain ⟨g', cs, k1, k2, k3, k4⟩ := c4 h; exact ⟨g', cs, k1, k2, ks hb' k3, k4⟩
      · obtain ⟨g', cs, m1, m2, m3, m4⟩ := c4 h4'
        have := m3.lt
        rw [m1] at k2
        cases k1; cases k2
        omega
    | 4, hok =>
      simp only [okTwo, Bool.and_eq_true, Bool.not_eq_true'] at hok
      refine wpOp_in h4 g4 ?_
      refine (wp_alloc_row T r4 Z hz ?_)
      have hb' : Below w.heap.size w (w.alloc (.cells Z T)) := (Below.refl _ _).alloc (Nat.le_refl _) _
      refine ⟨b0, b1, b2, b3, true, b5, b6, rfl, v0, v1, v2, vp, .pointer (some ⟨w.heap.size, 0, none⟩), by rw [e4, Pq], hbm hb', c0, c1, c2, fun h => ?_, fun _ => ⟨_, Z, rfl, hb.size, CAt.new _ _ _, hZs, fun h => by rw [hok.2] at h; cases h⟩, fun h3' _ g1' g2' k1 k2 => ?_, c6, fun _ => rfl⟩
      · obtain ⟨g', cs, k1, k2, k3, k4⟩ := c3 h; exact ⟨g', cs, k1, k2, ks hb' k3, k4⟩
      · obtain ⟨g', cs, m1, m2, m3, m4⟩ := c3 h3'
        have := m3.lt
        rw [m1] at k1
        cases k1; cases k2
        omega
    | 5, hok =>
      simp only [okTwo, Bool.and_eq_true, Bool.not_eq_true'] at hok
      refine wpOp_in h5 g5 ?_
      obtain ⟨gp, cs, k1, k2, k3, k4, k5⟩ := c3 hok.2
      refine (wp_store_row T _ _ r5 gp A (by rw [Ep, k1]) (by rw [E0, c0 hok.1.2]) T cs k3 iT k4 oA ?_)
      refine ⟨b0, b1, b2, b3, b4, true, b6, rfl, v0, v1, v2, vp, vq, by rw [e5]; rfl, below_setRow hb k2 _, c0, c1, c2, fun _ => ⟨gp, A, k1, k2, k3.row A, rfl, fun _ => rfl⟩, fun h => ?_, c5, fun _ => hok.2, c7⟩
      obtain ⟨g', cs', m1, m2, m3, m4⟩ := c4 h
      exact ⟨g', cs', m1, m2, m3.rowOther A (Ne.symm (c5 hok.2 h gp g' k1 m1)), m4⟩
    | 6, hok =>
      simp only [okTwo, Bool.and_eq_true, Bool.not_eq_true'] at hok
      refine wpOp_in h6 g6 ?_
      obtain ⟨gq, cs, k1, k2, k3, k4, k5⟩ := c4 hok.2
      refine (wp_store_row T _ _ r6 gq B (by rw [Eq, k1]) (by rw [E2, c2 hok.1.2]) T cs k3 (by rw [hBs]; exact iT) (by rw [k4, hBs]) oB ?_)
      refine ⟨b0, b1, b2, b3, b4, b5, true, rfl, v0, v1, v2, vp, vq, by rw [e6]; rfl, below_setRow hb k2 _, c0, c1, c2, fun h => ?_, fun _ => ⟨gq, B, k1, k2, k3.row B, hBs, fun _ => rfl⟩, c5, c6, fun _ => hok.2⟩
      obtain ⟨g', cs', m1, m2, m3, m4⟩ := c3 h
      exact ⟨g', cs', m1, m2, m3.rowOther B (c5 h hok.2 g' gq m1 k1), m4⟩
    | n + 7, hok => simp [okTwo] at hok
  · rintro listed a w ⟨b0, b1, b2, b3, b4, b5, b6, rfl, v0, v1, v2, vp, vq, rfl, hb, c0, c1, c2, c3, c4, c5, c6, c7⟩ hr
    have hall := hE b0 b1 b2 b3 b4 b5 b6 hr
    simp only [Bool.and_eq_true] at hall
    obtain ⟨⟨⟨⟨⟨⟨t0, t1⟩, t2⟩, t3⟩, t4⟩, t5⟩, t6⟩ := hall
    obtain ⟨gp, cp, k1, k2, k3, k4, k5⟩ := c3 t3
    obtain ⟨gq, cq, m1, m2, m3, m4, m5⟩ := c4 t4
    have hne := c5 t3 t4 gp gq k1 m1
    rw [k5 t5] at k3
    rw [m5 t6] at m3
    rw [c0 t0, c1 t1, c2 t2, k1, m1]
    exact hend gp gq w hb k3 m3 k2 m2 hne
  · exact ⟨false, false, false, false, false, false, false, rfl, undef, undef, undef, undef, undef, rfl, Below.refl _ _, by simp, by simp, by simp, by simp, by simp, by simp, by simp, by simp⟩
theorem region_two_at {P : Program} {ops : Array Oper} {Q : Exit → Act → World → Prop} {base : Act} {W : World} (d0 d1 d2 p q src : Nat) (T TB : TypeId) (A X B Z : Array Value) (f g gx : Nat)
    (hR : ∀ b0 b1 b2 b3 b4 b5 b6 : Bool, (b5 = true → b3 = true) → (b6 = true → b4 = true) → ((Region.ready .any ops #[b0, b1, b2, b3, b4, b5, b6]).all fun i => okTwo i b0 b1 b2 b3 b4 b5 b6) = true)
    (hE : ∀ b0 b1 b2 b3 b4 b5 b6 : Bool, Region.ready .any ops #[b0, b1, b2, b3, b4, b5, b6] = [] → (b0 && b1 && b2 && b3 && b4 && b5 && b6) = true)
    (hfr : fr5 base d0 d1 d2 p q undef undef undef undef undef = base) (hdist : [d0, d1, d2, p, q, src].Nodup) (N : Nat) (hN : base.tmps.size = N) (hsz : ∀ d ∈ [d0, d1, d2, p, q], d < N) {o0 o1 o2 o3 o4 o5 o6 : Oper}
    (h0 : ops[0]? = some o0) (h1 : ops[1]? = some o1) (h2 : ops[2]? = some o2) (h3 : ops[3]? = some o3) (h4 : ops[4]? = some o4) (h5 : ops[5]? = some o5) (h6 : ops[6]? = some o6)
    (hg : [o0, o1, o2, o3, o4, o5, o6].all (fun o => o.guard.isNone) = true)
    (e0 : o0.dst = some d0) (e1 : o1.dst = some d1) (e2 : o2.dst = some d2) (e3 : o3.dst = some p) (e4 : o4.dst = some q) (e5 : o5.dst = none) (e6 : o6.dst = none)
    (r0 : ∀ (a : Act) (w : World), (execOp a.eval o0).run P w = .ok (.enter f #[]) w) (r1 : o1.op = .load TB (.tmp src)) (r2 : ∀ (a : Act) (w : World), (execOp a.eval o2).run P w = .ok (.enter g (#[Operand.tmp d1].map a.eval)) w)
    (r3 : o3.op = .alloc T) (r4 : o4.op = .alloc T) (r5 : o5.op = .store T (.tmp p) (.tmp d0)) (r6 : o6.op = .store T (.tmp q) (.tmp d2))
    (hf : ∀ w, Calls P f #[] w fun e w' => e = .returned (.agg A) ∧ Below w.heap.size w w') (hgc : ∀ w, Calls P g #[.agg X] w fun e w' => e = .returned (.agg B) ∧ Below w.heap.size w w')
    (hsrc : base.eval (.tmp src) = .pointer (some ⟨gx, 0, none⟩)) {tb : TypeId} (hx : CAt W gx X tb) {dB : TypeDesc} (kB : aggB dB = true) (uB : P.underlying TB = some dB) (iB : (P.info? TB).map (·.size) = some X.size)
    (hz : (P.info? T).map (·.zero) = some (some (.agg Z))) (hZs : Z.size = A.size) (hBs : B.size = A.size) (iT : (P.info? T).map (·.size) = some A.size) (oA : A.all (·.oneCell') = true) (oB : B.all (·.oneCell') = true)
    (hend : ∀ gp gq w', Below W.heap.size W w' → CAt w' gp A T → CAt w' gq B T → W.heap.size ≤ gp → W.heap.size ≤ gq → gp ≠ gq → Q .normal (fr5 base d0 d1 d2 p q (.agg A) (.agg X) (.agg B) (.pointer (some ⟨gp, 0, none⟩)) (.pointer (some ⟨gq, 0, none⟩))) w') :
    wpAny P .any ops Q 7 (Array.replicate 7 false) base W := by
  have := region_two (Q := Q) d0 d1 d2 p q src T TB A X B Z f g gx hR hE hdist N hN hsz h0 h1 h2 h3 h4 h5 h6 hg e0 e1 e2 e3 e4 e5 e6 r0 r1 r2 r3 r4 r5 r6 hf hgc hsrc hx kB uB iB hz hZs hBs iT oA oB hend
  rwa [hfr] at this
end Go.Proofs.Ytfniojnklhjgbaa.H

/- Contract of mix of package digest: what the words become by a block; what was there is as it was. -/
namespace Go.Proofs.Ytfniojnklhjgbaa.H
open Go Go.RowKit

theorem zero8 : (Try.prog.info? 69).map (·.zero) = some (some (.agg (aW 8 zW))) := by kernel_rfl
theorem size8 (f : Nat → BitVec 32) : (Try.prog.info? 69).map (·.size) = some (aW 8 f).size := by rw [aW_size]; kernel_rfl
def MixM (H gp gq : Nat) (s : St) (x : Nat → Nat) (w w' : World) : Prop :=
  CAt w' gp (aW 64 kk) 79 ∧ CAt w' gq (aW 64 (sch x)) 79 ∧ CAt w' H (aW 8 s.get) 69 ∧ CAt w' (H + 1 + 1) (aW 8 zW) 69 ∧ Below H w w'
theorem MixM.drewN {H gp gq : Nat} {s : St} {x : Nat → Nat} {w w' : World} (h : MixM H gp gq s x w w') (m : Nat) : MixM H gp gq s x w (w'.drewN m) :=
  ⟨h.1.drewN m, h.2.1.drewN m, h.2.2.1.drewN m, h.2.2.2.1.drewN m, Below.drewN' h.2.2.2.2 m⟩
def addTo (s r : St) (k i : Nat) : BitVec 32 := if i < k then s.get i + r.get i else s.get i
theorem addTo_step (s r : St) (k i : Nat) : upW (addTo s r k) k (addTo s r k k + r.get k) i = addTo s r (k + 1) i := by
  unfold upW addTo
  by_cases e : i = k
  · rw [if_pos e, if_neg (by omega), if_pos (by omega), e]
  · rw [if_neg e]
    by_cases q : i < k
    · rw [if_pos q, if_pos (by omega)]
    · rw [if_neg q, if_neg (by omega)]
theorem run_index_st (r : St) (k : Nat) (hk : k < 8) (w : World) : (Instr.index 69 (.agg (aW 8 r.get)) (.int .i64 (k : Int))).run Try.prog w = .ok (.int .u32 (wv (r.get k))) w :=
  run_index_row 69 67 8 _ k _ Try.underlying69 hk (aW_get 8 r.get k hk) (by kernel_rfl) (fun _ => by kernel_rfl) w
set_option maxRecDepth 100000 in
set_option maxHeartbeats 1000000 in
theorem mix_any (s : St) (x : Nat → Nat) (hx : ∀ i, i < 64 → x i < 256) (w : World) :
    Calls Try.prog 38 #[.agg (aW 8 s.get), .agg (aB 64 x)] w fun e w' => e = .returned (.agg (aW 8 (comp s x).get)) ∧ Below w.heap.size w w' := by
  have HX := hid hx
  clear hx
  go_enter Try.func38, Try.ntmps38
  go_wp2_with (refine wpList_alloc_row rfl 69 rfl _ zero8 ?_)
  refine wp_region_any (by kernel_rfl) ?_
  refine region_two_at 20 21 22 5 6 3 79 73 (aW 64 kk) (aB 64 x) (aW 64 (sch x)) (aW 64 zW) 47 48 (w.heap.size + 1)
    (by decide +kernel) (by decide +kernel) rfl (by decide) 123 rfl (by decide) rfl rfl rfl rfl rfl rfl rfl rfl rfl rfl rfl rfl rfl rfl rfl (fun _ _ => by kernel_rfl) rfl (fun _ _ => by kernel_rfl) rfl rfl rfl rfl
    constants_any (spread_any x HX.out) rfl (tb := 73) ?_ rfl Try.underlying73 (size64B x) zero64 (by rw [aW_size, aW_size]) (by rw [aW_size, aW_size]) (size64 _) (aW_one _ _) (aW_one _ _) ?_
  · exact (CAt.new' (w.alloc (.cells (aW 8 s.get) 69)) (aB 64 x) 73 _ (by simp)).alloc _
  intro gp gq w' hb hk hs hgp hgq hne
  have hz : (((w.alloc (.cells (aW 8 s.get) 69)).alloc (.cells (aB 64 x) 73)).alloc (.cells (aW 8 zW) 69)).heap.size = w.heap.size + 1 + 1 + 1 := by simp
  have hz2 : ((w.alloc (.cells (aW 8 s.get) 69)).alloc (.cells (aB 64 x) 73)).heap.size = w.heap.size + 1 + 1 := by simp
  have hb' : Below (w.heap.size + 1 + 1 + 1) (((w.alloc (.cells (aW 8 s.get) 69)).alloc (.cells (aB 64 x) 73)).alloc (.cells (aW 8 zW) 69)) w' :=
    ⟨hb.os, hb.tape, hb.output, hb.size, fun k hk => hb.block k (by rw [← hz] at hk; exact hk)⟩
  have M0 : MixM w.heap.size gp gq s x w w' := by
    refine ⟨hk, hs, ?_, ?_, ?_⟩
    · exact CAt.below (((CAt.new w (aW 8 s.get) 69).alloc _).alloc _) hb' (by omega)
    · exact CAt.below (CAt.new' ((w.alloc (.cells (aW 8 s.get) 69)).alloc (.cells (aB 64 x) 73)) (aW 8 zW) 69 _ hz2) hb' (by omega)
    · exact Below.trans ((((Below.refl _ _).alloc (by omega) _).alloc (by simp) _).alloc (by rw [hz2]; omega) _) (hb'.mono (by omega))
  have hgp : w.heap.size + 1 + 1 + 1 ≤ gp := by rw [← hz]; exact hgp
  have hgq : w.heap.size + 1 + 1 + 1 ≤ gq := by rw [← hz]; exact hgq
  have HN := hid hne
  have HG : Hid (w.heap.size + 1 + 1 < gp ∧ w.heap.size + 1 + 1 < gq) := ⟨by omega, by omega⟩
  clear hb hb' hk hs hgp hgq hne hz
  have c0 : w'.cell? ⟨w.heap.size, 0, none⟩ = some (.int .u32 (wv s.a)) := M0.2.2.1.cellW 0 (by omega)
  have c1 : w'.cell? ⟨w.heap.size, 1, none⟩ = some (.int .u32 (wv s.b)) := M0.2.2.1.cellW 1 (by omega)
  have c2 : w'.cell? ⟨w.heap.size, 2, none⟩ = some (.int .u32 (wv s.c)) := M0.2.2.1.cellW 2 (by omega)
  have c3 : w'.cell? ⟨w.heap.size, 3, none⟩ = some (.int .u32 (wv s.d)) := M0.2.2.1.cellW 3 (by omega)
  have c4 : w'.cell? ⟨w.heap.size, 4, none⟩ = some (.int .u32 (wv s.e)) := M0.2.2.1.cellW 4 (by omega)
  have c5 : w'.cell? ⟨w.heap.size, 5, none⟩ = some (.int .u32 (wv s.f)) := M0.2.2.1.cellW 5 (by omega)
  have c6 : w'.cell? ⟨w.heap.size, 6, none⟩ = some (.int .u32 (wv s.g)) := M0.2.2.1.cellW 6 (by omega)
  have c7 : w'.cell? ⟨w.heap.size, 7, none⟩ = some (.int .u32 (wv s.h)) := M0.2.2.1.cellW 7 (by omega)
  have HM := hid M0
  clear M0
  simp only [fr5, Act.put, List.setIfInBounds_toArray, List.set_cons_succ, List.set_cons_zero, hz2]
  clear hz2
  go_wp2_with fail
  go_quiet (fail)
  have HM := hid (HM.out.drewN nq)
  clear c0 c1 c2 c3 c4 c5 c6 c7
  generalize w'.drewN nq = w1 at *
  go_wp2
  go_loopw [7, 8, 9, 10, 11, 12, 13, 14, 39] (fun a b c d e f g h v wr => ∃ t : Nat, t ≤ 64 ∧ v = .int .i64 t ∧ a = .int .u32 (wv (rnds s x t).a) ∧ b = .int .u32 (wv (rnds s x t).b) ∧ c = .int .u32 (wv (rnds s x t).c) ∧ d = .int .u32 (wv (rnds s x t).d) ∧ e = .int .u32 (wv (rnds s x t).e) ∧ f = .int .u32 (wv (rnds s x t).f) ∧ g = .int .u32 (wv (rnds s x t).g) ∧ h = .int .u32 (wv (rnds s x t).h) ∧ MixM w.heap.size gp gq s x w wr) (fun _ _ _ _ _ _ _ _ v _ => (64 - intOf v).toNat)
  case atStart => exact ⟨0, by omega, rfl, rfl, rfl, rfl, rfl, rfl, rfl, rfl, rfl, HM.out⟩
  case round =>
    clear HM
    obtain ⟨t, ht, rfl, q1, q2, q3, q4, q5, q6, q7, q8, hm⟩ := hrel
    generalize hr : rnds s x t = r at *
    subst q1 q2 q3 q4 q5 q6 q7 q8
    have HR := hid hr
    clear hr
    by_cases hlt : t < 64
    · have c1 := hm.1.cellW t hlt
      have c2 := hm.2.1.cellW t hlt
      generalize hkt : kk t = kt at *
      generalize hwt : sch x t = wt at *
      have HK := hid hkt
      have HW := hid hwt
      have HM := hid hm
      clear hm hkt hwt
      have hlt' : (t : Int) < 64 := by omega
      go_wp2_with fail
      have a1 := wadd
      have a1' := waddW
      have a2 := wxor
      have a3 := wand
      have a4 := wnot
      refine wp_region_quiet_lit (by kernel_rfl) (by kernel_rfl) ?_
      repeat (go_big_quiet_step ((go_at_call 49; refine Calls.quiet_of_same (right_i _ _ (by decide) (by decide) _))))
      refine wpQuiet_nil ?_
      rintro _ ⟨nr, rfl⟩
      have HM := hid (HM.out.drewN nr)
      clear c1 c2
      generalize wr.drewN nr = w2 at *
      go_wp2_with (go_at_call 49; refine (right_i _ _ (by decide) (by decide) _).mono ?_; rintro e w' ⟨rfl, rfl⟩)
      go_roundw
      case rel =>
        have e : rnds s x (t + 1) = rnd r kt wt := by rw [rnds, HR.out, HK.out, HW.out]
        exact ⟨t + 1, by omega, by go_num, by rw [e]; rfl, by rw [e]; rfl, by rw [e]; rfl, by rw [e]; rfl, by rw [e]; rfl, by rw [e]; rfl, by rw [e]; rfl, by rw [e]; rfl, HM.out⟩
      case measure => simp [intOf]; omega
    · have e : t = 64 := by omega
      have HS : Hid (rnds s x 64 = r) := by rw [← e]; exact HR.out
      have HM := hid hm
      clear hm e HR
      have hge : ¬ (t : Int) < 64 := by omega
      go_wp2
      go_loopw [111] (fun v wr => ∃ k : Nat, k ≤ 8 ∧ v = .int .i64 k ∧ CAt wr w.heap.size (aW 8 (addTo s r k)) 69 ∧ CAt wr (w.heap.size + 1 + 1) (aW 8 zW) 69 ∧ Below w.heap.size w wr) (fun v _ => (8 - intOf v).toNat)
      case atStart => exact ⟨0, by omega, rfl, HM.out.2.2.1.congr (aW_congr 8 fun i _ => by unfold addTo; rw [if_neg (by omega)]), HM.out.2.2.2.1, HM.out.2.2.2.2⟩
      case round =>
        clear HM
        obtain ⟨k, hk, rfl, hc, hz, hb⟩ := hrel
        by_cases hlk : k < 8
        · have hix := run_index_st r k hlk
          simp only [aW_st] at hix
          have c1 := hc.cellW k hlk
          have c2 := hc.free k
          have a1 := wadd
          have hlk' : (k : Int) < 8 := by omega
          have HC := hid hc
          have HZ := hid hz
          have HB := hid hb
          clear hc hz hb
          go_wp2
          go_roundw
          case rel => exact ⟨k + 1, by omega, by go_num, (HC.out.setW k _).congr (aW_congr 8 fun i _ => addTo_step s r k i), HZ.out.other _ _ (by simp; omega), HB.out.setCell (by simp) _⟩
          case measure => simp [intOf]; omega
        · have e : k = 8 := by omega
          have hc2 := hc.congr (cs' := aW 8 (comp s x).get) (aW_congr 8 fun i hi => (by rw [comp_get, HS.out]; unfold addTo; rw [if_pos (by omega)]))
          have HC := hid hc2
          have HZ := hid hz
          have HB := hid hb
          have hgk : ¬ (k : Int) < 8 := by omega
          clear hc hc2 hz hb e
          go_wp2_with (first
            | refine wpList_load_row rfl 69 _ rfl _ rfl _ _ _ _ HC.out Try.underlying69 rfl (size8 _) ?_
            | refine wpList_store_row rfl 69 _ _ rfl _ _ rfl rfl _ _ HZ.out (size8 _) (by rw [aW_size, aW_size]) (aW_one _ _) ?_)
          exact ret_row rfl _ _ _ _ _ rfl rfl (HZ.out.row _) Try.underlying69 rfl (size8 _) ⟨rfl, below_setRow HB.out (by omega) _⟩
end Go.Proofs.Ytfniojnklhjgbaa.H

/- Contract of written of package digest: the words' bytes. -/
namespace Go.Proofs.Ytfniojnklhjgbaa.H
open Go Go.RowKit

theorem zero32 : (Try.prog.info? 61).map (·.zero) = some (some (.agg (aB 32 zB))) := by kernel_rfl
theorem size32 (x : Nat → Nat) : (Try.prog.info? 61).map (·.size) = some (aB 32 x).size := by rw [aB_size]; kernel_rfl
def upTo (f : Nat → Nat) (k i : Nat) : Nat := if i < k then f i else 0
theorem upTo_step (f : Nat → Nat) (k i : Nat) : upB (upTo f k) k (f k) i = upTo f (k + 1) i := by
  unfold upB upTo
  by_cases e : i = k
  · rw [if_pos e, if_pos (by omega), e]
  · rw [if_neg e]
    by_cases q : i < k
    · rw [if_pos q, if_pos (by omega)]
    · rw [if_neg q, if_neg (by omega)]
theorem upTo_zero (f : Nat → Nat) (i : Nat) : zB i = upTo f 0 i := by unfold zB upTo; rw [if_neg (by omega)]
theorem upTo_at (f : Nat → Nat) (k i : Nat) (h : i < k) : upTo f k i = f i := by unfold upTo; rw [if_pos h]
theorem out_byte (s : St) (k : Nat) (sw : BitVec 32) (h : s.get (k / 4) = sw) : wv sw / 2 ^ (24 - k % 4 * 8) % 256 = ((outB s k : Nat) : Int) := by
  unfold outB wv; rw [h, Nat.mul_comm (k % 4) 8]; simp
set_option maxRecDepth 100000 in
set_option maxHeartbeats 400000 in
theorem written_any (s : St) (w : World) :
    Calls Try.prog 39 #[.agg (aW 8 s.get)] w fun e w' => e = .returned (.agg (aB 32 (outB s))) ∧ Below w.heap.size w w' := by
  go_enter Try.func39, Try.ntmps39
  go_wp2_with (refine wpList_alloc_row rfl 61 rfl _ zero32 ?_)
  go_loopw [5] (fun v wr => ∃ k : Nat, k ≤ 32 ∧ v = .int .i64 k ∧ CAt wr w.heap.size (aW 8 s.get) 69 ∧ CAt wr (w.heap.size + 1) (aB 32 zB) 61 ∧ CAt wr (w.heap.size + 1 + 1) (aB 32 (upTo (outB s) k)) 61 ∧ Below w.heap.size w wr) (fun v _ => (32 - intOf v).toNat)
  case atStart =>
    refine ⟨0, by omega, rfl, ((CAt.new w (aW 8 s.get) 69).alloc _).alloc _, (CAt.new' (w.alloc (.cells (aW 8 s.get) 69)) (aB 32 zB) 61 _ (by simp)).alloc _, ?_, (((Below.refl _ _).alloc (by omega) _).alloc (by simp) _).alloc (by simp; omega) _⟩
    exact (CAt.new' ((w.alloc (.cells (aW 8 s.get) 69)).alloc (.cells (aB 32 zB) 61)) (aB 32 zB) 61 _ (by simp)).congr (aB_congr 32 fun i _ => upTo_zero _ i)
  case round =>
    obtain ⟨k, hk, rfl, hs, hz, hc, hb⟩ := hrel
    by_cases hlt : k < 32
    · have c1 := hs.cellW (k / 4) (by omega)
      have c2 := hc.cellB k hlt
      have c3 := hc.free k
      generalize hsw : s.get (k / 4) = sw at *
      have HS := hid hs
      have HZ := hid hz
      have HC := hid hc
      have HB := hid hb
      have HSW := hid hsw
      have hlt' : (k : Int) < 32 := by omega
      clear hs hz hc hb hsw
      have hv := out_byte s k sw HSW.out
      go_wp2
      go_roundw
      case rel =>
        exact ⟨k + 1, by omega, by go_num, HS.out.other _ _ (by simp; omega), HZ.out.other _ _ (by simp), (HC.out.setB k _).congr (aB_congr 32 fun i _ => upTo_step _ k i), HB.out.setCell (by simp; omega) _⟩
      case measure => simp [intOf]; omega
    · have e : k = 32 := by omega
      have hc2 := hc.congr (cs' := aB 32 (outB s)) (aB_congr 32 fun i hi => upTo_at _ _ _ (by omega))
      have HZ := hid hz
      have HC := hid hc2
      have HB := hid hb
      have hge : ¬ (k : Int) < 32 := by omega
      clear hs hz hc hb hc2 e
      go_wp2_with (first
        | refine wpList_load_row rfl 61 _ rfl _ rfl _ _ _ _ HC.out Try.underlying61 rfl (size32 _) ?_
        | refine wpList_store_row rfl 61 _ _ rfl _ _ rfl rfl _ _ HZ.out (size32 _) (by rw [aB_size, aB_size]) (aB_one _ _) ?_)
      exact ret_row rfl _ _ _ _ _ rfl rfl (HZ.out.row _) Try.underlying61 rfl (size32 _) ⟨rfl, below_setRow HB.out (by omega) _⟩
end Go.Proofs.Ytfniojnklhjgbaa.H
