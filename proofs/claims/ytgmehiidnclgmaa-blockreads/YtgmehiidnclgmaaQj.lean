/- The region of 'k, w := f(), g(b)' over arrays: two calls, a load, two new variables and two stores, in whatever order. -/
import Derived.Test.YtgmehiidnclgmaaQi
namespace Go.Proofs.Ytgmehiidnclgmaa
open Go Go.RowKit

theorem put_same (a : Act) (d : Nat) (v u : Value) : (a.put (some d) v).put (some d) u = a.put (some d) u := by
  simp [Act.put, Array.setIfInBounds_setIfInBounds]
theorem eval_put_same (a : Act) (d : Nat) (v : Value) (h : d < a.tmps.size) : (a.put (some d) v).eval (.tmp d) = v := by
  simp [Act.put, Act.eval, h]
theorem eval_put_ne (a : Act) (d k : Nat) (v : Value) (h : d ≠ k) : (a.put (some d) v).eval (.tmp k) = a.eval (.tmp k) := by
  simp [Act.put, Act.eval, Array.getElem?_setIfInBounds_ne h]
theorem put_size (a : Act) (d : Nat) (v : Value) : (a.put (some d) v).tmps.size = a.tmps.size := by simp [Act.put]
theorem wpOp_in {P : Program} {ops : Array Oper} {Q : Exit → Act → World → Prop} {i : Nat} {K : Act → World → Prop} {a : Act} {w : World} {o : Oper} (ho : ops[i]? = some o) (hg : o.guard = none) (h : o.wp P a w K Q) : wpOp P ops Q i K a w := by
  unfold wpOp; rw [ho]
  show (if Region.wanted o (yielded ops a.tmps) = true then _ else _)
  rw [if_pos (by unfold Region.wanted; rw [hg])]
  exact .inl h
/-- Five slots of a frame. -/
def fr5 (base : Act) (d0 d1 d2 p q : Nat) (v0 v1 v2 vp vq : Value) : Act := ((((base.put (some d0) v0).put (some d1) v1).put (some d2) v2).put (some p) vp).put (some q) vq
/-- What holds whenever some of the seven operations have come up. -/
def Two (base : Act) (W : World) (d0 d1 d2 p q : Nat) (T : TypeId) (A X B : Array Value) (listed : Array Bool) (a : Act) (w : World) : Prop :=
  ∃ b0 b1 b2 b3 b4 b5 b6 : Bool, listed = #[b0, b1, b2, b3, b4, b5, b6] ∧ ∃ v0 v1 v2 vp vq : Value, a = fr5 base d0 d1 d2 p q v0 v1 v2 vp vq ∧ Below W.heap.size W w ∧
    (b0 = true → v0 = .agg A) ∧ (b1 = true → v1 = .agg X) ∧ (b2 = true → v2 = .agg B) ∧
    (b3 = true → ∃ g cs, vp = .pointer (some ⟨g, 0, none⟩) ∧ W.heap.size ≤ g ∧ CAt w g cs T ∧ cs.size = A.size ∧ (b5 = true → cs = A)) ∧
    (b4 = true → ∃ g cs, vq = .pointer (some ⟨g, 0, none⟩) ∧ W.heap.size ≤ g ∧ CAt w g cs T ∧ cs.size = A.size ∧ (b6 = true → cs = B)) ∧
    (b3 = true → b4 = true → ∀ g g', vp = .pointer (some ⟨g, 0, none⟩) → vq = .pointer (some ⟨g', 0, none⟩) → g ≠ g') ∧ (b5 = true → b3 = true) ∧ (b6 = true → b4 = true)

def aggB (d : TypeDesc) : Bool := match d with | .struct _ | .array _ _ => true | _ => false
def okTwo (i : Nat) (b0 b1 b2 b3 b4 b5 b6 : Bool) : Bool :=
  match i with
  | 0 => !b0
  | 1 => !b1
  | 2 => !b2 && b0 && b1
  | 3 => !b3 && !b5
  | 4 => !b4 && !b6
  | 5 => !b5 && b0 && b3
  | 6 => !b6 && b2 && b4
  | _ => false

set_option maxHeartbeats 1000000 in
theorem region_two {P : Program} {ops : Array Oper} {Q : Exit → Act → World → Prop} {base : Act} {W : World} (d0 d1 d2 p q src : Nat) (T TB : TypeId) (A X B Z : Array Value) (f g gx : Nat)
    (hR : ∀ b0 b1 b2 b3 b4 b5 b6 : Bool, (b5 = true → b3 = true) → (b6 = true → b4 = true) → ((Region.ready .any ops #[b0, b1, b2, b3, b4, b5, b6]).all fun i => okTwo i b0 b1 b2 b3 b4 b5 b6) = true)
    (hE : ∀ b0 b1 b2 b3 b4 b5 b6 : Bool, Region.ready .any ops #[b0, b1, b2, b3, b4, b5, b6] = [] → (b0 && b1 && b2 && b3 && b4 && b5 && b6) = true)
    (hdist : [d0, d1, d2, p, q, src].Nodup) (N : Nat) (hN : base.tmps.size = N) (hsz : ∀ d ∈ [d0, d1, d2, p, q], d < N) {o0 o1 o2 o3 o4 o5 o6 : Oper}
    (h0 : ops[0]? = some o0) (h1 : ops[1]? = some o1) (h2 : ops[2]? = some o2) (h3 : ops[3]? = some o3) (h4 : ops[4]? = some o4) (h5 : ops[5]? = some o5) (h6 : ops[6]? = some o6)
    (hg : [o0, o1, o2, o3, o4, o5, o6].all (fun o => o.guard.isNone) = true)
    (e0 : o0.dst = some d0) (e1 : o1.dst = some d1) (e2 : o2.dst = some d2) (e3 : o3.dst = some p) (e4 : o4.dst = some q) (e5 : o5.dst = none) (e6 : o6.dst = none)
    (r0 : ∀ (a : Act) (w : World), (execOp a.eval o0).run P w = .ok (.enter f #[]) w) (r1 : o1.op = .load TB (.tmp src)) (r2 : ∀ (a : Act) (w : World), (execOp a.eval o2).run P w = .ok (.enter g (#[Operand.tmp d1].map a.eval)) w)
    (r3 : o3.op = .alloc T) (r4 : o4.op = .alloc T) (r5 : o5.op = .store T (.tmp p) (.tmp d0)) (r6 : o6.op = .store T (.tmp q) (.tmp d2))
    (hf : ∀ w, Calls P f #[] w fun e w' => e = .returned (.agg A) ∧ Below w.heap.size w w') (hgc : ∀ w, Calls P g #[.agg X] w fun e w' => e = .returned (.agg B) ∧ Below w.heap.size w w')
    (hsrc : base.eval (.tmp src) = .pointer (some ⟨gx, 0, none⟩)) {tb : TypeId} (hx : CAt W gx X tb) {dB : TypeDesc} (kB : aggB dB = true) (uB : P.underlying TB = some dB) (iB : (P.info? TB).map (·.size) = some X.size)
    (hz : (P.info? T).map (·.zero) = some (some (.agg Z))) (hZs : Z.size = A.size) (hBs : B.size = A.size) (iT : (P.info? T).map (·.size) = some A.size) (oA : A.all (·.oneCell') = true) (oB : B.all (·.oneCell') = true)
    (hend : ∀ gp gq w', Below W.heap.size W w' → CAt w' gp A T → CAt w' gq B T → W.heap.size ≤ gp → W.heap.size ≤ gq → gp ≠ gq → Q .normal (fr5 base d0 d1 d2 p q (.agg A) (.agg X) (.agg B) (.pointer (some ⟨gp, 0, none⟩)) (.pointer (some ⟨gq, 0, none⟩))) w') :
    wpAny P .any ops Q 7 (Array.replicate 7 false) (fr5 base d0 d1 d2 p q undef undef undef undef undef) W := by
  simp only [List.nodup_cons, List.mem_cons, List.not_mem_nil, or_false, not_or, not_false_eq_true, and_true, List.nodup_nil] at hdist
  obtain ⟨⟨n01, n02, n0p, n0q, n0s⟩, ⟨n12, n1p, n1q, n1s⟩, ⟨n2p, n2q, n2s⟩, ⟨npq, nps⟩, nqs⟩ := hdist
  subst hN
  have s0 := hsz d0 (by simp)
  have s1 := hsz d1 (by simp)
  have s2 := hsz d2 (by simp)
  have sp := hsz p (by simp)
  have sq := hsz q (by simp)
  simp only [List.all_cons, List.all_nil, Bool.and_true, Bool.and_eq_true, Option.isNone_iff_eq_none] at hg
  obtain ⟨g0, g1, g2, g3, g4, g5, g6⟩ := hg
  have E0 : ∀ v0 v1 v2 vp vq, (fr5 base d0 d1 d2 p q v0 v1 v2 vp vq).eval (.tmp d0) = v0 := fun v0 v1 v2 vp vq => by
    unfold fr5; rw [eval_put_ne _ _ _ _ (Ne.symm n0q), eval_put_ne _ _ _ _ (Ne.symm n0p), eval_put_ne _ _ _ _ (Ne.symm n02), eval_put_ne _ _ _ _ (Ne.symm n01), eval_put_same _ _ _ s0]
  have E1 : ∀ v0 v1 v2 vp vq, (fr5 base d0 d1 d2 p q v0 v1 v2 vp vq).eval (.tmp d1) = v1 := fun v0 v1 v2 vp vq => by
    unfold fr5; rw [eval_put_ne _ _ _ _ (Ne.symm n1q), eval_put_ne _ _ _ _ (Ne.symm n1p), eval_put_ne _ _ _ _ (Ne.symm n12), eval_put_same _ _ _ (by rw [put_size]; exact s1)]
  have E2 : ∀ v0 v1 v2 vp vq, (fr5 base d0 d1 d2 p q v0 v1 v2 vp vq).eval (.tmp d2) = v2 := fun v0 v1 v2 vp vq => by
    unfold fr5; rw [eval_put_ne _ _ _ _ (Ne.symm n2q), eval_put_ne _ _ _ _ (Ne.symm n2p), eval_put_same _ _ _ (by rw [put_size, put_size]; exact s2)]
  have Ep : ∀ v0 v1 v2 vp vq, (fr5 base d0 d1 d2 p q v0 v1 v2 vp vq).eval (.tmp p) = vp := fun v0 v1 v2 vp vq => by
    unfold fr5; rw [eval_put_ne _ _ _ _ (Ne.symm npq), eval_put_same _ _ _ (by rw [put_size, put_size, put_size]; exact sp)]
  have Eq : ∀ v0 v1 v2 vp vq, (fr5 base d0 d1 d2 p q v0 v1 v2 vp vq).eval (.tmp q) = vq := fun v0 v1 v2 vp vq => by
    unfold fr5; rw [eval_put_same _ _ _ (by rw [put_size, put_size, put_size, put_size]; exact sq)]
  have Es : ∀ v0 v1 v2 vp vq, (fr5 base d0 d1 d2 p q v0 v1 v2 vp vq).eval (.tmp src) = base.eval (.tmp src) := fun v0 v1 v2 vp vq => by
    unfold fr5; rw [eval_put_ne _ _ _ _ nqs, eval_put_ne _ _ _ _ nps, eval_put_ne _ _ _ _ n2s, eval_put_ne _ _ _ _ n1s, eval_put_ne _ _ _ _ n0s]
  have cm : ∀ (a : Act) (x y : Nat) (v u : Value), x ≠ y → (a.put (some x) v).put (some y) u = (a.put (some y) u).put (some x) v := fun a x y v u h =>
    (Act.put_comm a v u (fun d hd => by cases hd; intro hh; cases hh; exact h rfl))
  have P0 : ∀ v0 v1 v2 vp vq u, (fr5 base d0 d1 d2 p q v0 v1 v2 vp vq).put (some d0) u = fr5 base d0 d1 d2 p q u v1 v2 vp vq := fun v0 v1 v2 vp vq u => by
    unfold fr5; rw [cm _ q d0 _ _ (Ne.symm n0q), cm _ p d0 _ _ (Ne.symm n0p), cm _ d2 d0 _ _ (Ne.symm n02), cm _ d1 d0 _ _ (Ne.symm n01), put_same]
  have P1 : ∀ v0 v1 v2 vp vq u, (fr5 base d0 d1 d2 p q v0 v1 v2 vp vq).put (some d1) u = fr5 base d0 d1 d2 p q v0 u v2 vp vq := fun v0 v1 v2 vp vq u => by
    unfold fr5; rw [cm _ q d1 _ _ (Ne.symm n1q), cm _ p d1 _ _ (Ne.symm n1p), cm _ d2 d1 _ _ (Ne.symm n12), put_same]
  have P2 : ∀ v0 v1 v2 vp vq u, (fr5 base d0 d1 d2 p q v0 v1 v2 vp vq).put (some d2) u = fr5 base d0 d1 d2 p q v0 v1 u vp vq := fun v0 v1 v2 vp vq u => by
    unfold fr5; rw [cm _ q d2 _ _ (Ne.symm n2q), cm _ p d2 _ _ (Ne.symm n2p), put_same]
  have Pp : ∀ v0 v1 v2 vp vq u, (fr5 base d0 d1 d2 p q v0 v1 v2 vp vq).put (some p) u = fr5 base d0 d1 d2 p q v0 v1 v2 u vq := fun v0 v1 v2 vp vq u => by
    unfold fr5; rw [cm _ q p _ _ (Ne.symm npq), put_same]
  have Pq : ∀ v0 v1 v2 vp vq u, (fr5 base d0 d1 d2 p q v0 v1 v2 vp vq).put (some q) u = fr5 base d0 d1 d2 p q v0 v1 v2 vp u := fun v0 v1 v2 vp vq u => by
    unfold fr5; rw [put_same]
  refine wpAny_inv (Two base W d0 d1 d2 p q T A X B) ?_ ?_ 7 _ _ _ (by decide) ?_
  · rintro listed a w i ⟨b0, b1, b2, b3, b4, b5, b6, rfl, v0, v1, v2, vp, vq, rfl, hb, c0, c1, c2, c3, c4, c5, c6, c7⟩ hi
    have hok := List.all_eq_true.1 (hR b0 b1 b2 b3 b4 b5 b6 c6 c7) i hi
    have ks : ∀ {w' : World}, Below w.heap.size w w' → ∀ {g : Nat} {cs : Array Value}, CAt w g cs T → CAt w' g cs T := fun hb' _ _ hc => hc.below hb' hc.lt
    have hbm : ∀ {w' : World}, Below w.heap.size w w' → Below W.heap.size W w' := fun hb' => hb.trans (hb'.mono hb.size)
    match i, hok with
    | 0, hok =>
      refine wpOp_in h0 g0 ?_
      refine (wp_enter f _ (r0 _ _) ((hf w).mono ?_))
      rintro e w' ⟨rfl, hb'⟩
      refine ⟨_, rfl, true, b1, b2, b3, b4, b5, b6, rfl, .agg A, v1, v2, vp, vq, by rw [e0, P0], hbm hb', fun _ => rfl, c1, c2, fun h => ?_, fun h => ?_, c5, c6, c7⟩
      · obtain ⟨g', cs, k1, k2, k3, k4⟩ := c3 h; exact ⟨g', cs, k1, k2, ks hb' k3, k4⟩
      · obtain ⟨g', cs, k1, k2, k3, k4⟩ := c4 h; exact ⟨g', cs, k1, k2, ks hb' k3, k4⟩
    | 1, hok =>
      refine wpOp_in h1 g1 ?_
      refine (wp_load_row TB _ r1 gx (by rw [Es, hsrc]) tb X (0, 0) dB (hx.below hb hx.lt) uB (by cases dB <;> first | rfl | (simp [aggB] at kB)) iB ?_)
      exact ⟨b0, true, b2, b3, b4, b5, b6, rfl, v0, .agg X, v2, vp, vq, by rw [e1, P1], hb, c0, fun _ => rfl, c2, c3, c4, c5, c6, c7⟩
    | 2, hok =>
      simp only [okTwo, Bool.and_eq_true, Bool.not_eq_true'] at hok
      refine wpOp_in h2 g2 ?_
      refine (wp_enter g _ (r2 _ _) ?_)
      rw [show #[Operand.tmp d1].map (fr5 base d0 d1 d2 p q v0 v1 v2 vp vq).eval = #[(fr5 base d0 d1 d2 p q v0 v1 v2 vp vq).eval (.tmp d1)] by simp, E1, c1 hok.2]
      refine (hgc w).mono ?_
      rintro e w' ⟨rfl, hb'⟩
      refine ⟨_, rfl, b0, b1, true, b3, b4, b5, b6, rfl, v0, .agg X, .agg B, vp, vq, by rw [e2, P2], hbm hb', c0, fun _ => rfl, fun _ => rfl, fun h => ?_, fun h => ?_, c5, c6, c7⟩
      · obtain ⟨g', cs, k1, k2, k3, k4⟩ := c3 h; exact ⟨g', cs, k1, k2, ks hb' k3, k4⟩
      · obtain ⟨g', cs, k1, k2, k3, k4⟩ := c4 h; exact ⟨g', cs, k1, k2, ks hb' k3, k4⟩
    | 3, hok =>
      simp only [okTwo, Bool.and_eq_true, Bool.not_eq_true'] at hok
      refine wpOp_in h3 g3 ?_
      refine (wp_alloc_row T r3 Z hz ?_)
      have hb' : Below w.heap.size w (w.alloc (.cells Z T)) := (Below.refl _ _).alloc (Nat.le_refl _) _
      refine ⟨b0, b1, b2, true, b4, b5, b6, rfl, v0, v1, v2, .pointer (some ⟨w.heap.size, 0, none⟩), vq, by rw [e3, Pp], hbm hb', c0, c1, c2, fun _ => ⟨_, Z, rfl, hb.size, CAt.new _ _ _, hZs, fun h => by rw [hok.2] at h; cases h⟩, fun h => ?_, fun _ h4' g1' g2' k1 k2 => ?_, fun _ => rfl, c7⟩
      · obtain ⟨g', cs, k1, k2, k3, k4⟩ := c4 h; exact ⟨g', cs, k1, k2, ks hb' k3, k4⟩
      · obtain ⟨g', cs, m1, m2, m3, m4⟩ := c4 h4'
        have := m3.lt
        rw [m1] at k2
        cases k1; cases k2
        omega
    | 4, hok =>
      simp only [okTwo, Bool.and_eq_true, Bool.not_eq_true'] at hok
      refine wpOp_in h4 g4 ?_
      refine (wp_alloc_row T r4 Z hz ?_)
      have hb' : Below w.heap.size w (w.alloc (.cells Z T)) := (Below.refl _ _).alloc (Nat.le_refl _) _
      refine ⟨b0, b1, b2, b3, true, b5, b6, rfl, v0, v1, v2, vp, .pointer (some ⟨w.heap.size, 0, none⟩), by rw [e4, Pq], hbm hb', c0, c1, c2, fun h => ?_, fun _ => ⟨_, Z, rfl, hb.size, CAt.new _ _ _, hZs, fun h => by rw [hok.2] at h; cases h⟩, fun h3' _ g1' g2' k1 k2 => ?_, c6, fun _ => rfl⟩
      · obtain ⟨g', cs, k1, k2, k3, k4⟩ := c3 h; exact ⟨g', cs, k1, k2, ks hb' k3, k4⟩
      · obtain ⟨g', cs, m1, m2, m3, m4⟩ := c3 h3'
        have := m3.lt
        rw [m1] at k1
        cases k1; cases k2
        omega
    | 5, hok =>
      simp only [okTwo, Bool.and_eq_true, Bool.not_eq_true'] at hok
      refine wpOp_in h5 g5 ?_
      obtain ⟨gp, cs, k1, k2, k3, k4, k5⟩ := c3 hok.2
      refine (wp_store_row T _ _ r5 gp A (by rw [Ep, k1]) (by rw [E0, c0 hok.1.2]) T cs k3 iT k4 oA ?_)
      refine ⟨b0, b1, b2, b3, b4, true, b6, rfl, v0, v1, v2, vp, vq, by rw [e5]; rfl, below_setRow hb k2 _, c0, c1, c2, fun _ => ⟨gp, A, k1, k2, k3.row A, rfl, fun _ => rfl⟩, fun h => ?_, c5, fun _ => hok.2, c7⟩
      obtain ⟨g', cs', m1, m2, m3, m4⟩ := c4 h
      exact ⟨g', cs', m1, m2, m3.rowOther A (Ne.symm (c5 hok.2 h gp g' k1 m1)), m4⟩
    | 6, hok =>
      simp only [okTwo, Bool.and_eq_true, Bool.not_eq_true'] at hok
      refine wpOp_in h6 g6 ?_
      obtain ⟨gq, cs, k1, k2, k3, k4, k5⟩ := c4 hok.2
      refine (wp_store_row T _ _ r6 gq B (by rw [Eq, k1]) (by rw [E2, c2 hok.1.2]) T cs k3 (by rw [hBs]; exact iT) (by rw [k4, hBs]) oB ?_)
      refine ⟨b0, b1, b2, b3, b4, b5, true, rfl, v0, v1, v2, vp, vq, by rw [e6]; rfl, below_setRow hb k2 _, c0, c1, c2, fun h => ?_, fun _ => ⟨gq, B, k1, k2, k3.row B, hBs, fun _ => rfl⟩, c5, c6, fun _ => hok.2⟩
      obtain ⟨g', cs', m1, m2, m3, m4⟩ := c3 h
      exact ⟨g', cs', m1, m2, m3.rowOther B (c5 h hok.2 g' gq m1 k1), m4⟩
    | n + 7, hok => simp [okTwo] at hok
  · rintro listed a w ⟨b0, b1, b2, b3, b4, b5, b6, rfl, v0, v1, v2, vp, vq, rfl, hb, c0, c1, c2, c3, c4, c5, c6, c7⟩ hr
    have hall := hE b0 b1 b2 b3 b4 b5 b6 hr
    simp only [Bool.and_eq_true] at hall
    obtain ⟨⟨⟨⟨⟨⟨t0, t1⟩, t2⟩, t3⟩, t4⟩, t5⟩, t6⟩ := hall
    obtain ⟨gp, cp, k1, k2, k3, k4, k5⟩ := c3 t3
    obtain ⟨gq, cq, m1, m2, m3, m4, m5⟩ := c4 t4
    have hne := c5 t3 t4 gp gq k1 m1
    rw [k5 t5] at k3
    rw [m5 t6] at m3
    rw [c0 t0, c1 t1, c2 t2, k1, m1]
    exact hend gp gq w hb k3 m3 k2 m2 hne
  · exact ⟨false, false, false, false, false, false, false, rfl, undef, undef, undef, undef, undef, rfl, Below.refl _ _, by simp, by simp, by simp, by simp, by simp, by simp, by simp, by simp⟩
theorem region_two_at {P : Program} {ops : Array Oper} {Q : Exit → Act → World → Prop} {base : Act} {W : World} (d0 d1 d2 p q src : Nat) (T TB : TypeId) (A X B Z : Array Value) (f g gx : Nat)
    (hR : ∀ b0 b1 b2 b3 b4 b5 b6 : Bool, (b5 = true → b3 = true) → (b6 = true → b4 = true) → ((Region.ready .any ops #[b0, b1, b2, b3, b4, b5, b6]).all fun i => okTwo i b0 b1 b2 b3 b4 b5 b6) = true)
    (hE : ∀ b0 b1 b2 b3 b4 b5 b6 : Bool, Region.ready .any ops #[b0, b1, b2, b3, b4, b5, b6] = [] → (b0 && b1 && b2 && b3 && b4 && b5 && b6) = true)
    (hfr : fr5 base d0 d1 d2 p q undef undef undef undef undef = base) (hdist : [d0, d1, d2, p, q, src].Nodup) (N : Nat) (hN : base.tmps.size = N) (hsz : ∀ d ∈ [d0, d1, d2, p, q], d < N) {o0 o1 o2 o3 o4 o5 o6 : Oper}
    (h0 : ops[0]? = some o0) (h1 : ops[1]? = some o1) (h2 : ops[2]? = some o2) (h3 : ops[3]? = some o3) (h4 : ops[4]? = some o4) (h5 : ops[5]? = some o5) (h6 : ops[6]? = some o6)
    (hg : [o0, o1, o2, o3, o4, o5, o6].all (fun o => o.guard.isNone) = true)
    (e0 : o0.dst = some d0) (e1 : o1.dst = some d1) (e2 : o2.dst = some d2) (e3 : o3.dst = some p) (e4 : o4.dst = some q) (e5 : o5.dst = none) (e6 : o6.dst = none)
    (r0 : ∀ (a : Act) (w : World), (execOp a.eval o0).run P w = .ok (.enter f #[]) w) (r1 : o1.op = .load TB (.tmp src)) (r2 : ∀ (a : Act) (w : World), (execOp a.eval o2).run P w = .ok (.enter g (#[Operand.tmp d1].map a.eval)) w)
    (r3 : o3.op = .alloc T) (r4 : o4.op = .alloc T) (r5 : o5.op = .store T (.tmp p) (.tmp d0)) (r6 : o6.op = .store T (.tmp q) (.tmp d2))
    (hf : ∀ w, Calls P f #[] w fun e w' => e = .returned (.agg A) ∧ Below w.heap.size w w') (hgc : ∀ w, Calls P g #[.agg X] w fun e w' => e = .returned (.agg B) ∧ Below w.heap.size w w')
    (hsrc : base.eval (.tmp src) = .pointer (some ⟨gx, 0, none⟩)) {tb : TypeId} (hx : CAt W gx X tb) {dB : TypeDesc} (kB : aggB dB = true) (uB : P.underlying TB = some dB) (iB : (P.info? TB).map (·.size) = some X.size)
    (hz : (P.info? T).map (·.zero) = some (some (.agg Z))) (hZs : Z.size = A.size) (hBs : B.size = A.size) (iT : (P.info? T).map (·.size) = some A.size) (oA : A.all (·.oneCell') = true) (oB : B.all (·.oneCell') = true)
    (hend : ∀ gp gq w', Below W.heap.size W w' → CAt w' gp A T → CAt w' gq B T → W.heap.size ≤ gp → W.heap.size ≤ gq → gp ≠ gq → Q .normal (fr5 base d0 d1 d2 p q (.agg A) (.agg X) (.agg B) (.pointer (some ⟨gp, 0, none⟩)) (.pointer (some ⟨gq, 0, none⟩))) w') :
    wpAny P .any ops Q 7 (Array.replicate 7 false) base W := by
  have := region_two (Q := Q) d0 d1 d2 p q src T TB A X B Z f g gx hR hE hdist N hN hsz h0 h1 h2 h3 h4 h5 h6 hg e0 e1 e2 e3 e4 e5 e6 r0 r1 r2 r3 r4 r5 r6 hf hgc hsrc hx kB uB iB hz hZs hBs iT oA oB hend
  rwa [hfr] at this
end Go.Proofs.Ytgmehiidnclgmaa
