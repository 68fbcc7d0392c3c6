/- Texts laid into one: the remark ahead of each part says what is proved there. -/
import Derived.Test.YtcbmimjjpkkoeaaQaq
import Derived.Deep.CutRange
import Derived.Maps.AppendAt
import Derived.Laws.AppendOwnNone
/- The region of 'k, w := f(), g(b)' over arrays: two calls, a load, two new variables and two stores, in whatever order. -/
namespace Go.Proofs.Ytcbmimjjpkkoeaa.H
open Go Go.RowKit

theorem put_same (a : Act) (d : Nat) (v u : Value) : (a.put (some d) v).put (some d) u = a.put (some d) u := by
  simp [Act.put, Array.setIfInBounds_setIfInBounds]
theorem eval_put_same (a : Act) (d : Nat) (v : Value) (h : d < a.tmps.size) : (a.put (some d) v).eval (.tmp d) = v := by
  simp [Act.put, Act.eval, h]
theorem eval_put_ne (a : Act) (d k : Nat) (v : Value) (h : d ≠ k) : (a.put (some d) v).eval (.tmp k) = a.eval (.tmp k) := by
  simp [Act.put, Act.eval, Array.getElem?_setIfInBounds_ne h]
theorem put_size (a : Act) (d : Nat) (v : Value) : (a.put (some d) v).tmps.size = a.tmps.size := by simp [Act.put]
theorem wpOp_in {P : Program} {ops : Array Oper} {Q : Exit → Act → World → Prop} {i : Nat} {K : Act → World → Prop} {a : Act} {w : World} {o : Oper} (ho : ops[i]? = some o) (hg : o.guard = none) (h : o.wp P a w K Q) : wpOp P ops Q i K a w := by
  unfold wpOp; rw [ho]
  show (if Region.wanted o (yielded ops a.tmps) = true then _ else _)
  rw [if_pos (by unfold Region.wanted; rw [hg])]
  exact .inl h
/-- Five slots of a frame. -/
def fr5 (base : Act) (d0 d1 d2 p q : Nat) (v0 v1 v2 vp vq : Value) : Act := ((((base.put (some d0) v0).put (some d1) v1).put (some d2) v2).put (some p) vp).put (some q) vq
/-- What holds whenever some of the seven operations have come up. -/
def Two (base : Act) (W : World) (d0 d1 d2 p q : Nat) (T : TypeId) (A X B : Array Value) (listed : Array Bool) (a : Act) (w : World) : Prop :=
  ∃ b0 b1 b2 b3 b4 b5 b6 : Bool, listed = #[b0, b1, b2, b3, b4, b5, b6] ∧ ∃ v0 v1 v2 vp vq : Value, a = fr5 base d0 d1 d2 p q v0 v1 v2 vp vq ∧ Below W.heap.size W w ∧
    (b0 = true → v0 = .agg A) ∧ (b1 = true → v1 = .agg X) ∧ (b2 = true → v2 = .agg B) ∧
    (b3 = true → ∃ g cs, vp = .pointer (some ⟨g, 0, none⟩) ∧ W.heap.size ≤ g ∧ CAt w g cs T ∧ cs.size = A.size ∧ (b5 = true → cs = A)) ∧
    (b4 = true → ∃ g cs, vq = .pointer (some ⟨g, 0, none⟩) ∧ W.heap.size ≤ g ∧ CAt w g cs T ∧ cs.size = A.size ∧ (b6 = true → cs = B)) ∧
    (b3 = true → b4 = true → ∀ g g', vp = .pointer (some ⟨g, 0, none⟩) → vq = .pointer (some ⟨g', 0, none⟩) → g ≠ g') ∧ (b5 = true → b3 = true) ∧ (b6 = true → b4 = true)

def aggB (d : TypeDesc) : Bool := match d with | .struct _ | .array _ _ => true | _ => false
def okTwo (i : Nat) (b0 b1 b2 b3 b4 b5 b6 : Bool) : Bool :=
  match i with
  | 0 => !b0
  | 1 => !b1
  | 2 => !b2 && b0 && b1
  | 3 => !b3 && !b5
  | 4 => !b4 && !b6
  | 5 => !b5 && b0 && b3
  | 6 => !b6 && b2 && b4
  | _ => false

set_option maxHeartbeats 1000000 in
theorem region_two {P : Program} {ops : Array Oper} {Q : Exit → Act → World → Prop} {base : Act} {W : World} (d0 d1 d2 p q src : Nat) (T TB : TypeId) (A X B Z : Array Value) (f g gx : Nat)
    (hR : ∀ b0 b1 b2 b3 b4 b5 b6 : Bool, (b5 = true → b3 = true) → (b6 = true → b4 = true) → ((Region.ready .any ops #[b0, b1, b2, b3, b4, b5, b6]).all fun i => okTwo i b0 b1 b2 b3 b4 b5 b6) = true)
    (hE : ∀ b0 b1 b2 b3 b4 b5 b6 : Bool, Region.ready .any ops #[b0, b1, b2, b3, b4, b5, b6] = [] → (b0 && b1 && b2 && b3 && b4 && b5 && b6) = true)
    (hdist : [d0, d1, d2, p, q, src].Nodup) (N : Nat) (hN : base.tmps.size = N) (hsz : ∀ d ∈ [d0, d1, d2, p, q], d < N) {o0 o1 o2 o3 o4 o5 o6 : Oper}
    (h0 : ops[0]? = some o0) (h1 : ops[1]? = some o1) (h2 : ops[2]? = some o2) (h3 : ops[3]? = some o3) (h4 : ops[4]? = some o4) (h5 : ops[5]? = some o5) (h6 : ops[6]? = some o6)
    (hg : [o0, o1, o2, o3, o4, o5, o6].all (fun o => o.guard.isNone) = true)
    (e0 : o0.dst = some d0) (e1 : o1.dst = some d1) (e2 : o2.dst = some d2) (e3 : o3.dst = some p) (e4 : o4.dst = some q) (e5 : o5.dst = none) (e6 : o6.dst = none)
    (r0 : ∀ (a : Act) (w : World), (execOp a.eval o0).run P w = .ok (.enter f #[]) w) (r1 : o1.op = .load TB (.tmp src)) (r2 : ∀ (a : Act) (w : World), (execOp a.eval o2).run P w = .ok (.enter g (#[Operand.tmp d1].map a.eval)) w)
    (r3 : o3.op = .alloc T) (r4 : o4.op = .alloc T) (r5 : o5.op = .store T (.tmp p) (.tmp d0)) (r6 : o6.op = .store T (.tmp q) (.tmp d2))
    (hf : ∀ w, Calls P f #[] w fun e w' => e = .returned (.agg A) ∧ Below w.heap.size w w') (hgc : ∀ w, Calls P g #[.agg X] w fun e w' => e = .returned (.agg B) ∧ Below w.heap.size w w')
    (hsrc : base.eval (.tmp src) = .pointer (some ⟨gx, 0, none⟩)) {tb : TypeId} (hx : CAt W gx X tb) {dB : TypeDesc} (kB : aggB dB = true) (uB : P.underlying TB = some dB) (iB : (P.info? TB).map (·.size) = some X.size)
    (hz : (P.info? T).map (·.zero) = some (some (.agg Z))) (hZs : Z.size = A.size) (hBs : B.size = A.size) (iT : (P.info? T).map (·.size) = some A.size) (oA : A.all (·.oneCell') = true) (oB : B.all (·.oneCell') = true)
    (hend : ∀ gp gq w', Below W.heap.size W w' → CAt w' gp A T → CAt w' gq B T → W.heap.size ≤ gp → W.heap.size ≤ gq → gp ≠ gq → Q .normal (fr5 base d0 d1 d2 p q (.agg A) (.agg X) (.agg B) (.pointer (some ⟨gp, 0, none⟩)) (.pointer (some ⟨gq, 0, none⟩))) w') :
    wpAny P .any ops Q 7 (Array.replicate 7 false) (fr5 base d0 d1 d2 p q undef undef undef undef undef) W := by
  simp only [List.nodup_cons, List.mem_cons, List.not_mem_nil, or_false, not_or, not_false_eq_true, and_true, List.nodup_nil] at hdist
  obtain ⟨⟨n01, n02, n0p, n0q, n0s⟩, ⟨n12, n1p, n1q, n1s⟩, ⟨n2p, n2q, n2s⟩, ⟨npq, nps⟩, nqs⟩ := hdist
  subst hN
  have s0 := hsz d0 (by simp)
  have s1 := hsz d1 (by simp)
  have s2 := hsz d2 (by simp)
  have sp := hsz p (by simp)
  have sq := hsz q (by simp)
  simp only [List.all_cons, List.all_nil, Bool.and_true, Bool.and_eq_true, Option.isNone_iff_eq_none] at hg
  obtain ⟨g0, g1, g2, g3, g4, g5, g6⟩ := hg
  have E0 : ∀ v0 v1 v2 vp vq, (fr5 base d0 d1 d2 p q v0 v1 v2 vp vq).eval (.tmp d0) = v0 := fun v0 v1 v2 vp vq => by
    unfold fr5; rw [eval_put_ne _ _ _ _ (Ne.symm n0q), eval_put_ne _ _ _ _ (Ne.symm n0p), eval_put_ne _ _ _ _ (Ne.symm n02), eval_put_ne _ _ _ _ (Ne.symm n01), eval_put_same _ _ _ s0]
  have E1 : ∀ v0 v1 v2 vp vq, (fr5 base d0 d1 d2 p q v0 v1 v2 vp vq).eval (.tmp d1) = v1 := fun v0 v1 v2 vp vq => by
    unfold fr5; rw [eval_put_ne _ _ _ _ (Ne.symm n1q), eval_put_ne _ _ _ _ (Ne.symm n1p), eval_put_ne _ _ _ _ (Ne.symm n12), eval_put_same _ _ _ (by rw [put_size]; exact s1)]
  have E2 : ∀ v0 v1 v2 vp vq, (fr5 base d0 d1 d2 p q v0 v1 v2 vp vq).eval (.tmp d2) = v2 := fun v0 v1 v2 vp vq => by
    unfold fr5; rw [eval_put_ne _ _ _ _ (Ne.symm n2q), eval_put_ne _ _ _ _ (Ne.symm n2p), eval_put_same _ _ _ (by rw [put_size, put_size]; exact s2)]
  have Ep : ∀ v0 v1 v2 vp vq, (fr5 base d0 d1 d2 p q v0 v1 v2 vp vq).eval (.tmp p) = vp := fun v0 v1 v2 vp vq => by
    unfold fr5; rw [eval_put_ne _ _ _ _ (Ne.symm npq), eval_put_same _ _ _ (by rw [put_size, put_size, put_size]; exact sp)]
  have Eq : ∀ v0 v1 v2 vp vq, (fr5 base d0 d1 d2 p q v0 v1 v2 vp vq).eval (.tmp q) = vq := fun v0 v1 v2 vp vq => by
    unfold fr5; rw [eval_put_same _ _ _ (by rw [put_size, put_size, put_size, put_size]; exact sq)]
  have Es : ∀ v0 v1 v2 vp vq, (fr5 base d0 d1 d2 p q v0 v1 v2 vp vq).eval (.tmp src) = base.eval (.tmp src) := fun v0 v1 v2 vp vq => by
    unfold fr5; rw [eval_put_ne _ _ _ _ nqs, eval_put_ne _ _ _ _ nps, eval_put_ne _ _ _ _ n2s, eval_put_ne _ _ _ _ n1s, eval_put_ne _ _ _ _ n0s]
  have cm : ∀ (a : Act) (x y : Nat) (v u : Value), x ≠ y → (a.put (some x) v).put (some y) u = (a.put (some y) u).put (some x) v := fun a x y v u h =>
    (Act.put_comm a v u (fun d hd => by cases hd; intro hh; cases hh; exact h rfl))
  have P0 : ∀ v0 v1 v2 vp vq u, (fr5 base d0 d1 d2 p q v0 v1 v2 vp vq).put (some d0) u = fr5 base d0 d1 d2 p q u v1 v2 vp vq := fun v0 v1 v2 vp vq u => by
    unfold fr5; rw [cm _ q d0 _ _ (Ne.symm n0q), cm _ p d0 _ _ (Ne.symm n0p), cm _ d2 d0 _ _ (Ne.symm n02), cm _ d1 d0 _ _ (Ne.symm n01), put_same]
  have P1 : ∀ v0 v1 v2 vp vq u, (fr5 base d0 d1 d2 p q v0 v1 v2 vp vq).put (some d1) u = fr5 base d0 d1 d2 p q v0 u v2 vp vq := fun v0 v1 v2 vp vq u => by
    unfold fr5; rw [cm _ q d1 _ _ (Ne.symm n1q), cm _ p d1 _ _ (Ne.symm n1p), cm _ d2 d1 _ _ (Ne.symm n12), put_same]
  have P2 : ∀ v0 v1 v2 vp vq u, (fr5 base d0 d1 d2 p q v0 v1 v2 vp vq).put (some d2) u = fr5 base d0 d1 d2 p q v0 v1 u vp vq := fun v0 v1 v2 vp vq u => by
    unfold fr5; rw [cm _ q d2 _ _ (Ne.symm n2q), cm _ p d2 _ _ (Ne.symm n2p), put_same]
  have Pp : ∀ v0 v1 v2 vp vq u, (fr5 base d0 d1 d2 p q v0 v1 v2 vp vq).put (some p) u = fr5 base d0 d1 d2 p q v0 v1 v2 u vq := fun v0 v1 v2 vp vq u => by
    unfold fr5; rw [cm _ q p _ _ (Ne.symm npq), put_same]
  have Pq : ∀ v0 v1 v2 vp vq u, (fr5 base d0 d1 d2 p q v0 v1 v2 vp vq).put (some q) u = fr5 base d0 d1 d2 p q v0 v1 v2 vp u := fun v0 v1 v2 vp vq u => by
    unfold fr5; rw [put_same]
  refine wpAny_inv (Two base W d0 d1 d2 p q T A X B) ?_ ?_ 7 _ _ _ (by decide) ?_
  · rintro listed a w i ⟨b0, b1, b2, b3, b4, b5, b6, rfl, v0, v1, v2, vp, vq, rfl, hb, c0, c1, c2, c3, c4, c5, c6, c7⟩ hi
    have hok := List.all_eq_true.1 (hR b0 b1 b2 b3 b4 b5 b6 c6 c7) i hi
    have ks : ∀ {w' : World}, Below w.heap.size w w' → ∀ {g : Nat} {cs : Array Value}, CAt w g cs T → CAt w' g cs T := fun hb' _ _ hc => hc.below hb' hc.lt
    have hbm : ∀ {w' : World}, Below w.heap.size w w' → Below W.heap.size W w' := fun hb' => hb.trans (hb'.mono hb.size)
    match i, hok with
    | 0, hok =>
      refine wpOp_in h0 g0 ?_
      refine (wp_enter f _ (r0 _ _) ((hf w).mono ?_))
      rintro e w' ⟨rfl, hb'⟩
      refine ⟨_, rfl, true, b1, b2, b3, b4, b5, b6, rfl, .agg A, v1, v2, vp, vq, by rw [e0, P0], hbm hb', fun _ => rfl, c1, c2, fun h => ?_, fun h => ?_, c5, c6, c7⟩
      · obtain ⟨g', cs, k1, k2, k3, k4⟩ := c3 h; exact ⟨g', cs, k1, k2, ks hb' k3, k4⟩
      · obtain ⟨g', cs, k1, k2, k3, k4⟩ := c4 h; exact ⟨g', cs, k1, k2, ks hb' k3, k4⟩
    | 1, hok =>
      refine wpOp_in h1 g1 ?_
      refine (wp_load_row TB _ r1 gx (by rw [Es, hsrc]) tb X (0, 0) dB (hx.below hb hx.lt) uB (by cases dB <;> first | rfl | (simp [aggB] at kB)) iB ?_)
      exact ⟨b0, true, b2, b3, b4, b5, b6, rfl, v0, .agg X, v2, vp, vq, by rw [e1, P1], hb, c0, fun _ => rfl, c2, c3, c4, c5, c6, c7⟩
    | 2, hok =>
      simp only [okTwo, Bool.and_eq_true, Bool.not_eq_true'] at hok
      refine wpOp_in h2 g2 ?_
      refine (wp_enter g _ (r2 _ _) ?_)
      rw [show #[Operand.tmp d1].map (fr5 base d0 d1 d2 p q v0 v1 v2 vp vq).eval = #[(fr5 base d0 d1 d2 p q v0 v1 v2 vp vq).eval (.tmp d1)] by simp, E1, c1 hok.2]
      refine (hgc w).mono ?_
      rintro e w' ⟨rfl, hb'⟩
      refine ⟨_, rfl, b0, b1, true, b3, b4, b5, b6, rfl, v0, .agg X, .agg B, vp, vq, by rw [e2, P2], hbm hb', c0, fun _ => rfl, fun _ => rfl, fun h => ?_, fun h => ?_, c5, c6, c7⟩
      · obtain ⟨g', cs, k1, k2, k3, k4⟩ := c3 h; exact ⟨g', cs, k1, k2, ks hb' k3, k4⟩
      · obtain ⟨g', cs, k1, k2, k3, k4⟩ := c4 h; exact ⟨g', cs, k1, k2, ks hb' k3, k4⟩
    | 3, hok =>
      simp only [okTwo, Bool.and_eq_true, Bool.not_eq_true'] at hok
      refine wpOp_in h3 g3 ?_
      refine (wp_alloc_row T r3 Z hz ?_)
      have hb' : Below w.heap.size w (w.alloc (.cells Z T)) := (Below.refl _ _).alloc (Nat.le_refl _) _
      refine ⟨b0, b1, b2, true, b4, b5, b6, rfl, v0, v1, v2, .pointer (some ⟨w.heap.size, 0, none⟩), vq, by rw [e3, Pp], hbm hb', c0, c1, c2, fun _ => ⟨_, Z, rfl, hb.size, CAt.new _ _ _, hZs, fun h => by rw [hok.2] at h; cases h⟩, fun h => ?_, fun _ h4' g1' g2' k1 k2 => ?_, fun _ => rfl, c7⟩
      · obtain ⟨g', cs, k1, k2, k3, k4⟩ := c4 h; exact ⟨g', cs, k1, k2, ks hb' k3, k4⟩
      · obtain ⟨g', cs, m1, m2, m3, m4⟩ := c4 h4'
        have := m3.lt
        rw [m1] at k2
        cases k1; cases k2
        omega
    | 4, hok =>
      simp only [okTwo, Bool.and_eq_true, Bool.not_eq_true'] at hok
      refine wpOp_in h4 g4 ?_
      refine (wp_alloc_row T r4 Z hz ?_)
      have hb' : Below w.heap.size w (w.alloc (.cells Z T)) := (Below.refl _ _).alloc (Nat.le_refl _) _
      refine ⟨b0, b1, b2, b3, true, b5, b6, rfl, v0, v1, v2, vp, .pointer (some ⟨w.heap.size, 0, none⟩), by rw [e4, Pq], hbm hb', c0, c1, c2, fun h => ?_, fun _ => ⟨_, Z, rfl, hb.size, CAt.new _ _ _, hZs, fun h => by rw [hok.2] at h; cases h⟩, fun h3' _ g1' g2' k1 k2 => ?_, c6, fun _ => rfl⟩
      · obtain ⟨g', cs, k1, k2, k3, k4⟩ := c3 h; exact ⟨g', cs, k1, k2, ks hb' k3, k4⟩
      · obtain ⟨g', cs, m1, m2, m3, m4⟩ := c3 h3'
        have := m3.lt
        rw [m1] at k1
        cases k1; cases k2
        omega
    | 5, hok =>
      simp only [okTwo, Bool.and_eq_true, Bool.not_eq_true'] at hok
      refine wpOp_in h5 g5 ?_
      obtain ⟨gp, cs, k1, k2, k3, k4, k5⟩ := c3 hok.2
      refine (wp_store_row T _ _ r5 gp A (by rw [Ep, k1]) (by rw [E0, c0 hok.1.2]) T cs k3 iT k4 oA ?_)
      refine ⟨b0, b1, b2, b3, b4, true, b6, rfl, v0, v1, v2, vp, vq, by rw [e5]; rfl, below_setRow hb k2 _, c0, c1, c2, fun _ => ⟨gp, A, k1, k2, k3.row A, rfl, fun _ => rfl⟩, fun h => ?_, c5, fun _ => hok.2, c7⟩
      obtain ⟨g', cs', m1, m2, m3, m4⟩ := c4 h
      exact ⟨g', cs', m1, m2, m3.rowOther A (Ne.symm (c5 hok.2 h gp g' k1 m1)), m4⟩
    | 6, hok =>
      simp only [okTwo, Bool.and_eq_true, Bool.not_eq_true'] at hok
      refine wpOp_in h6 g6 ?_
      obtain ⟨gq, cs, k1, k2, k3, k4, k5⟩ := c4 hok.2
      refine (wp_store_row T _ _ r6 gq B (by rw [Eq, k1]) (by rw [E2, c2 hok.1.2]) T cs k3 (by rw [hBs]; exact iT) (by rw [k4, hBs]) oB ?_)
      refine ⟨b0, b1, b2, b3, b4, b5, true, rfl, v0, v1, v2, vp, vq, by rw [e6]; rfl, below_setRow hb k2 _, c0, c1, c2, fun h => ?_, fun _ => ⟨gq, B, k1, k2, k3.row B, hBs, fun _ => rfl⟩, c5, c6, fun _ => hok.2⟩
      obtain ⟨g', cs', m1, m2, m3, m4⟩ := c3 h
      exact ⟨g', cs', m1, m2, m3.rowOther B (c5 h hok.2 g' gq m1 k1), m4⟩
    | n + 7, hok => simp [okTwo] at hok
  · rintro listed a w ⟨b0, b1, b2, b3, b4, b5, b6, rfl, v0, v1, v2, vp, vq, rfl, hb, c0, c1, c2, c3, c4, c5, c6, c7⟩ hr
    have hall := hE b0 b1 b2 b3 b4 b5 b6 hr
    simp only [Bool.and_eq_true] at hall
    obtain ⟨⟨⟨⟨⟨⟨t0, t1⟩, t2⟩, t3⟩, t4⟩, t5⟩, t6⟩ := hall
    obtain ⟨gp, cp, k1, k2, k3, k4, k5⟩ := c3 t3
    obtain ⟨gq, cq, m1, m2, m3, m4, m5⟩ := c4 t4
    have hne := c5 t3 t4 gp gq k1 m1
    rw [k5 t5] at k3
    rw [m5 t6] at m3
    rw [c0 t0, c1 t1, c2 t2, k1, m1]
    exact hend gp gq w hb k3 m3 k2 m2 hne
  · exact ⟨false, false, false, false, false, false, false, rfl, undef, undef, undef, undef, undef, rfl, Below.refl _ _, by simp, by simp, by simp, by simp, by simp, by simp, by simp, by simp⟩
theorem region_two_at {P : Program} {ops : Array Oper} {Q : Exit → Act → World → Prop} {base : Act} {W : World} (d0 d1 d2 p q src : Nat) (T TB : TypeId) (A X B Z : Array Value) (f g gx : Nat)
    (hR : ∀ b0 b1 b2 b3 b4 b5 b6 : Bool, (b5 = true → b3 = true) → (b6 = true → b4 = true) → ((Region.ready .any ops #[b0, b1, b2, b3, b4, b5, b6]).all fun i => okTwo i b0 b1 b2 b3 b4 b5 b6) = true)
    (hE : ∀ b0 b1 b2 b3 b4 b5 b6 : Bool, Region.ready .any ops #[b0, b1, b2, b3, b4, b5, b6] = [] → (b0 && b1 && b2 && b3 && b4 && b5 && b6) = true)
    (hfr : fr5 base d0 d1 d2 p q undef undef undef undef undef = base) (hdist : [d0, d1, d2, p, q, src].Nodup) (N : Nat) (hN : base.tmps.size = N) (hsz : ∀ d ∈ [d0, d1, d2, p, q], d < N) {o0 o1 o2 o3 o4 o5 o6 : Oper}
    (h0 : ops[0]? = some o0) (h1 : ops[1]? = some o1) (h2 : ops[2]? = some o2) (h3 : ops[3]? = some o3) (h4 : ops[4]? = some o4) (h5 : ops[5]? = some o5) (h6 : ops[6]? = some o6)
    (hg : [o0, o1, o2, o3, o4, o5, o6].all (fun o => o.guard.isNone) = true)
    (e0 : o0.dst = some d0) (e1 : o1.dst = some d1) (e2 : o2.dst = some d2) (e3 : o3.dst = some p) (e4 : o4.dst = some q) (e5 : o5.dst = none) (e6 : o6.dst = none)
    (r0 : ∀ (a : Act) (w : World), (execOp a.eval o0).run P w = .ok (.enter f #[]) w) (r1 : o1.op = .load TB (.tmp src)) (r2 : ∀ (a : Act) (w : World), (execOp a.eval o2).run P w = .ok (.enter g (#[Operand.tmp d1].map a.eval)) w)
    (r3 : o3.op = .alloc T) (r4 : o4.op = .alloc T) (r5 : o5.op = .store T (.tmp p) (.tmp d0)) (r6 : o6.op = .store T (.tmp q) (.tmp d2))
    (hf : ∀ w, Calls P f #[] w fun e w' => e = .returned (.agg A) ∧ Below w.heap.size w w') (hgc : ∀ w, Calls P g #[.agg X] w fun e w' => e = .returned (.agg B) ∧ Below w.heap.size w w')
    (hsrc : base.eval (.tmp src) = .pointer (some ⟨gx, 0, none⟩)) {tb : TypeId} (hx : CAt W gx X tb) {dB : TypeDesc} (kB : aggB dB = true) (uB : P.underlying TB = some dB) (iB : (P.info? TB).map (·.size) = some X.size)
    (hz : (P.info? T).map (·.zero) = some (some (.agg Z))) (hZs : Z.size = A.size) (hBs : B.size = A.size) (iT : (P.info? T).map (·.size) = some A.size) (oA : A.all (·.oneCell') = true) (oB : B.all (·.oneCell') = true)
    (hend : ∀ gp gq w', Below W.heap.size W w' → CAt w' gp A T → CAt w' gq B T → W.heap.size ≤ gp → W.heap.size ≤ gq → gp ≠ gq → Q .normal (fr5 base d0 d1 d2 p q (.agg A) (.agg X) (.agg B) (.pointer (some ⟨gp, 0, none⟩)) (.pointer (some ⟨gq, 0, none⟩))) w') :
    wpAny P .any ops Q 7 (Array.replicate 7 false) base W := by
  have := region_two (Q := Q) d0 d1 d2 p q src T TB A X B Z f g gx hR hE hdist N hN hsz h0 h1 h2 h3 h4 h5 h6 hg e0 e1 e2 e3 e4 e5 e6 r0 r1 r2 r3 r4 r5 r6 hf hgc hsrc hx kB uB iB hz hZs hBs iT oA oB hend
  rwa [hfr] at this
end Go.Proofs.Ytcbmimjjpkkoeaa.H

/- Contract of mix of package digest: what the words become by a block; what was there is as it was. -/
namespace Go.Proofs.Ytcbmimjjpkkoeaa.H
open Go Go.RowKit

def addTo (s r : St) (k i : Nat) : BitVec 32 := if i < k then s.get i + r.get i else s.get i
theorem addTo_step (s r : St) (k i : Nat) : upW (addTo s r k) k (addTo s r k k + r.get k) i = addTo s r (k + 1) i := by
  unfold upW addTo
  by_cases e : i = k
  · rw [if_pos e, if_neg (by omega), if_pos (by omega), e]
  · rw [if_neg e]
    by_cases q : i < k
    · rw [if_pos q, if_pos (by omega)]
    · rw [if_neg q, if_neg (by omega)]
end Go.Proofs.Ytcbmimjjpkkoeaa.H

/- Contract of written of package digest: the words' bytes. -/
namespace Go.Proofs.Ytcbmimjjpkkoeaa.H
open Go Go.RowKit

theorem zero32 : (Try.prog.info? 26).map (·.zero) = some (some (.agg (aB 32 zB))) := by kernel_rfl
theorem size32 (x : Nat → Nat) : (Try.prog.info? 26).map (·.size) = some (aB 32 x).size := by rw [aB_size]; kernel_rfl
def upTo (f : Nat → Nat) (k i : Nat) : Nat := if i < k then f i else 0
theorem upTo_step (f : Nat → Nat) (k i : Nat) : upB (upTo f k) k (f k) i = upTo f (k + 1) i := by
  unfold upB upTo
  by_cases e : i = k
  · rw [if_pos e, if_pos (by omega), e]
  · rw [if_neg e]
    by_cases q : i < k
    · rw [if_pos q, if_pos (by omega)]
    · rw [if_neg q, if_neg (by omega)]
theorem upTo_zero (f : Nat → Nat) (i : Nat) : zB i = upTo f 0 i := by unfold zB upTo; rw [if_neg (by omega)]
theorem upTo_at (f : Nat → Nat) (k i : Nat) (h : i < k) : upTo f k i = f i := by unfold upTo; rw [if_pos h]
theorem out_byte (s : St) (k : Nat) (sw : BitVec 32) (h : s.get (k / 4) = sw) : wv sw / 2 ^ (24 - k % 4 * 8) % 256 = ((outB s k : Nat) : Int) := by
  unfold outB wv; rw [h, Nat.mul_comm (k % 4) 8]; simp
end Go.Proofs.Ytcbmimjjpkkoeaa.H

/- Bytes in memory; contracts of SameBytes, LentBytes and KeptBytes of the statements' kit. -/
namespace Go.Proofs.Ytcbmimjjpkkoeaa.H
open Go.RowKit

theorem Try.info5 : (Try.prog.info? 5).map (fun i => (i.zero, i.size, i.bytes)) = some (some (.int .u8 0), 1, 1) := by kernel_rfl

/-- A row of n bytes lies at block b from o on. -/
def RowAt (w : World) (b o n : Nat) (x : Nat → Nat) : Prop := ∀ i, i < n → w.cell? ⟨b, o + i, none⟩ = some (.int .u8 (x i : Nat))
/-- The world w has one block more than w0 has: n bytes, x, which may be written; what was there is as it was. -/
structure NewRow (w0 w : World) (n : Nat) (x : Nat → Nat) : Prop where
  size : w.heap.size = w0.heap.size + 1
  below : Below w0.heap.size w0 w
  cells : ∀ i, i < n → w.cell? ⟨w0.heap.size, i, none⟩ = some (.int .u8 (x i : Nat))
  free : ∀ i, w.frozen? ⟨w0.heap.size, i, none⟩ = false

theorem madeCells_get (z : Value) (n i : Nat) (h : i < n) : (madeCells #[z] n)[i]? = some z := by
  simp [madeCells, h, Nat.mod_one]
theorem run_make_u8 (n : Nat) (hn : n ≤ 70003) (w : World) :
    (Instr.makeSlice 68 (.int .i64 (n : Int)) (.int .i64 (n : Int))).run Try.prog w = .ok (.slice (some ⟨w.heap.size, 0, none⟩) n n) (w.alloc (.cells (madeCells #[.int .u8 0] n) 5)) := by
  obtain ⟨i0, hi, hz0, hz1, hz2⟩ := info_parts Try.info5
  have h := run_make (P := Try.prog) w 68 5 i0 (.int .u8 0) Try.underlying68 hi hz0 .i64 .i64 n n (by omega) (Int.le_refl _) (by rw [hz2]; omega) (by omega)
  rw [hz1] at h
  simpa [Value.cells] using h

theorem NewRow.made (w : World) (n : Nat) : NewRow w (w.alloc (.cells (madeCells #[.int .u8 0] n) 5)) n (fun _ => 0) where
  size := by simp
  below := (Below.refl _ _).alloc (Nat.le_refl _) _
  cells := fun i h => by rw [World.cell?_alloc_new, madeCells_get _ _ _ h]; rfl
  free := fun i => World.frozen?_alloc_new _ _ _ _
theorem NewRow.set {w0 w : World} {n : Nat} {x : Nat → Nat} (h : NewRow w0 w n x) (k : Nat) (v : Nat) (hk : k < n) :
    NewRow w0 (w.setCell ⟨w0.heap.size, k, none⟩ (.int .u8 (v : Nat))) n (fun i => if i = k then v else x i) where
  size := by simp [h.size]
  below := h.below.setCell (Nat.le_refl _) _
  cells := fun i hi => by
    by_cases e : i = k
    · subst e
      rw [World.cell?_setCell_same _ _ _ (h.cells i hi)]; simp
    · rw [World.cell?_setCell_other _ _ _ _ (by intro h2; cases h2; exact e rfl), h.cells i hi]; simp [e]
  free := fun i => by rw [World.frozen?_setCell]; exact h.free i
theorem NewRow.congr {w0 w : World} {n : Nat} {x y : Nat → Nat} (h : NewRow w0 w n x) (e : ∀ i, i < n → x i = y i) : NewRow w0 w n y where
  size := h.size
  below := h.below
  cells := fun i hi => by rw [h.cells i hi, e i hi]
  free := h.free

theorem upto_step (f : Nat → Nat) (k i : Nat) : (if i = k then f k else if i < k then f i else 0) = if i < k + 1 then f i else 0 := by
  by_cases e : i = k
  · subst e; rw [if_pos rfl, if_pos (by omega)]
  · rw [if_neg e]
    by_cases h : i < k
    · rw [if_pos h, if_pos (by omega)]
    · rw [if_neg h, if_neg (by omega)]

end Go.Proofs.Ytcbmimjjpkkoeaa.H

/- Contract of SameBytes of the statements' kit: of two slices that read alike it returns true, and leaves the world as it was. -/
namespace Go.Proofs.Ytcbmimjjpkkoeaa.H
open Go.RowKit

/-- The slice's value leads to n bytes x; one of no byte may lead anywhere. -/
def StrAt (w : World) (p : Option Addr) (n : Nat) (x : Nat → Nat) : Prop := n = 0 ∨ ∃ b o, p = some ⟨b, o, none⟩ ∧ RowAt w b o n x
def strN (n : Nat) (x : Nat → Nat) : ByteArray := strOfNums ((List.range n).map fun i => (x i : Int))
theorem conv_str (w : World) (p : Option Addr) (n c : Nat) (x : Nat → Nat) (h : StrAt w p n x) :
    (convert 68 9 (.slice p n c)).run Try.prog w = .ok (.string (strN n x)) w := by
  rcases h with rfl | ⟨b, o, rfl, h⟩
  · rw [run_convert_bytes_string w 68 9 5 _ 0 c Try.underlying68 Try.underlying5 Try.underlying9]
    cases p <;> simp [Conv.bytesToString, loadCells, strN]
    all_goals rfl
  · exact run_convert_bytes_arg w 68 5 Try.underlying68 Try.underlying5 b o n c _ (by simp) (fun i hi => by rw [h i hi]; simp [List.getD, hi]) 9 Try.underlying9

end Go.Proofs.Ytcbmimjjpkkoeaa.H

/- Contract of LentBytes of the statements' kit: a copy of the bytes lies in a new block, with three marked bytes of spare room behind it; what was there is as it was. -/
namespace Go.Proofs.Ytcbmimjjpkkoeaa.H
open Go.RowKit

theorem size_setCells (b : Nat) : ∀ (vs : List Value) (o : Nat) (w : World), (w.setCells b o vs).heap.size = w.heap.size
  | [], _, _ => rfl
  | v :: r, o, w => by rw [World.setCells, size_setCells b r, World.size_setCell]
theorem below_setCells (b B : Nat) (hB : B ≤ b) : ∀ (vs : List Value) (o : Nat) (w0 w : World), Below B w0 w → Below B w0 (w.setCells b o vs)
  | [], _, _, _, h => h
  | v :: r, o, w0, w, h => by rw [World.setCells]; exact below_setCells b B hB r (o + 1) w0 _ (h.setCell hB _)

/-- n bytes as values. -/
def valN (n : Nat) (x : Nat → Nat) : List Value := (List.range n).map fun i => .int .u8 (x i : Nat)
theorem valN_len (n : Nat) (x : Nat → Nat) : (valN n x).length = n := by simp [valN]
theorem valN_get (n : Nat) (x : Nat → Nat) (i : Nat) (h : i < n) : (valN n x)[i]? = some (.int .u8 (x i : Nat)) := by simp [valN, h]

theorem NewRow.copied {w0 w : World} {n : Nat} {x : Nat → Nat} (h : NewRow w0 w n x) (m : Nat) (y : Nat → Nat) (hm : m ≤ n) :
    NewRow w0 (w.setCells w0.heap.size 0 (valN m y)) n (fun i => if i < m then y i else x i) where
  size := by rw [size_setCells, h.size]
  below := below_setCells _ _ (Nat.le_refl _) _ _ _ _ h.below
  cells := fun i hi => by
    by_cases e : i < m
    · have hin := World.cell?_setCells_in w0.heap.size (valN m y) 0 w (fun j hj => by
        rw [valN_len] at hj
        rw [Nat.zero_add, h.cells j (by omega)]; rfl) i (by rw [valN_len]; exact e)
      rw [Nat.zero_add] at hin
      rw [hin, if_pos e]
      have g := valN_get m y i e
      rw [List.getElem?_eq_getElem (by rw [valN_len]; exact e)] at g
      exact g
    · rw [World.cell?_setCells_out _ _ _ _ _ (fun _ _ => by rw [valN_len]; right; simp; omega), if_neg e, h.cells i hi]
  free := fun i => by rw [World.frozen?_setCells]; exact h.free i

theorem run_copy_u8 (w : World) (b o n c g dl dc : Nat) (x y : Nat → Nat) (w0 : World) (hg : g = w0.heap.size) (h : NewRow w0 w dl y) (hx : RowAt w b o n x) (hn : n ≤ dl) (ty : TypeId) :
    (Builtin.copy_ #[68, 68] ty #[.slice (some ⟨g, 0, none⟩) dl dc, .slice (some ⟨b, o, none⟩) n c]).run Try.prog w = .ok (goInt n) (w.setCells g 0 (valN n x)) := by
  subst hg
  have := run_copy_cells (P := Try.prog) w 68 68 ty 5 w0.heap.size 0 dl dc ⟨b, o, none⟩ n c (valN n x) Try.underlying68 (by kernel_rfl) (by rw [valN_len]; exact (Nat.min_eq_left hn).symm)
    (fun j v hj => by
      have hjn : j < n := by
        rcases Nat.lt_or_ge j n with q | q
        · exact q
        · rw [List.getElem?_eq_none (by rw [valN_len]; exact q)] at hj; cases hj
      rw [valN_get n x j hjn] at hj
      cases hj
      have hadd : (⟨b, o, none⟩ : Addr).add j = ⟨b, o + j, none⟩ := by unfold Addr.add; split <;> simp_all
      rw [hadd]; exact hx j hjn)
    (fun j hj => by rw [valN_len] at hj; rw [Nat.zero_add, h.cells j (by omega)]; rfl)
    (fun j _ => by rw [Nat.zero_add]; exact h.free j)
    (fun v hv => by unfold valN at hv; obtain ⟨i, _, rfl⟩ := List.mem_map.1 hv; rfl)
  rw [valN_len] at this
  exact this

/-- What a lent list reads as, its spare room with it. -/
def lentN (n : Nat) (x : Nat → Nat) (i : Nat) : Nat := if i < n then x i else 160 + i % 90

theorem byte_mark (k : Nat) : ((160 + k % 90 : Nat) : Int) = 160 + (k : Int) % 90 := by omega

end Go.Proofs.Ytcbmimjjpkkoeaa.H

/- Contract of KeptBytes of the statements' kit: it returns true of a lent list that reads as it was lent. -/
namespace Go.Proofs.Ytcbmimjjpkkoeaa.H
open Go.RowKit

theorem RowAt.below {B : Nat} {w w' : World} {b o n : Nat} {x : Nat → Nat} (h : RowAt w b o n x) (hb : Below B w w') (hlt : b < B) : RowAt w' b o n x :=
  fun i hi => (hb.cell (p := ⟨b, o + i, none⟩) hlt).trans (h i hi)
theorem NewRow.row {w0 w : World} {n : Nat} {x : Nat → Nat} (h : NewRow w0 w n x) : RowAt w w0.heap.size 0 n x :=
  fun i hi => by rw [Nat.zero_add]; exact h.cells i hi

/-- The first m of x over y. -/
def ovl (m : Nat) (x y : Nat → Nat) (i : Nat) : Nat := if i < m then x i else y i
theorem aB_take (N m : Nat) (x y : Nat → Nat) (h : m ≤ N) : ((aB N y).toList.take 0 ++ valN m x ++ (aB N y).toList.drop (0 + (valN m x).length)).toArray = aB N (ovl m x y) := by
  apply Array.ext
  · simp [valN_len, aB_size]; omega
  · intro i h1 h2
    have hi : i < N := by rw [aB_size] at h2; exact h2
    rw [aB_elem]
    unfold ovl
    simp only [List.take_zero, List.nil_append, List.getElem_toArray]
    by_cases e : i < m
    · rw [if_pos e, List.getElem_append_left (by rw [valN_len]; exact e)]
      simp [valN]
    · rw [if_neg e, List.getElem_append_right (by rw [valN_len]; omega)]
      simp only [valN_len, List.getElem_drop, Array.getElem_toList, aB_elem]
      congr 3; omega
/-- copy into a block that is known whole. -/
theorem run_copy_blk (w : World) (g N : Nat) (t : TypeId) (y : Nat → Nat) (p : Option Addr) (n c : Nat) (x : Nat → Nat) (hg : CAt w g (aB N y) t) (hx : StrAt w p n x) (ty : TypeId) :
    (Builtin.copy_ #[68, 68] ty #[.slice (some ⟨g, 0, none⟩) N N, .slice p n c]).run Try.prog w = .ok (.int .i64 ((min n N : Nat) : Int)) (w.setRow g (aB N (ovl (min n N) x y))) := by
  have hself : min n N = 0 → w.setRow g (aB N (ovl (min n N) x y)) = w := fun h => by
    rw [h, aB_congr N (x := ovl 0 x y) (y := y) (fun i _ => by unfold ovl; rw [if_neg (by omega)])]
    exact setRow_self w g _ t _ hg
  rcases Nat.eq_zero_or_pos (min n N) with h0 | h0
  · rw [hself h0, h0]
    exact run_copy_none (P := Try.prog) _ 68 68 ty 5 _ _ _ _ _ _ Try.underlying68 (by kernel_rfl) h0
  · rcases hx with rfl | ⟨b, o, rfl, hr⟩
    · omega
    · have := run_copy_row (P := Try.prog) w 68 68 ty 5 g 0 N N ⟨b, o, none⟩ n c (aB N y) t (valN (min n N) x) Try.underlying68 (by kernel_rfl) hg (by rw [valN_len])
        (fun j v hj => by
          have hlt : j < min n N := by
            rcases Nat.lt_or_ge j (min n N) with h | h
            · exact h
            · rw [List.getElem?_eq_none (by rw [valN_len]; exact h)] at hj; cases hj
          rw [valN_get _ _ _ hlt] at hj
          cases hj
          have h2 := hr j (by omega)
          have h3 : (⟨b, o, none⟩ : Addr).add j = ⟨b, o + j, none⟩ := by unfold Addr.add; split <;> simp_all
          rw [h3]; exact h2) (by rw [valN_len, aB_size]; omega) (fun v hv => by
          simp only [valN, List.mem_map] at hv
          obtain ⟨i, _, rfl⟩ := hv; rfl)
      rw [this, aB_take N (min n N) x y (by omega), valN_len]
      rfl
end Go.Proofs.Ytcbmimjjpkkoeaa.H

/- Contract of finish of package digest: the bytes that are left are filled up and mixed in, with the count. -/
namespace Go.Proofs.Ytcbmimjjpkkoeaa.H
open Go Go.RowKit

/-- The count's lowest k bytes at a block's end. -/
def cTo (N : Nat) (f : Nat → Nat) (k i : Nat) : Nat := if i < 64 - k then f i else (8 * N) / 256 ^ (63 - i) % 256
theorem cTo_step (N : Nat) (f : Nat → Nat) (k i : Nat) (hk : k < 8) (hi : i < 64) : upB (cTo N f k) (63 - k) ((8 * N) / 256 ^ k % 256) i = cTo N f (k + 1) i := by
  unfold upB cTo
  by_cases e : i = 63 - k
  · rw [if_pos e, if_neg (by omega), show 63 - i = k by omega]
  · rw [if_neg e]
    by_cases q : i < 64 - k
    · rw [if_pos q, if_pos (by omega)]
    · rw [if_neg q, if_neg (by omega)]
theorem cTo_zero (N : Nat) (f : Nat → Nat) (i : Nat) (hi : i < 64) : f i = cTo N f 0 i := by unfold cTo; rw [if_pos (by omega)]
theorem cTo_end (N : Nat) (f : Nat → Nat) (i : Nat) : cTo N f 8 i = withC N f i := rfl
def fin (s : St) (n : Nat) (x : Nat → Nat) (N : Nat) : St := if n < 56 then comp s (withC N (lastA n x)) else comp (comp s (lastA n x)) (withC N (fun _ => 0))
theorem lastA_lt (n : Nat) (x : Nat → Nat) (hx : ∀ i, i < n → x i < 256) (i : Nat) : lastA n x i < 256 := by
  unfold lastA
  by_cases h : i < n
  · rw [if_pos h]; exact hx i h
  · rw [if_neg h]; split <;> omega
theorem withC_lt (N : Nat) (f : Nat → Nat) (hf : ∀ i, f i < 256) (i : Nat) : withC N f i < 256 := by
  unfold withC
  by_cases h : i < 56
  · rw [if_pos h]; exact hf i
  · rw [if_neg h]; exact Nat.mod_lt _ (by omega)
theorem last_set (n : Nat) (x : Nat → Nat) (i : Nat) : upB (ovl n x zB) n 128 i = lastA n x i := by
  unfold upB ovl lastA zB
  by_cases e : i = n
  · rw [if_pos e, if_neg (by omega), if_pos e]
  · rw [if_neg e]
    by_cases q : i < n
    · rw [if_pos q, if_pos q]
    · rw [if_neg q, if_neg q, if_neg e]
theorem count_byte (C N k : Nat) (hC : C = 8 * N) : ((C : Nat) : Int) / 2 ^ (8 * k) % 256 = (((8 * N) / 256 ^ k % 256 : Nat) : Int) := by
  rw [hC, show (256 : Nat) = 2 ^ 8 by decide, ← Nat.pow_mul]; simp
end Go.Proofs.Ytcbmimjjpkkoeaa.H

/- Contract of Sum of package digest: the digest of any bytes; what was there is as it was. -/
namespace Go.Proofs.Ytcbmimjjpkkoeaa.H
open Go Go.RowKit

theorem size41 (w : World) : (sizeOf (Try.prog.elem 68)).run Try.prog w = .ok 1 w := by
  rw [show Try.prog.elem 68 = 5 by kernel_rfl]
  kernel_rfl
theorem under41 : Try.prog.underlying 68 = some (.slice (Try.prog.elem 68)) := by kernel_rfl
theorem add_plain' (b o l : Nat) : (⟨b, o, none⟩ : Addr).add l = ⟨b, o + l, none⟩ := by unfold Addr.add; split <;> simp_all
/-- A part of a list from l on. -/
theorem run_lo22 (p : Option Addr) (n c l : Nat) (hl : l ≤ n) : ∃ p2 : Option Addr, (∀ w : World, (Instr.slice 68 (.slice p n c) (some (.int .i64 (l : Int))) none none).run Try.prog w = .ok (.slice p2 (n - l) (c - l)) w) ∧ (∀ b o, p = some ⟨b, o, none⟩ → l < c → p2 = some ⟨b, o + l, none⟩) := by
  have hr : ∀ w, (Instr.slice 68 (.slice p n c) (some (.int .i64 (l : Int))) none none).run Try.prog w = .ok (sliced p l n c 1) w := fun w => by
    rw [run_slice_l (P := Try.prog) w 68 p n c under41 .i64 (l : Int) (by omega) (by omega), size41]
    simp [Result.andThen]
  cases p with
  | none => exact ⟨none, fun w => by rw [hr]; simp [sliced], fun b o e => by cases e⟩
  | some a =>
    by_cases e : c = l
    · exact ⟨some a, fun w => by rw [hr]; simp [sliced, e], fun b o _ q => by omega⟩
    · refine ⟨some (a.add l), fun w => by rw [hr]; simp [sliced, e], fun b o q _ => ?_⟩
      cases q
      rw [add_plain']
theorem StrAt.drop {w : World} {p p2 : Option Addr} {n c l : Nat} {x : Nat → Nat} (h : StrAt w p n x) (hc : n ≤ c) (hp : ∀ b o, p = some ⟨b, o, none⟩ → l < c → p2 = some ⟨b, o + l, none⟩) : StrAt w p2 (n - l) (fun j => x (l + j)) := by
  by_cases h0 : n - l = 0
  · exact .inl h0
  · rcases h with h | ⟨b, o, rfl, hr⟩
    · omega
    · exact .inr ⟨b, o + l, hp b o rfl (by omega), fun i hi => by rw [Nat.add_assoc]; exact hr (l + i) (by omega)⟩
theorem StrAt.short {w : World} {p : Option Addr} {n n' : Nat} {x : Nat → Nat} (h : StrAt w p n x) (hn : n' ≤ n) : StrAt w p n' x := by
  by_cases h0 : n' = 0
  · exact .inl h0
  · rcases h with h | ⟨b, o, rfl, hr⟩
    · omega
    · exact .inr ⟨b, o, rfl, fun i hi => hr i (by omega)⟩
theorem StrAt.congr {w : World} {p : Option Addr} {n : Nat} {x y : Nat → Nat} (h : StrAt w p n x) (e : ∀ j, j < n → x j = y j) : StrAt w p n y := by
  rcases h with h | ⟨b, o, rfl, hr⟩
  · exact .inl h
  · exact .inr ⟨b, o, rfl, fun i hi => by rw [← e i hi]; exact hr i hi⟩
theorem cell_lt {w : World} {a : Addr} {v : Value} (h : w.cell? a = some v) : a.block < w.heap.size := by
  rcases Nat.lt_or_ge a.block w.heap.size with h1 | h1
  · exact h1
  · simp [World.cell?, Array.getElem?_eq_none h1] at h
theorem StrAt.lt {w : World} {p : Option Addr} {n : Nat} {x : Nat → Nat} (h : StrAt w p n x) (a : Addr) (ha : p = some a) (hn : 0 < n) : a.block < w.heap.size := by
  rcases h with h | ⟨b, o, rfl, hr⟩
  · omega
  · cases ha; exact cell_lt (hr 0 hn)
theorem StrAt.below {w w' : World} {p : Option Addr} {n : Nat} {x : Nat → Nat} (h : StrAt w p n x) (hb : Below w.heap.size w w') : StrAt w' p n x := by
  rcases Nat.eq_zero_or_pos n with h0 | h0
  · exact .inl h0
  · have hl := h.lt
    rcases h with h | ⟨b, o, rfl, hr⟩
    · exact .inl h
    · exact .inr ⟨b, o, rfl, hr.below hb (hl _ rfl h0)⟩
def lenV : Value → Nat | .slice _ n _ => n | _ => 0
end Go.Proofs.Ytcbmimjjpkkoeaa.H

/- Contract of block of the document's own answer: the eight numbers behind a block that stands in a list from a place on. -/
namespace Go.Proofs.Ytcbmimjjpkkoeaa.H
open Go Go.RowKit

theorem upW_zero (y : Nat → Nat) (t i : Nat) : schTo y t i = upW (schTo y t) t (wpart y t 0) i := by
  unfold upW; by_cases e : i = t
  · rw [if_pos e, e]; unfold schTo; rw [if_neg (by omega)]; rfl
  · rw [if_neg e]
theorem upW_up (f : Nat → BitVec 32) (t : Nat) (a b : BitVec 32) (i : Nat) : upW (upW f t a) t b i = upW f t b i := by
  unfold upW; by_cases e : i = t
  · rw [if_pos e, if_pos e]
  · rw [if_neg e, if_neg e, if_neg e]
theorem upW_word (y : Nat → Nat) (t : Nat) (ht : t < 16) (i : Nat) : upW (schTo y t) t (wpart y t 4) i = schTo y (t + 1) i := by
  unfold upW schTo; by_cases e : i = t
  · rw [if_pos e, if_pos (by omega), e, sch_low y t ht]; rfl
  · rw [if_neg e]
    by_cases q : i < t
    · rw [if_pos q, if_pos (by omega)]
    · rw [if_neg q, if_neg (by omega)]
end Go.Proofs.Ytcbmimjjpkkoeaa.H

/- A buffer of bytes that a call fills by append. -/
namespace Go.Proofs.Ytcbmimjjpkkoeaa.H
open Go Go.RowKit

def Buf (B : Nat) (w : World) (v : Value) (n : Nat) (x : Nat → Nat) : Prop := w.ownsRow B 5 1 v n (valN n x)
theorem Buf.nil (B : Nat) (w : World) (x : Nat → Nat) : Buf B w (.slice none 0 0) 0 x := by
  have := World.ownsRow_nil w B 5 1
  unfold Buf valN; simpa using this
theorem valN_congr (n : Nat) {x y : Nat → Nat} (h : ∀ i, i < n → x i = y i) : valN n x = valN n y := by
  unfold valN; apply List.map_congr_left; intro i hi; rw [h i (List.mem_range.1 hi)]
theorem Buf.congr {B : Nat} {w : World} {v : Value} {n : Nat} {x y : Nat → Nat} (h : Buf B w v n x) (e : ∀ i, i < n → x i = y i) : Buf B w v n y := by
  unfold Buf at *; rwa [← valN_congr n e]
theorem Buf.str {B : Nat} {w : World} {v : Value} {n : Nat} {x : Nat → Nat} (h : Buf B w v n x) : ∃ p c, v = .slice p n c ∧ n ≤ c ∧ StrAt w p n x ∧ (p = none → n = 0 ∧ c = 0) := by
  have h0 : w.ownsRow B 5 1 v n (valN n x) := h
  obtain ⟨hl, h | ⟨g, cap, cur, rfl, hB, hg, hc, _, hs, ht⟩⟩ := h0
  · obtain ⟨rfl, rfl⟩ := h
    exact ⟨none, 0, rfl, by omega, .inl rfl, fun _ => ⟨rfl, rfl⟩⟩
  · refine ⟨some ⟨g, 0, none⟩, cap, rfl, hc, .inr ⟨g, 0, rfl, fun i hi => ?_⟩, fun e => by cases e⟩
    have h1 : w.ownsRow B 5 1 (.slice (some ⟨g, 0, none⟩) n cap) n (valN n x) := h
    have h2 := h1.cellAt i (by omega)
    rw [Nat.zero_add, h2, valN_get n x i hi]
theorem Buf.str2 {B : Nat} {w : World} {v : Value} {n : Nat} {x : Nat → Nat} (h : Buf B w v n x) : ∃ p c, v = .slice p n c ∧ n ≤ c ∧ StrAt w p n x ∧ (p = none → n = 0 ∧ c = 0) ∧ ∀ a, p = some a → B ≤ a.block := by
  have hs := h.str
  have h0 : w.ownsRow B 5 1 v n (valN n x) := h
  obtain ⟨p, c, rfl, h1, h2, h3⟩ := hs
  refine ⟨p, c, rfl, h1, h2, h3, fun a ha => ?_⟩
  subst ha
  exact (h0.lt a.block rfl).1
theorem Buf.below {B : Nat} {w w' : World} {v : Value} {n : Nat} {x : Nat → Nat} (h : Buf B w v n x) (hb : Below w.heap.size w w') : Buf B w' v n x := by
  obtain ⟨hl, h | ⟨g, cap, cur, rfl, hB, hg, hc, hm, hs, ht⟩⟩ := h
  · exact ⟨hl, .inl h⟩
  · refine ⟨hl, .inr ⟨g, cap, cur, rfl, hB, ?_, hc, hm, hs, ht⟩⟩
    exact (hb.block g (CAt.lt hg)).trans hg
theorem valN_app (n l : Nat) (x y : Nat → Nat) : valN n x ++ valN l y = valN (n + l) (fun i => if i < n then x i else y (i - n)) := by
  apply List.ext_getElem?
  intro i
  by_cases h : i < n
  · rw [List.getElem?_append_left (by rw [valN_len]; exact h), valN_get _ _ _ h, valN_get _ _ _ (by omega), if_pos h]
  · rw [List.getElem?_append_right (by rw [valN_len]; omega), valN_len]
    by_cases h2 : i < n + l
    · rw [valN_get _ _ _ (by omega), valN_get _ _ _ h2, if_neg h]
    · rw [List.getElem?_eq_none (by rw [valN_len]; omega), List.getElem?_eq_none (by rw [valN_len]; omega)]
theorem Buf.app {B : Nat} {w : World} {v : Value} {n : Nat} {x : Nat → Nat} (hv : Buf B w v n x) (p : Option Addr) (l c : Nat) (y : Nat → Nat) (hy : StrAt w p l y) (hp : p = none → l = 0 ∧ c = 0) (hn : n + l ≤ 2000000) (hB : B ≤ w.heap.size) :
    ∃ v' w', (Builtin.append_ #[68, 68] 68 #[v, .slice p l c]).run Try.prog w = .ok v' w' ∧ Buf B w' v' (n + l) (fun i => if i < n then x i else y (i - n)) ∧ Below B w w' := by
  obtain ⟨i0, hi0, hz0, hz1, hz2⟩ := info_parts Try.info5
  cases p with
  | none =>
    obtain ⟨rfl, rfl⟩ := hp rfl
    refine ⟨v, w, run_append_owned_none (P := Try.prog) (w := w) B 68 68 5 i0 1 Try.underlying68 hi0 v n _ hv, ?_, Below.refl _ _⟩
    exact hv.congr (fun i hi => by rw [if_pos hi])
  | some a =>
    obtain ⟨v', w', hr, h2, h3, _, _⟩ := run_append_own_at (P := Try.prog) w B 68 68 5 i0 (.int .u8 0) 1 1 Try.underlying68 hi0 hz0 hz1 hz2 rfl (by decide) v n (valN n x) hv a l c (valN l y) (by rw [valN_len, Nat.mul_one])
      (fun j u hj => by
        have hlt : j < l := by
          rcases Nat.lt_or_ge j l with h | h
          · exact h
          · rw [List.getElem?_eq_none (by rw [valN_len]; exact h)] at hj; cases hj
        rw [valN_get _ _ _ hlt] at hj
        cases hj
        rcases hy with h | ⟨b, o, e, hr⟩
        · omega
        · cases e
          rw [add_plain']; exact hr j hlt)
      (fun u hu => by
        simp only [valN, List.mem_map] at hu
        obtain ⟨i, _, rfl⟩ := hu; rfl) (by unfold maxLen; omega) (by omega) hB
    refine ⟨v', w', hr, ?_, (Below.refl _ _).grown h3 hB (fun k hk => (hv.lt k hk).1)⟩
    unfold Buf
    rw [← valN_app]; exact h2

theorem wpList_append_eq {P : Program} {w : World} {ops : Array Oper} {rest : List Oper} {o : Oper} {a : Act} {Q : Exit → Act → World → Prop} (hgd : o.guard = none) (s x : Operand) (t : TypeId)
    (ho : o.op = .call { callee := .builtin .append, args := #[s, x], argTypes := #[t, t] }) (v y : Value) (hs : a.eval s = v) (hx : a.eval x = y) (v' : Value) (w' : World)
    (hr : (Builtin.append_ #[t, t] o.type #[v, y]).run P w = .ok v' w') (h : wpList P ops Q rest (a.put o.dst v') w') : wpList P ops Q (o :: rest) a w := by
  refine wpList_plain hgd fun K hK => ?_
  unfold Oper.wp
  simp [execOp, ho, resolve, invoke, builtin, hs, hx, hr, Result.andThen]
  exact hK _ _ h
end Go.Proofs.Ytcbmimjjpkkoeaa.H
