/- Texts laid into one: the remark ahead of each part says what is proved there. -/
import Derived.Test.YtcbmimjjpkkoeaaDoorQam
import Derived.Lib.AppendZerosOnto
import Derived.Lib.Overlaps
import Derived.Shelf.RegionOpenPlain
/- slices.Insert of one record ahead of all. -/
namespace Go.Proofs.YtcbmimjjpkkoeaaDoor
open Go Go.RowKit

theorem wpList_copy_run {P : Program} {w w' : World} {ops : Array Oper} {rest : List Oper} {o : Oper} {a : Act} {Q : Exit → Act → World → Prop} (d s : Operand) (t t2 : TypeId)
    (ho : o.op = .call { callee := .builtin .copy, args := #[d, s], argTypes := #[t, t2] }) (hw : Region.wanted o (yielded ops a.tmps) = true)
    (v xv v' : Value) (hs : a.eval d = v) (hx : a.eval s = xv) (hr : (Builtin.copy_ #[t, t2] o.type #[v, xv]).run P w = .ok v' w') (h : wpList P ops Q rest (a.put o.dst v') w') : wpList P ops Q (o :: rest) a w := by
  refine BigFrame.wpList_want hw fun K hK => ?_
  unfold Oper.wp execOp
  simp only [ho, resolve, invoke, builtin, Sem.run_bind, Sem.run_pure, Result.andThen_ok, List.map_toArray, List.map_cons, List.map_nil, hs, hx, hr]
  exact hK _ _ h
theorem step_copy_run {P : Program} {w w' : World} {ops : Array Oper} {o : Oper} {a : Act} {K : Act → World → Prop} {Q : Exit → Act → World → Prop} {E : Prop} (hgd : o.guard = none) (d s : Operand) (t t2 : TypeId)
    (ho : o.op = .call { callee := .builtin .copy, args := #[d, s], argTypes := #[t, t2] }) (v xv v' : Value) (hs : a.eval d = v) (hx : a.eval s = xv) (hr : (Builtin.copy_ #[t, t2] o.type #[v, xv]).run P w = .ok v' w') (h : K (a.put o.dst v') w') :
    if Region.wanted o (yielded ops a.tmps) = true then Oper.wp P o a w K Q else E := by
  rw [if_pos (by simp [Region.wanted, hgd])]
  unfold Oper.wp execOp
  simp only [ho, resolve, invoke, builtin, Sem.run_bind, Sem.run_pure, Result.andThen_ok, List.map_toArray, List.map_cons, List.map_nil, hs, hx, hr]
  exact h
/-- s[0:] -/
theorem run_from0R (po : Option Addr) (n c : Nat) (w : World) : (Instr.slice 22 (.slice po n c) (some (.int .i64 0)) none none).run Tryd.prog w = .ok (.slice po n c) w := by
  rw [run_slice_l (P := Tryd.prog) w 22 po n c underERc .i64 0 (by omega) (by omega), elemRc]
  cases po with
  | none => simp [Result.andThen, sliced]
  | some a =>
    by_cases h0 : c = 0
    · simp [Result.andThen, sliced, h0]
    · simp [Result.andThen, sliced, h0, add_zero']
/-- copy of records -/
theorem run_copyR (w : World) (g o dl dc : Nat) (a : Addr) (sl sc k : Nat) (hk : min sl dl = k) (cs : List Value) (hn : cs.length = k * 42) (hsrc : ∀ j v, cs[j]? = some v → w.cell? (a.add j) = some v) (ht : w.there g o cs.length) (h1 : ∀ v ∈ cs, v.oneCell' = true) (ty : TypeId) :
    (Builtin.copy_ #[22, 22] ty #[.slice (some ⟨g, o, none⟩) dl dc, .slice (some a) sl sc]).run Tryd.prog w = .ok (goInt k) (w.setCells g o cs) := by
  have hk' : Nat.min sl dl = k := hk
  have hl := run_loadCells_list (P := Tryd.prog) w a cs hsrc
  have hst := run_storeCells_cells (P := Tryd.prog) g o cs 0 w (by simpa using fun j hj => (ht j hj).1) (by simpa using fun j hj => (ht j hj).2) h1
  obtain ⟨i, hi0, hi⟩ := Option.map_eq_some_iff.1 sizeR
  simp only [Nat.add_zero] at hst
  rw [hn] at hl
  simp [Builtin.copy_, run_underlying Tryd.underlying22, Builtin.lenOf, Builtin.firstCells, sizeOf, typeInfo, hi0, hi, hk', hl, hst]
theorem one_rl {w : World} {g : Nat} {y : Rp} (hc : CAt w g y.r.cs 44) (hy : RpOk w y) : RL w (.slice (some ⟨g, 0, none⟩) 1 1) [y] :=
  ⟨_, 1, rfl, Nat.le_refl _, by simp, (fun e => by cases e), Or.inr ⟨g, 0, rfl, fun i x e j v hv => by
    cases i with
    | zero => simp at e; subst e; rw [hc.cell]; simpa using hv
    | succ i => simp at e⟩, fun x hx => by simp at hx; subst hx; exact hy⟩
theorem RpX.grown {B : Nat} {w w' : World} {x : Rp} {v : Value} {l : List Rp} (h : RpX B w x) (hb : RBuf B w v l) (hg : w.grownBy w' v.ownBlock) : RpX B w' x := by
  rcases hb.2 with ⟨rfl, _⟩ | ⟨g, cap, cur, rfl, hB, hc, _⟩
  · exact h.below ⟨hg.os, hg.tape, hg.output, hg.size, fun i hi => hg.block i hi (fun e => by cases e)⟩
  · exact h.other (cs := cur) (g := g) hc (Only.of_grown hg fun k e _ => by cases e; rfl)
theorem splice2a {Z a b : List Value} {k : Nat} (ha : a.length = k) (hz : k + b.length ≤ Z.length) : (setAll (setAll Z 0 a) k b).take (k + b.length) = a ++ b ∧ (setAll (setAll Z 0 a) k b).length = Z.length := by
  have e1 : setAll Z 0 a = a ++ Z.drop k := by have := setAll_splice (cs := Z) (vs := a) (o := 0) (by omega); simpa [ha] using this
  have e2 := setAll_splice (cs := a ++ Z.drop k) (vs := b) (o := k) (by rw [List.length_append, List.length_drop]; omega)
  rw [e1, e2, List.take_left' ha]
  refine ⟨?_, ?_⟩
  · rw [← List.append_assoc, List.take_left' (by rw [List.length_append]; omega)]
  · rw [List.length_append, List.length_append, List.length_drop, List.length_append, List.length_drop]; omega
theorem splice2b {Z a b : List Value} {k : Nat} (ha : a.length = k) (hz : k + b.length ≤ Z.length) : (setAll (setAll Z k b) 0 a).take (k + b.length) = a ++ b ∧ (setAll (setAll Z k b) 0 a).length = Z.length := by
  have e1 := setAll_splice (cs := Z) (vs := b) (o := k) hz
  have hl : (setAll Z k b).length = Z.length := by rw [e1, List.length_append, List.length_append, List.length_take, List.length_drop]; omega
  have e2 := setAll_splice (cs := setAll Z k b) (vs := a) (o := 0) (by omega)
  have hk : (Z.take k).length = k := by rw [List.length_take]; omega
  rw [e2, List.take_zero, List.nil_append, Nat.zero_add, ha, e1, List.drop_left' hk]
  refine ⟨?_, ?_⟩
  · rw [← List.append_assoc, List.take_left' (by rw [List.length_append]; omega)]
  · rw [List.length_append, List.length_append, List.length_drop]; omega
theorem drop_mul42 (n c : Nat) (h : n + 1 ≤ c) : 42 + n * 42 ≤ c * 42 := by omega
/-- A record ahead of others, in a row that has room. -/
theorem RBuf.mk2 {B : Nat} {w : World} {g c : Nat} {C : List Value} {y : Rp} {l : List Rp} (hB : B ≤ g) (hc : CAt w g C.toArray 44) (hm : c ≤ maxLen) (hn : l.length + 1 ≤ c) (hok : ∀ x ∈ y :: l, x.r.ok) (hl : C.length = c * 42) (ht : C.take (42 + (flatR l).length) = y.r.cs.toList ++ flatR l) : RBuf B w (.slice (some ⟨g, 0, none⟩) (l.length + 1) c) (y :: l) := by
  refine ⟨flatR_len hok, Or.inr ⟨g, c, C.toArray, rfl, hB, hc, hn, hm, by rw [List.size_toArray]; exact hl, ?_⟩⟩
  rw [List.toList_toArray, flatR_cons, ← ht, flatR_len (l := l) (fun x hx => hok x (by simp [hx])), List.length_cons]
  congr 1
  omega
set_option maxRecDepth 100000 in
set_option maxHeartbeats 1000000 in
theorem ins_nil (B : Nat) (v : Value) (y : Rp) (g : Nat) (w : World) (hl : Rs B w v []) (hc : CAt w g y.r.cs 44) (hy : RpX B w y) (hB : B ≤ w.heap.size) : Calls Tryd.prog 33 #[v, i64 0, .slice (some ⟨g, 0, none⟩) 1 1] w (DelS B w [y.rc]) := by
  obtain ⟨v1, w1, hr, hb1, hgr⟩ := hl.buf.app _ [y] (one_rl hc hy.one) (by simp) hB
  obtain ⟨po, c, rfl, hc1, hz1⟩ := hl.buf.form
  have HRUN := hid hr
  have HB1 := hid hb1
  have HG := hid hgr
  have HL := hid hl
  have HY := hid hy
  have HC := hid hc
  clear hr hb1 hgr hl hy hc
  have hs0 := run_from0R po 0 c
  go_enter Tryd.func33, Tryd.ntmps33
  go_wp2_with (at_builtin; refine wpList_append_run _ _ 22 22 rfl rfl _ _ _ rfl rfl HRUN.out ?_)
  go_ret
  have hbel := below_grown (Below.refl B w) HG.out hB (fun b hb => (own_ge HL.out.buf b hb).1)
  refine ⟨_, [y], rfl, ⟨HB1.out, fun x hx => ?_⟩, rfl, hbel⟩
  simp at hx
  subst hx
  exact HY.out.grown HL.out.buf HG.out
theorem firstC0 (a : Option Addr) (c : Nat) (w : World) : (Builtin.firstCells 42 0 (.slice a 0 c)).run Tryd.prog w = .ok (([] : List Value).toArray) w := by
  cases a <;> simp [Builtin.firstCells, loadCells]
  all_goals rfl
set_option maxRecDepth 100000 in
set_option maxHeartbeats 2000000 in
theorem ins_grow (B : Nat) (v : Value) (l : List Rp) (y : Rp) (g : Nat) (w : World) (hl : Rs B w v l) (hn : l.length ≤ 100000) (hne : 0 < l.length) (hc : CAt w g y.r.cs 44) (hy : RpX B w y) (hB : B ≤ w.heap.size) (po : Option Addr) (c : Nat) (hv : v = .slice po l.length c) (hroom : c < l.length + 1) : Calls Tryd.prog 33 #[v, i64 0, .slice (some ⟨g, 0, none⟩) 1 1] w (DelS B w (y.rc :: rcs l)) := by
  subst hv
  obtain ⟨i0, hi0, hz0, hzs, hzb⟩ := info_parts Tryd.infoRec
  have hrl := hl.rl hn
  obtain ⟨po', c', e, hnc, _, _, hcell, _⟩ := hrl
  cases e
  obtain ⟨b, o, rfl, hcells⟩ : ∃ b o, po = some ⟨b, o, none⟩ ∧ RCells w b o l := by
    rcases hcell with h | h
    · rw [h] at hne; cases hne
    · exact h
  have hok : ∀ x ∈ l, x.r.ok := fun x hx => (hl.each x hx).ok
  have hfl := flatR_len hok
  have hun := hcells.unflat hok
  have hbw : b < w.heap.size := by
    have := hun 0 _ (List.getElem?_eq_getElem (by rw [hfl]; omega))
    exact cell_lt' (a := ⟨b, o + 0, none⟩) (by rw [this]; simp)
  have hgw := hc.lt
  obtain ⟨G, hG⟩ : ∃ G, grownCap w (l.length + 1) c 44 = G := ⟨_, rfl⟩
  have hGn : l.length + 1 ≤ G := by rw [← hG]; exact grownCap_ge w _ _ _
  have hGm : G ≤ maxLen := by rw [← hG]; exact grownCap_le_maxLen w _ _ _ (by unfold maxLen; omega)
  obtain ⟨ROW, hROW⟩ : ∃ ROW : Array Value, ([] : List Value).toArray ++ Builtin.zeroCells (Value.agg zR.cs).cells (l.length + 1) ++ Builtin.zeroCells (Value.agg zR.cs).cells (G - (l.length + 1)) = ROW := ⟨_, rfl⟩
  have hRl : ROW.toList.length = G * 42 := by
    rw [← hROW]
    have e1 := zeroC_len (l.length + 1)
    have e2 := zeroC_len (G - (l.length + 1))
    rw [Array.length_toList] at e1 e2
    rw [Array.length_toList, Array.size_append, Array.size_append]
    show 0 + (Builtin.zeroCells zR.cs (l.length + 1)).size + (Builtin.zeroCells zR.cs (G - (l.length + 1))).size = _
    omega
  have hrz : ∀ ty, (Builtin.append_ #[22, 3] ty #[.slice (some ⟨b, o, none⟩) 0 c, .int .i64 ((l.length : Int) + 1)]).run Tryd.prog w = .ok (.slice (some ⟨w.heap.size, 0, none⟩) (l.length + 1) G) (w.drew.alloc (.cells ROW 44)) := fun ty => by
    have h := Lib.run_append_grow_zeros w 22 3 ty 44 i0 _ .i64 .i64 Tryd.underlying22 (by kernel_rfl) hi0 hz0 (some ⟨b, o, none⟩) 0 c [] (by rw [hzs]; exact firstC0 _ _ _) (l.length + 1) (by omega) (by omega) (by omega) (by omega) (by rw [hzb]; omega) (by rw [hzb, Nat.zero_add]; exact growslice_fits hroom (by omega))
    rw [Nat.zero_add, hG, hROW] at h
    rw [show (l.length : Int) + 1 = ((l.length + 1 : Nat) : Int) by omega]
    exact h
  clear hROW hG
  obtain ⟨W1, hW1⟩ : ∃ W1, w.drew.alloc (.cells ROW 44) = W1 := ⟨_, rfl⟩
  obtain ⟨N, hN⟩ : ∃ N, w.heap.size = N := ⟨_, rfl⟩
  have hC1 : CAt W1 N ROW.toList.toArray 44 := by rw [← hW1, ← hN]; exact CAt.made w.drew _ _
  have hBel1 : Below w.heap.size w W1 := by rw [← hW1]; exact below_on (below_drew w) (below_al w.drew _)
  rw [hW1, hN] at hrz
  have hcb1 : W1.rangeAt b o (flatR l) := rangeAt_below hun hBel1
  have hcg1 := hc.below hBel1
  -- the first copy
  have hcopA := run_copyR W1 N 0 (l.length + 1) G ⟨g, 0, none⟩ 1 1 1 (by omega) y.r.cs.toList (by rw [sizeR42 hy.ok]) (fun j v hj => by rw [add_none, Nat.zero_add, hcg1.cell]; simpa using hj) (fun j hj => by rw [sizeR42 hy.ok] at hj; exact ⟨by rw [hC1.cell, Nat.zero_add, List.getElem?_toArray, List.getElem?_eq_getElem (by omega)]; rfl, hC1.free _⟩) hy.one.one
  have hC2 := CAt.setCells y.r.cs.toList 0 _ _ hC1
  have hO2 := only_setCells (S := fun k => k = N) W1 N 0 y.r.cs.toList rfl
  obtain ⟨W2, hW2⟩ : ∃ W2, W1.setCells N 0 y.r.cs.toList = W2 := ⟨_, rfl⟩
  rw [hW2] at hcopA hC2 hO2
  rw [List.toList_toArray] at hC2
  have hlen2 : (setAll ROW.toList 0 y.r.cs.toList).length = G * 42 := by rw [setAll_splice (by rw [sizeR42 hy.ok]; omega), List.length_append, List.length_append, List.length_take, List.length_drop, sizeR42 hy.ok]; omega
  have hcb2 : W2.rangeAt b o (flatR l) := fun j v hv => by
    rw [World.cell?_of_block (a := ⟨b, o + j, none⟩) (hO2.block b (by have := hBel1.size; omega) (by omega))]
    exact hcb1 j v hv
  -- the second one
  have hcopB := fun n => run_copyR (W2.drewN n) N 42 l.length (G - 1) ⟨b, o, none⟩ l.length c l.length (by omega) (flatR l) hfl (fun j v hj => by rw [add_none]; exact hcb2 j v hj) (fun j hj => by rw [hfl] at hj; exact ⟨by show (W2.cell? _).isSome = true; rw [hC2.cell, List.getElem?_toArray, List.getElem?_eq_getElem (by rw [hlen2]; omega)]; rfl, hC2.free _⟩) (flatR_one fun x hx => (hl.each x hx).one)
  have hC3 := fun n => CAt.setCells (flatR l) 42 _ (W2.drewN n) hC2
  have hO3 := fun n => only_setCells (S := fun k => k = N) (W2.drewN n) N 42 (flatR l) rfl
  have hsp := splice2a (Z := ROW.toList) (a := y.r.cs.toList) (b := flatR l) (k := 42) (sizeR42 hy.ok) (by rw [hfl, hRl]; omega)
  have FIN : Hid (∀ n, Rs B ((W2.drewN n).setCells N 42 (flatR l)) (.slice (some ⟨N, 0, none⟩) (l.length + 1) G) (y :: l) ∧ Below B w ((W2.drewN n).setCells N 42 (flatR l))) := hid fun n => by
    have hbel : Below w.heap.size w ((W2.drewN n).setCells N 42 (flatR l)) := below_tr (below_tr (below_tr hBel1 (hO2.below hBel1.size (fun i e => by omega))) (below_less (below_drewN W2 n) (by have := hO2.size; have := hBel1.size; omega))) ((hO3 n).below (by show _ ≤ W2.heap.size; have := hO2.size; have := hBel1.size; omega) (fun i e => by omega))
    refine ⟨⟨RBuf.mk2 (by omega) (hC3 n) hGm hGn (fun x hx => ?_) (by rw [hsp.2, hRl]) hsp.1, fun x hx => ?_⟩, below_less hbel hB⟩
    · rcases List.mem_cons.1 hx with rfl | hx
      · exact hy.ok
      · exact hok x hx
    · rcases List.mem_cons.1 hx with rfl | hx
      · exact hy.below hbel
      · exact (hl.each x hx).below hbel
  have mixed : Tryd.prog.follows .mixedOrders = true := by kernel_rfl
  have hw1 : IntKind.i64.wrap (1 : Int) = 1 := by rw [IntKind.wrap_i64]; omega
  have hs0 := run_from0R (some ⟨b, o, none⟩) l.length c
  have hs1 : ∀ w, (Instr.slice 22 (.slice (some ⟨b, o, none⟩) l.length c) none (some (.int .i64 0)) none).run Tryd.prog w = .ok (.slice (some ⟨b, o, none⟩) 0 c) w := run_headR (some ⟨b, o, none⟩) l.length c 0 (by omega)
  have hs2 := run_from0R (some ⟨N, 0, none⟩) (l.length + 1) G
  have hs3 : ∀ w, (Instr.slice 22 (.slice (some ⟨N, 0, none⟩) (l.length + 1) G) (some (.int .i64 1)) none none).run Tryd.prog w = .ok (.slice (some ⟨N, 42, none⟩) l.length (G - 1)) w := run_fromR N (l.length + 1) G 1 (by omega) (by omega)
  have hl0 : ¬ ((0 : Int) = (l.length : Int)) := by omega
  have hcl : (c : Int) < (l.length : Int) + 1 := by omega
  have HA := hid hcopA
  have HBC := hid hcopB
  have HRZ := hid hrz
  clear hcopA hcopB hrz hC3 hO3 hsp hcb2 hlen2 hC2 hO2 hW2 hcb1 hcg1 hBel1 hC1 hN hW1 hRl hun hcells hcell hl hy hc hok hfl
  go_enter Tryd.func33, Tryd.ntmps33
  go_wp2_with (first
    | (at_builtin; refine wpList_append_run _ _ 22 3 rfl rfl _ _ _ rfl rfl (HRZ.out _) ?_)
    | ((with_reducible refine wpList_copy_run _ _ 22 22 rfl ?_ (.slice (some ⟨N, 0, none⟩) (l.length + 1) G) (.slice (some ⟨g, 0, none⟩) 1 1) _ ?_ ?_ (HA.out _) ?_); exact rfl; exact rfl; exact rfl))

  go_region_law_o (refine step_copy_run rfl _ _ 22 22 rfl (.slice (some ⟨N, 42, none⟩) l.length (G - 1)) (.slice (some ⟨b, o, none⟩) l.length c) _ (by simp [Act.eval, Act.put]) (by simp [Act.eval, Act.put]) (HBC.out 1 _) ?_)
  go_wp2
  go_ret
  exact ⟨_, y :: l, rfl, (FIN.out 1).1, rfl, (FIN.out 1).2⟩
theorem CAt.shape {w : World} {b : Nat} {cs : Array Value} {t : TypeId} (h : CAt w b cs t) : w.shape? b = some (t, cs.size) := by
  simp [World.shape?, show w.heap[b]? = _ from h]
set_option maxRecDepth 100000 in
set_option maxHeartbeats 2000000 in
theorem ins_room (B : Nat) (v : Value) (l : List Rp) (y : Rp) (g : Nat) (w : World) (hl : Rs B w v l) (hn : l.length ≤ 100000) (hne : 0 < l.length) (hc : CAt w g y.r.cs 44) (hy : RpX B w y) (hB : B ≤ w.heap.size) (hg : ∀ b, v.ownBlock = some b → b ≠ g) (po : Option Addr) (c : Nat) (hv : v = .slice po l.length c) (hroom : l.length + 1 ≤ c) : Calls Tryd.prog 33 #[v, i64 0, .slice (some ⟨g, 0, none⟩) 1 1] w (DelS B w (y.rc :: rcs l)) := by
  subst hv
  have hok : ∀ x ∈ l, x.r.ok := fun x hx => (hl.each x hx).ok
  have hfl := flatR_len hok
  obtain ⟨b, cur, rfl, hBb, hcb, hm, h3, h4⟩ : ∃ b cur, po = some ⟨b, 0, none⟩ ∧ B ≤ b ∧ CAt w b cur 44 ∧ c ≤ maxLen ∧ cur.size = c * 42 ∧ cur.toList.take (l.length * 42) = flatR l := by
    rcases hl.buf.2 with ⟨e, h0⟩ | ⟨g', cap, cur, e, hB', hg', h1, hm, h3, h4⟩
    · omega
    · cases e; exact ⟨g', cur, rfl, hB', hg', hm, h3, h4⟩
  have hbg : g ≠ b := fun e => hg b rfl e.symm
  have hcl : cur.toList.length = c * 42 := by rw [Array.length_toList, h3]
  have hm63 : c ≤ 9223372036854775807 := by unfold maxLen at hm; exact hm
  have hun : w.rangeAt b 0 (flatR l) := fun j v hv => by
    have hj : j < l.length * 42 := by
      rcases Nat.lt_or_ge j (l.length * 42) with q | q
      · exact q
      · rw [List.getElem?_eq_none (by omega)] at hv; cases hv
    rw [Nat.zero_add, hcb.cell]
    rw [← h4, List.getElem?_take, if_pos hj] at hv
    simpa using hv
  have hov : ∀ W lb cb, CAt W g y.r.cs 44 → CAt W b cur 44 → (callFunc 58 #[.slice (some ⟨g, 0, none⟩) 1 1, .slice (some ⟨b, 42, none⟩) lb cb]).run Tryd.prog W = .ok (.value (.bool false)) W := fun W lb cb h1 h2 => by
    rw [run_callFunc_extern Tryd.func58 (by kernel_rfl) (by kernel_rfl) (by kernel_rfl) (e := Extern.SlicesOverlaps.overlaps #[22, 22] #[4]) (by kernel_rfl),
      Lib.run_overlaps_apart W 22 4 44 Tryd.underlying22 42 (fun w => by obtain ⟨i, hi0, hi⟩ := Option.map_eq_some_iff.1 sizeR; simp [sizeOf, typeInfo, hi0, hi]) ⟨g, 0, none⟩ ⟨b, 42, none⟩ 1 1 lb cb hbg _ _ _ _ h1.shape h2.shape (by rw [h3]; omega) (h1.free _) (h1.free _)]
    rfl
  have hov' := hov w l.length (c - 1) hc hcb
  -- the first copy
  have hcopA := fun n => run_copyR (w.drewN n) b 42 l.length (c - 1) ⟨b, 0, none⟩ (l.length + 1) c l.length (by omega) (flatR l) hfl (fun j v hj => by rw [add_none]; exact hun j v hj) (fun j hj => by rw [hfl] at hj; exact ⟨by show (w.cell? _).isSome = true; rw [hcb.cell, Array.getElem?_eq_getElem (by omega)]; rfl, hcb.free _⟩) (flatR_one fun x hx => (hl.each x hx).one)
  have hC2 := fun n => CAt.setCells (flatR l) 42 cur (w.drewN n) hcb
  have hO2 := fun n => only_setCells (S := fun k => k = b) (w.drewN n) b 42 (flatR l) rfl
  have hlen2 : (setAll cur.toList 42 (flatR l)).length = c * 42 := by rw [setAll_splice (by omega), List.length_append, List.length_append, List.length_take, List.length_drop]; omega
  obtain ⟨W2, hW2⟩ : ∃ W2 : Nat → World, W2 = fun n => (w.drewN n).setCells b 42 (flatR l) := ⟨_, rfl⟩
  have hcopA' : ∀ n ty, (Builtin.copy_ #[22, 22] ty #[.slice (some ⟨b, 42, none⟩) l.length (c - 1), .slice (some ⟨b, 0, none⟩) (l.length + 1) c]).run Tryd.prog (w.drewN n) = .ok (goInt l.length) (W2 n) := by rw [hW2]; exact hcopA
  have hC2' : ∀ n, CAt (W2 n) b (setAll cur.toList 42 (flatR l)).toArray 44 := by rw [hW2]; exact hC2
  have hO2' : ∀ n, Only (fun k => k = b) w (W2 n) := fun n => by rw [hW2]; exact (Only.of_below (below_drewN w n)).trans (hO2 n)
  clear hcopA hC2 hO2 hW2
  have hcg2 : ∀ n, CAt (W2 n) g y.r.cs 44 := fun n => hc.keep ((hO2' n).block g hc.lt hbg)
  -- the second one
  have hcopB := fun n => run_copyR (W2 n) b 0 (l.length + 1) c ⟨g, 0, none⟩ 1 1 1 (by omega) y.r.cs.toList (by rw [sizeR42 hy.ok]) (fun j v hj => by rw [add_none, Nat.zero_add, (hcg2 n).cell]; simpa using hj) (fun j hj => by rw [sizeR42 hy.ok] at hj; exact ⟨by rw [(hC2' n).cell, List.getElem?_toArray, List.getElem?_eq_getElem (by rw [hlen2]; omega)]; rfl, (hC2' n).free _⟩) hy.one.one
  have hC3 := fun n => CAt.setCells y.r.cs.toList 0 _ (W2 n) (hC2' n)
  have hO3 := fun n => only_setCells (S := fun k => k = b) (W2 n) b 0 y.r.cs.toList rfl
  have hsp := splice2b (Z := cur.toList) (a := y.r.cs.toList) (b := flatR l) (k := 42) (sizeR42 hy.ok) (by omega)
  have FIN : Hid (∀ n, Rs B ((W2 n).setCells b 0 y.r.cs.toList) (.slice (some ⟨b, 0, none⟩) (l.length + 1) c) (y :: l) ∧ Below B w ((W2 n).setCells b 0 y.r.cs.toList)) := hid fun n => by
    have ho : Only (fun k => k = b) w ((W2 n).setCells b 0 y.r.cs.toList) := (hO2' n).trans (hO3 n)
    refine ⟨⟨RBuf.mk2 hBb (hC3 n) hm hroom (fun x hx => ?_) (by rw [List.toList_toArray, hsp.2, hcl]) hsp.1, fun x hx => ?_⟩, ho.below hB (fun i e => by omega)⟩
    · rcases List.mem_cons.1 hx with rfl | hx
      · exact hy.ok
      · exact hok x hx
    · rcases List.mem_cons.1 hx with rfl | hx
      · exact hy.other hcb ho
      · exact (hl.each x hx).other hcb ho
  have mixed : Tryd.prog.follows .mixedOrders = true := by kernel_rfl
  have hw1 : IntKind.i64.wrap (1 : Int) = 1 := by rw [IntKind.wrap_i64]; omega
  have hs0 := run_from0R (some ⟨b, 0, none⟩) l.length c
  have hs1 : ∀ w, (Instr.slice 22 (.slice (some ⟨b, 0, none⟩) l.length c) none (some (.int .i64 ((l.length : Int) + 1))) none).run Tryd.prog w = .ok (.slice (some ⟨b, 0, none⟩) (l.length + 1) c) w := run_headR (some ⟨b, 0, none⟩) l.length c (l.length + 1) (by omega)
  have hs2 := run_from0R (some ⟨b, 0, none⟩) (l.length + 1) c
  have hs3 : ∀ w, (Instr.slice 22 (.slice (some ⟨b, 0, none⟩) (l.length + 1) c) (some (.int .i64 1)) none none).run Tryd.prog w = .ok (.slice (some ⟨b, 42, none⟩) l.length (c - 1)) w := run_fromR b (l.length + 1) c 1 (by omega) (by omega)
  have hl0 : ¬ ((0 : Int) = (l.length : Int)) := by omega
  have hcl' : ¬ (c : Int) < (l.length : Int) + 1 := by omega
  have HA := hid hcopA'
  have HBC := hid hcopB
  clear hcopA' hcopB hC3 hO3 hsp hcg2 hO2' hC2' hlen2 hun hcl hl hy hc hok hfl hov hcb h3 h4
  go_enter Tryd.func33, Tryd.ntmps33
  go_wp2_with (simp only [hov'])
  go_region_law_o (refine step_copy_run rfl _ _ 22 22 rfl (.slice (some ⟨b, 42, none⟩) l.length (c - 1)) (.slice (some ⟨b, 0, none⟩) (l.length + 1) c) _ (by simp [Act.eval, Act.put]) (by simp [Act.eval, Act.put]) (HA.out 1 _) ?_)
  go_wp2_with ((with_reducible refine wpList_copy_run _ _ 22 22 rfl ?_ (.slice (some ⟨b, 0, none⟩) (l.length + 1) c) (.slice (some ⟨g, 0, none⟩) 1 1) _ ?_ ?_ (HBC.out 1 _) ?_); exact rfl; exact rfl; exact rfl)
  go_ret
  exact ⟨_, y :: l, rfl, (FIN.out 1).1, rfl, (FIN.out 1).2⟩
theorem insert_any (B : Nat) (v : Value) (l : List Rp) (y : Rp) (g : Nat) (w : World) (hl : Rs B w v l) (hn : l.length ≤ 100000) (hc : CAt w g y.r.cs 44) (hy : RpX B w y) (hB : B ≤ w.heap.size) (hg : ∀ b, v.ownBlock = some b → b ≠ g) : Calls Tryd.prog 33 #[v, i64 0, .slice (some ⟨g, 0, none⟩) 1 1] w (DelS B w (y.rc :: rcs l)) := by
  by_cases h0 : l = []
  · subst h0
    exact ins_nil B v y g w hl hc hy hB
  · have hne : 0 < l.length := List.length_pos_iff.2 h0
    obtain ⟨po, c, hv, _⟩ := hl.buf.form
    by_cases hr : c < l.length + 1
    · exact ins_grow B v l y g w hl hn hne hc hy hB po c hv hr
    · exact ins_room B v l y g w hl hn hne hc hy hB hg po c hv (by omega)
#print axioms insert_any
end Go.Proofs.YtcbmimjjpkkoeaaDoor

/- journal.Find, Newest, Copy. -/
namespace Go.Proofs.YtcbmimjjpkkoeaaDoor
open Go Go.RowKit

theorem sizeJ : (Tryd.prog.info? 24).map (·.size) = some 2 := by kernel_rfl
theorem underJrn : Tryd.prog.underlying 24 = some (.struct (Tryd.prog.fieldsOf 24)) := by kernel_rfl
theorem zeroJ : (Tryd.prog.info? 24).map (·.zero) = some (some (.agg (jC 0 (.slice none 0 0)))) := by kernel_rfl
theorem builtZR : Tryd.prog.built 44 [] = some zR.cs := by kernel_rfl
theorem jC_size (s : Int) (v : Value) : (jC s v).size = 2 := rfl
theorem wpList_allocJ {ops : Array Oper} {rest : List Oper} {o : Oper} {a : Act} {w : World} {Q : Exit → Act → World → Prop} (hg : o.guard = none) (ho : o.op = .alloc 24)
    (h : ∀ w1 g, CAt w1 g (jC 0 (.slice none 0 0)) 24 → Below w.heap.size w w1 → w.heap.size = g → wpList Tryd.prog ops Q rest (a.put o.dst (ptr g)) w1) : wpList Tryd.prog ops Q (o :: rest) a w := by
  refine wpList_plain hg fun _ hK => ?_
  obtain ⟨i, hq, hz'⟩ := Option.map_eq_some_iff.1 zeroJ
  unfold Oper.wp execOp
  simp only [ho, Instr.alloc, zeroValue, typeInfo, Sem.run_bind, newVar, newRow]
  simp [hq, hz', Value.cells]
  exact hK _ _ (h _ _ (CAt.made _ _ _) (below_al _ _) rfl)
theorem run_storeJ {w : World} {g : Nat} {s0 s : Int} {v0 v : Value} (hv : v.oneCell' = true) (hb : CAt w g (jC s0 v0) 24) : (Instr.storeAt 24 (.pointer (some ⟨g, 0, none⟩)) (.agg (jC s v))).run Tryd.prog w = .ok () (w.setRow g (jC s v)) ∧ CAt (w.setRow g (jC s v)) g (jC s v) 24 := by
  have e := run_storeVar_row (P := Tryd.prog) w g 24 24 (jC s0 v0) (jC s v) hb (by rw [jC_size]; exact sizeJ) rfl (by simp [jC, hv, show (i64 s).oneCell' = true from rfl])
  refine ⟨?_, setRow_heap w g (jC s0 v0) (jC s v) _ _ hb⟩
  simp only [Instr.storeAt, Instr.sureAddr, Sem.run_bind, Sem.run_pure, Result.andThen_ok, e]
theorem wpList_storeJ {ops : Array Oper} {rest : List Oper} {o : Oper} {a : Act} {w : World} {Q : Exit → Act → World → Prop} (hg : o.guard = none) (hdst : o.dst = none) (x y : Operand) (ho : o.op = .store 24 x y) (g : Nat) (hx : a.eval x = ptr g) {s0 s : Int} {v0 v : Value} (hy : a.eval y = .agg (jC s v)) (hv : v.oneCell' = true) (hb : CAt w g (jC s0 v0) 24)
    (h : ∀ w1, CAt w1 g (jC s v) 24 → Only (fun b => b = g) w w1 → wpList Tryd.prog ops Q rest a w1) : wpList Tryd.prog ops Q (o :: rest) a w := by
  refine wpList_plain hg fun _ hK => ?_
  obtain ⟨e1, e2⟩ := run_storeJ (s := s) hv hb
  unfold Oper.wp execOp
  simp only [ho, hx, hy, ptr, Sem.run_bind, e1, Result.andThen_ok, Sem.run_pure]
  refine hK (a.put o.dst undef) _ ?_
  rw [hdst]
  exact h _ e2 (only_setRow _ _ _ rfl)
theorem ret_rowJ2 {fn : Func} {q u : Tmp} (h : fn.results = #[.cell q 24, .tmp u]) {R : Ending → World → Prop} {a : Act} {w : World} (g : Nat) {s : Int} {v x : Value}
    (hd0 : a.defers = []) (hp : a.tmps.getD q undef = .pointer (some ⟨g, 0, none⟩)) (hx : a.tmps.getD u undef = x) (hb : CAt w g (jC s v) 24) (hR : R (.returned (.tuple #[.agg (jC s v), x])) w) : bodyPost Tryd.prog fn R .ret a w := by
  refine ⟨hd0, .tuple #[.agg (jC s v), x], ?_, hR⟩
  have hl := run_loadVar_row (P := Tryd.prog) w g 24 24 (jC s v) (0, 0) _ hb underJrn rfl (by rw [jC_size]; exact sizeJ)
  simp only [results, h]
  simp only [Array.getD_eq_getD_getElem?] at hp hx
  simp [Result.andThen, hp, hx, asAddr, hl]
theorem ret_rowJ1 {fn : Func} {q : Tmp} (h : fn.results = #[.cell q 24]) {R : Ending → World → Prop} {a : Act} {w : World} (g : Nat) {s : Int} {v : Value}
    (hd0 : a.defers = []) (hp : a.tmps.getD q undef = .pointer (some ⟨g, 0, none⟩)) (hb : CAt w g (jC s v) 24) (hR : R (.returned (.agg (jC s v))) w) : bodyPost Tryd.prog fn R .ret a w :=
  ⟨hd0, _, results_cell_row h _ _ g 24 (jC s v) (0, 0) _ hp hb underJrn rfl (by rw [jC_size]; exact sizeJ), hR⟩
theorem ret_rowR2 {fn : Func} {q u : Tmp} (h : fn.results = #[.cell q 44, .tmp u]) {R : Ending → World → Prop} {a : Act} {w : World} (g : Nat) {r : Rv} {x : Value}
    (hd0 : a.defers = []) (hp : a.tmps.getD q undef = .pointer (some ⟨g, 0, none⟩)) (hx : a.tmps.getD u undef = x) (hb : RBox w g r) (hr : r.ok) (hR : R (.returned (.tuple #[.agg r.cs, x])) w) : bodyPost Tryd.prog fn R .ret a w := by
  refine ⟨hd0, .tuple #[.agg r.cs, x], ?_, hR⟩
  have hl := run_loadVar_row (P := Tryd.prog) w g 44 44 r.cs (0, 0) _ hb.at_ underRec rfl (by rw [hr.size]; exact sizeR)
  simp only [results, h]
  simp only [Array.getD_eq_getD_getElem?] at hp hx
  simp [Result.andThen, hp, hx, asAddr, hl]
theorem CAt.wholeJ {w : World} {g : Nat} {s : Int} {v : Value} (h : CAt w g (jC s v) 24) : ∀ j u, (jC s v)[j]? = some u → w.cell? ⟨g, 0 + j, none⟩ = some u := fun j u hu => by rw [Nat.zero_add, h.cell, hu]
/-- The parameter's block and the result's. -/
structure F2 (w : World) (g1 g2 : Nat) (s : Int) (v : Value) (W : World) : Prop where
  below : Below w.heap.size w W
  cj : CAt W g1 (jC s v) 24
  cr : RBox W g2 zR
theorem F2.on {w W W' : World} {g1 g2 : Nat} {s : Int} {v : Value} (h : F2 w g1 g2 s v W) (hb : Below W.heap.size W W') : F2 w g1 g2 s v W' := ⟨below_on h.below hb, h.cj.below hb, h.cr.below zR_ok hb⟩
def RecE (w : World) (rc : Rc) (rest : Array Value) (e : Ending) (w' : World) : Prop := ∃ y : Rp, e = .returned (.tuple (#[.agg y.r.cs] ++ rest)) ∧ y.rc = rc ∧ RpX w.heap.size w' y ∧ Below w.heap.size w w'
set_option maxRecDepth 100000 in
set_option maxHeartbeats 1000000 in
theorem find_bad (s : Int) (v : Value) (l : List Rp) (id : ByteArray) (w : World) (hl : RL w v l) (h : okJ ⟨s, rcs l⟩ = false) : Calls Tryd.prog 18 #[.agg (jC s v), .string id] w fun e w' => e = .returned (.tuple #[.agg zR.cs, i64 0, i64 2]) ∧ Below w.heap.size w w' := by
  have HL := hid hl
  obtain ⟨po, c, rfl, _⟩ := hl
  have hck := fun W (hW : Below w.heap.size w W) => jcheck_any s _ l W (HL.out.below hW)
  rw [h] at hck
  simp only [Bool.false_eq_true, if_false] at hck
  have HCK := hid hck
  obtain ⟨Z, hZ⟩ : ∃ Z, zR = Z := ⟨_, rfl⟩
  have HZ := hid hZ
  clear hck h hZ
  go_enter Tryd.func18, Tryd.ntmps18
  go_wp2_with (first
    | ((with_reducible refine wpList_boxT 24 rfl _ rfl (jC s (.slice po l.length c)) ?_ ?_); exact rfl; intro w1 g1 hc1 hb1 hg1; have HC1 := hid hc1; have HB1 := hid hb1; clear hb1 hc1)
    | ((with_reducible refine wpList_allocR rfl rfl ?_); intro w2 g2 hz2 hb2 hg2; have HF : Hid (F2 w g1 g2 s (.slice po l.length c) w2) := hid ⟨below_on HB1.out hb2, HC1.out.below hb2, hz2⟩; have HG := hid (show w.heap.size ≤ g2 by have := HB1.out.size; omega); clear hz2 hb2 hg2)
    | ((with_reducible refine wpList_load_at 24 _ rfl ?_ g1 0 ?_ (jC s (.slice po l.length c)) (.struct (Tryd.prog.fieldsOf 24)) ?_ underJrn rfl ?_ ?_); exact rfl; exact rfl; exact HF.out.cj.wholeJ; exact sizeJ)
    | (go_at_call 24; refine (HCK.out _ HF.out.below).mono ?_; rintro e w3 ⟨rfl, hb3⟩; replace HF := hid (HF.out.on hb3); clear hb3)
    | ((with_reducible refine wpList_build_want 44 _ rfl ?_ Z.cs ?_ ?_); exact rfl; (rw [← HZ.out]; exact builtZR))
    | ((with_reducible refine wpList_storeR rfl rfl _ _ rfl g2 ?_ (r := Z) ?_ zR_ok ?_ ?_ HF.out.cr ?_); exact rfl; exact rfl; (rw [← HZ.out]; exact zR_ok); (rw [← HZ.out]; rfl); intro w5 h5 o5; have H5 := hid h5; have O5 := hid o5; clear h5 o5))
  refine ret_row3 rfl g2 rfl rfl rfl rfl H5.out (by rw [← HZ.out]; exact zR_ok) ⟨by rw [← HZ.out]; rfl, ?_⟩
  exact below_tr HF.out.below (O5.out.below HF.out.below.size (fun i e => by have := HG.out; omega))
set_option maxRecDepth 100000 in
set_option maxHeartbeats 1000000 in
theorem find_miss (s : Int) (v : Value) (l : List Rp) (id : ByteArray) (w : World) (hl : RL w v l) (h : okJ ⟨s, rcs l⟩ = true) (ha : atI (rcs l) (lst id) = none) : Calls Tryd.prog 18 #[.agg (jC s v), .string id] w fun e w' => e = .returned (.tuple #[.agg zR.cs, i64 0, i64 6]) ∧ Below w.heap.size w w' := by
  have HL := hid hl
  obtain ⟨po, c, rfl, _⟩ := hl
  have hck := fun W (hW : Below w.heap.size w W) => jcheck_any s _ l W (HL.out.below hW)
  rw [h] at hck
  simp only [if_true] at hck
  have HCK := hid hck
  have hpl := fun W (hW : Below w.heap.size w W) => place_any _ l id W (HL.out.below hW)
  rw [ha] at hpl
  have HPL : Hid (∀ W, Below w.heap.size w W → Calls Tryd.prog 38 #[.slice po l.length c, .string id] W fun e w' => e = .returned (i64 (-1)) ∧ Below W.heap.size W w') := hid hpl
  clear hck h hpl ha
  obtain ⟨Z, hZ⟩ : ∃ Z, zR = Z := ⟨_, rfl⟩
  have HZ := hid hZ
  clear hZ
  go_enter Tryd.func18, Tryd.ntmps18
  go_wp2_with (first
    | ((with_reducible refine wpList_boxT 24 rfl _ rfl (jC s (.slice po l.length c)) ?_ ?_); exact rfl; intro w1 g1 hc1 hb1 hg1; have HC1 := hid hc1; have HB1 := hid hb1; clear hb1 hc1)
    | ((with_reducible refine wpList_allocR rfl rfl ?_); intro w2 g2 hz2 hb2 hg2; have HF : Hid (F2 w g1 g2 s (.slice po l.length c) w2) := hid ⟨below_on HB1.out hb2, HC1.out.below hb2, hz2⟩; have HG := hid (show w.heap.size ≤ g2 by have := HB1.out.size; omega); clear hz2 hb2 hg2)
    | ((with_reducible refine wpList_load_at 24 _ rfl ?_ g1 0 ?_ (jC s (.slice po l.length c)) (.struct (Tryd.prog.fieldsOf 24)) ?_ underJrn rfl ?_ ?_); exact rfl; exact rfl; exact HF.out.cj.wholeJ; exact sizeJ)
    | (go_at_call 24; refine (HCK.out _ HF.out.below).mono ?_; rintro e w3 ⟨rfl, hb3⟩; replace HF := hid (HF.out.on hb3); have c1 := HF.out.cj.j1; clear hb3)
    | (go_at_call 38; refine (HPL.out _ HF.out.below).mono ?_; rintro e w4 ⟨rfl, hb4⟩; replace HF := hid (HF.out.on hb4); clear c1; have c1 := HF.out.cj.j1; clear hb4)
    | ((with_reducible refine wpList_build_want 44 _ rfl ?_ Z.cs ?_ ?_); exact rfl; (rw [← HZ.out]; exact builtZR))
    | ((with_reducible refine wpList_storeR rfl rfl _ _ rfl g2 ?_ (r := Z) ?_ zR_ok ?_ ?_ HF.out.cr ?_); exact rfl; exact rfl; (rw [← HZ.out]; exact zR_ok); (rw [← HZ.out]; rfl); intro w5 h5 o5; have H5 := hid h5; have O5 := hid o5; clear h5 o5))
  refine ret_row3 rfl g2 rfl rfl rfl rfl H5.out (by rw [← HZ.out]; exact zR_ok) ⟨by rw [← HZ.out]; rfl, ?_⟩
  exact below_tr HF.out.below (O5.out.below HF.out.below.size (fun i e => by have := HG.out; omega))
set_option maxRecDepth 100000 in
set_option maxHeartbeats 1000000 in
theorem find_ok (s : Int) (v : Value) (l : List Rp) (id : ByteArray) (w : World) (hl : RL w v l) (h : okJ ⟨s, rcs l⟩ = true) (i : Nat) (ha : atI (rcs l) (lst id) = some i) (x : Rp) (hx : l[i]? = some x) : Calls Tryd.prog 18 #[.agg (jC s v), .string id] w (RecE w x.rc #[i64 i, i64 0]) := by
  have HL := hid hl
  obtain ⟨po, c, rfl, _⟩ := hl
  have hck := fun W (hW : Below w.heap.size w W) => jcheck_any s _ l W (HL.out.below hW)
  rw [h] at hck
  simp only [if_true] at hck
  have HCK := hid hck
  have hpl := fun W (hW : Below w.heap.size w W) => place_any _ l id W (HL.out.below hW)
  rw [ha] at hpl
  have HPL : Hid (∀ W, Below w.heap.size w W → Calls Tryd.prog 38 #[.slice po l.length c, .string id] W fun e w' => e = .returned (i64 (i : Int)) ∧ Below W.heap.size W w') := hid hpl
  have hil := (List.getElem?_eq_some_iff.1 hx).1
  have hil' : (i : Int) < (l.length : Int) := by omega
  obtain ⟨b, o, x', e1, hx', hrx, hkx, hox⟩ := HL.out.at (Below.refl w.heap.size w) hil
  rw [hx] at hx'
  cases hx'
  subst e1
  have hok := hkx.ok
  have HR := hid hrx
  have HXO := hid hkx
  clear hck h hpl ha hrx hkx hx
  go_enter Tryd.func18, Tryd.ntmps18
  go_wp2_with (first
    | ((with_reducible refine wpList_boxT 24 rfl _ rfl (jC s (.slice (some ⟨b, o, none⟩) l.length c)) ?_ ?_); exact rfl; intro w1 g1 hc1 hb1 hg1; have HC1 := hid hc1; have HB1 := hid hb1; clear hb1 hc1)
    | ((with_reducible refine wpList_allocR rfl rfl ?_); intro w2 g2 hz2 hb2 hg2; have HF : Hid (F2 w g1 g2 s (.slice (some ⟨b, o, none⟩) l.length c) w2) := hid ⟨below_on HB1.out hb2, HC1.out.below hb2, hz2⟩; have HG := hid (show w.heap.size ≤ g2 by have := HB1.out.size; omega); clear hz2 hb2 hg2)
    | ((with_reducible refine wpList_load_at 24 _ rfl ?_ g1 0 ?_ (jC s (.slice (some ⟨b, o, none⟩) l.length c)) (.struct (Tryd.prog.fieldsOf 24)) ?_ underJrn rfl ?_ ?_); exact rfl; exact rfl; exact HF.out.cj.wholeJ; exact sizeJ)
    | (go_at_call 24; refine (HCK.out _ HF.out.below).mono ?_; rintro e w3 ⟨rfl, hb3⟩; replace HF := hid (HF.out.on hb3); have c1 := HF.out.cj.j1; clear hb3)
    | (go_at_call 38; refine (HPL.out _ HF.out.below).mono ?_; rintro e w4 ⟨rfl, hb4⟩; replace HF := hid (HF.out.on hb4); clear c1; have c1 := HF.out.cj.j1; clear hb4)
    | ((with_reducible refine wpList_loadM rfl _ rfl b (o + i * 42) ?_ x.r hok (rangeAt_below HR.out HF.out.below) ?_); exact rfl)
    | (go_at_call 34; refine (copyR_any x _ (HXO.out.below HF.out.below)).mono ?_; rintro e w5 ⟨y, rfl, hyx, hy, hyo, hb5⟩; have HW4 := hid HF.out.below.size; replace HF := hid (HF.out.on hb5); have HY := hid (hy.base HW4.out); have HYX := hid hyx; have hyk := hy.ok; clear hyx hy hb5 c1)
    | ((with_reducible refine wpList_storeR rfl rfl _ _ rfl g2 ?_ (r := y.r) ?_ zR_ok hyk hyo HF.out.cr ?_); exact rfl; exact rfl; intro w6 h6 o6; have H6 := hid h6; have O6 := hid o6; have HY6 := hid (HY.out.other HF.out.cr.at_ o6); clear h6 o6))
  refine ret_row3 rfl g2 rfl rfl rfl rfl H6.out hyk ⟨y, rfl, HYX.out, HY6.out, ?_⟩
  exact below_tr HF.out.below (O6.out.below HF.out.below.size (fun i e => by have := HG.out; omega))
#print axioms find_ok
end Go.Proofs.YtcbmimjjpkkoeaaDoor
