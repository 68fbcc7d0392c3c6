/- Texts laid into one: the remark ahead of each part says what is proved there. -/
import Derived.Test.YtcbmimjjpkkoeaaQaw
import Derived.Test.YtcbmimjjpkkoeaaQas
import Derived.Deep.Cut
/- What JournalEdits carries; its early ends. -/
namespace Go.Proofs.Ytcbmimjjpkkoeaa
open Go Go.RowKit

theorem fill_two (C V U : Array Value) (hC : C.size = 84) (hV : V.size = 42) (hU : U.size = 42) : Instr.fill (fun i => some (i * 42, 42)) C [(0, .agg V), (1, .agg U)] = some (V ++ U) := by
  have e1 : ((V.zipIdx.foldl (fun cs (p : Value × Nat) => cs.setIfInBounds (0 * 42 + p.2) p.1) C)).toList = V.toList ++ C.toList.drop 42 := by
    rw [← Array.foldl_toList, Array.toList_zipIdx]
    have e := fold_zip V.toList 0 C
    simp only [Nat.zero_mul, Nat.zero_add]
    refine Eq.trans ?_ (e.trans ?_)
    · rfl
    · rw [setAll_splice (by simp [hC, hV]), List.take_zero, List.nil_append, Nat.zero_add, Array.length_toList, hV]
  obtain ⟨D, hD⟩ : ∃ D, (V.zipIdx.foldl (fun cs (p : Value × Nat) => cs.setIfInBounds (0 * 42 + p.2) p.1) C) = D := ⟨_, rfl⟩
  rw [hD] at e1
  have hDs : D.size = 84 := by rw [← Array.length_toList, e1]; simp [hC, hV]
  simp only [Instr.fill, Value.cells, hV, hU, ne_eq, not_true_eq_false, decide_false, Bool.false_or, decide_eq_true_eq, hD]
  rw [if_neg (by omega), if_neg (by omega)]
  congr 1
  apply Array.toList_inj.1
  have e2 : ∀ (l : List Value) (k : Nat) (E : Array Value), ((l.zipIdx k).foldl (fun cs (p : Value × Nat) => cs.setIfInBounds (1 * 42 + p.2) p.1) E).toList = setAll E.toList (42 + k) l := by
    intro l
    induction l with
    | nil => intro k E; rfl
    | cons a r ih => intro k E; rw [List.zipIdx_cons, List.foldl_cons, ih (k + 1), setAll, Array.toList_setIfInBounds, Nat.one_mul, Nat.add_assoc]
  rw [← Array.foldl_toList, Array.toList_zipIdx]
  refine Eq.trans (e2 U.toList 0 D) ?_
  rw [e1, setAll_splice (by simp [hC, hV, hU]), Array.toList_append]
  have hl : V.toList.length = 42 := by rw [Array.length_toList, hV]
  rw [Nat.add_zero, List.take_left' hl, List.drop_of_length_le (by simp [hC, hV, hU]), List.append_nil]
theorem run_buildTwo (w : World) (V U : Array Value) (hV : V.size = 42) (hU : U.size = 42) : (Instr.buildSlice 22 2 #[(0, .agg V), (1, .agg U)]).run Try.prog w = .ok (.slice (some ⟨w.heap.size, 0, none⟩) 2 2) (w.alloc (.cells (V ++ U) 29)) := by
  obtain ⟨i0, hi0, hz0, hz1, hz2⟩ := info_parts Try.infoRec
  refine run_buildSlice w 22 29 2 _ (V ++ U) i0 _ Try.underlying22 hi0 hz0 (by rw [hz1]; decide) (by rw [hz1]; decide) ?_
  rw [hz1]
  exact fill_two _ _ _ (by simp) hV hU
theorem wpList_buildTwo {ops : Array Oper} {rest : List Oper} {o : Oper} {a : Act} {w : World} {Q : Exit → Act → World → Prop} (hg : o.guard = none) (x y : Operand) (ho : o.op = .buildSlice 22 2 #[(0, x), (1, y)]) (V U : Array Value) (hV : V.size = 42) (hU : U.size = 42) (hx : a.eval x = .agg V) (hy : a.eval y = .agg U)
    (h : ∀ w1 g, CAt w1 g (V ++ U) 29 → Below w.heap.size w w1 → w.heap.size = g → wpList Try.prog ops Q rest (a.put o.dst (.slice (some ⟨g, 0, none⟩) 2 2)) w1) : wpList Try.prog ops Q (o :: rest) a w := by
  refine wpList_plain hg fun _ hK => ?_
  unfold Oper.wp execOp
  have := run_buildTwo w V U hV hU
  simp only [ho, List.map_toArray, List.map_cons, List.map_nil, hx, hy, Sem.run_bind, this, Result.andThen_ok, Sem.run_pure]
  exact hK _ _ (h _ _ (CAt.made _ _ _) (below_al _ _) rfl)
theorem run_buildOneS (w : World) (V : Array Value) (hV : V.size = 42) : (Instr.buildSlice 22 1 #[(0, .agg V)]).run Try.prog w = .ok (.slice (some ⟨w.heap.size, 0, none⟩) 1 1) (w.alloc (.cells V 29)) := by
  obtain ⟨i0, hi0, hz0, hz1, hz2⟩ := info_parts Try.infoRec
  refine run_buildSlice w 22 29 1 _ V i0 _ Try.underlying22 hi0 hz0 (by rw [hz1]; decide) (by rw [hz1]; decide) ?_
  rw [hz1]
  exact fill_one _ _ (by simp) hV
theorem wpList_buildOneW {ops : Array Oper} {rest : List Oper} {o : Oper} {a : Act} {w : World} {Q : Exit → Act → World → Prop} (x : Operand) (ho : o.op = .buildSlice 22 1 #[(0, x)]) (hw : Region.wanted o (yielded ops a.tmps) = true) (V : Array Value) (hV : V.size = 42) (hx : a.eval x = .agg V)
    (h : ∀ w1 g, CAt w1 g V 29 → Below w.heap.size w w1 → w.heap.size = g → wpList Try.prog ops Q rest (a.put o.dst (.slice (some ⟨g, 0, none⟩) 1 1)) w1) : wpList Try.prog ops Q (o :: rest) a w := by
  refine BigFrame.wpList_want hw fun _ hK => ?_
  unfold Oper.wp execOp
  have := run_buildOneS w V hV
  simp only [ho, List.map_toArray, List.map_cons, List.map_nil, hx, Sem.run_bind, this, Result.andThen_ok, Sem.run_pure]
  exact hK _ _ (h _ _ (CAt.made _ _ _) (below_al _ _) rfl)
theorem builtJr (po : Option Addr) (n c : Nat) : Try.prog.built 24 [(1, .slice po n c)] = some (jC 0 (.slice po n c)) := by kernel_rfl
theorem exec_newR {a : Act} {o : Oper} {W : World} (ho : o.op = .alloc 29) : (execOp a.eval o).run Try.prog W = .ok (.value (ptr W.heap.size)) (W.alloc (.cells zR.cs 29)) := by
  obtain ⟨i, hq, hz'⟩ := Option.map_eq_some_iff.1 zeroR
  unfold execOp
  simp only [ho, Instr.alloc, zeroValue, typeInfo, Sem.run_bind, newVar, newRow]
  simp [hq, hz', Value.cells, ptr]
theorem exec_newJ {a : Act} {o : Oper} {W : World} (ho : o.op = .alloc 24) : (execOp a.eval o).run Try.prog W = .ok (.value (ptr W.heap.size)) (W.alloc (.cells (jC 0 (.slice none 0 0)) 24)) := by
  obtain ⟨i, hq, hz'⟩ := Option.map_eq_some_iff.1 zeroJ
  unfold execOp
  simp only [ho, Instr.alloc, zeroValue, typeInfo, Sem.run_bind, newVar, newRow]
  simp [hq, hz', Value.cells, ptr]
theorem IsP.below {w w' : World} {x : Rp} (h : IsP w x) (hb : Below w.heap.size w w') : IsP w' x := h.keep fun a ha => World.cell?_of_block (hb.block a.block (cell_lt' ha))
theorem one_isj {w : World} {g : Nat} {x : Rp} (hc : CAt w g x.r.cs 29) (hx : IsP w x) : IsJ w (.slice (some ⟨g, 0, none⟩) 1 1) [x] := by
  refine ⟨_, 1, rfl, Nat.le_refl _, by unfold maxLen; omega, (fun e => by cases e), Or.inr ⟨g, 0, rfl, fun i y e j v hv => ?_⟩, fun y hy => by simp at hy; subst hy; exact hx⟩
  have hi : i = 0 := by
    have := (List.getElem?_eq_some_iff.1 e).1
    simp at this
    omega
  subst hi
  simp at e
  subst e
  rw [hc.cell, Nat.zero_mul, Nat.add_zero, Nat.zero_add]
  exact hv
theorem bigJ_one (x : Rp) : bigJ [x] = bigP x := by simp [bigJ]
/-- The parameters' blocks. -/
structure E0 (w : World) (gj gr : Nat) (s : Int) (v : Value) (r : Rv) (W : World) : Prop where
  below : Below w.heap.size w W
  cj : CAt W gj (jC s v) 24
  cx : CAt W gr r.cs 29
theorem E0.on {w W W' : World} {gj gr : Nat} {s : Int} {v : Value} {r : Rv} (h : E0 w gj gr s v r W) (hb : Below W.heap.size W W') : E0 w gj gr s v r W' := ⟨below_on h.below hb, h.cj.below hb, h.cx.below hb⟩
/-- .. and the two copies. -/
structure E1 (w : World) (gj gr g7 g8 : Nat) (s : Int) (v : Value) (x : Rp) (l : List Rp) (vi : Value) (mi : List Rp) (yi : Rp) (W : World) : Prop where
  e0 : E0 w gj gr s v x.r W
  ci : CAt W g7 (jC s vi) 24
  co : CAt W g8 yi.r.cs 29
  ri : RL W vi mi
  rce : rcs mi = rcs l
  ro : RpOk W yi
  yrc : yi.rc = x.rc
/-- The copies are laid into their variables. -/
theorem E1.make {w w0 W W1 W2 : World} {gj gr g7 g8 : Nat} {s : Int} {v : Value} {x : Rp} {l : List Rp} {vi : Value} {mi : List Rp} {yi : Rp} (h0 : E0 w gj gr s v x.r w0) (hb : Below w0.heap.size w0 W) (hr : Rs w0.heap.size W vi mi) (he : rcs mi = rcs l) (hn : mi.length ≤ 100000) (hy : RpX w0.heap.size W yi) (hyx : yi.rc = x.rc)
    (n7 : ∀ b, vi.ownBlock = some b → b ≠ g7) (n8 : ∀ b, vi.ownBlock = some b → b ≠ g8) (l7 : w0.heap.size ≤ g7) (l8 : w0.heap.size ≤ g8) (h78 : g7 ≠ g8) {c7 : Array Value} (c7h : CAt W g7 c7 24)
    (h7 : CAt W1 g7 (jC s vi) 24) (o7 : Only (fun b => b = g7) W W1) {c8 : Array Value} (c8h : CAt W1 g8 c8 29) (h8 : CAt W2 g8 yi.r.cs 29) (o8 : Only (fun b => b = g8) W1 W2) : E1 w gj gr g7 g8 s v x l vi mi yi W2 := by
  have hb1 : Below w0.heap.size w0 W1 := below_tr hb (o7.below hb.size (fun i e => by omega))
  have hb2 : Below w0.heap.size w0 W2 := below_tr hb1 (o8.below hb1.size (fun i e => by omega))
  have y1 : RpX w0.heap.size W1 yi := ⟨hy.ok, hy.pl.other (by decide) c7h o7⟩
  have r1 : Rs w0.heap.size W1 vi mi := ⟨hr.buf.keep fun b e => o7.block b (own_ge hr.buf b e).2 (n7 b e), fun z hz => ⟨(hr.each z hz).ok, (hr.each z hz).pl.other (by decide) c7h o7⟩⟩
  have r2 : Rs w0.heap.size W2 vi mi := ⟨r1.buf.keep fun b e => o8.block b (own_ge r1.buf b e).2 (n8 b e), fun z hz => (r1.each z hz).other c8h o8⟩
  exact ⟨h0.on hb2, h7.keep (o8.block g7 h7.lt h78), h8, r2.rl hn, he, (y1.other c8h o8).one, hyx⟩
/-- A journal that was told: to read, and to be written over. -/
structure VJ (B H : Nat) (W : World) (v : Value) (m : List Rp) : Prop where
  rl : RL W v m
  ov : OvL B H W v m
theorem VJ.on {B H : Nat} {W W' : World} {v : Value} {m : List Rp} (h : VJ B H W v m) (hb : Below W.heap.size W W') : VJ B H W' v m := ⟨h.rl.below hb, h.ov.below hb⟩
theorem Rs.vj {B : Nat} {W : World} {v : Value} {m : List Rp} (h : Rs B W v m) (hn : m.length ≤ 100000) : VJ B W.heap.size W v m := ⟨h.rl hn, h.ov hn⟩
/-- Two records that were told, in a list of two. -/
theorem ov_two {B g : Nat} {W W1 : World} {y z : Rp} (hy : RpX B W y) (hz : RpX B W z) (hb : Below W.heap.size W W1) (hc : CAt W1 g (y.r.cs ++ z.r.cs) 29) (hg : B ≤ g) : OvL B W1.heap.size W1 (.slice (some ⟨g, 0, none⟩) 2 2) [y, z] := by
  refine ⟨_, 2, rfl, by simp, Or.inr ⟨g, _, rfl, hc, by simp [hy.ok.size, hz.ok.size], hg, hc.lt, fun i x e j v hv => ?_⟩, fun x hx => ?_⟩
  · match i, e with
    | 0, e =>
      simp at e; subst e
      have hj : j < y.r.cs.size := by
        rcases Nat.lt_or_ge j y.r.cs.size with q | q
        · exact q
        · rw [Array.getElem?_eq_none q] at hv; cases hv
      rw [Nat.zero_mul, Nat.zero_add, Array.getElem?_append_left hj]; exact hv
    | 1, e =>
      simp at e; subst e
      rw [Array.getElem?_append_right (by rw [hy.ok.size]; omega), hy.ok.size, show 1 * 42 + j - 42 = j by omega]; exact hv
    | i + 2, e => simp at e
  · simp at hx
    rcases hx with rfl | rfl
    · exact ⟨hy.ok, (hy.below hb).pl.pw⟩
    · exact ⟨hz.ok, (hz.below hb).pl.pw⟩
theorem RpX.one8 {B : Nat} {w : World} {y : Rp} (h : RpX B w y) : y.r.pv.oneCell' = true := by obtain ⟨p0, c0, e0, _⟩ := h.pl.1; rw [e0]; rfl
set_option maxRecDepth 100000 in
set_option maxHeartbeats 4000000 in
theorem edits_l (s : Int) (v : Value) (l : List Rp) (x : Rp) (id : ByteArray) (w : World) (hl : IsJ w v l) (hx : IsP w x) (h1 : bigJ l = true) : Calls Try.prog 3 #[.agg (jC s v), .agg x.r.cs, .string id] w fun e w' => e = .returned (.bool true) ∧ Below w.heap.size w w' := by
  have HLG : Hid (∀ W, Below w.heap.size w W → Calls Try.prog 4 #[.agg (jC s v)] W fun e w' => e = .returned (.bool true) ∧ Below W.heap.size W w') := hid (fun W hW => by have := Large_any s v l W (hl.below hW); rw [h1] at this; exact this)
  obtain ⟨X, hX⟩ : ∃ X, x.r.cs = X := ⟨_, rfl⟩
  have HXE := hid hX
  have HXS : Hid (X.size = 42) := hid (by rw [← hX]; exact cs_size8 hx.sl)
  clear h1 hx
  rw [hX]
  obtain ⟨po, c, rfl, _⟩ := hl
  obtain ⟨n, hn⟩ : ∃ n, l.length = n := ⟨_, rfl⟩
  have HN := hid hn
  rw [hn] at HLG ⊢
  clear hn hX
  have T1 : Hid True := hid trivial
  go_enter Try.func3, Try.ntmps3
  go_wp2_with (first
    | ((with_reducible refine wpList_boxT 24 rfl _ rfl (jC s (.slice po n c)) ?_ ?_); exact rfl; intro w1 gj hc1 hb1 hg1; have HC1 := hid hc1; have HB1 := hid hb1; clear hb1 hc1 hg1)
    | ((with_reducible refine wpList_boxR rfl _ rfl X ?_ ?_); exact rfl; intro w2 gr hc2 hb2 hg2; have HF : Hid (E0 w gj gr s (.slice po n c) x.r w2) := hid ⟨below_on HB1.out hb2, HC1.out.below hb2, (by rw [HXE.out]; exact hc2)⟩; clear hb2 hc2 hg2)
    | ((with_reducible refine wpList_load_at 24 _ rfl ?_ gj 0 ?_ (jC s (.slice po n c)) (.struct (Try.prog.fieldsOf 24)) ?_ underJrn rfl ?_ ?_); exact rfl; exact rfl; exact HF.out.cj.wholeJ; exact sizeJ)
    | (clear T1; go_at_call 4; refine (HLG.out _ HF.out.below).mono ?_; rintro e w3 ⟨rfl, hb3⟩; replace HF := hid (HF.out.on hb3); clear hb3))
  go_ret
  exact ⟨rfl, HF.out.below⟩
set_option maxRecDepth 100000 in
set_option maxHeartbeats 4000000 in
theorem edits_r (s : Int) (v : Value) (l : List Rp) (x : Rp) (id : ByteArray) (w : World) (hl : IsJ w v l) (hx : IsP w x) (h1 : bigJ l = false) (h2 : bigP x = true) : Calls Try.prog 3 #[.agg (jC s v), .agg x.r.cs, .string id] w fun e w' => e = .returned (.bool true) ∧ Below w.heap.size w w' := by
  have HLG : Hid (∀ W, Below w.heap.size w W → Calls Try.prog 4 #[.agg (jC s v)] W fun e w' => e = .returned (.bool false) ∧ Below W.heap.size W w') := hid (fun W hW => by have := Large_any s v l W (hl.below hW); rw [h1] at this; exact this)
  obtain ⟨X, hX⟩ : ∃ X, x.r.cs = X := ⟨_, rfl⟩
  have HXE := hid hX
  have HXS : Hid (X.size = 42) := hid (by rw [← hX]; exact cs_size8 hx.sl)
  have HLR : Hid (∀ W g, Below w.heap.size w W → CAt W g X 29 → Calls Try.prog 4 #[.agg (jC 0 (.slice (some ⟨g, 0, none⟩) 1 1))] W fun e w' => e = .returned (.bool true) ∧ Below W.heap.size W w') := hid (fun W g hW hc => by rw [← HXE.out] at hc; have := Large_any 0 _ [x] W (one_isj hc (hx.below hW)); rw [bigJ_one, h2] at this; exact this)
  clear h1 h2 hx
  rw [hX]
  obtain ⟨po, c, rfl, _⟩ := hl
  obtain ⟨n, hn⟩ : ∃ n, l.length = n := ⟨_, rfl⟩
  have HN := hid hn
  rw [hn] at HLG ⊢
  clear hn hX
  have T1 : Hid True := hid trivial
  go_enter Try.func3, Try.ntmps3
  go_wp2_with (first
    | ((with_reducible refine wpList_boxT 24 rfl _ rfl (jC s (.slice po n c)) ?_ ?_); exact rfl; intro w1 gj hc1 hb1 hg1; have HC1 := hid hc1; have HB1 := hid hb1; clear hb1 hc1 hg1)
    | ((with_reducible refine wpList_boxR rfl _ rfl X ?_ ?_); exact rfl; intro w2 gr hc2 hb2 hg2; have HF : Hid (E0 w gj gr s (.slice po n c) x.r w2) := hid ⟨below_on HB1.out hb2, HC1.out.below hb2, (by rw [HXE.out]; exact hc2)⟩; clear hb2 hc2 hg2)
    | ((with_reducible refine wpList_load_at 24 _ rfl ?_ gj 0 ?_ (jC s (.slice po n c)) (.struct (Try.prog.fieldsOf 24)) ?_ underJrn rfl ?_ ?_); exact rfl; exact rfl; exact HF.out.cj.wholeJ; exact sizeJ)
    | (clear T1; go_at_call 4; refine (HLG.out _ HF.out.below).mono ?_; rintro e w3 ⟨rfl, hb3⟩; replace HF := hid (HF.out.on hb3); clear hb3)
    | ((with_reducible refine wpList_load_at 29 _ rfl ?_ gr 0 ?_ X (.struct (Try.prog.fieldsOf 29)) ?_ underRec rfl ?_ ?_); exact rfl; exact rfl; (rw [← HXE.out]; exact HF.out.cx.whole); (rw [HXS.out]; exact sizeR))
    | ((with_reducible refine wpList_buildOneW _ rfl ?_ X HXS.out ?_ ?_); exact rfl; exact rfl; intro w4 g4 hc4 hb4 hg4; replace HF := hid (HF.out.on hb4); have HC4 := hid hc4; clear hc4 hb4 hg4)
    | ((with_reducible refine wpList_build_want 24 _ rfl ?_ (jC 0 (.slice (some ⟨g4, 0, none⟩) 1 1)) ?_ ?_); exact rfl; exact builtJr _ _ _)
    | (go_at_call 4; refine (HLR.out _ g4 HF.out.below HC4.out).mono ?_; rintro e w5 ⟨rfl, hb5⟩; replace HF := hid (HF.out.on hb5); clear hb5 HC4))
  go_ret
  exact ⟨rfl, HF.out.below⟩
set_option maxRecDepth 100000 in
set_option maxHeartbeats 4000000 in
theorem edits_i (s : Int) (v : Value) (l : List Rp) (x : Rp) (id : ByteArray) (w : World) (hl : IsJ w v l) (hx : IsP w x) (h1 : bigJ l = false) (h2 : bigP x = false) (h3 : 1000 < id.size) : Calls Try.prog 3 #[.agg (jC s v), .agg x.r.cs, .string id] w fun e w' => e = .returned (.bool true) ∧ Below w.heap.size w w' := by
  have HLG : Hid (∀ W, Below w.heap.size w W → Calls Try.prog 4 #[.agg (jC s v)] W fun e w' => e = .returned (.bool false) ∧ Below W.heap.size W w') := hid (fun W hW => by have := Large_any s v l W (hl.below hW); rw [h1] at this; exact this)
  obtain ⟨X, hX⟩ : ∃ X, x.r.cs = X := ⟨_, rfl⟩
  have HXE := hid hX
  have HXS : Hid (X.size = 42) := hid (by rw [← hX]; exact cs_size8 hx.sl)
  have HLR : Hid (∀ W g, Below w.heap.size w W → CAt W g X 29 → Calls Try.prog 4 #[.agg (jC 0 (.slice (some ⟨g, 0, none⟩) 1 1))] W fun e w' => e = .returned (.bool false) ∧ Below W.heap.size W w') := hid (fun W g hW hc => by rw [← HXE.out] at hc; have := Large_any 0 _ [x] W (one_isj hc (hx.below hW)); rw [bigJ_one, h2] at this; exact this)
  have h3' : 1000 < (id.size : Int) := by omega
  clear h1 h2 hx
  rw [hX]
  obtain ⟨po, c, rfl, _⟩ := hl
  obtain ⟨n, hn⟩ : ∃ n, l.length = n := ⟨_, rfl⟩
  have HN := hid hn
  rw [hn] at HLG ⊢
  clear hn hX
  have T1 : Hid True := hid trivial
  go_enter Try.func3, Try.ntmps3
  go_wp2_with (first
    | ((with_reducible refine wpList_boxT 24 rfl _ rfl (jC s (.slice po n c)) ?_ ?_); exact rfl; intro w1 gj hc1 hb1 hg1; have HC1 := hid hc1; have HB1 := hid hb1; clear hb1 hc1 hg1)
    | ((with_reducible refine wpList_boxR rfl _ rfl X ?_ ?_); exact rfl; intro w2 gr hc2 hb2 hg2; have HF : Hid (E0 w gj gr s (.slice po n c) x.r w2) := hid ⟨below_on HB1.out hb2, HC1.out.below hb2, (by rw [HXE.out]; exact hc2)⟩; clear hb2 hc2 hg2)
    | ((with_reducible refine wpList_load_at 24 _ rfl ?_ gj 0 ?_ (jC s (.slice po n c)) (.struct (Try.prog.fieldsOf 24)) ?_ underJrn rfl ?_ ?_); exact rfl; exact rfl; exact HF.out.cj.wholeJ; exact sizeJ)
    | (clear T1; go_at_call 4; refine (HLG.out _ HF.out.below).mono ?_; rintro e w3 ⟨rfl, hb3⟩; replace HF := hid (HF.out.on hb3); clear hb3)
    | ((with_reducible refine wpList_load_at 29 _ rfl ?_ gr 0 ?_ X (.struct (Try.prog.fieldsOf 29)) ?_ underRec rfl ?_ ?_); exact rfl; exact rfl; (rw [← HXE.out]; exact HF.out.cx.whole); (rw [HXS.out]; exact sizeR))
    | ((with_reducible refine wpList_buildOneW _ rfl ?_ X HXS.out ?_ ?_); exact rfl; exact rfl; intro w4 g4 hc4 hb4 hg4; replace HF := hid (HF.out.on hb4); have HC4 := hid hc4; clear hc4 hb4 hg4)
    | ((with_reducible refine wpList_build_want 24 _ rfl ?_ (jC 0 (.slice (some ⟨g4, 0, none⟩) 1 1)) ?_ ?_); exact rfl; exact builtJr _ _ _)
    | (go_at_call 4; refine (HLR.out _ g4 HF.out.below HC4.out).mono ?_; rintro e w5 ⟨rfl, hb5⟩; replace HF := hid (HF.out.on hb5); clear hb5 HC4))
  go_ret
  exact ⟨rfl, HF.out.below⟩
#print axioms edits_l
#print axioms edits_r
#print axioms edits_i
end Go.Proofs.Ytcbmimjjpkkoeaa
