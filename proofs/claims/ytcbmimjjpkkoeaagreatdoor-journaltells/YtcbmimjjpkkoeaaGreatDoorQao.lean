/- Texts laid into one: the remark ahead of each part says what is proved there. -/
import Derived.Test.YtcbmimjjpkkoeaaGreatDoorQan
import Derived.Great.BuildSlice
import Derived.Test.YtcbmimjjpkkoeaaGreatDoorQam
import Derived.Test.YtcbmimjjpkkoeaaGreatDoorQal
/- journal.Find, Newest, Copy. -/
namespace Go.Proofs.YtcbmimjjpkkoeaaGreatDoor
open Go Go.RowKit

theorem sizeJ : (Tryz.prog.info? 24).map (·.size) = some 2 := by kernel_rfl
theorem underJrn : Tryz.prog.underlying 24 = some (.struct (Tryz.prog.fieldsOf 24)) := by kernel_rfl
theorem zeroJ : (Tryz.prog.info? 24).map (·.zero) = some (some (.agg (jC 0 (.slice none 0 0)))) := by kernel_rfl
theorem builtZR : Tryz.prog.built 45 [] = some zR.cs := by kernel_rfl
theorem jC_size (s : Int) (v : Value) : (jC s v).size = 2 := rfl
theorem wpList_allocJ {ops : Array Oper} {rest : List Oper} {o : Oper} {a : Act} {w : World} {Q : Exit → Act → World → Prop} (hg : o.guard = none) (ho : o.op = .alloc 24)
    (h : ∀ w1 g, CAt w1 g (jC 0 (.slice none 0 0)) 24 → Below w.heap.size w w1 → w.heap.size = g → wpList Tryz.prog ops Q rest (a.put o.dst (ptr g)) w1) : wpList Tryz.prog ops Q (o :: rest) a w := by
  refine wpList_plain hg fun _ hK => ?_
  obtain ⟨i, hq, hz'⟩ := Option.map_eq_some_iff.1 zeroJ
  unfold Oper.wp execOp
  simp only [ho, Instr.alloc, zeroValue, typeInfo, Sem.run_bind, newVar, newRow]
  simp [hq, hz', Value.cells]
  exact hK _ _ (h _ _ (CAt.made _ _ _) (below_al _ _) rfl)
theorem run_storeJ {w : World} {g : Nat} {s0 s : Int} {v0 v : Value} (hv : v.oneCell' = true) (hb : CAt w g (jC s0 v0) 24) : (Instr.storeAt 24 (.pointer (some ⟨g, 0, none⟩)) (.agg (jC s v))).run Tryz.prog w = .ok () (w.setRow g (jC s v)) ∧ CAt (w.setRow g (jC s v)) g (jC s v) 24 := by
  have e := run_storeVar_row (P := Tryz.prog) w g 24 24 (jC s0 v0) (jC s v) hb (by rw [jC_size]; exact sizeJ) rfl (by simp [jC, hv, show (i64 s).oneCell' = true from rfl])
  refine ⟨?_, setRow_heap w g (jC s0 v0) (jC s v) _ _ hb⟩
  simp only [Instr.storeAt, Instr.sureAddr, Sem.run_bind, Sem.run_pure, Result.andThen_ok, e]
theorem wpList_storeJ {ops : Array Oper} {rest : List Oper} {o : Oper} {a : Act} {w : World} {Q : Exit → Act → World → Prop} (hg : o.guard = none) (hdst : o.dst = none) (x y : Operand) (ho : o.op = .store 24 x y) (g : Nat) (hx : a.eval x = ptr g) {s0 s : Int} {v0 v : Value} (hy : a.eval y = .agg (jC s v)) (hv : v.oneCell' = true) (hb : CAt w g (jC s0 v0) 24)
    (h : ∀ w1, CAt w1 g (jC s v) 24 → Only (fun b => b = g) w w1 → wpList Tryz.prog ops Q rest a w1) : wpList Tryz.prog ops Q (o :: rest) a w := by
  refine wpList_plain hg fun _ hK => ?_
  obtain ⟨e1, e2⟩ := run_storeJ (s := s) hv hb
  unfold Oper.wp execOp
  simp only [ho, hx, hy, ptr, Sem.run_bind, e1, Result.andThen_ok, Sem.run_pure]
  refine hK (a.put o.dst undef) _ ?_
  rw [hdst]
  exact h _ e2 (only_setRow _ _ _ rfl)
theorem ret_rowJ2 {fn : Func} {q u : Tmp} (h : fn.results = #[.cell q 24, .tmp u]) {R : Ending → World → Prop} {a : Act} {w : World} (g : Nat) {s : Int} {v x : Value}
    (hd0 : a.defers = []) (hp : a.tmps.getD q undef = .pointer (some ⟨g, 0, none⟩)) (hx : a.tmps.getD u undef = x) (hb : CAt w g (jC s v) 24) (hR : R (.returned (.tuple #[.agg (jC s v), x])) w) : bodyPost Tryz.prog fn R .ret a w := by
  refine ⟨hd0, .tuple #[.agg (jC s v), x], ?_, hR⟩
  have hl := run_loadVar_row (P := Tryz.prog) w g 24 24 (jC s v) (0, 0) _ hb underJrn rfl (by rw [jC_size]; exact sizeJ)
  simp only [results, h]
  simp only [Array.getD_eq_getD_getElem?] at hp hx
  simp [Result.andThen, hp, hx, asAddr, hl]
theorem ret_rowJ1 {fn : Func} {q : Tmp} (h : fn.results = #[.cell q 24]) {R : Ending → World → Prop} {a : Act} {w : World} (g : Nat) {s : Int} {v : Value}
    (hd0 : a.defers = []) (hp : a.tmps.getD q undef = .pointer (some ⟨g, 0, none⟩)) (hb : CAt w g (jC s v) 24) (hR : R (.returned (.agg (jC s v))) w) : bodyPost Tryz.prog fn R .ret a w :=
  ⟨hd0, _, results_cell_row h _ _ g 24 (jC s v) (0, 0) _ hp hb underJrn rfl (by rw [jC_size]; exact sizeJ), hR⟩
theorem ret_rowR2 {fn : Func} {q u : Tmp} (h : fn.results = #[.cell q 45, .tmp u]) {R : Ending → World → Prop} {a : Act} {w : World} (g : Nat) {r : Rv} {x : Value}
    (hd0 : a.defers = []) (hp : a.tmps.getD q undef = .pointer (some ⟨g, 0, none⟩)) (hx : a.tmps.getD u undef = x) (hb : RBox w g r) (hr : r.ok) (hR : R (.returned (.tuple #[.agg r.cs, x])) w) : bodyPost Tryz.prog fn R .ret a w := by
  refine ⟨hd0, .tuple #[.agg r.cs, x], ?_, hR⟩
  have hl := run_loadVar_row (P := Tryz.prog) w g 45 45 r.cs (0, 0) _ hb.at_ underRec rfl (by rw [hr.size]; exact sizeR)
  simp only [results, h]
  simp only [Array.getD_eq_getD_getElem?] at hp hx
  simp [Result.andThen, hp, hx, asAddr, hl]
theorem CAt.wholeJ {w : World} {g : Nat} {s : Int} {v : Value} (h : CAt w g (jC s v) 24) : ∀ j u, (jC s v)[j]? = some u → w.cell? ⟨g, 0 + j, none⟩ = some u := fun j u hu => by rw [Nat.zero_add, h.cell, hu]
/-- The parameter's block and the result's. -/
structure F2 (w : World) (g1 g2 : Nat) (s : Int) (v : Value) (W : World) : Prop where
  below : Below w.heap.size w W
  cj : CAt W g1 (jC s v) 24
  cr : RBox W g2 zR
theorem F2.on {w W W' : World} {g1 g2 : Nat} {s : Int} {v : Value} (h : F2 w g1 g2 s v W) (hb : Below W.heap.size W W') : F2 w g1 g2 s v W' := ⟨below_on h.below hb, h.cj.below hb, h.cr.below zR_ok hb⟩
def RecE (w : World) (rc : Rc) (rest : Array Value) (e : Ending) (w' : World) : Prop := ∃ y : Rp, e = .returned (.tuple (#[.agg y.r.cs] ++ rest)) ∧ y.rc = rc ∧ RpX w.heap.size w' y ∧ Below w.heap.size w w'

end Go.Proofs.YtcbmimjjpkkoeaaGreatDoor

/- journal.Newest, Remove. -/
namespace Go.Proofs.YtcbmimjjpkkoeaaGreatDoor
open Go Go.RowKit

/-- The parameter's block and the result's. -/
structure G2 (w : World) (g1 g2 : Nat) (s : Int) (v : Value) (W : World) : Prop where
  below : Below w.heap.size w W
  cj : CAt W g1 (jC s v) 24
  cr : CAt W g2 (jC 0 (.slice none 0 0)) 24
theorem G2.on {w W W' : World} {g1 g2 : Nat} {s : Int} {v : Value} (h : G2 w g1 g2 s v W) (hb : Below W.heap.size W W') : G2 w g1 g2 s v W' := ⟨below_on h.below hb, h.cj.below hb, h.cr.below hb⟩
theorem builtZJ : Tryz.prog.built 24 [] = some (jC 0 (.slice none 0 0)) := by kernel_rfl
theorem builtJ (s : Int) (po : Option Addr) (n c : Nat) : Tryz.prog.built 24 [(0, i64 s), (1, .slice po n c)] = some (jC s (.slice po n c)) := by kernel_rfl
theorem two_set {w : World} {g1 g2 : Nat} {s : Int} {v u t : Value} (h : CAt w g1 (jC s v) 24) (hne : g1 ≠ g2) : CAt ((w.setCell ⟨g2, 0, none⟩ u).setCell ⟨g2, 1, none⟩ t) g1 (jC s v) 24 :=
  (h.keep (heap_setCell_ne _ ⟨g2, 0, none⟩ _ _ hne)).keep (heap_setCell_ne _ ⟨g2, 1, none⟩ _ _ hne)
/-- A journal and an error. -/
def JouE (w : World) (s : Int) (rs : List Rc) (e : Ending) (w' : World) : Prop := ∃ v m, e = .returned (.tuple #[.agg (jC s v), i64 0]) ∧ Rs w.heap.size w' v m ∧ rcs m = rs ∧ Below w.heap.size w w'


end Go.Proofs.YtcbmimjjpkkoeaaGreatDoor

/- A slice literal of one record. -/
namespace Go.Proofs.YtcbmimjjpkkoeaaGreatDoor
open Go Go.RowKit

theorem fold_zip : ∀ (V : List Value) (k : Nat) (C : Array Value), ((V.zipIdx k).foldl (fun cs (p : Value × Nat) => cs.setIfInBounds p.2 p.1) C).toList = setAll C.toList k V
  | [], k, C => rfl
  | v :: r, k, C => by
    rw [List.zipIdx_cons, List.foldl_cons, fold_zip r (k + 1), setAll, Array.toList_setIfInBounds]
theorem fill_one (C V : Array Value) (hC : C.size = 42) (hV : V.size = 42) : Instr.fill (fun i => some (i * 42, 42)) C [(0, .agg V)] = some V := by
  have h2 : ¬ (0 * 42 + V.size > C.size) := by omega
  simp only [Instr.fill, Value.cells, hV, ne_eq, not_true_eq_false, decide_false, Bool.false_or, decide_eq_true_eq]
  rw [if_neg (by omega)]
  congr 1
  apply Array.toList_inj.1
  rw [← Array.foldl_toList, Array.toList_zipIdx]
  have e := fold_zip V.toList 0 C
  simp only [Nat.zero_mul, Nat.zero_add]
  refine Eq.trans ?_ (e.trans ?_)
  · rfl
  · rw [setAll_splice (by simp [hC, hV]), List.take_zero, List.nil_append, Nat.zero_add, List.drop_of_length_le (by simp [hC, hV]), List.append_nil]
theorem run_buildOne (w : World) (r : Rv) (hr : r.ok) : (Instr.buildSlice 22 1 #[(0, .agg r.cs)]).run Tryz.prog w = .ok (.slice (some ⟨w.heap.size, 0, none⟩) 1 1) (w.alloc (.cells r.cs 45)) := by
  obtain ⟨i0, hi0, hz0, hz1, hz2⟩ := info_parts Tryz.infoRec
  refine run_buildSlice w 22 45 1 _ r.cs i0 _ Tryz.underlying22 hi0 hz0 (by rw [hz1]; decide) (by rw [hz1]; decide) ?_
  rw [hz1]
  exact fill_one _ _ (by simp) hr.size
theorem exec_buildOne {a : Act} {o : Oper} {x : Operand} {r : Rv} {W : World} (hr : r.ok) (ho : o.op = .buildSlice 22 1 #[(0, x)]) (hx : a.eval x = .agg r.cs) : (execOp a.eval o).run Tryz.prog W = .ok (.value (.slice (some ⟨W.heap.size, 0, none⟩) 1 1)) (W.alloc (.cells r.cs 45)) := by
  unfold execOp
  have := run_buildOne W r hr
  simp only [ho, List.map_toArray, List.map_cons, List.map_nil, hx, Sem.run_bind, this, Result.andThen_ok, Sem.run_pure]
theorem wpList_buildOne {ops : Array Oper} {rest : List Oper} {o : Oper} {a : Act} {w : World} {Q : Exit → Act → World → Prop} (hg : o.guard = none) (x : Operand) (ho : o.op = .buildSlice 22 1 #[(0, x)]) {r : Rv} (hr : r.ok) (hx : a.eval x = .agg r.cs)
    (h : ∀ w1 g, CAt w1 g r.cs 45 → Below w.heap.size w w1 → w.heap.size = g → wpList Tryz.prog ops Q rest (a.put o.dst (.slice (some ⟨g, 0, none⟩) 1 1)) w1) : wpList Tryz.prog ops Q (o :: rest) a w := by
  refine wpList_plain hg fun _ hK => ?_
  unfold Oper.wp
  rw [exec_buildOne hr ho hx]
  exact hK _ _ (h _ _ (CAt.made _ _ _) (below_al _ _) rfl)
theorem step_run_val {P : Program} {w : World} {ops : Array Oper} {o : Oper} {a : Act} {K : Act → World → Prop} {Q : Exit → Act → World → Prop} {E : Prop} (hgd : o.guard = none) (v : Value) (w' : World)
    (hr : (execOp a.eval o).run P w = .ok (.value v) w') (h : K (a.put o.dst v) w') : if Region.wanted o (yielded ops a.tmps) = true then Oper.wp P o a w K Q else E := by
  rw [if_pos (by simp [Region.wanted, hgd])]
  unfold Oper.wp
  rw [hr]
  exact h
#print axioms wpList_buildOne
end Go.Proofs.YtcbmimjjpkkoeaaGreatDoor

/- records: two lists of records. -/
namespace Go.Proofs.YtcbmimjjpkkoeaaGreatDoor
open Go Go.RowKit

theorem run_loadM {w : World} {b o : Nat} {r : Rv} (hr : r.ok) (hc : w.rangeAt b o r.cs.toList) : (Instr.loadAt 45 (.pointer (some ⟨b, o, none⟩))).run Tryz.prog w = .ok (.agg r.cs) w := by
  have := run_loadAt_mid (P := Tryz.prog) w b o 45 r.cs.toList (.struct (Tryz.prog.fieldsOf 45)) hc underRec rfl (by rw [sizeR42 (x := ⟨r, []⟩) hr]; exact sizeR)
  simpa using this
theorem RL.where {w : World} {v : Value} {l : List Rp} (h : RL w v l) {i : Nat} {x : Rp} (hx : l[i]? = some x) : ∃ b o c, v = .slice (some ⟨b, o, none⟩) l.length c ∧ l.length ≤ c ∧ RCells w b o l := by
  obtain ⟨po, c, h1, h2, _, _, h3, _⟩ := h
  rcases h3 with h3 | ⟨b, o, rfl, h3⟩
  · rw [h3] at hx; cases hx
  · exact ⟨b, o, c, h1, h2, h3⟩
theorem RCells.below {w w' : World} {b o : Nat} {l : List Rp} (h : RCells w b o l) (hb : Below w.heap.size w w') : RCells w' b o l := h.keep fun a ha => World.cell?_of_block (hb.block a.block (cell_lt' ha))

end Go.Proofs.YtcbmimjjpkkoeaaGreatDoor

/- Contract of Copy, the document's. -/
namespace Go.Proofs.YtcbmimjjpkkoeaaGreatDoor
open Go Go.RowKit

theorem PBuf.made0 (w : World) (B : Nat) (hB : B ≤ w.heap.size) : PBuf B (w.alloc (.cells #[] 59)) (.slice (some ⟨w.heap.size, 0, none⟩) 0 0) [] := World.ownsRow_made w #[] 0 hB (by unfold maxLen; omega) (by simp)
set_option maxRecDepth 100000 in
set_option maxHeartbeats 400000 in
theorem rcopy_any (r : Rv) (hk : r.ok) (po : Option Addr) (c : Nat) (ps : Ps) (w : World) (hv : r.pv = .slice po ps.length c) (h : PL w r.pv ps) (hc : po = none → c = 0) (hn : ps.length ≤ 100000) : Calls Tryz.prog 20 #[.agg r.cs] w (CopS w r ps) := by
  have HF : Hid (∀ W, Below w.heap.size w W → ∃ p3 c3 W', (Builtin.append_ #[43, 43] 43 #[.slice (some ⟨W.heap.size, 0, none⟩) 0 0, .slice po ps.length c]).run Tryz.prog (W.alloc (.cells #[] 59)) = .ok (.slice p3 ps.length c3) W' ∧ PLF W.heap.size W' (.slice p3 ps.length c3) ps ∧ Below W.heap.size W W') := hid (fun W hb => by
    obtain ⟨v1, w1, hr, hb1, hg⟩ := (PBuf.made0 W W.heap.size (Nat.le_refl _)).app po c ps (hv ▸ (h.below hb).below (below_al _ _)) hc (by simpa using by omega) (by rw [size_al]; omega)
    rw [List.nil_append] at hb1
    obtain ⟨p1, c1, hv1, hc1⟩ := hb1.form
    subst hv1
    refine ⟨p1, c1, w1, hr, (hb1.pl hn c1 hc1 (Or.inr rfl)).2, below_grown (below_al W _) hg (Nat.le_refl _) (fun b hb => ?_)⟩
    simp [Value.ownBlock] at hb
    omega)
  have HV := hid hv
  clear h hc hv
  go_enter Tryz.func20, Tryz.ntmps20
  go_wp2_with (first
    | ((with_reducible refine wpList_boxR rfl _ rfl r.cs ?_ ?_); exact rfl; intro w1 g1 hc1 hb1 hg1; have HA1 := hid (RBox.mk' hk hc1); have HB1 := hid hb1; clear hc1 hb1)
    | ((with_reducible refine wpList_allocR rfl rfl ?_); intro w2 g2 hz2 hb2 hg2; have HZ2 := hid hz2; have HA2 := hid (HA1.out.below hk hb2); have HB2 := hid (below_on HB1.out hb2); have HG := hid (show g1 < g2 ∧ w.heap.size ≤ g1 ∧ g2 < w2.heap.size from ⟨by have := HA1.out.at_.lt; omega, by omega, HZ2.out.at_.lt⟩); have c40 := (HA2.out.below hk (below_al w2 (.cells #[] 59))).c40; rw [HV.out] at c40; obtain ⟨p3, c3, w3, hr3, hp3, hb3⟩ := HF.out _ HB2.out; have HRUN := hid hr3; have HP3 := hid hp3; have HB3 := hid hb3; clear hz2 hb2 hg2 HA1 HB1 hr3 hp3 hb3)
    | (at_builtin; (refine wpList_append_run _ _ 43 43 rfl rfl _ _ _ rfl rfl HRUN.out ?_); have HZ3 := hid (HZ2.out.below zR_ok HB3.out); have ha3 := HA2.out.below hk HB3.out; clear c40; have d40 := ha3.c40; have f40 := ha3.free; have hs := ha3.set40 hk (.slice p3 ps.length c3); have ho : Only (fun b => b = g1) w3 (w3.setCell ⟨g1, 40, none⟩ (.slice p3 ps.length c3)) := Only.set w3 _ _ rfl; have HA4 := hid hs; have HZ4 := hid (HZ3.out.only zR_ok ho (by have := HG.out; omega)); have HP4 := hid (HP3.out.only ho (fun i e => by have := HG.out; omega)); have HB4 := hid (below_tr (below_on HB2.out HB3.out) (ho.below (below_on HB2.out HB3.out).size (fun i e => by have := HG.out; omega))); clear ha3 hs ho)
    | ((with_reducible refine wpList_load_at 45 _ rfl ?_ g1 0 ?_ ({ r with pv := .slice p3 ps.length c3 } : Rv).cs (.struct (Tryz.prog.fieldsOf 45)) ?_ underRec rfl ?_ ?_); exact rfl; exact rfl; exact HA4.out.whole; (rw [Rv.size_of (r := { r with pv := .slice p3 ps.length c3 }) hk.sl]; exact sizeR))
    | ((with_reducible refine wpList_storeR rfl rfl _ _ rfl g2 ?_ (r := { r with pv := .slice p3 ps.length c3 }) ?_ zR_ok ?_ ?_ HZ4.out ?_); exact rfl; exact rfl; exact ⟨hk.sl, hk.s8, hk.i, hk.e, hk.d, hk.u⟩; exact rfl; intro w5 h5 o5; have H5 := hid h5; have O5 := hid o5; clear h5 o5))
  refine ret_rowR rfl g2 rfl rfl H5.out ⟨hk.sl, hk.s8, hk.i, hk.e, hk.d, hk.u⟩ ⟨_, rfl, ?_, ?_⟩
  · exact (HP4.out.only O5.out (fun i e => by have := HG.out; omega)).base HB2.out.size
  · exact below_tr HB4.out (O5.out.below HB4.out.size (fun i e => by have := HG.out; omega))
#print axioms rcopy_any
end Go.Proofs.YtcbmimjjpkkoeaaGreatDoor

/- The document's Copy and without. -/
namespace Go.Proofs.YtcbmimjjpkkoeaaGreatDoor
open Go Go.RowKit

/-- stowageref07.Copy, of a record in memory. -/
theorem rcopyR_any (x : Rp) (w : World) (h : RpOk w x) : Calls Tryz.prog 20 #[.agg x.r.cs] w fun e w' => ∃ y : Rp, e = .returned (.agg y.r.cs) ∧ y.rc = x.rc ∧ RpX w.heap.size w' y ∧ y.r.pv.oneCell' = true ∧ Below w.heap.size w w' := by
  obtain ⟨po, c, e, hz, _, hn⟩ := h.form
  refine (rcopy_any x.r h.ok po c x.ps w e h.pl hz hn).mono fun e w' ⟨v, he, hp, hb⟩ => ⟨⟨{ x.r with pv := v }, x.ps⟩, he, rfl, ⟨pvR h.ok v, hp⟩, ?_, hb⟩
  obtain ⟨p3, n3, c3, hv3⟩ := hp.form
  show v.oneCell' = true
  rw [hv3]; rfl
/-- A record is laid behind the others. -/
theorem Rs.push {B g : Nat} {W W1 : World} {v : Value} {l : List Rp} {y : Rp} (hrs : Rs B W v l) (hB : B ≤ W.heap.size) (hb : Below W.heap.size W W1) (hl : l.length ≤ 100000) (hc : CAt W1 g y.r.cs 45) (hy : RpX B W1 y) :
    ∃ v' W2, (Builtin.append_ #[22, 22] 22 #[v, .slice (some ⟨g, 0, none⟩) 1 1]).run Tryz.prog W1 = .ok v' W2 ∧ Rs B W2 v' (l ++ [y]) ∧ Only (fun b => v.ownBlock = some b) W1 W2 ∧ (∀ b, v.ownBlock = some b → B ≤ b ∧ b < W.heap.size) := by
  have hrs2 := hrs.below hb
  obtain ⟨v', W2, hr, hbf, hg⟩ := hrs2.buf.app _ [y] (one_rl hc hy.one) (by simp; omega) (by have := hb.size; omega)
  have hO : Only (fun b => v.ownBlock = some b) W1 W2 := Only.of_grown hg fun k e _ => e
  refine ⟨v', W2, hr, ⟨hbf, fun x hx => ?_⟩, hO, own_ge hrs.buf⟩
  rcases List.mem_append.1 hx with hx | hx
  · exact (hrs2.each x hx).grown hrs2.buf hg
  · simp at hx; subst hx; exact hy.grown hrs2.buf hg
theorem rcs_app8 (l m : List Rp) : rcs (l ++ m) = rcs l ++ rcs m := by simp [rcs]
theorem rcs_next {l m : List Rp} {kk : Nat} {x y : Rp} (h : rcs m = (rcs l).take kk) (hx : l[kk]? = some x) (hy : y.rc = x.rc) : rcs (m ++ [y]) = (rcs l).take (kk + 1) := by
  rw [rcs_app8, h, List.take_add_one, rcs_get, hx]
  simp [rcs, hy]
theorem len_le {l m : List Rp} {kk : Nat} (h : rcs m = (rcs l).take kk) : m.length ≤ l.length := by
  have := congrArg List.length h
  rw [rcs_len, List.length_take, rcs_len] at this
  omega
theorem wout_next {l : List Rc} {m : List Rp} {kk : Nat} {x y : Rp} {id : List Nat} (h : rcs m = wout (l.take kk) id) (hx : l[kk]? = some x.rc) (hy : y.rc = x.rc) (hne : x.rc.id ≠ id) : rcs (m ++ [y]) = wout (l.take (kk + 1)) id := by
  rw [rcs_app8, h, List.take_add_one, hx]
  simp [wout, List.filter_append, rcs, hy, hne]
theorem wout_skip {l : List Rc} {kk : Nat} {x : Rc} {id : List Nat} (hx : l[kk]? = some x) (hne : x.id = id) : wout (l.take (kk + 1)) id = wout (l.take kk) id := by
  rw [List.take_add_one, hx]
  simp [wout, List.filter_append, hne]
theorem builtJ1 (s : Int) : Tryz.prog.built 24 [(0, i64 s)] = some (jC s (.slice none 0 0)) := by kernel_rfl
/-- The parameter's block, the result's and the copy's. -/
structure K3 (w : World) (g1 g2 g3 : Nat) (s : Int) (v u : Value) (W : World) : Prop where
  below : Below w.heap.size w W
  cj : CAt W g1 (jC s v) 24
  cr : CAt W g2 (jC 0 (.slice none 0 0)) 24
  cl : CAt W g3 (jC s u) 24
theorem K3.next {w W W' : World} {g1 g2 g3 B : Nat} {s : Int} {v u u' : Value} (h : K3 w g1 g2 g3 s v u W) (hO : Only (fun i => B ≤ i) W W') (h1 : g1 < B) (h2 : g2 < B) (h3 : g3 < B) (h12 : g1 ≠ g3) (h23 : g2 ≠ g3) (hw : w.heap.size ≤ g3) (hB : w.heap.size ≤ B) : K3 w g1 g2 g3 s v u' (W'.setCell ⟨g3, 1, none⟩ u') := by
  have k1 := h.cj.keep (hO.block g1 h.cj.lt (by omega))
  have k2 := h.cr.keep (hO.block g2 h.cr.lt (by omega))
  have k3 := h.cl.keep (hO.block g3 h.cl.lt (by omega))
  have o2 := Only.set (S := fun b => b = g3) W' ⟨g3, 1, none⟩ u' rfl
  refine ⟨below_tr (below_tr h.below (hO.below h.below.size fun i hi => Nat.le_trans hB hi)) (o2.below ?_ (fun i e => by omega)), k1.keep (o2.block g1 k1.lt h12), k2.keep (o2.block g2 k2.lt h23), k3.set 1 u'⟩
  have := h.below.size; have := hO.size; omega
/-- A journal whose records lie in memory of their own. -/
def JcpS (w : World) (s : Int) (rs : List Rc) (e : Ending) (w' : World) : Prop := ∃ v m, e = .returned (.agg (jC s v)) ∧ Rs w.heap.size w' v m ∧ rcs m = rs ∧ Below w.heap.size w w'
set_option maxRecDepth 100000 in
set_option maxHeartbeats 4000000 in
theorem rjcopy_any (s : Int) (v : Value) (l : List Rp) (w : World) (hl : RL w v l) : Calls Tryz.prog 5 #[.agg (jC s v)] w (JcpS w s (rcs l)) := by
  have HL := hid hl
  have hn := hl.len
  obtain ⟨po, c, rfl, _⟩ := hl
  obtain ⟨n, hN⟩ : ∃ n, l.length = n := ⟨_, rfl⟩
  have HN := hid hN
  rw [hN] at hn ⊢
  clear hN
  have T1 : Hid True := hid trivial
  go_enter Tryz.func5, Tryz.ntmps5
  go_wp2_with (first
    | ((with_reducible refine wpList_boxT 24 rfl _ rfl (jC s (.slice po n c)) ?_ ?_); exact rfl; intro w1 g1 hc1 hb1 hg1; have HC1 := hid hc1; have HB1 := hid hb1; have HG1 := hid hg1; clear hb1 hc1 hg1)
    | (clear T1; (with_reducible refine wpList_allocJ rfl rfl ?_); intro w2 g2 hz2 hb2 hg2; have HC2 := hid (HC1.out.below hb2); have HZ2 := hid hz2; have HB2 := hid (below_on HB1.out hb2); have HG2 := hid (show g1 < g2 by have := HC1.out.lt; omega); have c0 := HC2.out.j0; clear hz2 hb2 hg2)
    | ((with_reducible refine wpList_build_want 24 _ rfl ?_ (jC s (.slice none 0 0)) ?_ ?_); exact rfl; exact builtJ1 s)
    | ((with_reducible refine wpList_allocJ rfl rfl ?_); intro w3 g3 hz3 hb3 hg3; have HC3 := hid (HC2.out.below hb3); have HR3 := hid (HZ2.out.below hb3); have HZ3 := hid hz3; have HB3 := hid (below_on HB2.out hb3); have HG3 := hid (show g2 < g3 by have := HZ2.out.lt; omega); clear hz3 hb3 hg3 c0)
    | ((with_reducible refine wpList_storeJ rfl rfl _ _ rfl g3 ?_ (s := s) (v := .slice none 0 0) ?_ rfl HZ3.out ?_); exact rfl; exact rfl; intro w4 h4 o4; have HK : Hid (K3 w g1 g2 g3 s (.slice po n c) (.slice none 0 0) w4) := hid ⟨below_tr HB3.out (o4.below HB3.out.size (fun i e => by have := HG1.out; have := HG2.out; have := HG3.out; omega)), HC3.out.keep (o4.block g1 HC3.out.lt (by have := HG2.out; have := HG3.out; omega)), HR3.out.keep (o4.block g2 HR3.out.lt (by have := HG3.out; omega)), h4⟩; clear h4 o4))
  go_loopg [4] n (fun gg s4 wr => ∃ (kk : Nat) (u : Value) (m : List Rp), kk ≤ n ∧ n - kk ≤ gg ∧ s4 = i64 kk ∧ Hid (K3 w g1 g2 g3 s (.slice po n c) u wr) ∧ Hid (Rs w4.heap.size wr u m) ∧ Hid (rcs m = (rcs l).take kk) ∧ Hid (w4.heap.size ≤ wr.heap.size))
  case atStart => exact ⟨0, _, [], Nat.zero_le _, by omega, rfl, HK.out, Rs.nil _ _, rfl, Nat.le_refl _⟩
  case round =>
    obtain ⟨kk, u, m, hkk, hg, rfl, KK, RS, RC, SZ⟩ := hrel
    have c1 := KK.out.cj.j1
    have HLT := hid (show g1 < w4.heap.size ∧ g2 < w4.heap.size ∧ g3 < w4.heap.size ∧ w.heap.size ≤ g3 from ⟨HK.out.cj.lt, HK.out.cr.lt, HK.out.cl.lt, by have := HG1.out; have := HG2.out; have := HG3.out; omega⟩)
    have HNE := hid (show g1 ≠ g3 ∧ g2 ≠ g3 from ⟨by have := HG2.out; have := HG3.out; omega, by have := HG3.out; omega⟩)
    by_cases hlt : kk < n
    · have hltz : (kk : Int) < (n : Int) := by omega
      obtain ⟨x, hx⟩ : ∃ x, l[kk]? = some x := ⟨_, List.getElem?_eq_getElem (by have := HN.out; omega)⟩
      obtain ⟨b, o, c', e, _, hcl⟩ := HL.out.where hx
      rw [HN.out] at e
      cases e
      have hxo := HL.out.each x (List.mem_of_getElem? hx)
      have hok := hxo.ok
      have HBL : Hid (b < w.heap.size) := hid (by have := hcl kk x hx 0 (.string x.r.id) (by rw [x.r.get8 0 (by omega)]; rfl); exact cell_lt' (a := ⟨b, o + kk * 42 + 0, none⟩) (by rw [this]; simp))
      have HRG := hid ((hcl.below KK.out.below).range hx)
      have HSF : Hid (∀ W, Only (fun i => i = g3 ∨ w4.heap.size ≤ i) wr W → (fun W => W.cell? ⟨g1, 1, none⟩ = some (.slice (some ⟨b, o, none⟩) n c) ∧ (Instr.loadAt 45 (.pointer (some ⟨b, o + kk * 42, none⟩))).run Tryz.prog W = .ok (.agg x.r.cs) W) W) := hid (fun W hW => ⟨(KK.out.cj.keep (hW.block g1 KK.out.cj.lt (by have := HLT.out; have := HNE.out; omega))).j1, run_loadM hok (fun j v hv => (World.cell?_of_block (a := ⟨b, o + kk * 42 + j, none⟩) (hW.block b (by have := HBL.out; have := KK.out.below.size; omega) (by have := HBL.out; have := HLT.out; omega))).trans (HRG.out j v hv))⟩)
      have HCP := hid (fun W (hW : Below wr.heap.size wr W) => rcopyR_any x W (hxo.below (below_on KK.out.below hW)))
      have HXX := hid hx
      have HML : Hid (m.length ≤ 100000) := hid (by have := len_le RC.out; have := HN.out; omega)
      obtain ⟨pu, nu, cu, hu⟩ : ∃ a b c, u = .slice a b c := by obtain ⟨a, c, e, _⟩ := RS.out.buf.form; exact ⟨a, _, c, e⟩
      subst hu
      have d1 := KK.out.cl.j1
      have HTR : Hid (∀ W, Below wr.heap.size wr W → Only (fun i => i = g3 ∨ w4.heap.size ≤ i) wr W) := hid (fun W hW => Only.of_below hW)
      clear hx hcl hxo
      go_upto_region 5 with fail
      refine wp_region_held_drew (S := (fun W => W.cell? ⟨g1, 1, none⟩ = some (.slice (some ⟨b, o, none⟩) n c) ∧ (Instr.loadAt 45 (.pointer (some ⟨b, o + kk * 42, none⟩))).run Tryz.prog W = .ok (.agg x.r.cs) W)) (by kernel_rfl) (HSF.out _ (HTR.out _ (below_drew _))) (fun hHeld => ?_)
      have HD := hid (below_drew wr)
      refine wpAnyH_take (i := 0) (oi := ⟨some 15, .fieldAddr 24 (.tmp 3) 1, _, _, _, none⟩) (v := .pointer (some ⟨g3, 1, none⟩)) rfl (by kernel_rfl) (by kernel_rfl) (by kernel_rfl) (fun _ _ _ h => h) (Or.inl ⟨by kernel_rfl, by intro W hW; go_simp⟩) hHeld ?_
      refine wpAnyH_take (i := 2) (oi := ⟨some 17, .fieldAddr 24 (.tmp 1) 1, _, _, _, none⟩) (v := .pointer (some ⟨g1, 1, none⟩)) rfl (by kernel_rfl) (by kernel_rfl) (by kernel_rfl) (fun _ _ _ h => h) (Or.inl ⟨by kernel_rfl, by intro W hW; go_simp⟩) hHeld ?_
      refine wpAnyH_take (i := 3) (oi := ⟨some 18, .load 22 (.tmp 17), _, _, _, none⟩) (v := .slice (some ⟨b, o, none⟩) n c) rfl (by kernel_rfl) (by kernel_rfl) (by kernel_rfl) (fun _ _ _ h => h) (Or.inl ⟨by kernel_rfl, by intro W hW; have q0 := hW.1; go_simp⟩) hHeld ?_
      refine wpAnyH_take (i := 4) (oi := ⟨some 19, .move (.tmp 4), _, _, _, none⟩) (v := i64 kk) rfl (by kernel_rfl) (by kernel_rfl) (by kernel_rfl) (fun _ _ _ h => h) (Or.inl ⟨by kernel_rfl, by intro W hW; go_simp⟩) hHeld ?_
      refine wpAnyH_take (i := 5) (oi := ⟨some 20, .indexAddr 22 (.tmp 18) (.tmp 19), _, _, _, none⟩) (v := .pointer (some ⟨b, o + kk * 42, none⟩)) rfl (by kernel_rfl) (by kernel_rfl) (by kernel_rfl) (fun _ _ _ h => h) (Or.inl ⟨by kernel_rfl, by intro W hW; go_simp⟩) hHeld ?_
      refine wpAnyH_take (i := 6) (oi := ⟨some 21, .load 45 (.tmp 20), _, _, _, none⟩) (v := .agg x.r.cs) rfl (by kernel_rfl) (by kernel_rfl) (by kernel_rfl) (fun _ _ _ h => h) (Or.inl ⟨by kernel_rfl, fun W hW => exec_load rfl (by kernel_rfl) hW.2⟩) hHeld ?_
      refine wpAnyH_ready (rs := [1, 7]) (by kernel_rfl) (by simp) ?_
      refine AllReadyH.cons rfl (fun K hK => ?_) (AllReadyH.cons rfl (fun K hK => ?_) AllReadyH.nil)
      · go_simp
        refine hK.out _ _ (HSF.out _ (HTR.out _ HD.out)) (fun hHeld => ?_)
        clear hK K
        refine wpAnyH_ready (rs := [7]) (by kernel_rfl) (by simp) ?_
        refine AllReadyH.cons rfl (fun K hK => ?_) AllReadyH.nil
        go_simp
        refine (HCP.out _ HD.out).mono ?_
        rintro e w7 ⟨y, rfl, hyx, hy, hyo, hb7⟩
        have hyk := hy.ok
        replace HD := hid (below_on HD.out hb7)
        obtain ⟨v9, w9, hr9, hrs9, ho9, hown9⟩ := Rs.push RS.out SZ.out (below_on HD.out (below_al w7 (.cells y.r.cs 45))) HML.out (CAt.made w7 y.r.cs 45) ((hy.base (show w4.heap.size ≤ wr.drew.heap.size from SZ.out)).below (below_al w7 (.cells y.r.cs 45)))
        obtain ⟨p9, n9, c9, hv9⟩ : ∃ a b c, v9 = .slice a b c := by obtain ⟨a, c, e, _⟩ := hrs9.buf.form; exact ⟨a, _, c, e⟩
        subst hv9
        have HRUN := hid hr9
        have hA : Only (fun i => w4.heap.size ≤ i) wr w9 := (Only.of_below (below_on HD.out (below_al w7 (.cells y.r.cs 45)))).trans (ho9.mono fun i e => (hown9 i e).1)
        have HKN := hid (KK.out.next (u' := .slice p9 n9 c9) hA HLT.out.1 HLT.out.2.1 HLT.out.2.2.1 HNE.out.1 HNE.out.2 HLT.out.2.2.2 HK.out.below.size)
        have ho5 := Only.set (S := fun i => i = g3) w9 ⟨g3, 1, none⟩ (.slice p9 n9 c9) rfl
        have HRN := hid (hrs9.only ho5 (fun i e => by have := HLT.out; omega))
        have HSN : Hid (w4.heap.size ≤ (w9.setCell ⟨g3, 1, none⟩ (.slice p9 n9 c9)).heap.size) := hid (by have := hA.size; have := ho5.size; have := SZ.out; omega)
        have HCN := hid (rcs_next RC.out HXX.out hyx)
        have cl9 := KK.out.cl.keep (hA.block g3 KK.out.cl.lt (by have := HLT.out; omega))
        have k1 := cl9.j1
        have kf := cl9.free
        have HA9 := hid (hA.mono (T := fun i => i = g3 ∨ w4.heap.size ≤ i) fun i e => Or.inr e)
        have HA10 := hid (HA9.out.trans (ho5.mono fun i e => Or.inl e))
        have dA := (KK.out.cl.below HD.out).j1
        have dB := (KK.out.cl.below (below_on HD.out (below_al w7 (.cells y.r.cs 45)))).j1
        clear hr9 hrs9 ho9 hown9 hA ho5 cl9 hy hb7 hyx
        go_wp2_with fail
        refine hK.out _ _ (HSF.out _ (HTR.out _ HD.out)) (fun hHeld => ?_)
        clear hK K
        refine wpAnyH_ready (rs := [8]) (by kernel_rfl) (by simp) ?_
        refine AllReadyH.cons (o := ⟨some 23, .buildSlice 22 1 #[(0, .tmp 22)], _, _, _, none⟩) rfl (fun K hK => ?_) AllReadyH.nil
        with_reducible refine step_run_val ?_ (.slice (some ⟨w7.heap.size, 0, none⟩) 1 1) (w7.alloc (.cells y.r.cs 45)) ?_ ?_
        · exact rfl
        · exact exec_buildOne hyk rfl (by kernel_rfl)
        refine hK.out _ _ (HSF.out _ (HTR.out _ (below_on HD.out (below_al w7 (.cells y.r.cs 45))))) (fun hHeld => ?_)
        clear hK K
        refine wpAnyH_ready (rs := [9]) (by kernel_rfl) (by simp) ?_
        refine AllReadyH.cons (o := ⟨some 24, .call { callee := .builtin .append, args := #[.tmp 16, .tmp 23], argTypes := #[22, 22] }, 22, _, _, none⟩) rfl (fun K hK => ?_) AllReadyH.nil
        with_reducible refine step_append_ex (R := fun v' w' => v' = .slice p9 n9 c9 ∧ w' = w9) ?_ (.tmp 16) (.tmp 23) 22 ?_ (.slice pu nu cu) (.slice (some ⟨w7.heap.size, 0, none⟩) 1 1) ?_ ?_ ?_ ?_
        · exact rfl
        · exact rfl
        · kernel_rfl
        · kernel_rfl
        · exact ⟨_, _, HRUN.out, rfl, rfl⟩
        rintro v' w' ⟨hv9, hw9⟩
        subst hv9 hw9
        refine hK.out _ _ (HSF.out _ HA9.out) (fun hHeld => ?_)
        clear hK K
        refine wpAnyH_take (i := 10) (oi := ⟨some 25, .fieldAddr 24 (.tmp 3) 1, _, _, _, none⟩) (v := .pointer (some ⟨g3, 1, none⟩)) rfl (by kernel_rfl) (by kernel_rfl) (by kernel_rfl) (fun _ _ _ h => h) (Or.inl ⟨by kernel_rfl, by intro W hW; go_simp⟩) hHeld ?_
        refine wpAnyH_ready (rs := [11]) (by kernel_rfl) (by simp) ?_
        refine AllReadyH.cons rfl (fun K hK => ?_) AllReadyH.nil
        go_simp
        refine hK.out _ _ (HSF.out _ HA10.out) (fun hHeld => ?_)
        clear hK K
        refine wpAnyH_done (by kernel_rfl) ?_ _
        (try simp only [Act.put, List.setIfInBounds_toArray, List.set_cons_zero, List.set_cons_succ])
        clear c1 d1 dA dB k1 kf
        go_wp2
        go_roundg (n - (kk + 1))
        case measure => omega
        case rel => exact ⟨kk + 1, _, m ++ [y], by omega, by omega, by go_num, HKN.out, HRN.out, HCN.out, HSN.out⟩
      · go_simp
        refine (HCP.out _ HD.out).mono ?_
        rintro e w7 ⟨y, rfl, hyx, hy, hyo, hb7⟩
        have hyk := hy.ok
        replace HD := hid (below_on HD.out hb7)
        obtain ⟨v9, w9, hr9, hrs9, ho9, hown9⟩ := Rs.push RS.out SZ.out (below_on HD.out (below_al w7 (.cells y.r.cs 45))) HML.out (CAt.made w7 y.r.cs 45) ((hy.base (show w4.heap.size ≤ wr.drew.heap.size from SZ.out)).below (below_al w7 (.cells y.r.cs 45)))
        obtain ⟨p9, n9, c9, hv9⟩ : ∃ a b c, v9 = .slice a b c := by obtain ⟨a, c, e, _⟩ := hrs9.buf.form; exact ⟨a, _, c, e⟩
        subst hv9
        have HRUN := hid hr9
        have hA : Only (fun i => w4.heap.size ≤ i) wr w9 := (Only.of_below (below_on HD.out (below_al w7 (.cells y.r.cs 45)))).trans (ho9.mono fun i e => (hown9 i e).1)
        have HKN := hid (KK.out.next (u' := .slice p9 n9 c9) hA HLT.out.1 HLT.out.2.1 HLT.out.2.2.1 HNE.out.1 HNE.out.2 HLT.out.2.2.2 HK.out.below.size)
        have ho5 := Only.set (S := fun i => i = g3) w9 ⟨g3, 1, none⟩ (.slice p9 n9 c9) rfl
        have HRN := hid (hrs9.only ho5 (fun i e => by have := HLT.out; omega))
        have HSN : Hid (w4.heap.size ≤ (w9.setCell ⟨g3, 1, none⟩ (.slice p9 n9 c9)).heap.size) := hid (by have := hA.size; have := ho5.size; have := SZ.out; omega)
        have HCN := hid (rcs_next RC.out HXX.out hyx)
        have cl9 := KK.out.cl.keep (hA.block g3 KK.out.cl.lt (by have := HLT.out; omega))
        have k1 := cl9.j1
        have kf := cl9.free
        have HA9 := hid (hA.mono (T := fun i => i = g3 ∨ w4.heap.size ≤ i) fun i e => Or.inr e)
        have HA10 := hid (HA9.out.trans (ho5.mono fun i e => Or.inl e))
        have dA := (KK.out.cl.below HD.out).j1
        have dB := (KK.out.cl.below (below_on HD.out (below_al w7 (.cells y.r.cs 45)))).j1
        clear hr9 hrs9 ho9 hown9 hA ho5 cl9 hy hb7 hyx
        go_wp2_with fail
        refine hK.out _ _ (HSF.out _ (HTR.out _ HD.out)) (fun hHeld => ?_)
        clear hK K
        refine wpAnyH_ready (rs := [1, 8]) (by kernel_rfl) (by simp) ?_
        refine AllReadyH.cons rfl (fun K hK => ?_) (AllReadyH.cons (o := ⟨some 23, .buildSlice 22 1 #[(0, .tmp 22)], _, _, _, none⟩) rfl (fun K hK => ?_) AllReadyH.nil)
        · go_simp
          refine hK.out _ _ (HSF.out _ (HTR.out _ HD.out)) (fun hHeld => ?_)
          clear hK K
          refine wpAnyH_ready (rs := [8]) (by kernel_rfl) (by simp) ?_
          refine AllReadyH.cons (o := ⟨some 23, .buildSlice 22 1 #[(0, .tmp 22)], _, _, _, none⟩) rfl (fun K hK => ?_) AllReadyH.nil
          with_reducible refine step_run_val ?_ (.slice (some ⟨w7.heap.size, 0, none⟩) 1 1) (w7.alloc (.cells y.r.cs 45)) ?_ ?_
          · exact rfl
          · exact exec_buildOne hyk rfl (by kernel_rfl)
          refine hK.out _ _ (HSF.out _ (HTR.out _ (below_on HD.out (below_al w7 (.cells y.r.cs 45))))) (fun hHeld => ?_)
          clear hK K
          refine wpAnyH_ready (rs := [9]) (by kernel_rfl) (by simp) ?_
          refine AllReadyH.cons (o := ⟨some 24, .call { callee := .builtin .append, args := #[.tmp 16, .tmp 23], argTypes := #[22, 22] }, 22, _, _, none⟩) rfl (fun K hK => ?_) AllReadyH.nil
          with_reducible refine step_append_ex (R := fun v' w' => v' = .slice p9 n9 c9 ∧ w' = w9) ?_ (.tmp 16) (.tmp 23) 22 ?_ (.slice pu nu cu) (.slice (some ⟨w7.heap.size, 0, none⟩) 1 1) ?_ ?_ ?_ ?_
          · exact rfl
          · exact rfl
          · kernel_rfl
          · kernel_rfl
          · exact ⟨_, _, HRUN.out, rfl, rfl⟩
          rintro v' w' ⟨hv9, hw9⟩
          subst hv9 hw9
          refine hK.out _ _ (HSF.out _ HA9.out) (fun hHeld => ?_)
          clear hK K
          refine wpAnyH_take (i := 10) (oi := ⟨some 25, .fieldAddr 24 (.tmp 3) 1, _, _, _, none⟩) (v := .pointer (some ⟨g3, 1, none⟩)) rfl (by kernel_rfl) (by kernel_rfl) (by kernel_rfl) (fun _ _ _ h => h) (Or.inl ⟨by kernel_rfl, by intro W hW; go_simp⟩) hHeld ?_
          refine wpAnyH_ready (rs := [11]) (by kernel_rfl) (by simp) ?_
          refine AllReadyH.cons rfl (fun K hK => ?_) AllReadyH.nil
          go_simp
          refine hK.out _ _ (HSF.out _ HA10.out) (fun hHeld => ?_)
          clear hK K
          refine wpAnyH_done (by kernel_rfl) ?_ _
          (try simp only [Act.put, List.setIfInBounds_toArray, List.set_cons_zero, List.set_cons_succ])
          clear c1 d1 dA dB k1 kf
          go_wp2
          go_roundg (n - (kk + 1))
          case measure => omega
          case rel => exact ⟨kk + 1, _, m ++ [y], by omega, by omega, by go_num, HKN.out, HRN.out, HCN.out, HSN.out⟩
        · with_reducible refine step_run_val ?_ (.slice (some ⟨w7.heap.size, 0, none⟩) 1 1) (w7.alloc (.cells y.r.cs 45)) ?_ ?_
          · exact rfl
          · exact exec_buildOne hyk rfl (by kernel_rfl)
          refine hK.out _ _ (HSF.out _ (HTR.out _ (below_on HD.out (below_al w7 (.cells y.r.cs 45))))) (fun hHeld => ?_)
          clear hK K
          refine wpAnyH_ready (rs := [1]) (by kernel_rfl) (by simp) ?_
          refine AllReadyH.cons rfl (fun K hK => ?_) AllReadyH.nil
          go_simp
          refine hK.out _ _ (HSF.out _ (HTR.out _ (below_on HD.out (below_al w7 (.cells y.r.cs 45))))) (fun hHeld => ?_)
          clear hK K
          refine wpAnyH_ready (rs := [9]) (by kernel_rfl) (by simp) ?_
          refine AllReadyH.cons (o := ⟨some 24, .call { callee := .builtin .append, args := #[.tmp 16, .tmp 23], argTypes := #[22, 22] }, 22, _, _, none⟩) rfl (fun K hK => ?_) AllReadyH.nil
          with_reducible refine step_append_ex (R := fun v' w' => v' = .slice p9 n9 c9 ∧ w' = w9) ?_ (.tmp 16) (.tmp 23) 22 ?_ (.slice pu nu cu) (.slice (some ⟨w7.heap.size, 0, none⟩) 1 1) ?_ ?_ ?_ ?_
          · exact rfl
          · exact rfl
          · kernel_rfl
          · kernel_rfl
          · exact ⟨_, _, HRUN.out, rfl, rfl⟩
          rintro v' w' ⟨hv9, hw9⟩
          subst hv9 hw9
          refine hK.out _ _ (HSF.out _ HA9.out) (fun hHeld => ?_)
          clear hK K
          refine wpAnyH_take (i := 10) (oi := ⟨some 25, .fieldAddr 24 (.tmp 3) 1, _, _, _, none⟩) (v := .pointer (some ⟨g3, 1, none⟩)) rfl (by kernel_rfl) (by kernel_rfl) (by kernel_rfl) (fun _ _ _ h => h) (Or.inl ⟨by kernel_rfl, by intro W hW; go_simp⟩) hHeld ?_
          refine wpAnyH_ready (rs := [11]) (by kernel_rfl) (by simp) ?_
          refine AllReadyH.cons rfl (fun K hK => ?_) AllReadyH.nil
          go_simp
          refine hK.out _ _ (HSF.out _ HA10.out) (fun hHeld => ?_)
          clear hK K
          refine wpAnyH_done (by kernel_rfl) ?_ _
          (try simp only [Act.put, List.setIfInBounds_toArray, List.set_cons_zero, List.set_cons_succ])
          clear c1 d1 dA dB k1 kf
          go_wp2
          go_roundg (n - (kk + 1))
          case measure => omega
          case rel => exact ⟨kk + 1, _, m ++ [y], by omega, by omega, by go_num, HKN.out, HRN.out, HCN.out, HSN.out⟩
    · have hltz : ¬ (kk : Int) < (n : Int) := by omega
      obtain ⟨pu, nu, cu, hu⟩ : ∃ a b c, u = .slice a b c := by obtain ⟨a, c, e, _⟩ := RS.out.buf.form; exact ⟨a, _, c, e⟩
      subst hu
      go_wp2_with (first
        | ((with_reducible refine wpList_load_at 24 _ rfl ?_ g3 0 ?_ (jC s (.slice pu nu cu)) (.struct (Tryz.prog.fieldsOf 24)) ?_ underJrn rfl ?_ ?_); exact rfl; exact rfl; exact KK.out.cl.wholeJ; exact sizeJ)
        | ((with_reducible refine wpList_storeJ rfl rfl _ _ rfl g2 ?_ (s := s) (v := .slice pu nu cu) ?_ rfl KK.out.cr ?_); exact rfl; exact rfl; intro w7 h7 o7; have H7 := hid h7; have O7 := hid o7; clear h7 o7))
      refine ret_rowJ1 rfl g2 rfl rfl H7.out ⟨_, m, rfl, ?_, ?_, ?_⟩
      · exact (RS.out.only O7.out (fun i e => by have := HLT.out; omega)).base HK.out.below.size
      · rw [RC.out, List.take_of_length_le (by rw [rcs_len, HN.out]; omega)]
      · exact below_tr KK.out.below (O7.out.below KK.out.below.size (fun i e => by have := HLT.out; have := HG1.out; have := HG2.out; omega))
#print axioms rjcopy_any

end Go.Proofs.YtcbmimjjpkkoeaaGreatDoor
