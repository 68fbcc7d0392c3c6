/- Texts laid into one: the remark ahead of each part says what is proved there. -/
import Derived.Test.YtcbmimjjpkkoeaaGreatDoorQao
/- journal.Add. -/
namespace Go.Proofs.YtcbmimjjpkkoeaaGreatDoor
open Go Go.RowKit

/-- The parameters' blocks and the result's. -/
structure A3 (w : World) (g1 g3 g2 : Nat) (s : Int) (v : Value) (r : Rv) (W : World) : Prop where
  below : Below w.heap.size w W
  cj : CAt W g1 (jC s v) 24
  cx : RBox W g3 r
  cr : CAt W g2 (jC 0 (.slice none 0 0)) 24
theorem step_storeJ {w : World} {ops : Array Oper} {o : Oper} {a : Act} {K : Act → World → Prop} {Q : Exit → Act → World → Prop} {E : Prop} (hgd : o.guard = none) (hdst : o.dst = none) (x y : Operand) (ho : o.op = .store 24 x y) (g : Nat) (hx : a.eval x = ptr g) {s0 s : Int} {v0 v : Value} (hy : a.eval y = .agg (jC s v)) (hv : v.oneCell' = true) (hb : CAt w g (jC s0 v0) 24)
    (h : ∀ w1, CAt w1 g (jC s v) 24 → Only (fun b => b = g) w w1 → K a w1) : if Region.wanted o (yielded ops a.tmps) = true then Oper.wp Tryz.prog o a w K Q else E := by
  obtain ⟨e1, e2⟩ := run_storeJ (s := s) hv hb
  rw [if_pos (by simp [Region.wanted, hgd])]
  unfold Oper.wp execOp
  simp only [ho, hx, hy, ptr, Sem.run_bind, e1, Result.andThen_ok, Sem.run_pure]
  show K (a.put o.dst undef) _
  rw [hdst]
  exact h _ e2 (only_setRow _ _ _ rfl)
theorem A3.on {w W W' : World} {g1 g3 g2 : Nat} {s : Int} {v : Value} {r : Rv} (h : A3 w g1 g3 g2 s v r W) (hr : r.ok) (hb : Below W.heap.size W W') : A3 w g1 g3 g2 s v r W' := ⟨below_on h.below hb, h.cj.below hb, h.cx.below hr hb, h.cr.below hb⟩
set_option maxRecDepth 100000 in
set_option maxHeartbeats 2000000 in
theorem add_a1 (s : Int) (v : Value) (l : List Rp) (x : Rp) (w : World) (hl : RL w v l) (hx : RpOk w x) (hbg : (decide (s = 0) && (rcs l).isEmpty) = false) (hj : okJ ⟨s, rcs l⟩ = false) : Calls Tryz.prog 39 #[.agg (jC s v), .agg x.r.cs] w fun e w' => e = .returned (.tuple #[.agg (jC 0 (.slice none 0 0)), i64 2]) ∧ Below w.heap.size w w' := by
  have HL := hid hl
  have HXO := hid hx
  have hok := hx.ok
  obtain ⟨po, c, rfl, _⟩ := hl
  have HBG : Hid (∀ W, Below w.heap.size w W → Calls Tryz.prog 76 #[.agg (jC s (.slice po l.length c))] W fun e w' => e = .returned (.bool false) ∧ Below W.heap.size W w') := hid fun W hW => by rw [← hbg]; exact begins_any s _ l W (HL.out.below hW)
  have HCK : Hid (∀ W, Below w.heap.size w W → Calls Tryz.prog 7 #[.agg (jC s (.slice po l.length c))] W fun e w' => e = .returned (i64 2) ∧ Below W.heap.size W w') := hid fun W hW => by have h9 := jcheck_any s _ l W (HL.out.below hW); rw [hj] at h9; exact h9
  clear hbg hj hx
  go_enter Tryz.func39, Tryz.ntmps39
  go_wp2_with (first
    | ((with_reducible refine wpList_boxT 24 rfl _ rfl (jC s (.slice po l.length c)) ?_ ?_); exact rfl; intro w1 g1 hc1 hb1 hg1; have HC1 := hid hc1; have HB1 := hid hb1; clear hb1 hc1)
    | ((with_reducible refine wpList_boxR rfl _ rfl x.r.cs ?_ ?_); exact rfl; intro wb g3 hcb hbb hgb; have HCB := hid (RBox.mk' hok hcb); have HC1b := hid (HC1.out.below hbb); have HBB := hid (below_on HB1.out hbb); have HG3 := hid (show g1 < g3 by have := HC1.out.lt; omega); clear hbb hcb hgb)
    | ((with_reducible refine wpList_allocJ rfl rfl ?_); intro w2 g2 hz2 hb2 hg2; have HF : Hid (A3 w g1 g3 g2 s (.slice po l.length c) x.r w2) := hid ⟨below_on HBB.out hb2, HC1b.out.below hb2, HCB.out.below hok hb2, hz2⟩; have HG := hid (show w.heap.size ≤ g2 by have := HBB.out.size; omega); have HG12 := hid (show g1 < g2 by have := HC1b.out.lt; omega); have HG32 := hid (show g3 < g2 by have := HCB.out.at_.lt; omega); clear hz2 hb2 hg2)
    | ((with_reducible refine wpList_load_at 24 _ rfl ?_ g1 0 ?_ (jC s (.slice po l.length c)) (.struct (Tryz.prog.fieldsOf 24)) ?_ underJrn rfl ?_ ?_); exact rfl; exact rfl; exact HF.out.cj.wholeJ; exact sizeJ)
    | ((with_reducible refine wpList_load_at 45 _ rfl ?_ g3 0 ?_ x.r.cs (.struct (Tryz.prog.fieldsOf 45)) ?_ underRec rfl ?_ ?_); exact rfl; exact rfl; exact HF.out.cx.whole; (rw [hok.size]; exact sizeR))
    | (go_at_call 76; refine (HBG.out _ HF.out.below).mono ?_; rintro e w3 ⟨rfl, hb3⟩; replace HF := hid (HF.out.on hok hb3); clear hb3)
    | (go_at_call 7; refine (HCK.out _ HF.out.below).mono ?_; rintro e w4 ⟨rfl, hb4⟩; replace HF := hid (HF.out.on hok hb4); clear hb4)
    | ((with_reducible refine wpList_build_want 24 _ rfl ?_ (jC 0 (.slice none 0 0)) ?_ ?_); exact rfl; exact builtZJ)
    | ((with_reducible refine wpList_storeJ rfl rfl _ _ rfl g2 ?_ (s := 0) (v := .slice none 0 0) ?_ rfl HF.out.cr ?_); exact rfl; exact rfl; intro w7 h7 o7; have H7 := hid h7; have O7 := hid o7; clear h7 o7))
  refine ret_rowJ2 rfl g2 rfl rfl rfl H7.out ⟨rfl, ?_⟩
  exact below_tr HF.out.below (O7.out.below HF.out.below.size (fun i e => by have := HG.out; omega))
set_option maxRecDepth 100000 in
set_option maxHeartbeats 2000000 in
theorem add_a2 (s : Int) (v : Value) (l : List Rp) (x : Rp) (w : World) (hl : RL w v l) (hx : RpOk w x) (hbg : (decide (s = 0) && (rcs l).isEmpty) = true) (hr : okRc x.rc = false) : Calls Tryz.prog 39 #[.agg (jC s v), .agg x.r.cs] w fun e w' => e = .returned (.tuple #[.agg (jC 0 (.slice none 0 0)), i64 2]) ∧ Below w.heap.size w w' := by
  have HL := hid hl
  have HXO := hid hx
  have hok := hx.ok
  obtain ⟨po, c, rfl, _⟩ := hl
  have HBG : Hid (∀ W, Below w.heap.size w W → Calls Tryz.prog 76 #[.agg (jC s (.slice po l.length c))] W fun e w' => e = .returned (.bool true) ∧ Below W.heap.size W w') := hid fun W hW => by rw [← hbg]; exact begins_any s _ l W (HL.out.below hW)
  have HRK : Hid (∀ W, Below w.heap.size w W → Calls Tryz.prog 21 #[.agg x.r.cs] W fun e w' => e = .returned (i64 2) ∧ Below W.heap.size W w') := hid fun W hW => by have h9 := check_any x.r hx.ok x.ps W (hx.pl.below hW); rw [show okRc (x.r.rc x.ps) = false from hr] at h9; exact h9
  clear hbg hr hx
  go_enter Tryz.func39, Tryz.ntmps39
  go_wp2_with (first
    | ((with_reducible refine wpList_boxT 24 rfl _ rfl (jC s (.slice po l.length c)) ?_ ?_); exact rfl; intro w1 g1 hc1 hb1 hg1; have HC1 := hid hc1; have HB1 := hid hb1; clear hb1 hc1)
    | ((with_reducible refine wpList_boxR rfl _ rfl x.r.cs ?_ ?_); exact rfl; intro wb g3 hcb hbb hgb; have HCB := hid (RBox.mk' hok hcb); have HC1b := hid (HC1.out.below hbb); have HBB := hid (below_on HB1.out hbb); have HG3 := hid (show g1 < g3 by have := HC1.out.lt; omega); clear hbb hcb hgb)
    | ((with_reducible refine wpList_allocJ rfl rfl ?_); intro w2 g2 hz2 hb2 hg2; have HF : Hid (A3 w g1 g3 g2 s (.slice po l.length c) x.r w2) := hid ⟨below_on HBB.out hb2, HC1b.out.below hb2, HCB.out.below hok hb2, hz2⟩; have HG := hid (show w.heap.size ≤ g2 by have := HBB.out.size; omega); have HG12 := hid (show g1 < g2 by have := HC1b.out.lt; omega); have HG32 := hid (show g3 < g2 by have := HCB.out.at_.lt; omega); clear hz2 hb2 hg2)
    | ((with_reducible refine wpList_load_at 24 _ rfl ?_ g1 0 ?_ (jC s (.slice po l.length c)) (.struct (Tryz.prog.fieldsOf 24)) ?_ underJrn rfl ?_ ?_); exact rfl; exact rfl; exact HF.out.cj.wholeJ; exact sizeJ)
    | ((with_reducible refine wpList_load_at 45 _ rfl ?_ g3 0 ?_ x.r.cs (.struct (Tryz.prog.fieldsOf 45)) ?_ underRec rfl ?_ ?_); exact rfl; exact rfl; exact HF.out.cx.whole; (rw [hok.size]; exact sizeR))
    | (go_at_call 76; refine (HBG.out _ HF.out.below).mono ?_; rintro e w3 ⟨rfl, hb3⟩; replace HF := hid (HF.out.on hok hb3); clear hb3)
    | (go_at_call 21; refine (HRK.out _ HF.out.below).mono ?_; rintro e w5 ⟨rfl, hb5⟩; replace HF := hid (HF.out.on hok hb5); have c0 := HF.out.cj.j0; have c1 := HF.out.cj.j1; have x0 := HF.out.cx.c0; clear hb5)
    | ((with_reducible refine wpList_build_want 24 _ rfl ?_ (jC 0 (.slice none 0 0)) ?_ ?_); exact rfl; exact builtZJ)
    | ((with_reducible refine wpList_storeJ rfl rfl _ _ rfl g2 ?_ (s := 0) (v := .slice none 0 0) ?_ rfl HF.out.cr ?_); exact rfl; exact rfl; intro w7 h7 o7; have H7 := hid h7; have O7 := hid o7; clear h7 o7))
  refine ret_rowJ2 rfl g2 rfl rfl rfl H7.out ⟨rfl, ?_⟩
  exact below_tr HF.out.below (O7.out.below HF.out.below.size (fun i e => by have := HG.out; omega))
set_option maxRecDepth 100000 in
set_option maxHeartbeats 2000000 in
theorem add_a3 (s : Int) (v : Value) (l : List Rp) (x : Rp) (w : World) (hl : RL w v l) (hx : RpOk w x) (hbg : (decide (s = 0) && (rcs l).isEmpty) = false) (hj : okJ ⟨s, rcs l⟩ = true) (hr : okRc x.rc = false) : Calls Tryz.prog 39 #[.agg (jC s v), .agg x.r.cs] w fun e w' => e = .returned (.tuple #[.agg (jC 0 (.slice none 0 0)), i64 2]) ∧ Below w.heap.size w w' := by
  have HL := hid hl
  have HXO := hid hx
  have hok := hx.ok
  obtain ⟨po, c, rfl, _⟩ := hl
  have HBG : Hid (∀ W, Below w.heap.size w W → Calls Tryz.prog 76 #[.agg (jC s (.slice po l.length c))] W fun e w' => e = .returned (.bool false) ∧ Below W.heap.size W w') := hid fun W hW => by rw [← hbg]; exact begins_any s _ l W (HL.out.below hW)
  have HCK : Hid (∀ W, Below w.heap.size w W → Calls Tryz.prog 7 #[.agg (jC s (.slice po l.length c))] W fun e w' => e = .returned (i64 0) ∧ Below W.heap.size W w') := hid fun W hW => by have h9 := jcheck_any s _ l W (HL.out.below hW); rw [hj] at h9; exact h9
  have HRK : Hid (∀ W, Below w.heap.size w W → Calls Tryz.prog 21 #[.agg x.r.cs] W fun e w' => e = .returned (i64 2) ∧ Below W.heap.size W w') := hid fun W hW => by have h9 := check_any x.r hx.ok x.ps W (hx.pl.below hW); rw [show okRc (x.r.rc x.ps) = false from hr] at h9; exact h9
  clear hbg hj hr hx
  go_enter Tryz.func39, Tryz.ntmps39
  go_wp2_with (first
    | ((with_reducible refine wpList_boxT 24 rfl _ rfl (jC s (.slice po l.length c)) ?_ ?_); exact rfl; intro w1 g1 hc1 hb1 hg1; have HC1 := hid hc1; have HB1 := hid hb1; clear hb1 hc1)
    | ((with_reducible refine wpList_boxR rfl _ rfl x.r.cs ?_ ?_); exact rfl; intro wb g3 hcb hbb hgb; have HCB := hid (RBox.mk' hok hcb); have HC1b := hid (HC1.out.below hbb); have HBB := hid (below_on HB1.out hbb); have HG3 := hid (show g1 < g3 by have := HC1.out.lt; omega); clear hbb hcb hgb)
    | ((with_reducible refine wpList_allocJ rfl rfl ?_); intro w2 g2 hz2 hb2 hg2; have HF : Hid (A3 w g1 g3 g2 s (.slice po l.length c) x.r w2) := hid ⟨below_on HBB.out hb2, HC1b.out.below hb2, HCB.out.below hok hb2, hz2⟩; have HG := hid (show w.heap.size ≤ g2 by have := HBB.out.size; omega); have HG12 := hid (show g1 < g2 by have := HC1b.out.lt; omega); have HG32 := hid (show g3 < g2 by have := HCB.out.at_.lt; omega); clear hz2 hb2 hg2)
    | ((with_reducible refine wpList_load_at 24 _ rfl ?_ g1 0 ?_ (jC s (.slice po l.length c)) (.struct (Tryz.prog.fieldsOf 24)) ?_ underJrn rfl ?_ ?_); exact rfl; exact rfl; exact HF.out.cj.wholeJ; exact sizeJ)
    | ((with_reducible refine wpList_load_at 45 _ rfl ?_ g3 0 ?_ x.r.cs (.struct (Tryz.prog.fieldsOf 45)) ?_ underRec rfl ?_ ?_); exact rfl; exact rfl; exact HF.out.cx.whole; (rw [hok.size]; exact sizeR))
    | (go_at_call 76; refine (HBG.out _ HF.out.below).mono ?_; rintro e w3 ⟨rfl, hb3⟩; replace HF := hid (HF.out.on hok hb3); clear hb3)
    | (go_at_call 7; refine (HCK.out _ HF.out.below).mono ?_; rintro e w4 ⟨rfl, hb4⟩; replace HF := hid (HF.out.on hok hb4); clear hb4)
    | (go_at_call 21; refine (HRK.out _ HF.out.below).mono ?_; rintro e w5 ⟨rfl, hb5⟩; replace HF := hid (HF.out.on hok hb5); have c0 := HF.out.cj.j0; have c1 := HF.out.cj.j1; have x0 := HF.out.cx.c0; clear hb5)
    | ((with_reducible refine wpList_build_want 24 _ rfl ?_ (jC 0 (.slice none 0 0)) ?_ ?_); exact rfl; exact builtZJ)
    | ((with_reducible refine wpList_storeJ rfl rfl _ _ rfl g2 ?_ (s := 0) (v := .slice none 0 0) ?_ rfl HF.out.cr ?_); exact rfl; exact rfl; intro w7 h7 o7; have H7 := hid h7; have O7 := hid o7; clear h7 o7))
  refine ret_rowJ2 rfl g2 rfl rfl rfl H7.out ⟨rfl, ?_⟩
  exact below_tr HF.out.below (O7.out.below HF.out.below.size (fun i e => by have := HG.out; omega))
set_option maxRecDepth 100000 in
set_option maxHeartbeats 2000000 in
theorem add_f1 (v : Value) (l : List Rp) (x : Rp) (w : World) (hl : RL w v l) (hx : RpOk w x) (hbg : (decide ((1099511627776 : Int) = 0) && (rcs l).isEmpty) = false) (hj : okJ ⟨1099511627776, rcs l⟩ = true) (hr : okRc x.rc = true) : Calls Tryz.prog 39 #[.agg (jC 1099511627776 v), .agg x.r.cs] w fun e w' => e = .returned (.tuple #[.agg (jC 0 (.slice none 0 0)), i64 8]) ∧ Below w.heap.size w w' := by
  have HL := hid hl
  have HXO := hid hx
  have hok := hx.ok
  obtain ⟨po, c, rfl, _⟩ := hl
  have HBG : Hid (∀ W, Below w.heap.size w W → Calls Tryz.prog 76 #[.agg (jC 1099511627776 (.slice po l.length c))] W fun e w' => e = .returned (.bool false) ∧ Below W.heap.size W w') := hid fun W hW => by rw [← hbg]; exact begins_any 1099511627776 _ l W (HL.out.below hW)
  have HCK : Hid (∀ W, Below w.heap.size w W → Calls Tryz.prog 7 #[.agg (jC 1099511627776 (.slice po l.length c))] W fun e w' => e = .returned (i64 0) ∧ Below W.heap.size W w') := hid fun W hW => by have h9 := jcheck_any 1099511627776 _ l W (HL.out.below hW); rw [hj] at h9; exact h9
  have HRK : Hid (∀ W, Below w.heap.size w W → Calls Tryz.prog 21 #[.agg x.r.cs] W fun e w' => e = .returned (i64 0) ∧ Below W.heap.size W w') := hid fun W hW => by have h9 := check_any x.r hx.ok x.ps W (hx.pl.below hW); rw [show okRc (x.r.rc x.ps) = true from hr] at h9; exact h9
  clear hbg hj hr hx
  go_enter Tryz.func39, Tryz.ntmps39
  go_wp2_with (first
    | ((with_reducible refine wpList_boxT 24 rfl _ rfl (jC 1099511627776 (.slice po l.length c)) ?_ ?_); exact rfl; intro w1 g1 hc1 hb1 hg1; have HC1 := hid hc1; have HB1 := hid hb1; clear hb1 hc1)
    | ((with_reducible refine wpList_boxR rfl _ rfl x.r.cs ?_ ?_); exact rfl; intro wb g3 hcb hbb hgb; have HCB := hid (RBox.mk' hok hcb); have HC1b := hid (HC1.out.below hbb); have HBB := hid (below_on HB1.out hbb); have HG3 := hid (show g1 < g3 by have := HC1.out.lt; omega); clear hbb hcb hgb)
    | ((with_reducible refine wpList_allocJ rfl rfl ?_); intro w2 g2 hz2 hb2 hg2; have HF : Hid (A3 w g1 g3 g2 1099511627776 (.slice po l.length c) x.r w2) := hid ⟨below_on HBB.out hb2, HC1b.out.below hb2, HCB.out.below hok hb2, hz2⟩; have HG := hid (show w.heap.size ≤ g2 by have := HBB.out.size; omega); have HG12 := hid (show g1 < g2 by have := HC1b.out.lt; omega); have HG32 := hid (show g3 < g2 by have := HCB.out.at_.lt; omega); clear hz2 hb2 hg2)
    | ((with_reducible refine wpList_load_at 24 _ rfl ?_ g1 0 ?_ (jC 1099511627776 (.slice po l.length c)) (.struct (Tryz.prog.fieldsOf 24)) ?_ underJrn rfl ?_ ?_); exact rfl; exact rfl; exact HF.out.cj.wholeJ; exact sizeJ)
    | ((with_reducible refine wpList_load_at 45 _ rfl ?_ g3 0 ?_ x.r.cs (.struct (Tryz.prog.fieldsOf 45)) ?_ underRec rfl ?_ ?_); exact rfl; exact rfl; exact HF.out.cx.whole; (rw [hok.size]; exact sizeR))
    | (go_at_call 76; refine (HBG.out _ HF.out.below).mono ?_; rintro e w3 ⟨rfl, hb3⟩; replace HF := hid (HF.out.on hok hb3); clear hb3)
    | (go_at_call 7; refine (HCK.out _ HF.out.below).mono ?_; rintro e w4 ⟨rfl, hb4⟩; replace HF := hid (HF.out.on hok hb4); clear hb4)
    | (go_at_call 21; refine (HRK.out _ HF.out.below).mono ?_; rintro e w5 ⟨rfl, hb5⟩; replace HF := hid (HF.out.on hok hb5); have c0 := HF.out.cj.j0; have c1 := HF.out.cj.j1; have x0 := HF.out.cx.c0; clear hb5)
    | (go_at_call 77; refine (without_any _ l x.r.id _ (HL.out.below HF.out.below)).mono ?_; rintro e w6 ⟨v6, m, rfl, hr6, he6, hb6⟩; obtain ⟨p6, c6, hv6, _⟩ := hr6.buf.form; subst hv6; have HR6 := hid hr6; have HLT := hid (show g1 < w5.heap.size ∧ g3 < w5.heap.size ∧ g2 < w5.heap.size ∧ w.heap.size ≤ w5.heap.size from ⟨HF.out.cj.lt, HF.out.cx.at_.lt, HF.out.cr.lt, HF.out.below.size⟩); have HB6 := hid hb6.size; have hml : m.length = (wout (rcs l) (lst x.r.id)).length := (by have := congrArg List.length he6; rwa [rcs_len] at this); have HE6 := hid he6; replace HF := hid (HF.out.on hok hb6); clear c0 c1 x0; have c0 := HF.out.cj.j0; have c1 := HF.out.cj.j1; skip; clear hml hr6 he6 hb6)
    | ((with_reducible refine wpList_build_want 24 _ rfl ?_ (jC 0 (.slice none 0 0)) ?_ ?_); exact rfl; exact builtZJ)
    | ((with_reducible refine wpList_storeJ rfl rfl _ _ rfl g2 ?_ (s := 0) (v := .slice none 0 0) ?_ rfl HF.out.cr ?_); exact rfl; exact rfl; intro w7 h7 o7; have H7 := hid h7; have O7 := hid o7; clear h7 o7))
  refine ret_rowJ2 rfl g2 rfl rfl rfl H7.out ⟨rfl, ?_⟩
  exact below_tr HF.out.below (O7.out.below HF.out.below.size (fun i e => by have := HG.out; omega))
set_option maxRecDepth 100000 in
set_option maxHeartbeats 2000000 in
theorem add_f2 (s : Int) (v : Value) (l : List Rp) (x : Rp) (w : World) (hl : RL w v l) (hx : RpOk w x) (hbg : (decide (s = 0) && (rcs l).isEmpty) = false) (hj : okJ ⟨s, rcs l⟩ = true) (hr : okRc x.rc = true) (hs : ¬ s = 1099511627776) (h64 : (wout (rcs l) (lst x.r.id)).length = 64) : Calls Tryz.prog 39 #[.agg (jC s v), .agg x.r.cs] w fun e w' => e = .returned (.tuple #[.agg (jC 0 (.slice none 0 0)), i64 8]) ∧ Below w.heap.size w w' := by
  have HL := hid hl
  have HXO := hid hx
  have hok := hx.ok
  obtain ⟨po, c, rfl, _⟩ := hl
  have HBG : Hid (∀ W, Below w.heap.size w W → Calls Tryz.prog 76 #[.agg (jC s (.slice po l.length c))] W fun e w' => e = .returned (.bool false) ∧ Below W.heap.size W w') := hid fun W hW => by rw [← hbg]; exact begins_any s _ l W (HL.out.below hW)
  have HCK : Hid (∀ W, Below w.heap.size w W → Calls Tryz.prog 7 #[.agg (jC s (.slice po l.length c))] W fun e w' => e = .returned (i64 0) ∧ Below W.heap.size W w') := hid fun W hW => by have h9 := jcheck_any s _ l W (HL.out.below hW); rw [hj] at h9; exact h9
  have HRK : Hid (∀ W, Below w.heap.size w W → Calls Tryz.prog 21 #[.agg x.r.cs] W fun e w' => e = .returned (i64 0) ∧ Below W.heap.size W w') := hid fun W hW => by have h9 := check_any x.r hx.ok x.ps W (hx.pl.below hW); rw [show okRc (x.r.rc x.ps) = true from hr] at h9; exact h9
  have H64 := hid h64
  clear hbg hj hr hx h64
  go_enter Tryz.func39, Tryz.ntmps39
  go_wp2_with (first
    | ((with_reducible refine wpList_boxT 24 rfl _ rfl (jC s (.slice po l.length c)) ?_ ?_); exact rfl; intro w1 g1 hc1 hb1 hg1; have HC1 := hid hc1; have HB1 := hid hb1; clear hb1 hc1)
    | ((with_reducible refine wpList_boxR rfl _ rfl x.r.cs ?_ ?_); exact rfl; intro wb g3 hcb hbb hgb; have HCB := hid (RBox.mk' hok hcb); have HC1b := hid (HC1.out.below hbb); have HBB := hid (below_on HB1.out hbb); have HG3 := hid (show g1 < g3 by have := HC1.out.lt; omega); clear hbb hcb hgb)
    | ((with_reducible refine wpList_allocJ rfl rfl ?_); intro w2 g2 hz2 hb2 hg2; have HF : Hid (A3 w g1 g3 g2 s (.slice po l.length c) x.r w2) := hid ⟨below_on HBB.out hb2, HC1b.out.below hb2, HCB.out.below hok hb2, hz2⟩; have HG := hid (show w.heap.size ≤ g2 by have := HBB.out.size; omega); have HG12 := hid (show g1 < g2 by have := HC1b.out.lt; omega); have HG32 := hid (show g3 < g2 by have := HCB.out.at_.lt; omega); clear hz2 hb2 hg2)
    | ((with_reducible refine wpList_load_at 24 _ rfl ?_ g1 0 ?_ (jC s (.slice po l.length c)) (.struct (Tryz.prog.fieldsOf 24)) ?_ underJrn rfl ?_ ?_); exact rfl; exact rfl; exact HF.out.cj.wholeJ; exact sizeJ)
    | ((with_reducible refine wpList_load_at 45 _ rfl ?_ g3 0 ?_ x.r.cs (.struct (Tryz.prog.fieldsOf 45)) ?_ underRec rfl ?_ ?_); exact rfl; exact rfl; exact HF.out.cx.whole; (rw [hok.size]; exact sizeR))
    | (go_at_call 76; refine (HBG.out _ HF.out.below).mono ?_; rintro e w3 ⟨rfl, hb3⟩; replace HF := hid (HF.out.on hok hb3); clear hb3)
    | (go_at_call 7; refine (HCK.out _ HF.out.below).mono ?_; rintro e w4 ⟨rfl, hb4⟩; replace HF := hid (HF.out.on hok hb4); clear hb4)
    | (go_at_call 21; refine (HRK.out _ HF.out.below).mono ?_; rintro e w5 ⟨rfl, hb5⟩; replace HF := hid (HF.out.on hok hb5); have c0 := HF.out.cj.j0; have c1 := HF.out.cj.j1; have x0 := HF.out.cx.c0; clear hb5)
    | (go_at_call 77; refine (without_any _ l x.r.id _ (HL.out.below HF.out.below)).mono ?_; rintro e w6 ⟨v6, m, rfl, hr6, he6, hb6⟩; obtain ⟨p6, c6, hv6, _⟩ := hr6.buf.form; subst hv6; have HR6 := hid hr6; have HLT := hid (show g1 < w5.heap.size ∧ g3 < w5.heap.size ∧ g2 < w5.heap.size ∧ w.heap.size ≤ w5.heap.size from ⟨HF.out.cj.lt, HF.out.cx.at_.lt, HF.out.cr.lt, HF.out.below.size⟩); have HB6 := hid hb6.size; have hml : m.length = (wout (rcs l) (lst x.r.id)).length := (by have := congrArg List.length he6; rwa [rcs_len] at this); have HE6 := hid he6; replace HF := hid (HF.out.on hok hb6); clear c0 c1 x0; have c0 := HF.out.cj.j0; have c1 := HF.out.cj.j1; have hm64 : (m.length : Int) = 64 := (by have := H64.out; omega); clear hml hr6 he6 hb6)
    | ((with_reducible refine wpList_build_want 24 _ rfl ?_ (jC 0 (.slice none 0 0)) ?_ ?_); exact rfl; exact builtZJ)
    | ((with_reducible refine wpList_storeJ rfl rfl _ _ rfl g2 ?_ (s := 0) (v := .slice none 0 0) ?_ rfl HF.out.cr ?_); exact rfl; exact rfl; intro w7 h7 o7; have H7 := hid h7; have O7 := hid o7; clear h7 o7))
  refine ret_rowJ2 rfl g2 rfl rfl rfl H7.out ⟨rfl, ?_⟩
  exact below_tr HF.out.below (O7.out.below HF.out.below.size (fun i e => by have := HG.out; omega))
set_option maxRecDepth 100000 in
set_option maxHeartbeats 2000000 in
theorem add_o2 (s : Int) (v : Value) (l : List Rp) (x : Rp) (w : World) (hl : RL w v l) (hx : RpOk w x) (hbg : (decide (s = 0) && (rcs l).isEmpty) = false) (hj : okJ ⟨s, rcs l⟩ = true) (hr : okRc x.rc = true) (hs0 : 0 ≤ s) (hs : s < 1099511627776) (h64 : (wout (rcs l) (lst x.r.id)).length < 64) : Calls Tryz.prog 39 #[.agg (jC s v), .agg x.r.cs] w (JouE w (s + 1) (x.rc :: wout (rcs l) (lst x.r.id))) := by
  have HL := hid hl
  have HXO := hid hx
  have hok := hx.ok
  obtain ⟨po, c, rfl, _⟩ := hl
  have HBG : Hid (∀ W, Below w.heap.size w W → Calls Tryz.prog 76 #[.agg (jC s (.slice po l.length c))] W fun e w' => e = .returned (.bool false) ∧ Below W.heap.size W w') := hid fun W hW => by rw [← hbg]; exact begins_any s _ l W (HL.out.below hW)
  have HCK : Hid (∀ W, Below w.heap.size w W → Calls Tryz.prog 7 #[.agg (jC s (.slice po l.length c))] W fun e w' => e = .returned (i64 0) ∧ Below W.heap.size W w') := hid fun W hW => by have h9 := jcheck_any s _ l W (HL.out.below hW); rw [hj] at h9; exact h9
  have HRK : Hid (∀ W, Below w.heap.size w W → Calls Tryz.prog 21 #[.agg x.r.cs] W fun e w' => e = .returned (i64 0) ∧ Below W.heap.size W w') := hid fun W hW => by have h9 := check_any x.r hx.ok x.ps W (hx.pl.below hW); rw [show okRc (x.r.rc x.ps) = true from hr] at h9; exact h9
  have H64 := hid h64
  have hs2 : (s == 1099511627776) = false := beq_eq_false_iff_ne.2 (by omega)
  clear hbg hj hr hx h64
  go_enter Tryz.func39, Tryz.ntmps39
  go_wp2_with (first
    | ((with_reducible refine wpList_boxT 24 rfl _ rfl (jC s (.slice po l.length c)) ?_ ?_); exact rfl; intro w1 g1 hc1 hb1 hg1; have HC1 := hid hc1; have HB1 := hid hb1; clear hb1 hc1)
    | ((with_reducible refine wpList_boxR rfl _ rfl x.r.cs ?_ ?_); exact rfl; intro wb g3 hcb hbb hgb; have HCB := hid (RBox.mk' hok hcb); have HC1b := hid (HC1.out.below hbb); have HBB := hid (below_on HB1.out hbb); have HG3 := hid (show g1 < g3 by have := HC1.out.lt; omega); clear hbb hcb hgb)
    | ((with_reducible refine wpList_allocJ rfl rfl ?_); intro w2 g2 hz2 hb2 hg2; have HF : Hid (A3 w g1 g3 g2 s (.slice po l.length c) x.r w2) := hid ⟨below_on HBB.out hb2, HC1b.out.below hb2, HCB.out.below hok hb2, hz2⟩; have HG := hid (show w.heap.size ≤ g2 by have := HBB.out.size; omega); have HG12 := hid (show g1 < g2 by have := HC1b.out.lt; omega); have HG32 := hid (show g3 < g2 by have := HCB.out.at_.lt; omega); clear hz2 hb2 hg2)
    | ((with_reducible refine wpList_load_at 24 _ rfl ?_ g1 0 ?_ (jC s (.slice po l.length c)) (.struct (Tryz.prog.fieldsOf 24)) ?_ underJrn rfl ?_ ?_); exact rfl; exact rfl; exact HF.out.cj.wholeJ; exact sizeJ)
    | ((with_reducible refine wpList_load_at 45 _ rfl ?_ g3 0 ?_ x.r.cs (.struct (Tryz.prog.fieldsOf 45)) ?_ underRec rfl ?_ ?_); exact rfl; exact rfl; exact HF.out.cx.whole; (rw [hok.size]; exact sizeR))
    | (go_at_call 76; refine (HBG.out _ HF.out.below).mono ?_; rintro e w3 ⟨rfl, hb3⟩; replace HF := hid (HF.out.on hok hb3); clear hb3)
    | (go_at_call 7; refine (HCK.out _ HF.out.below).mono ?_; rintro e w4 ⟨rfl, hb4⟩; replace HF := hid (HF.out.on hok hb4); clear hb4)
    | (go_at_call 21; refine (HRK.out _ HF.out.below).mono ?_; rintro e w5 ⟨rfl, hb5⟩; replace HF := hid (HF.out.on hok hb5); have c0 := HF.out.cj.j0; have c1 := HF.out.cj.j1; have x0 := HF.out.cx.c0; clear hb5)
    | (go_at_call 77; refine (without_any _ l x.r.id _ (HL.out.below HF.out.below)).mono ?_; rintro e w6 ⟨v6, m, rfl, hr6, he6, hb6⟩; obtain ⟨p6, c6, hv6, _⟩ := hr6.buf.form; subst hv6; have HR6 := hid hr6; have HLT := hid (show g1 < w5.heap.size ∧ g3 < w5.heap.size ∧ g2 < w5.heap.size ∧ w.heap.size ≤ w5.heap.size from ⟨HF.out.cj.lt, HF.out.cx.at_.lt, HF.out.cr.lt, HF.out.below.size⟩); have HB6 := hid hb6.size; have hml : m.length = (wout (rcs l) (lst x.r.id)).length := (by have := congrArg List.length he6; rwa [rcs_len] at this); have HE6 := hid he6; replace HF := hid (HF.out.on hok hb6); clear c0 c1 x0; have c0 := HF.out.cj.j0; have c1 := HF.out.cj.j1; have hm64 : ((m.length : Int) == 64) = false := beq_eq_false_iff_ne.2 (by have := H64.out; omega); have hm65 : (m.length : Int) < 64 := (by have := H64.out; omega); clear hml hr6 he6 hb6)
    | ((with_reducible refine wpList_build_want 24 _ rfl ?_ (jC 0 (.slice none 0 0)) ?_ ?_); exact rfl; exact builtZJ)
    | ((with_reducible refine wpList_storeJ rfl rfl _ _ rfl g2 ?_ (s := 0) (v := .slice none 0 0) ?_ rfl HF.out.cr ?_); exact rfl; exact rfl; intro w7 h7 o7; have H7 := hid h7; have O7 := hid o7; clear h7 o7))
  have HML := hid (show m.length ≤ 100000 by omega)
  have hw1 : IntKind.i64.wrap (s + 1) = s + 1 := by rw [IntKind.wrap_i64]; omega
  have HSF : Hid (∀ W, Below w6.heap.size w6 W → (Instr.loadAt 45 (.pointer (some ⟨g3, 0, none⟩))).run Tryz.prog W = .ok (.agg x.r.cs) W ∧ W.cell? ⟨g1, 0, none⟩ = some (i64 s)) := hid (fun W hW => ⟨run_loadR hok (HF.out.cx.below hok hW), (HF.out.cj.below hW).j0⟩)
  refine wp_region_held_drew (S := fun W => (Instr.loadAt 45 (.pointer (some ⟨g3, 0, none⟩))).run Tryz.prog W = .ok (.agg x.r.cs) W ∧ W.cell? ⟨g1, 0, none⟩ = some (i64 s)) (by kernel_rfl) (HSF.out _ (below_drew _)) (fun hHeld => ?_)
  have HD := hid (below_drew w6)
  refine wpAnyH_take (i := 0) (oi := ⟨some 35, .fieldAddr 24 (.tmp 2) 0, _, _, _, none⟩) (v := .pointer (some ⟨g1, 0, none⟩)) rfl (by kernel_rfl) (by kernel_rfl) (by kernel_rfl) (fun _ _ _ h => h) (Or.inl ⟨by kernel_rfl, by intro W hW; go_simp⟩) hHeld ?_
  refine wpAnyH_take (i := 1) (oi := ⟨some 36, .load 3 (.tmp 35), _, _, _, none⟩) (v := i64 s) rfl (by kernel_rfl) (by kernel_rfl) (by kernel_rfl) (fun _ _ _ h => h) (Or.inl ⟨by kernel_rfl, by intro W hW; have q0 := hW.2; go_simp⟩) hHeld ?_
  refine wpAnyH_take (i := 2) (oi := ⟨some 37, .binOp .add 3 (.tmp 36) (.const (.int .i64 1)) 3, _, _, _, none⟩) (v := i64 (s + 1)) rfl (by kernel_rfl) (by kernel_rfl) (by kernel_rfl) (fun _ _ _ h => h) (Or.inl ⟨by kernel_rfl, by intro W hW; go_simp⟩) hHeld ?_
  refine wpAnyH_take (i := 3) (oi := ⟨some 38, .move (.tmp 6), _, _, _, none⟩) (v := .slice p6 m.length c6) rfl (by kernel_rfl) (by kernel_rfl) (by kernel_rfl) (fun _ _ _ h => h) (Or.inl ⟨by kernel_rfl, by intro W hW; go_simp⟩) hHeld ?_
  refine wpAnyH_take (i := 4) (oi := ⟨some 39, .load 45 (.tmp 3), _, _, _, none⟩) (v := .agg x.r.cs) rfl (by kernel_rfl) (by kernel_rfl) (by kernel_rfl) (fun _ _ _ h => h) (Or.inl ⟨by kernel_rfl, fun W hW => exec_load rfl (by kernel_rfl) hW.1⟩) hHeld ?_
  refine wpAnyH_ready (rs := [5]) (by kernel_rfl) (by simp) ?_
  refine AllReadyH.cons rfl (fun K hK => ?_) AllReadyH.nil
  go_simp
  refine (copyR_any x _ (HXO.out.below (below_on HF.out.below HD.out))).mono ?_
  rintro e w7 ⟨y, rfl, hyx, hy, hyo, hb7⟩
  have hyk := hy.ok
  have HY := hid (hy.base (show w5.heap.size ≤ w6.drew.heap.size from HB6.out))
  have HYX := hid hyx
  replace HD := hid (below_on HD.out hb7)
  clear hb7 hyx hy
  go_wp2_with fail
  refine hK.out _ _ (HSF.out _ HD.out) (fun hHeld => ?_)
  clear hK K
  refine wpAnyH_ready (rs := [6]) (by kernel_rfl) (by simp) ?_
  refine AllReadyH.cons (o := ⟨some 41, .buildSlice 22 1 #[(0, .tmp 40)], _, _, _, none⟩) rfl (fun K hK => ?_) AllReadyH.nil
  with_reducible refine step_run_val ?_ (.slice (some ⟨w7.heap.size, 0, none⟩) 1 1) (w7.alloc (.cells y.r.cs 45)) ?_ ?_
  · exact rfl
  · exact exec_buildOne hyk rfl (by kernel_rfl)
  have HCL := hid (CAt.made w7 y.r.cs 45)
  have HB8 := hid (below_al w7 (.cells y.r.cs 45))
  have HG7 := hid (show ∀ b, (Value.slice p6 m.length c6).ownBlock = some b → b ≠ w7.heap.size from fun b hb e => by have := (own_ge HR6.out.buf b hb).2; have := HD.out.size; omega)
  have HD7 := hid HD.out
  replace HD := hid (below_on HD.out HB8.out)
  generalize hw8 : w7.alloc (.cells y.r.cs 45) = w8 at HCL HB8 HD ⊢
  generalize hg8 : w7.heap.size = g8 at HCL HG7 ⊢
  have HY8 := hid (HY.out.below HB8.out)
  clear hw8 hg8
  refine hK.out _ _ (HSF.out _ HD.out) (fun hHeld => ?_)
  clear hK K
  refine wpAnyH_ready (rs := [7]) (by kernel_rfl) (by simp) ?_
  refine AllReadyH.cons rfl (fun K hK => ?_) AllReadyH.nil
  go_simp
  refine (insert_any w5.heap.size _ m y g8 _ (HR6.out.below HD.out) HML.out HCL.out HY8.out (by have := HB6.out; have := HD.out.size; omega) HG7.out).mono ?_
  rintro e w9 ⟨v9, m9, rfl, hr9, he9, hb9⟩
  obtain ⟨p9, c9, hv9, _⟩ := hr9.buf.form
  subst hv9
  have HR9 := hid hr9
  have HE9 := hid he9
  have HF9 : Hid (A3 w g1 g3 g2 s (.slice po l.length c) x.r w9) := hid (by
    have h8 := HF.out.on hok HD.out
    have hlt := HLT.out
    exact ⟨below_tr h8.below (below_less hb9 hlt.2.2.2), h8.cj.keep (hb9.block g1 hlt.1), RBox.mk' hok (h8.cx.at_.keep (hb9.block g3 hlt.2.1)), h8.cr.keep (hb9.block g2 hlt.2.2.1)⟩)
  have HS9 := hid (show (Instr.loadAt 45 (.pointer (some ⟨g3, 0, none⟩))).run Tryz.prog w9 = .ok (.agg x.r.cs) w9 ∧ w9.cell? ⟨g1, 0, none⟩ = some (i64 s) from ⟨run_loadR hok HF9.out.cx, HF9.out.cj.j0⟩)
  clear hr9 he9 hb9
  go_wp2_with fail
  refine hK.out _ _ HS9.out (fun hHeld => ?_)
  clear hK K
  refine wpAnyH_take (i := 8) (oi := ⟨some 43, .build 24 #[(0, .tmp 37), (1, .tmp 42)], _, _, _, none⟩) (v := .agg (jC (s + 1) (.slice p9 m9.length c9))) rfl (by kernel_rfl) (by kernel_rfl) (by kernel_rfl) (fun _ _ _ h => h) (Or.inl ⟨by kernel_rfl, by intro W hW; go_simp; rfl⟩) hHeld ?_
  refine wpAnyH_ready (rs := [9]) (by kernel_rfl) (by simp) ?_
  refine AllReadyH.cons (o := ⟨none, .store 24 (.tmp 4) (.tmp 43), _, _, _, none⟩) rfl (fun K hK => ?_) AllReadyH.nil
  with_reducible refine step_storeJ ?_ ?_ (.tmp 4) (.tmp 43) ?_ g2 ?_ (s := s + 1) (v := .slice p9 m9.length c9) ?_ ?_ HF9.out.cr ?_
  · exact rfl
  · exact rfl
  · exact rfl
  · kernel_rfl
  · kernel_rfl
  · exact rfl
  intro w10 h10 o10
  have H10 := hid h10
  have O10 := hid o10
  clear h10 o10
  refine hK.out _ _ ⟨run_loadR hok (HF9.out.cx.only hok O10.out (by have := HG32.out; omega)), (HF9.out.cj.keep (O10.out.block g1 HF9.out.cj.lt (by have := HG12.out; omega))).j0⟩ (fun hHeld => ?_)
  clear hK K
  refine wpAnyH_take (i := 10) (oi := ⟨some 5, .assign (.const (.int .i64 0)), _, _, _, none⟩) (v := i64 0) rfl (by kernel_rfl) (by kernel_rfl) (by kernel_rfl) (fun _ _ _ h => h) (Or.inl ⟨by kernel_rfl, by intro W hW; go_simp⟩) hHeld ?_
  refine wpAnyH_done (by kernel_rfl) ?_ _
  simp only [Act.put, List.setIfInBounds_toArray, List.set_cons_zero, List.set_cons_succ]
  go_wp2
  refine ret_rowJ2 rfl g2 rfl rfl rfl H10.out ⟨_, m9, rfl, (HR9.out.only O10.out (fun i e => by have := HLT.out; omega)).base HLT.out.2.2.2, ?_, below_tr HF9.out.below (O10.out.below HF9.out.below.size (fun i e => by have := HG.out; omega))⟩
  rw [HE9.out, HYX.out, HE6.out]
set_option maxRecDepth 100000 in
set_option maxHeartbeats 2000000 in
theorem add_o1 (s : Int) (v : Value) (l : List Rp) (x : Rp) (w : World) (hl : RL w v l) (hx : RpOk w x) (hbg : (decide (s = 0) && (rcs l).isEmpty) = true) (hr : okRc x.rc = true) (hs0 : 0 ≤ s) (hs : s < 1099511627776) (h64 : (wout (rcs l) (lst x.r.id)).length < 64) : Calls Tryz.prog 39 #[.agg (jC s v), .agg x.r.cs] w (JouE w (s + 1) (x.rc :: wout (rcs l) (lst x.r.id))) := by
  have HL := hid hl
  have HXO := hid hx
  have hok := hx.ok
  obtain ⟨po, c, rfl, _⟩ := hl
  have HBG : Hid (∀ W, Below w.heap.size w W → Calls Tryz.prog 76 #[.agg (jC s (.slice po l.length c))] W fun e w' => e = .returned (.bool true) ∧ Below W.heap.size W w') := hid fun W hW => by rw [← hbg]; exact begins_any s _ l W (HL.out.below hW)
  have HRK : Hid (∀ W, Below w.heap.size w W → Calls Tryz.prog 21 #[.agg x.r.cs] W fun e w' => e = .returned (i64 0) ∧ Below W.heap.size W w') := hid fun W hW => by have h9 := check_any x.r hx.ok x.ps W (hx.pl.below hW); rw [show okRc (x.r.rc x.ps) = true from hr] at h9; exact h9
  have H64 := hid h64
  have hs2 : (s == 1099511627776) = false := beq_eq_false_iff_ne.2 (by omega)
  clear hbg hr hx h64
  go_enter Tryz.func39, Tryz.ntmps39
  go_wp2_with (first
    | ((with_reducible refine wpList_boxT 24 rfl _ rfl (jC s (.slice po l.length c)) ?_ ?_); exact rfl; intro w1 g1 hc1 hb1 hg1; have HC1 := hid hc1; have HB1 := hid hb1; clear hb1 hc1)
    | ((with_reducible refine wpList_boxR rfl _ rfl x.r.cs ?_ ?_); exact rfl; intro wb g3 hcb hbb hgb; have HCB := hid (RBox.mk' hok hcb); have HC1b := hid (HC1.out.below hbb); have HBB := hid (below_on HB1.out hbb); have HG3 := hid (show g1 < g3 by have := HC1.out.lt; omega); clear hbb hcb hgb)
    | ((with_reducible refine wpList_allocJ rfl rfl ?_); intro w2 g2 hz2 hb2 hg2; have HF : Hid (A3 w g1 g3 g2 s (.slice po l.length c) x.r w2) := hid ⟨below_on HBB.out hb2, HC1b.out.below hb2, HCB.out.below hok hb2, hz2⟩; have HG := hid (show w.heap.size ≤ g2 by have := HBB.out.size; omega); have HG12 := hid (show g1 < g2 by have := HC1b.out.lt; omega); have HG32 := hid (show g3 < g2 by have := HCB.out.at_.lt; omega); clear hz2 hb2 hg2)
    | ((with_reducible refine wpList_load_at 24 _ rfl ?_ g1 0 ?_ (jC s (.slice po l.length c)) (.struct (Tryz.prog.fieldsOf 24)) ?_ underJrn rfl ?_ ?_); exact rfl; exact rfl; exact HF.out.cj.wholeJ; exact sizeJ)
    | ((with_reducible refine wpList_load_at 45 _ rfl ?_ g3 0 ?_ x.r.cs (.struct (Tryz.prog.fieldsOf 45)) ?_ underRec rfl ?_ ?_); exact rfl; exact rfl; exact HF.out.cx.whole; (rw [hok.size]; exact sizeR))
    | (go_at_call 76; refine (HBG.out _ HF.out.below).mono ?_; rintro e w3 ⟨rfl, hb3⟩; replace HF := hid (HF.out.on hok hb3); clear hb3)
    | (go_at_call 21; refine (HRK.out _ HF.out.below).mono ?_; rintro e w5 ⟨rfl, hb5⟩; replace HF := hid (HF.out.on hok hb5); have c0 := HF.out.cj.j0; have c1 := HF.out.cj.j1; have x0 := HF.out.cx.c0; clear hb5)
    | (go_at_call 77; refine (without_any _ l x.r.id _ (HL.out.below HF.out.below)).mono ?_; rintro e w6 ⟨v6, m, rfl, hr6, he6, hb6⟩; obtain ⟨p6, c6, hv6, _⟩ := hr6.buf.form; subst hv6; have HR6 := hid hr6; have HLT := hid (show g1 < w5.heap.size ∧ g3 < w5.heap.size ∧ g2 < w5.heap.size ∧ w.heap.size ≤ w5.heap.size from ⟨HF.out.cj.lt, HF.out.cx.at_.lt, HF.out.cr.lt, HF.out.below.size⟩); have HB6 := hid hb6.size; have hml : m.length = (wout (rcs l) (lst x.r.id)).length := (by have := congrArg List.length he6; rwa [rcs_len] at this); have HE6 := hid he6; replace HF := hid (HF.out.on hok hb6); clear c0 c1 x0; have c0 := HF.out.cj.j0; have c1 := HF.out.cj.j1; have hm64 : ((m.length : Int) == 64) = false := beq_eq_false_iff_ne.2 (by have := H64.out; omega); have hm65 : (m.length : Int) < 64 := (by have := H64.out; omega); clear hml hr6 he6 hb6)
    | ((with_reducible refine wpList_build_want 24 _ rfl ?_ (jC 0 (.slice none 0 0)) ?_ ?_); exact rfl; exact builtZJ)
    | ((with_reducible refine wpList_storeJ rfl rfl _ _ rfl g2 ?_ (s := 0) (v := .slice none 0 0) ?_ rfl HF.out.cr ?_); exact rfl; exact rfl; intro w7 h7 o7; have H7 := hid h7; have O7 := hid o7; clear h7 o7))
  have HML := hid (show m.length ≤ 100000 by omega)
  have hw1 : IntKind.i64.wrap (s + 1) = s + 1 := by rw [IntKind.wrap_i64]; omega
  have HSF : Hid (∀ W, Below w6.heap.size w6 W → (Instr.loadAt 45 (.pointer (some ⟨g3, 0, none⟩))).run Tryz.prog W = .ok (.agg x.r.cs) W ∧ W.cell? ⟨g1, 0, none⟩ = some (i64 s)) := hid (fun W hW => ⟨run_loadR hok (HF.out.cx.below hok hW), (HF.out.cj.below hW).j0⟩)
  refine wp_region_held_drew (S := fun W => (Instr.loadAt 45 (.pointer (some ⟨g3, 0, none⟩))).run Tryz.prog W = .ok (.agg x.r.cs) W ∧ W.cell? ⟨g1, 0, none⟩ = some (i64 s)) (by kernel_rfl) (HSF.out _ (below_drew _)) (fun hHeld => ?_)
  have HD := hid (below_drew w6)
  refine wpAnyH_take (i := 0) (oi := ⟨some 35, .fieldAddr 24 (.tmp 2) 0, _, _, _, none⟩) (v := .pointer (some ⟨g1, 0, none⟩)) rfl (by kernel_rfl) (by kernel_rfl) (by kernel_rfl) (fun _ _ _ h => h) (Or.inl ⟨by kernel_rfl, by intro W hW; go_simp⟩) hHeld ?_
  refine wpAnyH_take (i := 1) (oi := ⟨some 36, .load 3 (.tmp 35), _, _, _, none⟩) (v := i64 s) rfl (by kernel_rfl) (by kernel_rfl) (by kernel_rfl) (fun _ _ _ h => h) (Or.inl ⟨by kernel_rfl, by intro W hW; have q0 := hW.2; go_simp⟩) hHeld ?_
  refine wpAnyH_take (i := 2) (oi := ⟨some 37, .binOp .add 3 (.tmp 36) (.const (.int .i64 1)) 3, _, _, _, none⟩) (v := i64 (s + 1)) rfl (by kernel_rfl) (by kernel_rfl) (by kernel_rfl) (fun _ _ _ h => h) (Or.inl ⟨by kernel_rfl, by intro W hW; go_simp⟩) hHeld ?_
  refine wpAnyH_take (i := 3) (oi := ⟨some 38, .move (.tmp 6), _, _, _, none⟩) (v := .slice p6 m.length c6) rfl (by kernel_rfl) (by kernel_rfl) (by kernel_rfl) (fun _ _ _ h => h) (Or.inl ⟨by kernel_rfl, by intro W hW; go_simp⟩) hHeld ?_
  refine wpAnyH_take (i := 4) (oi := ⟨some 39, .load 45 (.tmp 3), _, _, _, none⟩) (v := .agg x.r.cs) rfl (by kernel_rfl) (by kernel_rfl) (by kernel_rfl) (fun _ _ _ h => h) (Or.inl ⟨by kernel_rfl, fun W hW => exec_load rfl (by kernel_rfl) hW.1⟩) hHeld ?_
  refine wpAnyH_ready (rs := [5]) (by kernel_rfl) (by simp) ?_
  refine AllReadyH.cons rfl (fun K hK => ?_) AllReadyH.nil
  go_simp
  refine (copyR_any x _ (HXO.out.below (below_on HF.out.below HD.out))).mono ?_
  rintro e w7 ⟨y, rfl, hyx, hy, hyo, hb7⟩
  have hyk := hy.ok
  have HY := hid (hy.base (show w5.heap.size ≤ w6.drew.heap.size from HB6.out))
  have HYX := hid hyx
  replace HD := hid (below_on HD.out hb7)
  clear hb7 hyx hy
  go_wp2_with fail
  refine hK.out _ _ (HSF.out _ HD.out) (fun hHeld => ?_)
  clear hK K
  refine wpAnyH_ready (rs := [6]) (by kernel_rfl) (by simp) ?_
  refine AllReadyH.cons (o := ⟨some 41, .buildSlice 22 1 #[(0, .tmp 40)], _, _, _, none⟩) rfl (fun K hK => ?_) AllReadyH.nil
  with_reducible refine step_run_val ?_ (.slice (some ⟨w7.heap.size, 0, none⟩) 1 1) (w7.alloc (.cells y.r.cs 45)) ?_ ?_
  · exact rfl
  · exact exec_buildOne hyk rfl (by kernel_rfl)
  have HCL := hid (CAt.made w7 y.r.cs 45)
  have HB8 := hid (below_al w7 (.cells y.r.cs 45))
  have HG7 := hid (show ∀ b, (Value.slice p6 m.length c6).ownBlock = some b → b ≠ w7.heap.size from fun b hb e => by have := (own_ge HR6.out.buf b hb).2; have := HD.out.size; omega)
  have HD7 := hid HD.out
  replace HD := hid (below_on HD.out HB8.out)
  generalize hw8 : w7.alloc (.cells y.r.cs 45) = w8 at HCL HB8 HD ⊢
  generalize hg8 : w7.heap.size = g8 at HCL HG7 ⊢
  have HY8 := hid (HY.out.below HB8.out)
  clear hw8 hg8
  refine hK.out _ _ (HSF.out _ HD.out) (fun hHeld => ?_)
  clear hK K
  refine wpAnyH_ready (rs := [7]) (by kernel_rfl) (by simp) ?_
  refine AllReadyH.cons rfl (fun K hK => ?_) AllReadyH.nil
  go_simp
  refine (insert_any w5.heap.size _ m y g8 _ (HR6.out.below HD.out) HML.out HCL.out HY8.out (by have := HB6.out; have := HD.out.size; omega) HG7.out).mono ?_
  rintro e w9 ⟨v9, m9, rfl, hr9, he9, hb9⟩
  obtain ⟨p9, c9, hv9, _⟩ := hr9.buf.form
  subst hv9
  have HR9 := hid hr9
  have HE9 := hid he9
  have HF9 : Hid (A3 w g1 g3 g2 s (.slice po l.length c) x.r w9) := hid (by
    have h8 := HF.out.on hok HD.out
    have hlt := HLT.out
    exact ⟨below_tr h8.below (below_less hb9 hlt.2.2.2), h8.cj.keep (hb9.block g1 hlt.1), RBox.mk' hok (h8.cx.at_.keep (hb9.block g3 hlt.2.1)), h8.cr.keep (hb9.block g2 hlt.2.2.1)⟩)
  have HS9 := hid (show (Instr.loadAt 45 (.pointer (some ⟨g3, 0, none⟩))).run Tryz.prog w9 = .ok (.agg x.r.cs) w9 ∧ w9.cell? ⟨g1, 0, none⟩ = some (i64 s) from ⟨run_loadR hok HF9.out.cx, HF9.out.cj.j0⟩)
  clear hr9 he9 hb9
  go_wp2_with fail
  refine hK.out _ _ HS9.out (fun hHeld => ?_)
  clear hK K
  refine wpAnyH_take (i := 8) (oi := ⟨some 43, .build 24 #[(0, .tmp 37), (1, .tmp 42)], _, _, _, none⟩) (v := .agg (jC (s + 1) (.slice p9 m9.length c9))) rfl (by kernel_rfl) (by kernel_rfl) (by kernel_rfl) (fun _ _ _ h => h) (Or.inl ⟨by kernel_rfl, by intro W hW; go_simp; rfl⟩) hHeld ?_
  refine wpAnyH_ready (rs := [9]) (by kernel_rfl) (by simp) ?_
  refine AllReadyH.cons (o := ⟨none, .store 24 (.tmp 4) (.tmp 43), _, _, _, none⟩) rfl (fun K hK => ?_) AllReadyH.nil
  with_reducible refine step_storeJ ?_ ?_ (.tmp 4) (.tmp 43) ?_ g2 ?_ (s := s + 1) (v := .slice p9 m9.length c9) ?_ ?_ HF9.out.cr ?_
  · exact rfl
  · exact rfl
  · exact rfl
  · kernel_rfl
  · kernel_rfl
  · exact rfl
  intro w10 h10 o10
  have H10 := hid h10
  have O10 := hid o10
  clear h10 o10
  refine hK.out _ _ ⟨run_loadR hok (HF9.out.cx.only hok O10.out (by have := HG32.out; omega)), (HF9.out.cj.keep (O10.out.block g1 HF9.out.cj.lt (by have := HG12.out; omega))).j0⟩ (fun hHeld => ?_)
  clear hK K
  refine wpAnyH_take (i := 10) (oi := ⟨some 5, .assign (.const (.int .i64 0)), _, _, _, none⟩) (v := i64 0) rfl (by kernel_rfl) (by kernel_rfl) (by kernel_rfl) (fun _ _ _ h => h) (Or.inl ⟨by kernel_rfl, by intro W hW; go_simp⟩) hHeld ?_
  refine wpAnyH_done (by kernel_rfl) ?_ _
  simp only [Act.put, List.setIfInBounds_toArray, List.set_cons_zero, List.set_cons_succ]
  go_wp2
  refine ret_rowJ2 rfl g2 rfl rfl rfl H10.out ⟨_, m9, rfl, (HR9.out.only O10.out (fun i e => by have := HLT.out; omega)).base HLT.out.2.2.2, ?_, below_tr HF9.out.below (O10.out.below HF9.out.below.size (fun i e => by have := HG.out; omega))⟩
  rw [HE9.out, HYX.out, HE6.out]
theorem okA_b (s : Int) (l : List Rc) : okA ⟨s, l⟩ = ((decide (s = 0) && l.isEmpty) || okJ ⟨s, l⟩) := rfl
/-- What Add tells. -/
def AddS (w : World) (j : Nat × Option Jr) (e : Ending) (w' : World) : Prop := match j.2 with
  | none => e = .returned (.tuple #[.agg (jC 0 (.slice none 0 0)), i64 j.1]) ∧ Below w.heap.size w w'
  | some j => JouE w j.seq j.recs e w'
theorem wout_64 {s : Int} {l : List Rc} {id : List Nat} (h : okA ⟨s, l⟩ = true) (h2 : 64 ≤ (wout l id).length) : (wout l id).length = 64 ∧ (decide (s = 0) && l.isEmpty) = false := by
  obtain ⟨_, _, h3, _⟩ := okA_parts h
  have := wout_len l id
  simp only at h3
  refine ⟨by omega, ?_⟩
  cases l with
  | nil => simp [wout] at h2
  | cons a r => simp
theorem add_any (s : Int) (v : Value) (l : List Rp) (x : Rp) (w : World) (hl : RL w v l) (hx : RpOk w x) : Calls Tryz.prog 39 #[.agg (jC s v), .agg x.r.cs] w (AddS w (addJ ⟨s, rcs l⟩ x.rc)) := by
  unfold addJ
  by_cases h1 : okA ⟨s, rcs l⟩ = false ∨ okRc x.rc = false
  · rw [if_pos h1]
    cases hbg : (decide (s = 0) && (rcs l).isEmpty) with
    | true =>
      have hr : okRc x.rc = false := by
        rcases h1 with h | h
        · rw [okA_b, hbg] at h; cases h
        · exact h
      exact add_a2 s v l x w hl hx hbg hr
    | false =>
      cases hj : okJ ⟨s, rcs l⟩ with
      | false => exact add_a1 s v l x w hl hx hbg hj
      | true =>
        have hr : okRc x.rc = false := by
          rcases h1 with h | h
          · rw [okA_b, hbg, hj] at h; cases h
          · exact h
        exact add_a3 s v l x w hl hx hbg hj hr
  · rw [if_neg h1]
    have hA : okA ⟨s, rcs l⟩ = true := by cases hh : okA ⟨s, rcs l⟩ <;> simp_all
    have hr : okRc x.rc = true := by cases hh : okRc x.rc <;> simp_all
    obtain ⟨k1, k2, k3, _⟩ := okA_parts hA
    simp only at k1 k2 k3
    by_cases h2 : s = 1099511627776 ∨ 64 ≤ (wout (rcs l) x.rc.id).length
    · rw [if_pos h2]
      by_cases hs : s = 1099511627776
      · subst hs
        have hbg : (decide ((1099511627776 : Int) = 0) && (rcs l).isEmpty) = false := by simp
        have hj : okJ ⟨1099511627776, rcs l⟩ = true := by rw [okA_b, hbg] at hA; exact hA
        exact add_f1 v l x w hl hx hbg hj hr
      · have h3 : 64 ≤ (wout (rcs l) x.rc.id).length := h2.resolve_left hs
        obtain ⟨e1, e2⟩ := wout_64 hA h3
        have hj : okJ ⟨s, rcs l⟩ = true := by rw [okA_b, e2] at hA; exact hA
        exact add_f2 s v l x w hl hx e2 hj hr hs e1
    · rw [if_neg h2]
      have hs : s < 1099511627776 := by omega
      have h64 : (wout (rcs l) (lst x.r.id)).length < 64 := by rw [rc_id] at h2; omega
      cases hbg : (decide (s = 0) && (rcs l).isEmpty) with
      | true => exact add_o1 s v l x w hl hx hbg hr k1 hs h64
      | false =>
        have hj : okJ ⟨s, rcs l⟩ = true := by rw [okA_b, hbg] at hA; exact hA
        exact add_o2 s v l x w hl hx hbg hj hr k1 hs h64
#print axioms add_any
#print axioms add_o2
end Go.Proofs.YtcbmimjjpkkoeaaGreatDoor
