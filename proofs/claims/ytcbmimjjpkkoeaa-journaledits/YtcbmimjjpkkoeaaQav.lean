/- Texts laid into one: the remark ahead of each part says what is proved there. -/
import Derived.Test.YtcbmimjjpkkoeaaQau
import Derived.Test.YtcbmimjjpkkoeaaQap
/- The document's Add. -/
namespace Go.Proofs.Ytcbmimjjpkkoeaa
open Go Go.RowKit

set_option maxRecDepth 100000 in
set_option maxHeartbeats 2000000 in
theorem radd_a1 (s : Int) (v : Value) (l : List Rp) (x : Rp) (w : World) (hl : RL w v l) (hx : RpOk w x) (h0 : ¬ s = 0) (h : okJ ⟨s, rcs l⟩ = false) : Calls Try.prog 8 #[.agg (jC s v), .agg x.r.cs] w fun e w' => e = .returned (.tuple #[.agg (jC 0 (.slice none 0 0)), i64 2]) ∧ Below w.heap.size w w' := by
  have HL := hid hl
  have HXO := hid hx
  have hok := hx.ok
  obtain ⟨po, c, rfl, _⟩ := hl
  have HCK : Hid (∀ W, Below w.heap.size w W → Calls Try.prog 24 #[.agg (jC s (.slice po l.length c))] W fun e w' => e = .returned (i64 2) ∧ Below W.heap.size W w') := hid fun W hW => by have h9 := rjcheck_any s _ l W (HL.out.below hW); rw [h] at h9; exact h9
  have h0' : (s == 0) = false := beq_eq_false_iff_ne.2 h0
  clear h hx
  go_enter Try.func8, Try.ntmps8
  go_wp2_with (first
    | ((with_reducible refine wpList_boxT 24 rfl _ rfl (jC s (.slice po l.length c)) ?_ ?_); exact rfl; intro w1 g1 hc1 hb1 hg1; have HC1 := hid hc1; have HB1 := hid hb1; clear hb1 hc1)
    | ((with_reducible refine wpList_boxR rfl _ rfl x.r.cs ?_ ?_); exact rfl; intro wb g3 hcb hbb hgb; have HCB := hid (RBox.mk' hok hcb); have HC1b := hid (HC1.out.below hbb); have HBB := hid (below_on HB1.out hbb); have HG3 := hid (show g1 < g3 by have := HC1.out.lt; omega); clear hbb hcb hgb)
    | ((with_reducible refine wpList_allocJ rfl rfl ?_); intro w2 g2 hz2 hb2 hg2; have HF : Hid (A3 w g1 g3 g2 s (.slice po l.length c) x.r w2) := hid ⟨below_on HBB.out hb2, HC1b.out.below hb2, HCB.out.below hok hb2, hz2⟩; have HG := hid (show w.heap.size ≤ g2 by have := HBB.out.size; omega); have HG12 := hid (show g1 < g2 by have := HC1b.out.lt; omega); have HG32 := hid (show g3 < g2 by have := HCB.out.at_.lt; omega); have c0 := HF.out.cj.j0; have c1 := HF.out.cj.j1; clear hz2 hb2 hg2)
    | ((with_reducible refine wpList_load_at 24 _ rfl ?_ g1 0 ?_ (jC s (.slice po l.length c)) (.struct (Try.prog.fieldsOf 24)) ?_ underJrn rfl ?_ ?_); exact rfl; exact rfl; exact HF.out.cj.wholeJ; exact sizeJ)
    | ((with_reducible refine wpList_load_at 29 _ rfl ?_ g3 0 ?_ x.r.cs (.struct (Try.prog.fieldsOf 29)) ?_ underRec rfl ?_ ?_); exact rfl; exact rfl; exact HF.out.cx.whole; (rw [hok.size]; exact sizeR))
    | (go_at_call 24; refine (HCK.out _ HF.out.below).mono ?_; rintro e w3 ⟨rfl, hb3⟩; replace HF := hid (HF.out.on hok hb3); clear c0 c1; have c0 := HF.out.cj.j0; have c1 := HF.out.cj.j1; clear hb3)
    | ((with_reducible refine wpList_build_want 24 _ rfl ?_ (jC 0 (.slice none 0 0)) ?_ ?_); exact rfl; exact builtZJ)
    | ((with_reducible refine wpList_storeJ rfl rfl _ _ rfl g2 ?_ (s := 0) (v := .slice none 0 0) ?_ rfl HF.out.cr ?_); exact rfl; exact rfl; intro w5 h5 o5; have H5 := hid h5; have O5 := hid o5; clear h5 o5))
  refine ret_rowJ2 rfl g2 rfl rfl rfl H5.out ⟨rfl, ?_⟩
  exact below_tr HF.out.below (O5.out.below HF.out.below.size (fun i e => by have := HG.out; omega))
set_option maxRecDepth 100000 in
set_option maxHeartbeats 2000000 in
theorem radd_a0 (v : Value) (l : List Rp) (x : Rp) (w : World) (hl : RL w v l) (hx : RpOk w x) (h0 : ¬ l.length = 0) (h : okJ ⟨0, rcs l⟩ = false) : Calls Try.prog 8 #[.agg (jC 0 v), .agg x.r.cs] w fun e w' => e = .returned (.tuple #[.agg (jC 0 (.slice none 0 0)), i64 2]) ∧ Below w.heap.size w w' := by
  have HL := hid hl
  have HXO := hid hx
  have hok := hx.ok
  obtain ⟨po, c, rfl, _⟩ := hl
  have HCK : Hid (∀ W, Below w.heap.size w W → Calls Try.prog 24 #[.agg (jC 0 (.slice po l.length c))] W fun e w' => e = .returned (i64 2) ∧ Below W.heap.size W w') := hid fun W hW => by have h9 := rjcheck_any 0 _ l W (HL.out.below hW); rw [h] at h9; exact h9
  have h0' : ((l.length : Int) == 0) = false := beq_eq_false_iff_ne.2 (by omega)
  clear h hx h0
  go_enter Try.func8, Try.ntmps8
  go_wp2_with (first
    | ((with_reducible refine wpList_boxT 24 rfl _ rfl (jC 0 (.slice po l.length c)) ?_ ?_); exact rfl; intro w1 g1 hc1 hb1 hg1; have HC1 := hid hc1; have HB1 := hid hb1; clear hb1 hc1)
    | ((with_reducible refine wpList_boxR rfl _ rfl x.r.cs ?_ ?_); exact rfl; intro wb g3 hcb hbb hgb; have HCB := hid (RBox.mk' hok hcb); have HC1b := hid (HC1.out.below hbb); have HBB := hid (below_on HB1.out hbb); have HG3 := hid (show g1 < g3 by have := HC1.out.lt; omega); clear hbb hcb hgb)
    | ((with_reducible refine wpList_allocJ rfl rfl ?_); intro w2 g2 hz2 hb2 hg2; have HF : Hid (A3 w g1 g3 g2 0 (.slice po l.length c) x.r w2) := hid ⟨below_on HBB.out hb2, HC1b.out.below hb2, HCB.out.below hok hb2, hz2⟩; have HG := hid (show w.heap.size ≤ g2 by have := HBB.out.size; omega); have HG12 := hid (show g1 < g2 by have := HC1b.out.lt; omega); have HG32 := hid (show g3 < g2 by have := HCB.out.at_.lt; omega); have c0 := HF.out.cj.j0; have c1 := HF.out.cj.j1; clear hz2 hb2 hg2)
    | ((with_reducible refine wpList_load_at 24 _ rfl ?_ g1 0 ?_ (jC 0 (.slice po l.length c)) (.struct (Try.prog.fieldsOf 24)) ?_ underJrn rfl ?_ ?_); exact rfl; exact rfl; exact HF.out.cj.wholeJ; exact sizeJ)
    | ((with_reducible refine wpList_load_at 29 _ rfl ?_ g3 0 ?_ x.r.cs (.struct (Try.prog.fieldsOf 29)) ?_ underRec rfl ?_ ?_); exact rfl; exact rfl; exact HF.out.cx.whole; (rw [hok.size]; exact sizeR))
    | (go_at_call 24; refine (HCK.out _ HF.out.below).mono ?_; rintro e w3 ⟨rfl, hb3⟩; replace HF := hid (HF.out.on hok hb3); clear c0 c1; have c0 := HF.out.cj.j0; have c1 := HF.out.cj.j1; clear hb3)
    | ((with_reducible refine wpList_build_want 24 _ rfl ?_ (jC 0 (.slice none 0 0)) ?_ ?_); exact rfl; exact builtZJ)
    | ((with_reducible refine wpList_storeJ rfl rfl _ _ rfl g2 ?_ (s := 0) (v := .slice none 0 0) ?_ rfl HF.out.cr ?_); exact rfl; exact rfl; intro w5 h5 o5; have H5 := hid h5; have O5 := hid o5; clear h5 o5))
  refine ret_rowJ2 rfl g2 rfl rfl rfl H5.out ⟨rfl, ?_⟩
  exact below_tr HF.out.below (O5.out.below HF.out.below.size (fun i e => by have := HG.out; omega))
set_option maxRecDepth 100000 in
set_option maxHeartbeats 2000000 in
theorem radd_a2 (v : Value) (l : List Rp) (x : Rp) (w : World) (hl : RL w v l) (hx : RpOk w x) (h0 : l.length = 0) (hr : okRc x.rc = false) : Calls Try.prog 8 #[.agg (jC 0 v), .agg x.r.cs] w fun e w' => e = .returned (.tuple #[.agg (jC 0 (.slice none 0 0)), i64 2]) ∧ Below w.heap.size w w' := by
  have HL := hid hl
  have HXO := hid hx
  have hok := hx.ok
  obtain ⟨po, c, rfl, _⟩ := hl
  have HRK : Hid (∀ W, Below w.heap.size w W → Calls Try.prog 25 #[.agg x.r.cs] W fun e w' => e = .returned (i64 2) ∧ Below W.heap.size W w') := hid fun W hW => by have h9 := rcheck_any x.r hx.ok x.ps W (hx.pl.below hW); rw [show okRc (x.r.rc x.ps) = false from hr] at h9; exact h9
  have h0' : (l.length : Int) = 0 := by omega
  clear hr hx h0
  go_enter Try.func8, Try.ntmps8
  go_wp2_with (first
    | ((with_reducible refine wpList_boxT 24 rfl _ rfl (jC 0 (.slice po l.length c)) ?_ ?_); exact rfl; intro w1 g1 hc1 hb1 hg1; have HC1 := hid hc1; have HB1 := hid hb1; clear hb1 hc1)
    | ((with_reducible refine wpList_boxR rfl _ rfl x.r.cs ?_ ?_); exact rfl; intro wb g3 hcb hbb hgb; have HCB := hid (RBox.mk' hok hcb); have HC1b := hid (HC1.out.below hbb); have HBB := hid (below_on HB1.out hbb); have HG3 := hid (show g1 < g3 by have := HC1.out.lt; omega); clear hbb hcb hgb)
    | ((with_reducible refine wpList_allocJ rfl rfl ?_); intro w2 g2 hz2 hb2 hg2; have HF : Hid (A3 w g1 g3 g2 0 (.slice po l.length c) x.r w2) := hid ⟨below_on HBB.out hb2, HC1b.out.below hb2, HCB.out.below hok hb2, hz2⟩; have HG := hid (show w.heap.size ≤ g2 by have := HBB.out.size; omega); have HG12 := hid (show g1 < g2 by have := HC1b.out.lt; omega); have HG32 := hid (show g3 < g2 by have := HCB.out.at_.lt; omega); have c0 := HF.out.cj.j0; have c1 := HF.out.cj.j1; clear hz2 hb2 hg2)
    | ((with_reducible refine wpList_load_at 24 _ rfl ?_ g1 0 ?_ (jC 0 (.slice po l.length c)) (.struct (Try.prog.fieldsOf 24)) ?_ underJrn rfl ?_ ?_); exact rfl; exact rfl; exact HF.out.cj.wholeJ; exact sizeJ)
    | ((with_reducible refine wpList_load_at 29 _ rfl ?_ g3 0 ?_ x.r.cs (.struct (Try.prog.fieldsOf 29)) ?_ underRec rfl ?_ ?_); exact rfl; exact rfl; exact HF.out.cx.whole; (rw [hok.size]; exact sizeR))
    | (go_at_call 25; refine (HRK.out _ HF.out.below).mono ?_; rintro e w5 ⟨rfl, hb5⟩; replace HF := hid (HF.out.on hok hb5); clear c0 c1; have c0 := HF.out.cj.j0; have c1 := HF.out.cj.j1; have x0 := HF.out.cx.c0; clear hb5)
    | ((with_reducible refine wpList_build_want 24 _ rfl ?_ (jC 0 (.slice none 0 0)) ?_ ?_); exact rfl; exact builtZJ)
    | ((with_reducible refine wpList_storeJ rfl rfl _ _ rfl g2 ?_ (s := 0) (v := .slice none 0 0) ?_ rfl HF.out.cr ?_); exact rfl; exact rfl; intro w5 h5 o5; have H5 := hid h5; have O5 := hid o5; clear h5 o5))
  refine ret_rowJ2 rfl g2 rfl rfl rfl H5.out ⟨rfl, ?_⟩
  exact below_tr HF.out.below (O5.out.below HF.out.below.size (fun i e => by have := HG.out; omega))
set_option maxRecDepth 100000 in
set_option maxHeartbeats 2000000 in
theorem radd_a3 (s : Int) (v : Value) (l : List Rp) (x : Rp) (w : World) (hl : RL w v l) (hx : RpOk w x) (h0 : ¬ s = 0) (h : okJ ⟨s, rcs l⟩ = true) (hr : okRc x.rc = false) : Calls Try.prog 8 #[.agg (jC s v), .agg x.r.cs] w fun e w' => e = .returned (.tuple #[.agg (jC 0 (.slice none 0 0)), i64 2]) ∧ Below w.heap.size w w' := by
  have HL := hid hl
  have HXO := hid hx
  have hok := hx.ok
  obtain ⟨po, c, rfl, _⟩ := hl
  have HCK : Hid (∀ W, Below w.heap.size w W → Calls Try.prog 24 #[.agg (jC s (.slice po l.length c))] W fun e w' => e = .returned (i64 0) ∧ Below W.heap.size W w') := hid fun W hW => by have h9 := rjcheck_any s _ l W (HL.out.below hW); rw [h] at h9; exact h9
  have HRK : Hid (∀ W, Below w.heap.size w W → Calls Try.prog 25 #[.agg x.r.cs] W fun e w' => e = .returned (i64 2) ∧ Below W.heap.size W w') := hid fun W hW => by have h9 := rcheck_any x.r hx.ok x.ps W (hx.pl.below hW); rw [show okRc (x.r.rc x.ps) = false from hr] at h9; exact h9
  have h0' : (s == 0) = false := beq_eq_false_iff_ne.2 h0
  clear h hr hx
  go_enter Try.func8, Try.ntmps8
  go_wp2_with (first
    | ((with_reducible refine wpList_boxT 24 rfl _ rfl (jC s (.slice po l.length c)) ?_ ?_); exact rfl; intro w1 g1 hc1 hb1 hg1; have HC1 := hid hc1; have HB1 := hid hb1; clear hb1 hc1)
    | ((with_reducible refine wpList_boxR rfl _ rfl x.r.cs ?_ ?_); exact rfl; intro wb g3 hcb hbb hgb; have HCB := hid (RBox.mk' hok hcb); have HC1b := hid (HC1.out.below hbb); have HBB := hid (below_on HB1.out hbb); have HG3 := hid (show g1 < g3 by have := HC1.out.lt; omega); clear hbb hcb hgb)
    | ((with_reducible refine wpList_allocJ rfl rfl ?_); intro w2 g2 hz2 hb2 hg2; have HF : Hid (A3 w g1 g3 g2 s (.slice po l.length c) x.r w2) := hid ⟨below_on HBB.out hb2, HC1b.out.below hb2, HCB.out.below hok hb2, hz2⟩; have HG := hid (show w.heap.size ≤ g2 by have := HBB.out.size; omega); have HG12 := hid (show g1 < g2 by have := HC1b.out.lt; omega); have HG32 := hid (show g3 < g2 by have := HCB.out.at_.lt; omega); have c0 := HF.out.cj.j0; have c1 := HF.out.cj.j1; clear hz2 hb2 hg2)
    | ((with_reducible refine wpList_load_at 24 _ rfl ?_ g1 0 ?_ (jC s (.slice po l.length c)) (.struct (Try.prog.fieldsOf 24)) ?_ underJrn rfl ?_ ?_); exact rfl; exact rfl; exact HF.out.cj.wholeJ; exact sizeJ)
    | ((with_reducible refine wpList_load_at 29 _ rfl ?_ g3 0 ?_ x.r.cs (.struct (Try.prog.fieldsOf 29)) ?_ underRec rfl ?_ ?_); exact rfl; exact rfl; exact HF.out.cx.whole; (rw [hok.size]; exact sizeR))
    | (go_at_call 24; refine (HCK.out _ HF.out.below).mono ?_; rintro e w3 ⟨rfl, hb3⟩; replace HF := hid (HF.out.on hok hb3); clear c0 c1; have c0 := HF.out.cj.j0; have c1 := HF.out.cj.j1; clear hb3)
    | (go_at_call 25; refine (HRK.out _ HF.out.below).mono ?_; rintro e w5 ⟨rfl, hb5⟩; replace HF := hid (HF.out.on hok hb5); clear c0 c1; have c0 := HF.out.cj.j0; have c1 := HF.out.cj.j1; have x0 := HF.out.cx.c0; clear hb5)
    | ((with_reducible refine wpList_build_want 24 _ rfl ?_ (jC 0 (.slice none 0 0)) ?_ ?_); exact rfl; exact builtZJ)
    | ((with_reducible refine wpList_storeJ rfl rfl _ _ rfl g2 ?_ (s := 0) (v := .slice none 0 0) ?_ rfl HF.out.cr ?_); exact rfl; exact rfl; intro w5 h5 o5; have H5 := hid h5; have O5 := hid o5; clear h5 o5))
  refine ret_rowJ2 rfl g2 rfl rfl rfl H5.out ⟨rfl, ?_⟩
  exact below_tr HF.out.below (O5.out.below HF.out.below.size (fun i e => by have := HG.out; omega))
set_option maxRecDepth 100000 in
set_option maxHeartbeats 2000000 in
theorem radd_f1 (v : Value) (l : List Rp) (x : Rp) (w : World) (hl : RL w v l) (hx : RpOk w x) (h : okJ ⟨1099511627776, rcs l⟩ = true) (hr : okRc x.rc = true) : Calls Try.prog 8 #[.agg (jC 1099511627776 v), .agg x.r.cs] w fun e w' => e = .returned (.tuple #[.agg (jC 0 (.slice none 0 0)), i64 8]) ∧ Below w.heap.size w w' := by
  have HL := hid hl
  have HXO := hid hx
  have hok := hx.ok
  obtain ⟨po, c, rfl, _⟩ := hl
  have HCK : Hid (∀ W, Below w.heap.size w W → Calls Try.prog 24 #[.agg (jC 1099511627776 (.slice po l.length c))] W fun e w' => e = .returned (i64 0) ∧ Below W.heap.size W w') := hid fun W hW => by have h9 := rjcheck_any 1099511627776 _ l W (HL.out.below hW); rw [h] at h9; exact h9
  have HRK : Hid (∀ W, Below w.heap.size w W → Calls Try.prog 25 #[.agg x.r.cs] W fun e w' => e = .returned (i64 0) ∧ Below W.heap.size W w') := hid fun W hW => by have h9 := rcheck_any x.r hx.ok x.ps W (hx.pl.below hW); rw [show okRc (x.r.rc x.ps) = true from hr] at h9; exact h9
  clear h hr hx
  go_enter Try.func8, Try.ntmps8
  go_wp2_with (first
    | ((with_reducible refine wpList_boxT 24 rfl _ rfl (jC 1099511627776 (.slice po l.length c)) ?_ ?_); exact rfl; intro w1 g1 hc1 hb1 hg1; have HC1 := hid hc1; have HB1 := hid hb1; clear hb1 hc1)
    | ((with_reducible refine wpList_boxR rfl _ rfl x.r.cs ?_ ?_); exact rfl; intro wb g3 hcb hbb hgb; have HCB := hid (RBox.mk' hok hcb); have HC1b := hid (HC1.out.below hbb); have HBB := hid (below_on HB1.out hbb); have HG3 := hid (show g1 < g3 by have := HC1.out.lt; omega); clear hbb hcb hgb)
    | ((with_reducible refine wpList_allocJ rfl rfl ?_); intro w2 g2 hz2 hb2 hg2; have HF : Hid (A3 w g1 g3 g2 1099511627776 (.slice po l.length c) x.r w2) := hid ⟨below_on HBB.out hb2, HC1b.out.below hb2, HCB.out.below hok hb2, hz2⟩; have HG := hid (show w.heap.size ≤ g2 by have := HBB.out.size; omega); have HG12 := hid (show g1 < g2 by have := HC1b.out.lt; omega); have HG32 := hid (show g3 < g2 by have := HCB.out.at_.lt; omega); have c0 := HF.out.cj.j0; have c1 := HF.out.cj.j1; clear hz2 hb2 hg2)
    | ((with_reducible refine wpList_load_at 24 _ rfl ?_ g1 0 ?_ (jC 1099511627776 (.slice po l.length c)) (.struct (Try.prog.fieldsOf 24)) ?_ underJrn rfl ?_ ?_); exact rfl; exact rfl; exact HF.out.cj.wholeJ; exact sizeJ)
    | ((with_reducible refine wpList_load_at 29 _ rfl ?_ g3 0 ?_ x.r.cs (.struct (Try.prog.fieldsOf 29)) ?_ underRec rfl ?_ ?_); exact rfl; exact rfl; exact HF.out.cx.whole; (rw [hok.size]; exact sizeR))
    | (go_at_call 24; refine (HCK.out _ HF.out.below).mono ?_; rintro e w3 ⟨rfl, hb3⟩; replace HF := hid (HF.out.on hok hb3); clear c0 c1; have c0 := HF.out.cj.j0; have c1 := HF.out.cj.j1; clear hb3)
    | (go_at_call 25; refine (HRK.out _ HF.out.below).mono ?_; rintro e w5 ⟨rfl, hb5⟩; replace HF := hid (HF.out.on hok hb5); clear c0 c1; have c0 := HF.out.cj.j0; have c1 := HF.out.cj.j1; have x0 := HF.out.cx.c0; clear hb5)
    | (go_at_call 26; refine (rwithout_any 1099511627776 _ l x.r.id _ (HL.out.below HF.out.below)).mono ?_; rintro e w6 ⟨v6, m, rfl, hr6, he6, hb6⟩; obtain ⟨p6, c6, hv6, _⟩ := hr6.buf.form; subst hv6; have HR6 := hid hr6; have HLT := hid (show g1 < w5.heap.size ∧ g3 < w5.heap.size ∧ g2 < w5.heap.size ∧ w.heap.size ≤ w5.heap.size from ⟨HF.out.cj.lt, HF.out.cx.at_.lt, HF.out.cr.lt, HF.out.below.size⟩); have HE6 := hid he6; have HB6 := hid hb6.size; replace HF := hid (HF.out.on hok hb6); clear c0 c1 x0; have c0 := HF.out.cj.j0; have c1 := HF.out.cj.j1; clear hr6 he6 hb6)
    | ((with_reducible refine wpList_build_want 24 _ rfl ?_ (jC 0 (.slice none 0 0)) ?_ ?_); exact rfl; exact builtZJ)
    | ((with_reducible refine wpList_storeJ rfl rfl _ _ rfl g2 ?_ (s := 0) (v := .slice none 0 0) ?_ rfl HF.out.cr ?_); exact rfl; exact rfl; intro w5 h5 o5; have H5 := hid h5; have O5 := hid o5; clear h5 o5))
  refine ret_rowJ2 rfl g2 rfl rfl rfl H5.out ⟨rfl, ?_⟩
  exact below_tr HF.out.below (O5.out.below HF.out.below.size (fun i e => by have := HG.out; omega))
set_option maxRecDepth 100000 in
set_option maxHeartbeats 2000000 in
theorem radd_f2 (s : Int) (v : Value) (l : List Rp) (x : Rp) (w : World) (hl : RL w v l) (hx : RpOk w x) (h0 : ¬ s = 0) (h : okJ ⟨s, rcs l⟩ = true) (hr : okRc x.rc = true) (hs : ¬ s = 1099511627776) (h64 : (wout (rcs l) (lst x.r.id)).length = 64) : Calls Try.prog 8 #[.agg (jC s v), .agg x.r.cs] w fun e w' => e = .returned (.tuple #[.agg (jC 0 (.slice none 0 0)), i64 8]) ∧ Below w.heap.size w w' := by
  have HL := hid hl
  have HXO := hid hx
  have hok := hx.ok
  obtain ⟨po, c, rfl, _⟩ := hl
  have HCK : Hid (∀ W, Below w.heap.size w W → Calls Try.prog 24 #[.agg (jC s (.slice po l.length c))] W fun e w' => e = .returned (i64 0) ∧ Below W.heap.size W w') := hid fun W hW => by have h9 := rjcheck_any s _ l W (HL.out.below hW); rw [h] at h9; exact h9
  have HRK : Hid (∀ W, Below w.heap.size w W → Calls Try.prog 25 #[.agg x.r.cs] W fun e w' => e = .returned (i64 0) ∧ Below W.heap.size W w') := hid fun W hW => by have h9 := rcheck_any x.r hx.ok x.ps W (hx.pl.below hW); rw [show okRc (x.r.rc x.ps) = true from hr] at h9; exact h9
  have H64 := hid h64
  have h0' : (s == 0) = false := beq_eq_false_iff_ne.2 h0
  have hs2 : (s == 1099511627776) = false := beq_eq_false_iff_ne.2 hs
  clear h hr hx h64
  go_enter Try.func8, Try.ntmps8
  go_wp2_with (first
    | ((with_reducible refine wpList_boxT 24 rfl _ rfl (jC s (.slice po l.length c)) ?_ ?_); exact rfl; intro w1 g1 hc1 hb1 hg1; have HC1 := hid hc1; have HB1 := hid hb1; clear hb1 hc1)
    | ((with_reducible refine wpList_boxR rfl _ rfl x.r.cs ?_ ?_); exact rfl; intro wb g3 hcb hbb hgb; have HCB := hid (RBox.mk' hok hcb); have HC1b := hid (HC1.out.below hbb); have HBB := hid (below_on HB1.out hbb); have HG3 := hid (show g1 < g3 by have := HC1.out.lt; omega); clear hbb hcb hgb)
    | ((with_reducible refine wpList_allocJ rfl rfl ?_); intro w2 g2 hz2 hb2 hg2; have HF : Hid (A3 w g1 g3 g2 s (.slice po l.length c) x.r w2) := hid ⟨below_on HBB.out hb2, HC1b.out.below hb2, HCB.out.below hok hb2, hz2⟩; have HG := hid (show w.heap.size ≤ g2 by have := HBB.out.size; omega); have HG12 := hid (show g1 < g2 by have := HC1b.out.lt; omega); have HG32 := hid (show g3 < g2 by have := HCB.out.at_.lt; omega); have c0 := HF.out.cj.j0; have c1 := HF.out.cj.j1; clear hz2 hb2 hg2)
    | ((with_reducible refine wpList_load_at 24 _ rfl ?_ g1 0 ?_ (jC s (.slice po l.length c)) (.struct (Try.prog.fieldsOf 24)) ?_ underJrn rfl ?_ ?_); exact rfl; exact rfl; exact HF.out.cj.wholeJ; exact sizeJ)
    | ((with_reducible refine wpList_load_at 29 _ rfl ?_ g3 0 ?_ x.r.cs (.struct (Try.prog.fieldsOf 29)) ?_ underRec rfl ?_ ?_); exact rfl; exact rfl; exact HF.out.cx.whole; (rw [hok.size]; exact sizeR))
    | (go_at_call 24; refine (HCK.out _ HF.out.below).mono ?_; rintro e w3 ⟨rfl, hb3⟩; replace HF := hid (HF.out.on hok hb3); clear c0 c1; have c0 := HF.out.cj.j0; have c1 := HF.out.cj.j1; clear hb3)
    | (go_at_call 25; refine (HRK.out _ HF.out.below).mono ?_; rintro e w5 ⟨rfl, hb5⟩; replace HF := hid (HF.out.on hok hb5); clear c0 c1; have c0 := HF.out.cj.j0; have c1 := HF.out.cj.j1; have x0 := HF.out.cx.c0; clear hb5)
    | (go_at_call 26; refine (rwithout_any s _ l x.r.id _ (HL.out.below HF.out.below)).mono ?_; rintro e w6 ⟨v6, m, rfl, hr6, he6, hb6⟩; obtain ⟨p6, c6, hv6, _⟩ := hr6.buf.form; subst hv6; have HR6 := hid hr6; have HLT := hid (show g1 < w5.heap.size ∧ g3 < w5.heap.size ∧ g2 < w5.heap.size ∧ w.heap.size ≤ w5.heap.size from ⟨HF.out.cj.lt, HF.out.cx.at_.lt, HF.out.cr.lt, HF.out.below.size⟩); have HE6 := hid he6; have HB6 := hid hb6.size; replace HF := hid (HF.out.on hok hb6); clear c0 c1 x0; have c0 := HF.out.cj.j0; have c1 := HF.out.cj.j1; have hm : (64 : Int) ≤ (m.length : Int) := (by have h9 := congrArg List.length HE6.out; rw [rcs_len, H64.out] at h9; omega); clear hr6 he6 hb6)
    | ((with_reducible refine wpList_build_want 24 _ rfl ?_ (jC 0 (.slice none 0 0)) ?_ ?_); exact rfl; exact builtZJ)
    | ((with_reducible refine wpList_storeJ rfl rfl _ _ rfl g2 ?_ (s := 0) (v := .slice none 0 0) ?_ rfl HF.out.cr ?_); exact rfl; exact rfl; intro w5 h5 o5; have H5 := hid h5; have O5 := hid o5; clear h5 o5))
  refine ret_rowJ2 rfl g2 rfl rfl rfl H5.out ⟨rfl, ?_⟩
  exact below_tr HF.out.below (O5.out.below HF.out.below.size (fun i e => by have := HG.out; omega))
/-- A record ahead of the others: append of a literal of one. -/
theorem Rs.fore {B g : Nat} {W : World} {v : Value} {m : List Rp} {y : Rp} (hc : CAt W g y.r.cs 29) (hy : RpX B W y) (hm : Rs B W v m) (hn : m.length ≤ 100000) (hg : B ≤ g) (hB : B ≤ W.heap.size) :
    ∃ v' W2, (Builtin.append_ #[22, 22] 22 #[.slice (some ⟨g, 0, none⟩) 1 1, v]).run Try.prog W = .ok v' W2 ∧ Rs B W2 v' (y :: m) ∧ Only (fun b => b = g) W W2 := by
  have hb1 : RBuf B W (.slice (some ⟨g, 0, none⟩) 1 1) [y] := by
    refine ⟨?_, Or.inr ⟨g, 1, y.r.cs, rfl, hg, hc, Nat.le_refl _, by unfold maxLen; omega, by rw [hy.ok.size], ?_⟩⟩
    · simp [flatR, hy.ok.size]
    · simp [flatR]
      exact List.take_of_length_le (Nat.le_of_eq (sizeR42 hy.ok))
  obtain ⟨v', W2, hr, hbf, hgr⟩ := hb1.app _ m (hm.rl hn) (by simp; omega) hB
  refine ⟨v', W2, hr, ⟨hbf, fun x hx => ?_⟩, Only.of_grown hgr fun k e _ => ?_⟩
  · rcases List.mem_cons.1 hx with rfl | hx
    · exact hy.grown hb1 hgr
    · exact (hm.each x hx).grown hb1 hgr
  · simpa [Value.ownBlock] using e.symm
set_option maxRecDepth 100000 in
set_option maxHeartbeats 2000000 in
theorem radd_o2 (s : Int) (v : Value) (l : List Rp) (x : Rp) (w : World) (hl : RL w v l) (hx : RpOk w x) (h0 : ¬ s = 0) (h : okJ ⟨s, rcs l⟩ = true) (hr : okRc x.rc = true) (hs0 : 0 ≤ s) (hs : s < 1099511627776) (h64 : (wout (rcs l) (lst x.r.id)).length < 64) : Calls Try.prog 8 #[.agg (jC s v), .agg x.r.cs] w (JouE w (s + 1) (x.rc :: wout (rcs l) (lst x.r.id))) := by
  have HL := hid hl
  have HXO := hid hx
  have hok := hx.ok
  obtain ⟨po, c, rfl, _⟩ := hl
  have HCK : Hid (∀ W, Below w.heap.size w W → Calls Try.prog 24 #[.agg (jC s (.slice po l.length c))] W fun e w' => e = .returned (i64 0) ∧ Below W.heap.size W w') := hid fun W hW => by have h9 := rjcheck_any s _ l W (HL.out.below hW); rw [h] at h9; exact h9
  have HRK : Hid (∀ W, Below w.heap.size w W → Calls Try.prog 25 #[.agg x.r.cs] W fun e w' => e = .returned (i64 0) ∧ Below W.heap.size W w') := hid fun W hW => by have h9 := rcheck_any x.r hx.ok x.ps W (hx.pl.below hW); rw [show okRc (x.r.rc x.ps) = true from hr] at h9; exact h9
  have H64 := hid h64
  have h0' : (s == 0) = false := beq_eq_false_iff_ne.2 h0
  have hs2 : (s == 1099511627776) = false := beq_eq_false_iff_ne.2 (by omega)
  clear h hr hx h64
  go_enter Try.func8, Try.ntmps8
  go_wp2_with (first
    | ((with_reducible refine wpList_boxT 24 rfl _ rfl (jC s (.slice po l.length c)) ?_ ?_); exact rfl; intro w1 g1 hc1 hb1 hg1; have HC1 := hid hc1; have HB1 := hid hb1; clear hb1 hc1)
    | ((with_reducible refine wpList_boxR rfl _ rfl x.r.cs ?_ ?_); exact rfl; intro wb g3 hcb hbb hgb; have HCB := hid (RBox.mk' hok hcb); have HC1b := hid (HC1.out.below hbb); have HBB := hid (below_on HB1.out hbb); have HG3 := hid (show g1 < g3 by have := HC1.out.lt; omega); clear hbb hcb hgb)
    | ((with_reducible refine wpList_allocJ rfl rfl ?_); intro w2 g2 hz2 hb2 hg2; have HF : Hid (A3 w g1 g3 g2 s (.slice po l.length c) x.r w2) := hid ⟨below_on HBB.out hb2, HC1b.out.below hb2, HCB.out.below hok hb2, hz2⟩; have HG := hid (show w.heap.size ≤ g2 by have := HBB.out.size; omega); have HG12 := hid (show g1 < g2 by have := HC1b.out.lt; omega); have HG32 := hid (show g3 < g2 by have := HCB.out.at_.lt; omega); have c0 := HF.out.cj.j0; have c1 := HF.out.cj.j1; clear hz2 hb2 hg2)
    | ((with_reducible refine wpList_load_at 24 _ rfl ?_ g1 0 ?_ (jC s (.slice po l.length c)) (.struct (Try.prog.fieldsOf 24)) ?_ underJrn rfl ?_ ?_); exact rfl; exact rfl; exact HF.out.cj.wholeJ; exact sizeJ)
    | ((with_reducible refine wpList_load_at 29 _ rfl ?_ g3 0 ?_ x.r.cs (.struct (Try.prog.fieldsOf 29)) ?_ underRec rfl ?_ ?_); exact rfl; exact rfl; exact HF.out.cx.whole; (rw [hok.size]; exact sizeR))
    | (go_at_call 24; refine (HCK.out _ HF.out.below).mono ?_; rintro e w3 ⟨rfl, hb3⟩; replace HF := hid (HF.out.on hok hb3); clear c0 c1; have c0 := HF.out.cj.j0; have c1 := HF.out.cj.j1; clear hb3)
    | (go_at_call 25; refine (HRK.out _ HF.out.below).mono ?_; rintro e w5 ⟨rfl, hb5⟩; replace HF := hid (HF.out.on hok hb5); clear c0 c1; have c0 := HF.out.cj.j0; have c1 := HF.out.cj.j1; have x0 := HF.out.cx.c0; clear hb5)
    | (go_at_call 26; refine (rwithout_any s _ l x.r.id _ (HL.out.below HF.out.below)).mono ?_; rintro e w6 ⟨v6, m, rfl, hr6, he6, hb6⟩; obtain ⟨p6, c6, hv6, _⟩ := hr6.buf.form; subst hv6; have HR6 := hid hr6; have HLT := hid (show g1 < w5.heap.size ∧ g3 < w5.heap.size ∧ g2 < w5.heap.size ∧ w.heap.size ≤ w5.heap.size from ⟨HF.out.cj.lt, HF.out.cx.at_.lt, HF.out.cr.lt, HF.out.below.size⟩); have HE6 := hid he6; have HB6 := hid hb6.size; replace HF := hid (HF.out.on hok hb6); clear c0 c1 x0; have c0 := HF.out.cj.j0; have c1 := HF.out.cj.j1; have hm : ¬ (64 : Int) ≤ (m.length : Int) := (by have h9 := congrArg List.length HE6.out; rw [rcs_len] at h9; have := H64.out; omega); clear hr6 he6 hb6))
  have HML := hid (show m.length ≤ 100000 by omega)
  have hw1 : IntKind.i64.wrap (s + 1) = s + 1 := by rw [IntKind.wrap_i64]; omega
  have HSF : Hid (∀ W, W.heap[g1]? = w6.heap[g1]? → W.heap[g3]? = w6.heap[g3]? → (fun W => (Instr.loadAt 29 (.pointer (some ⟨g3, 0, none⟩))).run Try.prog W = .ok (.agg x.r.cs) W ∧ W.cell? ⟨g1, 0, none⟩ = some (i64 s)) W) := hid (fun W h1 h3 => ⟨run_loadR hok (RBox.mk' hok (HF.out.cx.at_.keep h3)), (HF.out.cj.keep h1).j0⟩)
  refine wp_region_held_drew (S := (fun W => (Instr.loadAt 29 (.pointer (some ⟨g3, 0, none⟩))).run Try.prog W = .ok (.agg x.r.cs) W ∧ W.cell? ⟨g1, 0, none⟩ = some (i64 s))) (by kernel_rfl) (HSF.out _ rfl rfl) (fun hHeld => ?_)
  have HD := hid (below_drew w6)
  refine wpAnyH_take (i := 0) (oi := ⟨some 43, .fieldAddr 24 (.tmp 2) 0, _, _, _, none⟩) (v := .pointer (some ⟨g1, 0, none⟩)) rfl (by kernel_rfl) (by kernel_rfl) (by kernel_rfl) (fun _ _ _ h => h) (Or.inl ⟨by kernel_rfl, by intro W hW; go_simp⟩) hHeld ?_
  refine wpAnyH_take (i := 1) (oi := ⟨some 44, .load 3 (.tmp 43), _, _, _, none⟩) (v := i64 s) rfl (by kernel_rfl) (by kernel_rfl) (by kernel_rfl) (fun _ _ _ h => h) (Or.inl ⟨by kernel_rfl, by intro W hW; have q0 := hW.2; go_simp⟩) hHeld ?_
  refine wpAnyH_take (i := 2) (oi := ⟨some 45, .binOp .add 3 (.tmp 44) (.const (.int .i64 1)) 3, _, _, _, none⟩) (v := i64 (s + 1)) rfl (by kernel_rfl) (by kernel_rfl) (by kernel_rfl) (fun _ _ _ h => h) (Or.inl ⟨by kernel_rfl, by intro W hW; go_simp⟩) hHeld ?_
  refine wpAnyH_take (i := 3) (oi := ⟨some 46, .load 29 (.tmp 3), _, _, _, none⟩) (v := .agg x.r.cs) rfl (by kernel_rfl) (by kernel_rfl) (by kernel_rfl) (fun _ _ _ h => h) (Or.inl ⟨by kernel_rfl, fun W hW => exec_load rfl (by kernel_rfl) hW.1⟩) hHeld ?_
  refine wpAnyH_take (i := 6) (oi := ⟨some 49, .move (.tmp 7), _, _, _, none⟩) (v := .slice p6 m.length c6) rfl (by kernel_rfl) (by kernel_rfl) (by kernel_rfl) (fun _ _ _ h => h) (Or.inl ⟨by kernel_rfl, by intro W hW; go_simp⟩) hHeld ?_
  refine wpAnyH_ready (rs := [4]) (by kernel_rfl) (by simp) ?_
  refine AllReadyH.cons rfl (fun K hK => ?_) AllReadyH.nil
  go_simp
  refine (rcopyR_any x _ (HXO.out.below (below_on HF.out.below HD.out))).mono ?_
  rintro e w7 ⟨y, rfl, hyx, hy, hyo, hb7⟩
  have hyk := hy.ok
  have HY := hid (hy.base (show w5.heap.size ≤ w6.drew.heap.size from HB6.out))
  have HYX := hid hyx
  replace HD := hid (below_on HD.out hb7)
  clear hb7 hyx hy
  go_wp2_with fail
  refine hK.out _ _ (HSF.out _ (HD.out.block g1 HF.out.cj.lt) (HD.out.block g3 HF.out.cx.at_.lt)) (fun hHeld => ?_)
  clear hK K
  refine wpAnyH_ready (rs := [5]) (by kernel_rfl) (by simp) ?_
  refine AllReadyH.cons (o := ⟨some 48, .buildSlice 22 1 #[(0, .tmp 47)], _, _, _, none⟩) rfl (fun K hK => ?_) AllReadyH.nil
  with_reducible refine step_run_val ?_ (.slice (some ⟨w7.heap.size, 0, none⟩) 1 1) (w7.alloc (.cells y.r.cs 29)) ?_ ?_
  · exact rfl
  · exact exec_buildOne hyk rfl (by kernel_rfl)
  have HCL := hid (CAt.made w7 y.r.cs 29)
  have HB8 := hid (below_al w7 (.cells y.r.cs 29))
  have HG8 := hid (show w6.heap.size ≤ w7.heap.size from HD.out.size)
  replace HD := hid (below_on HD.out HB8.out)
  generalize hw8 : w7.alloc (.cells y.r.cs 29) = w8 at HCL HB8 HD ⊢
  generalize hg8 : w7.heap.size = g8 at HCL HG8 ⊢
  have HY8 := hid (HY.out.below HB8.out)
  clear hw8 hg8
  refine hK.out _ _ (HSF.out _ (HD.out.block g1 HF.out.cj.lt) (HD.out.block g3 HF.out.cx.at_.lt)) (fun hHeld => ?_)
  clear hK K
  obtain ⟨v9, w9, hr9, hrs9, ho9⟩ := Rs.fore (B := w5.heap.size) HCL.out HY8.out (HR6.out.below HD.out) HML.out (by have := HB6.out; have := HG8.out; omega) (by have := HB6.out; have := HD.out.size; omega)
  obtain ⟨p9, n9, c9, hv9⟩ : ∃ a b c, v9 = .slice a b c := by obtain ⟨a, c, e, _⟩ := hrs9.buf.form; exact ⟨a, _, c, e⟩
  subst hv9
  have HRUN := hid hr9
  have HR9 := hid hrs9
  have HF8 := hid (HF.out.on hok HD.out)
  have HF9 : Hid (A3 w g1 g3 g2 s (.slice po l.length c) x.r w9) := hid (by have hlt := HLT.out; have h68 := HB6.out; have hg8 := HG8.out; exact ⟨below_tr HF8.out.below (ho9.below HF8.out.below.size (fun i e => by omega)), HF8.out.cj.keep (ho9.block g1 HF8.out.cj.lt (by omega)), RBox.mk' hok (HF8.out.cx.at_.keep (ho9.block g3 HF8.out.cx.at_.lt (by omega))), HF8.out.cr.keep (ho9.block g2 HF8.out.cr.lt (by omega))⟩)
  have HK9 : Hid (w9.heap[g1]? = w6.heap[g1]? ∧ w9.heap[g3]? = w6.heap[g3]?) := hid (by have hlt := HLT.out; have h68 := HB6.out; have hg8 := HG8.out; exact ⟨(ho9.block g1 HF8.out.cj.lt (by omega)).trans (HD.out.block g1 HF.out.cj.lt), (ho9.block g3 HF8.out.cx.at_.lt (by omega)).trans (HD.out.block g3 HF.out.cx.at_.lt)⟩)
  clear hr9 hrs9 ho9
  refine wpAnyH_ready (rs := [7]) (by kernel_rfl) (by simp) ?_
  refine AllReadyH.cons (o := ⟨some 50, .call { callee := .builtin .append, args := #[.tmp 48, .tmp 49], argTypes := #[22, 22] }, 22, _, _, none⟩) rfl (fun K hK => ?_) AllReadyH.nil
  with_reducible refine step_append_ex (R := fun v' w' => v' = .slice p9 n9 c9 ∧ w' = w9) ?_ (.tmp 48) (.tmp 49) 22 ?_ (.slice (some ⟨g8, 0, none⟩) 1 1) (.slice p6 m.length c6) ?_ ?_ ?_ ?_
  · exact rfl
  · exact rfl
  · kernel_rfl
  · kernel_rfl
  · exact ⟨_, _, HRUN.out, rfl, rfl⟩
  rintro v' w' ⟨hv9, hw9⟩
  subst hv9 hw9
  refine hK.out _ _ (HSF.out _ HK9.out.1 HK9.out.2) (fun hHeld => ?_)
  clear hK K
  refine wpAnyH_take (i := 8) (oi := ⟨some 51, .build 24 #[(0, .tmp 45), (1, .tmp 50)], _, _, _, none⟩) (v := .agg (jC (s + 1) (.slice p9 n9 c9))) rfl (by kernel_rfl) (by kernel_rfl) (by kernel_rfl) (fun _ _ _ h => h) (Or.inl ⟨by kernel_rfl, by intro W hW; go_simp; rfl⟩) hHeld ?_
  refine wpAnyH_ready (rs := [9]) (by kernel_rfl) (by simp) ?_
  refine AllReadyH.cons (o := ⟨none, .store 24 (.tmp 4) (.tmp 51), _, _, _, none⟩) rfl (fun K hK => ?_) AllReadyH.nil
  with_reducible refine step_storeJ ?_ ?_ (.tmp 4) (.tmp 51) ?_ g2 ?_ (s := (s + 1)) (v := .slice p9 n9 c9) ?_ ?_ HF9.out.cr ?_
  · exact rfl
  · exact rfl
  · exact rfl
  · kernel_rfl
  · kernel_rfl
  · exact rfl
  intro w10 h10 o10
  have H10 := hid h10
  have O10 := hid o10
  clear h10 o10
  refine hK.out _ _ (HSF.out _ ((O10.out.block g1 HF9.out.cj.lt (by have := HG12.out; omega)).trans HK9.out.1) ((O10.out.block g3 HF9.out.cx.at_.lt (by have := HG32.out; omega)).trans HK9.out.2)) (fun hHeld => ?_)
  clear hK K
  refine wpAnyH_take (i := 10) (oi := ⟨some 5, .assign (.const (.int .i64 0)), _, _, _, none⟩) (v := i64 0) rfl (by kernel_rfl) (by kernel_rfl) (by kernel_rfl) (fun _ _ _ h => h) (Or.inl ⟨by kernel_rfl, by intro W hW; go_simp⟩) hHeld ?_
  refine wpAnyH_done (by kernel_rfl) ?_ _
  simp only [Act.put, List.setIfInBounds_toArray, List.set_cons_zero, List.set_cons_succ]
  go_wp2
  refine ret_rowJ2 rfl g2 rfl rfl rfl H10.out ⟨_, y :: m, rfl, (HR9.out.only O10.out (fun i e => by have := HLT.out; omega)).base HLT.out.2.2.2, ?_, below_tr HF9.out.below (O10.out.below HF9.out.below.size (fun i e => by have := HG.out; omega))⟩
  rw [show rcs (y :: m) = y.rc :: rcs m from rfl, HYX.out, HE6.out]
set_option maxRecDepth 100000 in
set_option maxHeartbeats 2000000 in
theorem radd_o1 (v : Value) (l : List Rp) (x : Rp) (w : World) (hl : RL w v l) (hx : RpOk w x) (h0 : l.length = 0) (hr : okRc x.rc = true) (h64 : (wout (rcs l) (lst x.r.id)).length < 64) : Calls Try.prog 8 #[.agg (jC 0 v), .agg x.r.cs] w (JouE w 1 (x.rc :: wout (rcs l) (lst x.r.id))) := by
  have HL := hid hl
  have HXO := hid hx
  have hok := hx.ok
  obtain ⟨po, c, rfl, _⟩ := hl
  have HRK : Hid (∀ W, Below w.heap.size w W → Calls Try.prog 25 #[.agg x.r.cs] W fun e w' => e = .returned (i64 0) ∧ Below W.heap.size W w') := hid fun W hW => by have h9 := rcheck_any x.r hx.ok x.ps W (hx.pl.below hW); rw [show okRc (x.r.rc x.ps) = true from hr] at h9; exact h9
  have H64 := hid h64
  have h0' : (l.length : Int) = 0 := by omega
  clear hr hx h64 h0
  go_enter Try.func8, Try.ntmps8
  go_wp2_with (first
    | ((with_reducible refine wpList_boxT 24 rfl _ rfl (jC 0 (.slice po l.length c)) ?_ ?_); exact rfl; intro w1 g1 hc1 hb1 hg1; have HC1 := hid hc1; have HB1 := hid hb1; clear hb1 hc1)
    | ((with_reducible refine wpList_boxR rfl _ rfl x.r.cs ?_ ?_); exact rfl; intro wb g3 hcb hbb hgb; have HCB := hid (RBox.mk' hok hcb); have HC1b := hid (HC1.out.below hbb); have HBB := hid (below_on HB1.out hbb); have HG3 := hid (show g1 < g3 by have := HC1.out.lt; omega); clear hbb hcb hgb)
    | ((with_reducible refine wpList_allocJ rfl rfl ?_); intro w2 g2 hz2 hb2 hg2; have HF : Hid (A3 w g1 g3 g2 0 (.slice po l.length c) x.r w2) := hid ⟨below_on HBB.out hb2, HC1b.out.below hb2, HCB.out.below hok hb2, hz2⟩; have HG := hid (show w.heap.size ≤ g2 by have := HBB.out.size; omega); have HG12 := hid (show g1 < g2 by have := HC1b.out.lt; omega); have HG32 := hid (show g3 < g2 by have := HCB.out.at_.lt; omega); have c0 := HF.out.cj.j0; have c1 := HF.out.cj.j1; clear hz2 hb2 hg2)
    | ((with_reducible refine wpList_load_at 24 _ rfl ?_ g1 0 ?_ (jC 0 (.slice po l.length c)) (.struct (Try.prog.fieldsOf 24)) ?_ underJrn rfl ?_ ?_); exact rfl; exact rfl; exact HF.out.cj.wholeJ; exact sizeJ)
    | ((with_reducible refine wpList_load_at 29 _ rfl ?_ g3 0 ?_ x.r.cs (.struct (Try.prog.fieldsOf 29)) ?_ underRec rfl ?_ ?_); exact rfl; exact rfl; exact HF.out.cx.whole; (rw [hok.size]; exact sizeR))
    | (go_at_call 25; refine (HRK.out _ HF.out.below).mono ?_; rintro e w5 ⟨rfl, hb5⟩; replace HF := hid (HF.out.on hok hb5); clear c0 c1; have c0 := HF.out.cj.j0; have c1 := HF.out.cj.j1; have x0 := HF.out.cx.c0; clear hb5)
    | (go_at_call 26; refine (rwithout_any 0 _ l x.r.id _ (HL.out.below HF.out.below)).mono ?_; rintro e w6 ⟨v6, m, rfl, hr6, he6, hb6⟩; obtain ⟨p6, c6, hv6, _⟩ := hr6.buf.form; subst hv6; have HR6 := hid hr6; have HLT := hid (show g1 < w5.heap.size ∧ g3 < w5.heap.size ∧ g2 < w5.heap.size ∧ w.heap.size ≤ w5.heap.size from ⟨HF.out.cj.lt, HF.out.cx.at_.lt, HF.out.cr.lt, HF.out.below.size⟩); have HE6 := hid he6; have HB6 := hid hb6.size; replace HF := hid (HF.out.on hok hb6); clear c0 c1 x0; have c0 := HF.out.cj.j0; have c1 := HF.out.cj.j1; have hm : ¬ (64 : Int) ≤ (m.length : Int) := (by have h9 := congrArg List.length HE6.out; rw [rcs_len] at h9; have := H64.out; omega); clear hr6 he6 hb6))
  have HML := hid (show m.length ≤ 100000 by omega)
  have hw1 : IntKind.i64.wrap 1 = 1 := by rfl
  have HSF : Hid (∀ W, W.heap[g1]? = w6.heap[g1]? → W.heap[g3]? = w6.heap[g3]? → (fun W => (Instr.loadAt 29 (.pointer (some ⟨g3, 0, none⟩))).run Try.prog W = .ok (.agg x.r.cs) W ∧ W.cell? ⟨g1, 0, none⟩ = some (i64 0)) W) := hid (fun W h1 h3 => ⟨run_loadR hok (RBox.mk' hok (HF.out.cx.at_.keep h3)), (HF.out.cj.keep h1).j0⟩)
  refine wp_region_held_drew (S := (fun W => (Instr.loadAt 29 (.pointer (some ⟨g3, 0, none⟩))).run Try.prog W = .ok (.agg x.r.cs) W ∧ W.cell? ⟨g1, 0, none⟩ = some (i64 0))) (by kernel_rfl) (HSF.out _ rfl rfl) (fun hHeld => ?_)
  have HD := hid (below_drew w6)
  refine wpAnyH_take (i := 0) (oi := ⟨some 43, .fieldAddr 24 (.tmp 2) 0, _, _, _, none⟩) (v := .pointer (some ⟨g1, 0, none⟩)) rfl (by kernel_rfl) (by kernel_rfl) (by kernel_rfl) (fun _ _ _ h => h) (Or.inl ⟨by kernel_rfl, by intro W hW; go_simp⟩) hHeld ?_
  refine wpAnyH_take (i := 1) (oi := ⟨some 44, .load 3 (.tmp 43), _, _, _, none⟩) (v := i64 0) rfl (by kernel_rfl) (by kernel_rfl) (by kernel_rfl) (fun _ _ _ h => h) (Or.inl ⟨by kernel_rfl, by intro W hW; have q0 := hW.2; go_simp⟩) hHeld ?_
  refine wpAnyH_take (i := 2) (oi := ⟨some 45, .binOp .add 3 (.tmp 44) (.const (.int .i64 1)) 3, _, _, _, none⟩) (v := i64 1) rfl (by kernel_rfl) (by kernel_rfl) (by kernel_rfl) (fun _ _ _ h => h) (Or.inl ⟨by kernel_rfl, by intro W hW; go_simp⟩) hHeld ?_
  refine wpAnyH_take (i := 3) (oi := ⟨some 46, .load 29 (.tmp 3), _, _, _, none⟩) (v := .agg x.r.cs) rfl (by kernel_rfl) (by kernel_rfl) (by kernel_rfl) (fun _ _ _ h => h) (Or.inl ⟨by kernel_rfl, fun W hW => exec_load rfl (by kernel_rfl) hW.1⟩) hHeld ?_
  refine wpAnyH_take (i := 6) (oi := ⟨some 49, .move (.tmp 7), _, _, _, none⟩) (v := .slice p6 m.length c6) rfl (by kernel_rfl) (by kernel_rfl) (by kernel_rfl) (fun _ _ _ h => h) (Or.inl ⟨by kernel_rfl, by intro W hW; go_simp⟩) hHeld ?_
  refine wpAnyH_ready (rs := [4]) (by kernel_rfl) (by simp) ?_
  refine AllReadyH.cons rfl (fun K hK => ?_) AllReadyH.nil
  go_simp
  refine (rcopyR_any x _ (HXO.out.below (below_on HF.out.below HD.out))).mono ?_
  rintro e w7 ⟨y, rfl, hyx, hy, hyo, hb7⟩
  have hyk := hy.ok
  have HY := hid (hy.base (show w5.heap.size ≤ w6.drew.heap.size from HB6.out))
  have HYX := hid hyx
  replace HD := hid (below_on HD.out hb7)
  clear hb7 hyx hy
  go_wp2_with fail
  refine hK.out _ _ (HSF.out _ (HD.out.block g1 HF.out.cj.lt) (HD.out.block g3 HF.out.cx.at_.lt)) (fun hHeld => ?_)
  clear hK K
  refine wpAnyH_ready (rs := [5]) (by kernel_rfl) (by simp) ?_
  refine AllReadyH.cons (o := ⟨some 48, .buildSlice 22 1 #[(0, .tmp 47)], _, _, _, none⟩) rfl (fun K hK => ?_) AllReadyH.nil
  with_reducible refine step_run_val ?_ (.slice (some ⟨w7.heap.size, 0, none⟩) 1 1) (w7.alloc (.cells y.r.cs 29)) ?_ ?_
  · exact rfl
  · exact exec_buildOne hyk rfl (by kernel_rfl)
  have HCL := hid (CAt.made w7 y.r.cs 29)
  have HB8 := hid (below_al w7 (.cells y.r.cs 29))
  have HG8 := hid (show w6.heap.size ≤ w7.heap.size from HD.out.size)
  replace HD := hid (below_on HD.out HB8.out)
  generalize hw8 : w7.alloc (.cells y.r.cs 29) = w8 at HCL HB8 HD ⊢
  generalize hg8 : w7.heap.size = g8 at HCL HG8 ⊢
  have HY8 := hid (HY.out.below HB8.out)
  clear hw8 hg8
  refine hK.out _ _ (HSF.out _ (HD.out.block g1 HF.out.cj.lt) (HD.out.block g3 HF.out.cx.at_.lt)) (fun hHeld => ?_)
  clear hK K
  obtain ⟨v9, w9, hr9, hrs9, ho9⟩ := Rs.fore (B := w5.heap.size) HCL.out HY8.out (HR6.out.below HD.out) HML.out (by have := HB6.out; have := HG8.out; omega) (by have := HB6.out; have := HD.out.size; omega)
  obtain ⟨p9, n9, c9, hv9⟩ : ∃ a b c, v9 = .slice a b c := by obtain ⟨a, c, e, _⟩ := hrs9.buf.form; exact ⟨a, _, c, e⟩
  subst hv9
  have HRUN := hid hr9
  have HR9 := hid hrs9
  have HF8 := hid (HF.out.on hok HD.out)
  have HF9 : Hid (A3 w g1 g3 g2 0 (.slice po l.length c) x.r w9) := hid (by have hlt := HLT.out; have h68 := HB6.out; have hg8 := HG8.out; exact ⟨below_tr HF8.out.below (ho9.below HF8.out.below.size (fun i e => by omega)), HF8.out.cj.keep (ho9.block g1 HF8.out.cj.lt (by omega)), RBox.mk' hok (HF8.out.cx.at_.keep (ho9.block g3 HF8.out.cx.at_.lt (by omega))), HF8.out.cr.keep (ho9.block g2 HF8.out.cr.lt (by omega))⟩)
  have HK9 : Hid (w9.heap[g1]? = w6.heap[g1]? ∧ w9.heap[g3]? = w6.heap[g3]?) := hid (by have hlt := HLT.out; have h68 := HB6.out; have hg8 := HG8.out; exact ⟨(ho9.block g1 HF8.out.cj.lt (by omega)).trans (HD.out.block g1 HF.out.cj.lt), (ho9.block g3 HF8.out.cx.at_.lt (by omega)).trans (HD.out.block g3 HF.out.cx.at_.lt)⟩)
  clear hr9 hrs9 ho9
  refine wpAnyH_ready (rs := [7]) (by kernel_rfl) (by simp) ?_
  refine AllReadyH.cons (o := ⟨some 50, .call { callee := .builtin .append, args := #[.tmp 48, .tmp 49], argTypes := #[22, 22] }, 22, _, _, none⟩) rfl (fun K hK => ?_) AllReadyH.nil
  with_reducible refine step_append_ex (R := fun v' w' => v' = .slice p9 n9 c9 ∧ w' = w9) ?_ (.tmp 48) (.tmp 49) 22 ?_ (.slice (some ⟨g8, 0, none⟩) 1 1) (.slice p6 m.length c6) ?_ ?_ ?_ ?_
  · exact rfl
  · exact rfl
  · kernel_rfl
  · kernel_rfl
  · exact ⟨_, _, HRUN.out, rfl, rfl⟩
  rintro v' w' ⟨hv9, hw9⟩
  subst hv9 hw9
  refine hK.out _ _ (HSF.out _ HK9.out.1 HK9.out.2) (fun hHeld => ?_)
  clear hK K
  refine wpAnyH_take (i := 8) (oi := ⟨some 51, .build 24 #[(0, .tmp 45), (1, .tmp 50)], _, _, _, none⟩) (v := .agg (jC 1 (.slice p9 n9 c9))) rfl (by kernel_rfl) (by kernel_rfl) (by kernel_rfl) (fun _ _ _ h => h) (Or.inl ⟨by kernel_rfl, by intro W hW; go_simp; rfl⟩) hHeld ?_
  refine wpAnyH_ready (rs := [9]) (by kernel_rfl) (by simp) ?_
  refine AllReadyH.cons (o := ⟨none, .store 24 (.tmp 4) (.tmp 51), _, _, _, none⟩) rfl (fun K hK => ?_) AllReadyH.nil
  with_reducible refine step_storeJ ?_ ?_ (.tmp 4) (.tmp 51) ?_ g2 ?_ (s := 1) (v := .slice p9 n9 c9) ?_ ?_ HF9.out.cr ?_
  · exact rfl
  · exact rfl
  · exact rfl
  · kernel_rfl
  · kernel_rfl
  · exact rfl
  intro w10 h10 o10
  have H10 := hid h10
  have O10 := hid o10
  clear h10 o10
  refine hK.out _ _ (HSF.out _ ((O10.out.block g1 HF9.out.cj.lt (by have := HG12.out; omega)).trans HK9.out.1) ((O10.out.block g3 HF9.out.cx.at_.lt (by have := HG32.out; omega)).trans HK9.out.2)) (fun hHeld => ?_)
  clear hK K
  refine wpAnyH_take (i := 10) (oi := ⟨some 5, .assign (.const (.int .i64 0)), _, _, _, none⟩) (v := i64 0) rfl (by kernel_rfl) (by kernel_rfl) (by kernel_rfl) (fun _ _ _ h => h) (Or.inl ⟨by kernel_rfl, by intro W hW; go_simp⟩) hHeld ?_
  refine wpAnyH_done (by kernel_rfl) ?_ _
  simp only [Act.put, List.setIfInBounds_toArray, List.set_cons_zero, List.set_cons_succ]
  go_wp2
  refine ret_rowJ2 rfl g2 rfl rfl rfl H10.out ⟨_, y :: m, rfl, (HR9.out.only O10.out (fun i e => by have := HLT.out; omega)).base HLT.out.2.2.2, ?_, below_tr HF9.out.below (O10.out.below HF9.out.below.size (fun i e => by have := HG.out; omega))⟩
  rw [show rcs (y :: m) = y.rc :: rcs m from rfl, HYX.out, HE6.out]
#print axioms radd_o2
#print axioms radd_o1
end Go.Proofs.Ytcbmimjjpkkoeaa
