/- Texts laid into one: the remark ahead of each part says what is proved there. -/
import Derived.Test.YtcbmimjjpkkoeaaQak
import Derived.Test.YtcbmimjjpkkoeaaQat
/- The document's Find, Newest and Remove. -/
namespace Go.Proofs.Ytcbmimjjpkkoeaa
open Go Go.RowKit

set_option maxRecDepth 100000 in
set_option maxHeartbeats 2000000 in
theorem rfind_bad (s : Int) (v : Value) (l : List Rp) (id : ByteArray) (w : World) (hl : RL w v l) (h : okJ ⟨s, rcs l⟩ = false) : Calls Try.prog 14 #[.agg (jC s v), .string id] w fun e w' => e = .returned (.tuple #[.agg zR.cs, i64 0, i64 2]) ∧ Below w.heap.size w w' := by
  have HL := hid hl
  obtain ⟨po, c, rfl, _⟩ := hl
  have HCK : Hid (∀ W, Below w.heap.size w W → Calls Try.prog 24 #[.agg (jC s (.slice po l.length c))] W fun e w' => e = .returned (i64 2) ∧ Below W.heap.size W w') := hid fun W hW => by have h9 := rjcheck_any s _ l W (HL.out.below hW); rw [h] at h9; exact h9
  clear h
  obtain ⟨Z, hZ⟩ : ∃ Z, zR = Z := ⟨_, rfl⟩
  have HZ := hid hZ
  clear hZ
  go_enter Try.func14, Try.ntmps14
  go_wp2_with (first
    | ((with_reducible refine wpList_boxT 24 rfl _ rfl (jC s (.slice po l.length c)) ?_ ?_); exact rfl; intro w1 g1 hc1 hb1 hg1; have HC1 := hid hc1; have HB1 := hid hb1; clear hb1 hc1)
    | ((with_reducible refine wpList_allocR rfl rfl ?_); intro w2 g2 hz2 hb2 hg2; have HF : Hid (F2 w g1 g2 s (.slice po l.length c) w2) := hid ⟨below_on HB1.out hb2, HC1.out.below hb2, hz2⟩; have HG := hid (show w.heap.size ≤ g2 by have := HB1.out.size; omega); clear hz2 hb2 hg2)
    | ((with_reducible refine wpList_load_at 24 _ rfl ?_ g1 0 ?_ (jC s (.slice po l.length c)) (.struct (Try.prog.fieldsOf 24)) ?_ underJrn rfl ?_ ?_); exact rfl; exact rfl; exact HF.out.cj.wholeJ; exact sizeJ)
    | (go_at_call 24; refine (HCK.out _ HF.out.below).mono ?_; rintro e w3 ⟨rfl, hb3⟩; replace HF := hid (HF.out.on hb3); have c0 := HF.out.cj.j0; have c1 := HF.out.cj.j1; clear hb3)
    | ((with_reducible refine wpList_build_want 29 _ rfl ?_ Z.cs ?_ ?_); exact rfl; (rw [← HZ.out]; exact builtZR))
    | ((with_reducible refine wpList_storeR rfl rfl _ _ rfl g2 ?_ (r := Z) ?_ zR_ok ?_ ?_ HF.out.cr ?_); exact rfl; exact rfl; (rw [← HZ.out]; exact zR_ok); (rw [← HZ.out]; rfl); intro w5 h5 o5; have H5 := hid h5; have O5 := hid o5; clear h5 o5))
  refine ret_row3 rfl g2 rfl rfl rfl rfl H5.out (by rw [← HZ.out]; exact zR_ok) ⟨by rw [← HZ.out]; rfl, ?_⟩
  exact below_tr HF.out.below (O5.out.below HF.out.below.size (fun i e => by have := HG.out; omega))
set_option maxRecDepth 100000 in
set_option maxHeartbeats 2000000 in
theorem rfind_miss (s : Int) (v : Value) (l : List Rp) (id : ByteArray) (w : World) (hl : RL w v l) (h : okJ ⟨s, rcs l⟩ = true) (ha : atI (rcs l) (lst id) = none) : Calls Try.prog 14 #[.agg (jC s v), .string id] w fun e w' => e = .returned (.tuple #[.agg zR.cs, i64 0, i64 6]) ∧ Below w.heap.size w w' := by
  have HL := hid hl
  obtain ⟨po, c, rfl, _⟩ := hl
  have HCK : Hid (∀ W, Below w.heap.size w W → Calls Try.prog 24 #[.agg (jC s (.slice po l.length c))] W fun e w' => e = .returned (i64 0) ∧ Below W.heap.size W w') := hid fun W hW => by have h9 := rjcheck_any s _ l W (HL.out.below hW); rw [h] at h9; exact h9
  have HAT : Hid (∀ W, Below w.heap.size w W → Calls Try.prog 27 #[.agg (jC s (.slice po l.length c)), .string id] W fun e w' => e = .returned (i64 (-1)) ∧ Below W.heap.size W w') := hid fun W hW => by have h9 := rat_any s _ l id W (HL.out.below hW); rw [ha] at h9; exact h9
  clear h ha
  obtain ⟨Z, hZ⟩ : ∃ Z, zR = Z := ⟨_, rfl⟩
  have HZ := hid hZ
  clear hZ
  go_enter Try.func14, Try.ntmps14
  go_wp2_with (first
    | ((with_reducible refine wpList_boxT 24 rfl _ rfl (jC s (.slice po l.length c)) ?_ ?_); exact rfl; intro w1 g1 hc1 hb1 hg1; have HC1 := hid hc1; have HB1 := hid hb1; clear hb1 hc1)
    | ((with_reducible refine wpList_allocR rfl rfl ?_); intro w2 g2 hz2 hb2 hg2; have HF : Hid (F2 w g1 g2 s (.slice po l.length c) w2) := hid ⟨below_on HB1.out hb2, HC1.out.below hb2, hz2⟩; have HG := hid (show w.heap.size ≤ g2 by have := HB1.out.size; omega); clear hz2 hb2 hg2)
    | ((with_reducible refine wpList_load_at 24 _ rfl ?_ g1 0 ?_ (jC s (.slice po l.length c)) (.struct (Try.prog.fieldsOf 24)) ?_ underJrn rfl ?_ ?_); exact rfl; exact rfl; exact HF.out.cj.wholeJ; exact sizeJ)
    | (go_at_call 24; refine (HCK.out _ HF.out.below).mono ?_; rintro e w3 ⟨rfl, hb3⟩; replace HF := hid (HF.out.on hb3); have c0 := HF.out.cj.j0; have c1 := HF.out.cj.j1; clear hb3)
    | (go_at_call 27; refine (HAT.out _ HF.out.below).mono ?_; rintro e w4 ⟨rfl, hb4⟩; replace HF := hid (HF.out.on hb4); clear c0 c1; have c0 := HF.out.cj.j0; have c1 := HF.out.cj.j1; clear hb4)
    | ((with_reducible refine wpList_build_want 29 _ rfl ?_ Z.cs ?_ ?_); exact rfl; (rw [← HZ.out]; exact builtZR))
    | ((with_reducible refine wpList_storeR rfl rfl _ _ rfl g2 ?_ (r := Z) ?_ zR_ok ?_ ?_ HF.out.cr ?_); exact rfl; exact rfl; (rw [← HZ.out]; exact zR_ok); (rw [← HZ.out]; rfl); intro w5 h5 o5; have H5 := hid h5; have O5 := hid o5; clear h5 o5))
  refine ret_row3 rfl g2 rfl rfl rfl rfl H5.out (by rw [← HZ.out]; exact zR_ok) ⟨by rw [← HZ.out]; rfl, ?_⟩
  exact below_tr HF.out.below (O5.out.below HF.out.below.size (fun i e => by have := HG.out; omega))
set_option maxRecDepth 100000 in
set_option maxHeartbeats 2000000 in
theorem rfind_ok (s : Int) (v : Value) (l : List Rp) (id : ByteArray) (w : World) (hl : RL w v l) (h : okJ ⟨s, rcs l⟩ = true) (i : Nat) (ha : atI (rcs l) (lst id) = some i) (x : Rp) (hx : l[i]? = some x) : Calls Try.prog 14 #[.agg (jC s v), .string id] w (RecE w x.rc #[i64 i, i64 0]) := by
  have HL := hid hl
  obtain ⟨po, c, rfl, _⟩ := hl
  have HCK : Hid (∀ W, Below w.heap.size w W → Calls Try.prog 24 #[.agg (jC s (.slice po l.length c))] W fun e w' => e = .returned (i64 0) ∧ Below W.heap.size W w') := hid fun W hW => by have h9 := rjcheck_any s _ l W (HL.out.below hW); rw [h] at h9; exact h9
  have HAT : Hid (∀ W, Below w.heap.size w W → Calls Try.prog 27 #[.agg (jC s (.slice po l.length c)), .string id] W fun e w' => e = .returned (i64 (i : Int)) ∧ Below W.heap.size W w') := hid fun W hW => by have h9 := rat_any s _ l id W (HL.out.below hW); rw [ha] at h9; exact h9
  clear h ha
  have hil := (List.getElem?_eq_some_iff.1 hx).1
  have hil' : (i : Int) < (l.length : Int) := by omega
  obtain ⟨b, o, x', e1, hx', hrx, hkx, hox⟩ := HL.out.at (Below.refl w.heap.size w) hil
  rw [hx] at hx'
  cases hx'
  subst e1
  have hok := hkx.ok
  have HR := hid hrx
  have HXO := hid hkx
  clear hrx hkx hx
  go_enter Try.func14, Try.ntmps14
  go_wp2_with (first
    | ((with_reducible refine wpList_boxT 24 rfl _ rfl (jC s (.slice (some ⟨b, o, none⟩) l.length c)) ?_ ?_); exact rfl; intro w1 g1 hc1 hb1 hg1; have HC1 := hid hc1; have HB1 := hid hb1; clear hb1 hc1)
    | ((with_reducible refine wpList_allocR rfl rfl ?_); intro w2 g2 hz2 hb2 hg2; have HF : Hid (F2 w g1 g2 s (.slice (some ⟨b, o, none⟩) l.length c) w2) := hid ⟨below_on HB1.out hb2, HC1.out.below hb2, hz2⟩; have HG := hid (show w.heap.size ≤ g2 by have := HB1.out.size; omega); clear hz2 hb2 hg2)
    | ((with_reducible refine wpList_load_at 24 _ rfl ?_ g1 0 ?_ (jC s (.slice (some ⟨b, o, none⟩) l.length c)) (.struct (Try.prog.fieldsOf 24)) ?_ underJrn rfl ?_ ?_); exact rfl; exact rfl; exact HF.out.cj.wholeJ; exact sizeJ)
    | (go_at_call 24; refine (HCK.out _ HF.out.below).mono ?_; rintro e w3 ⟨rfl, hb3⟩; replace HF := hid (HF.out.on hb3); have c0 := HF.out.cj.j0; have c1 := HF.out.cj.j1; clear hb3)
    | (go_at_call 27; refine (HAT.out _ HF.out.below).mono ?_; rintro e w4 ⟨rfl, hb4⟩; replace HF := hid (HF.out.on hb4); clear c0 c1; have c0 := HF.out.cj.j0; have c1 := HF.out.cj.j1; clear hb4)
    | ((with_reducible refine wpList_loadM rfl _ rfl b (o + i * 42) ?_ x.r hok (rangeAt_below HR.out HF.out.below) ?_); exact rfl)
    | (go_at_call 6; refine (rcopyR_any x _ (HXO.out.below HF.out.below)).mono ?_; rintro e w5 ⟨y, rfl, hyx, hy, hyo, hb5⟩; have HW4 := hid HF.out.below.size; replace HF := hid (HF.out.on hb5); have HY := hid (hy.base HW4.out); have HYX := hid hyx; have hyk := hy.ok; clear hyx hy hb5 c0 c1)
    | ((with_reducible refine wpList_storeR rfl rfl _ _ rfl g2 ?_ (r := y.r) ?_ zR_ok hyk hyo HF.out.cr ?_); exact rfl; exact rfl; intro w6 h6 o6; have H6 := hid h6; have O5 := hid o6; have HY6 := hid (HY.out.other HF.out.cr.at_ o6); clear h6 o6))
  refine ret_row3 rfl g2 rfl rfl rfl rfl H6.out hyk ⟨y, rfl, HYX.out, HY6.out, ?_⟩
  exact below_tr HF.out.below (O5.out.below HF.out.below.size (fun i e => by have := HG.out; omega))
set_option maxRecDepth 100000 in
set_option maxHeartbeats 2000000 in
theorem rnewest_bad (s : Int) (v : Value) (l : List Rp) (w : World) (hl : RL w v l) (h : okJ ⟨s, rcs l⟩ = false) : Calls Try.prog 16 #[.agg (jC s v)] w fun e w' => e = .returned (.tuple #[.agg zR.cs, i64 2]) ∧ Below w.heap.size w w' := by
  have HL := hid hl
  obtain ⟨po, c, rfl, _⟩ := hl
  have HCK : Hid (∀ W, Below w.heap.size w W → Calls Try.prog 24 #[.agg (jC s (.slice po l.length c))] W fun e w' => e = .returned (i64 2) ∧ Below W.heap.size W w') := hid fun W hW => by have h9 := rjcheck_any s _ l W (HL.out.below hW); rw [h] at h9; exact h9
  clear h
  obtain ⟨Z, hZ⟩ : ∃ Z, zR = Z := ⟨_, rfl⟩
  have HZ := hid hZ
  clear hZ
  go_enter Try.func16, Try.ntmps16
  go_wp2_with (first
    | ((with_reducible refine wpList_boxT 24 rfl _ rfl (jC s (.slice po l.length c)) ?_ ?_); exact rfl; intro w1 g1 hc1 hb1 hg1; have HC1 := hid hc1; have HB1 := hid hb1; clear hb1 hc1)
    | ((with_reducible refine wpList_allocR rfl rfl ?_); intro w2 g2 hz2 hb2 hg2; have HF : Hid (F2 w g1 g2 s (.slice po l.length c) w2) := hid ⟨below_on HB1.out hb2, HC1.out.below hb2, hz2⟩; have HG := hid (show w.heap.size ≤ g2 by have := HB1.out.size; omega); clear hz2 hb2 hg2)
    | ((with_reducible refine wpList_load_at 24 _ rfl ?_ g1 0 ?_ (jC s (.slice po l.length c)) (.struct (Try.prog.fieldsOf 24)) ?_ underJrn rfl ?_ ?_); exact rfl; exact rfl; exact HF.out.cj.wholeJ; exact sizeJ)
    | (go_at_call 24; refine (HCK.out _ HF.out.below).mono ?_; rintro e w3 ⟨rfl, hb3⟩; replace HF := hid (HF.out.on hb3); have c0 := HF.out.cj.j0; have c1 := HF.out.cj.j1; clear hb3)
    | ((with_reducible refine wpList_build_want 29 _ rfl ?_ Z.cs ?_ ?_); exact rfl; (rw [← HZ.out]; exact builtZR))
    | ((with_reducible refine wpList_storeR rfl rfl _ _ rfl g2 ?_ (r := Z) ?_ zR_ok ?_ ?_ HF.out.cr ?_); exact rfl; exact rfl; (rw [← HZ.out]; exact zR_ok); (rw [← HZ.out]; rfl); intro w5 h5 o5; have H5 := hid h5; have O5 := hid o5; clear h5 o5))
  refine ret_rowR2 rfl g2 rfl rfl rfl H5.out (by rw [← HZ.out]; exact zR_ok) ⟨by rw [← HZ.out]; rfl, ?_⟩
  exact below_tr HF.out.below (O5.out.below HF.out.below.size (fun i e => by have := HG.out; omega))
set_option maxRecDepth 100000 in
set_option maxHeartbeats 2000000 in
theorem rnewest_miss (s : Int) (v : Value) (l : List Rp) (w : World) (hl : RL w v l) (h : okJ ⟨s, rcs l⟩ = true) (h0 : l.length = 0) : Calls Try.prog 16 #[.agg (jC s v)] w fun e w' => e = .returned (.tuple #[.agg zR.cs, i64 6]) ∧ Below w.heap.size w w' := by
  have HL := hid hl
  obtain ⟨po, c, rfl, _⟩ := hl
  have HCK : Hid (∀ W, Below w.heap.size w W → Calls Try.prog 24 #[.agg (jC s (.slice po l.length c))] W fun e w' => e = .returned (i64 0) ∧ Below W.heap.size W w') := hid fun W hW => by have h9 := rjcheck_any s _ l W (HL.out.below hW); rw [h] at h9; exact h9
  have h0' : (l.length : Int) = 0 := by omega
  clear h h0
  obtain ⟨Z, hZ⟩ : ∃ Z, zR = Z := ⟨_, rfl⟩
  have HZ := hid hZ
  clear hZ
  go_enter Try.func16, Try.ntmps16
  go_wp2_with (first
    | ((with_reducible refine wpList_boxT 24 rfl _ rfl (jC s (.slice po l.length c)) ?_ ?_); exact rfl; intro w1 g1 hc1 hb1 hg1; have HC1 := hid hc1; have HB1 := hid hb1; clear hb1 hc1)
    | ((with_reducible refine wpList_allocR rfl rfl ?_); intro w2 g2 hz2 hb2 hg2; have HF : Hid (F2 w g1 g2 s (.slice po l.length c) w2) := hid ⟨below_on HB1.out hb2, HC1.out.below hb2, hz2⟩; have HG := hid (show w.heap.size ≤ g2 by have := HB1.out.size; omega); clear hz2 hb2 hg2)
    | ((with_reducible refine wpList_load_at 24 _ rfl ?_ g1 0 ?_ (jC s (.slice po l.length c)) (.struct (Try.prog.fieldsOf 24)) ?_ underJrn rfl ?_ ?_); exact rfl; exact rfl; exact HF.out.cj.wholeJ; exact sizeJ)
    | (go_at_call 24; refine (HCK.out _ HF.out.below).mono ?_; rintro e w3 ⟨rfl, hb3⟩; replace HF := hid (HF.out.on hb3); have c0 := HF.out.cj.j0; have c1 := HF.out.cj.j1; clear hb3)
    | ((with_reducible refine wpList_build_want 29 _ rfl ?_ Z.cs ?_ ?_); exact rfl; (rw [← HZ.out]; exact builtZR))
    | ((with_reducible refine wpList_storeR rfl rfl _ _ rfl g2 ?_ (r := Z) ?_ zR_ok ?_ ?_ HF.out.cr ?_); exact rfl; exact rfl; (rw [← HZ.out]; exact zR_ok); (rw [← HZ.out]; rfl); intro w5 h5 o5; have H5 := hid h5; have O5 := hid o5; clear h5 o5))
  refine ret_rowR2 rfl g2 rfl rfl rfl H5.out (by rw [← HZ.out]; exact zR_ok) ⟨by rw [← HZ.out]; rfl, ?_⟩
  exact below_tr HF.out.below (O5.out.below HF.out.below.size (fun i e => by have := HG.out; omega))
set_option maxRecDepth 100000 in
set_option maxHeartbeats 2000000 in
theorem rnewest_ok (s : Int) (v : Value) (l : List Rp) (w : World) (hl : RL w v l) (h : okJ ⟨s, rcs l⟩ = true) (x : Rp) (hx : l[0]? = some x) : Calls Try.prog 16 #[.agg (jC s v)] w (RecE w x.rc #[i64 0]) := by
  have HL := hid hl
  obtain ⟨po, c, rfl, _⟩ := hl
  have HCK : Hid (∀ W, Below w.heap.size w W → Calls Try.prog 24 #[.agg (jC s (.slice po l.length c))] W fun e w' => e = .returned (i64 0) ∧ Below W.heap.size W w') := hid fun W hW => by have h9 := rjcheck_any s _ l W (HL.out.below hW); rw [h] at h9; exact h9
  clear h
  have hil := (List.getElem?_eq_some_iff.1 hx).1
  have hil' : (0 : Int) < (l.length : Int) := by omega
  obtain ⟨b, o, x', e1, hx', hrx, hkx, hox⟩ := HL.out.at (Below.refl w.heap.size w) hil
  rw [hx] at hx'
  cases hx'
  subst e1
  rw [Nat.zero_mul, Nat.add_zero] at hrx
  have hil2 : ¬ (l.length : Int) = 0 := by omega
  have hok := hkx.ok
  have HR := hid hrx
  have HXO := hid hkx
  clear hrx hkx hx
  go_enter Try.func16, Try.ntmps16
  go_wp2_with (first
    | ((with_reducible refine wpList_boxT 24 rfl _ rfl (jC s (.slice (some ⟨b, o, none⟩) l.length c)) ?_ ?_); exact rfl; intro w1 g1 hc1 hb1 hg1; have HC1 := hid hc1; have HB1 := hid hb1; clear hb1 hc1)
    | ((with_reducible refine wpList_allocR rfl rfl ?_); intro w2 g2 hz2 hb2 hg2; have HF : Hid (F2 w g1 g2 s (.slice (some ⟨b, o, none⟩) l.length c) w2) := hid ⟨below_on HB1.out hb2, HC1.out.below hb2, hz2⟩; have HG := hid (show w.heap.size ≤ g2 by have := HB1.out.size; omega); clear hz2 hb2 hg2)
    | ((with_reducible refine wpList_load_at 24 _ rfl ?_ g1 0 ?_ (jC s (.slice (some ⟨b, o, none⟩) l.length c)) (.struct (Try.prog.fieldsOf 24)) ?_ underJrn rfl ?_ ?_); exact rfl; exact rfl; exact HF.out.cj.wholeJ; exact sizeJ)
    | (go_at_call 24; refine (HCK.out _ HF.out.below).mono ?_; rintro e w3 ⟨rfl, hb3⟩; replace HF := hid (HF.out.on hb3); have c0 := HF.out.cj.j0; have c1 := HF.out.cj.j1; clear hb3)
    | ((with_reducible refine wpList_loadM rfl _ rfl b (o) ?_ x.r hok (rangeAt_below HR.out HF.out.below) ?_); exact rfl)
    | (go_at_call 6; refine (rcopyR_any x _ (HXO.out.below HF.out.below)).mono ?_; rintro e w5 ⟨y, rfl, hyx, hy, hyo, hb5⟩; have HW4 := hid HF.out.below.size; replace HF := hid (HF.out.on hb5); have HY := hid (hy.base HW4.out); have HYX := hid hyx; have hyk := hy.ok; clear hyx hy hb5 c0 c1)
    | ((with_reducible refine wpList_storeR rfl rfl _ _ rfl g2 ?_ (r := y.r) ?_ zR_ok hyk hyo HF.out.cr ?_); exact rfl; exact rfl; intro w6 h6 o6; have H6 := hid h6; have O5 := hid o6; have HY6 := hid (HY.out.other HF.out.cr.at_ o6); clear h6 o6))
  refine ret_rowR2 rfl g2 rfl rfl rfl H6.out hyk ⟨y, rfl, HYX.out, HY6.out, ?_⟩
  exact below_tr HF.out.below (O5.out.below HF.out.below.size (fun i e => by have := HG.out; omega))
set_option maxRecDepth 100000 in
set_option maxHeartbeats 2000000 in
theorem rrem_bad (s : Int) (v : Value) (l : List Rp) (id : ByteArray) (w : World) (hl : RL w v l) (h : okJ ⟨s, rcs l⟩ = false) : Calls Try.prog 10 #[.agg (jC s v), .string id] w fun e w' => e = .returned (.tuple #[.agg (jC 0 (.slice none 0 0)), i64 2]) ∧ Below w.heap.size w w' := by
  have HL := hid hl
  obtain ⟨po, c, rfl, _⟩ := hl
  have HCK : Hid (∀ W, Below w.heap.size w W → Calls Try.prog 24 #[.agg (jC s (.slice po l.length c))] W fun e w' => e = .returned (i64 2) ∧ Below W.heap.size W w') := hid fun W hW => by have h9 := rjcheck_any s _ l W (HL.out.below hW); rw [h] at h9; exact h9
  clear h
  go_enter Try.func10, Try.ntmps10
  go_wp2_with (first
    | ((with_reducible refine wpList_boxT 24 rfl _ rfl (jC s (.slice po l.length c)) ?_ ?_); exact rfl; intro w1 g1 hc1 hb1 hg1; have HC1 := hid hc1; have HB1 := hid hb1; clear hb1 hc1)
    | ((with_reducible refine wpList_allocJ rfl rfl ?_); intro w2 g2 hz2 hb2 hg2; have HF : Hid (G2 w g1 g2 s (.slice po l.length c) w2) := hid ⟨below_on HB1.out hb2, HC1.out.below hb2, hz2⟩; have HG := hid (show w.heap.size ≤ g2 by have := HB1.out.size; omega); have HG12 := hid (show g1 < g2 by have := HC1.out.lt; omega); clear hz2 hb2 hg2)
    | ((with_reducible refine wpList_load_at 24 _ rfl ?_ g1 0 ?_ (jC s (.slice po l.length c)) (.struct (Try.prog.fieldsOf 24)) ?_ underJrn rfl ?_ ?_); exact rfl; exact rfl; exact HF.out.cj.wholeJ; exact sizeJ)
    | (go_at_call 24; refine (HCK.out _ HF.out.below).mono ?_; rintro e w3 ⟨rfl, hb3⟩; replace HF := hid (HF.out.on hb3); have c0 := HF.out.cj.j0; have c1 := HF.out.cj.j1; clear hb3)
    | ((with_reducible refine wpList_build_want 24 _ rfl ?_ (jC 0 (.slice none 0 0)) ?_ ?_); exact rfl; exact builtZJ)
    | ((with_reducible refine wpList_storeJ rfl rfl _ _ rfl g2 ?_ (s := 0) (v := .slice none 0 0) ?_ rfl HF.out.cr ?_); exact rfl; exact rfl; intro w5 h5 o5; have H5 := hid h5; have O5 := hid o5; clear h5 o5))
  refine ret_rowJ2 rfl g2 rfl rfl rfl H5.out ⟨rfl, ?_⟩
  exact below_tr HF.out.below (O5.out.below HF.out.below.size (fun i e => by have := HG.out; omega))
set_option maxRecDepth 100000 in
set_option maxHeartbeats 2000000 in
theorem rrem_miss (s : Int) (v : Value) (l : List Rp) (id : ByteArray) (w : World) (hl : RL w v l) (h : okJ ⟨s, rcs l⟩ = true) (ha : atI (rcs l) (lst id) = none) : Calls Try.prog 10 #[.agg (jC s v), .string id] w fun e w' => e = .returned (.tuple #[.agg (jC 0 (.slice none 0 0)), i64 6]) ∧ Below w.heap.size w w' := by
  have HL := hid hl
  obtain ⟨po, c, rfl, _⟩ := hl
  have HCK : Hid (∀ W, Below w.heap.size w W → Calls Try.prog 24 #[.agg (jC s (.slice po l.length c))] W fun e w' => e = .returned (i64 0) ∧ Below W.heap.size W w') := hid fun W hW => by have h9 := rjcheck_any s _ l W (HL.out.below hW); rw [h] at h9; exact h9
  have HAT : Hid (∀ W, Below w.heap.size w W → Calls Try.prog 27 #[.agg (jC s (.slice po l.length c)), .string id] W fun e w' => e = .returned (i64 (-1)) ∧ Below W.heap.size W w') := hid fun W hW => by have h9 := rat_any s _ l id W (HL.out.below hW); rw [ha] at h9; exact h9
  clear h ha
  go_enter Try.func10, Try.ntmps10
  go_wp2_with (first
    | ((with_reducible refine wpList_boxT 24 rfl _ rfl (jC s (.slice po l.length c)) ?_ ?_); exact rfl; intro w1 g1 hc1 hb1 hg1; have HC1 := hid hc1; have HB1 := hid hb1; clear hb1 hc1)
    | ((with_reducible refine wpList_allocJ rfl rfl ?_); intro w2 g2 hz2 hb2 hg2; have HF : Hid (G2 w g1 g2 s (.slice po l.length c) w2) := hid ⟨below_on HB1.out hb2, HC1.out.below hb2, hz2⟩; have HG := hid (show w.heap.size ≤ g2 by have := HB1.out.size; omega); have HG12 := hid (show g1 < g2 by have := HC1.out.lt; omega); clear hz2 hb2 hg2)
    | ((with_reducible refine wpList_load_at 24 _ rfl ?_ g1 0 ?_ (jC s (.slice po l.length c)) (.struct (Try.prog.fieldsOf 24)) ?_ underJrn rfl ?_ ?_); exact rfl; exact rfl; exact HF.out.cj.wholeJ; exact sizeJ)
    | (go_at_call 24; refine (HCK.out _ HF.out.below).mono ?_; rintro e w3 ⟨rfl, hb3⟩; replace HF := hid (HF.out.on hb3); have c0 := HF.out.cj.j0; have c1 := HF.out.cj.j1; clear hb3)
    | (go_at_call 27; refine (HAT.out _ HF.out.below).mono ?_; rintro e w4 ⟨rfl, hb4⟩; replace HF := hid (HF.out.on hb4); clear c0 c1; have c0 := HF.out.cj.j0; have c1 := HF.out.cj.j1; clear hb4)
    | ((with_reducible refine wpList_build_want 24 _ rfl ?_ (jC 0 (.slice none 0 0)) ?_ ?_); exact rfl; exact builtZJ)
    | ((with_reducible refine wpList_storeJ rfl rfl _ _ rfl g2 ?_ (s := 0) (v := .slice none 0 0) ?_ rfl HF.out.cr ?_); exact rfl; exact rfl; intro w5 h5 o5; have H5 := hid h5; have O5 := hid o5; clear h5 o5))
  refine ret_rowJ2 rfl g2 rfl rfl rfl H5.out ⟨rfl, ?_⟩
  exact below_tr HF.out.below (O5.out.below HF.out.below.size (fun i e => by have := HG.out; omega))
set_option maxRecDepth 100000 in
set_option maxHeartbeats 2000000 in
theorem rrem_full (v : Value) (l : List Rp) (id : ByteArray) (w : World) (hl : RL w v l) (h : okJ ⟨1099511627776, rcs l⟩ = true) (i : Nat) (ha : atI (rcs l) (lst id) = some i) : Calls Try.prog 10 #[.agg (jC 1099511627776 v), .string id] w fun e w' => e = .returned (.tuple #[.agg (jC 0 (.slice none 0 0)), i64 8]) ∧ Below w.heap.size w w' := by
  have HL := hid hl
  obtain ⟨po, c, rfl, _⟩ := hl
  have HCK : Hid (∀ W, Below w.heap.size w W → Calls Try.prog 24 #[.agg (jC 1099511627776 (.slice po l.length c))] W fun e w' => e = .returned (i64 0) ∧ Below W.heap.size W w') := hid fun W hW => by have h9 := rjcheck_any 1099511627776 _ l W (HL.out.below hW); rw [h] at h9; exact h9
  have HAT : Hid (∀ W, Below w.heap.size w W → Calls Try.prog 27 #[.agg (jC 1099511627776 (.slice po l.length c)), .string id] W fun e w' => e = .returned (i64 (i : Int)) ∧ Below W.heap.size W w') := hid fun W hW => by have h9 := rat_any 1099511627776 _ l id W (HL.out.below hW); rw [ha] at h9; exact h9
  clear h ha
  go_enter Try.func10, Try.ntmps10
  go_wp2_with (first
    | ((with_reducible refine wpList_boxT 24 rfl _ rfl (jC 1099511627776 (.slice po l.length c)) ?_ ?_); exact rfl; intro w1 g1 hc1 hb1 hg1; have HC1 := hid hc1; have HB1 := hid hb1; clear hb1 hc1)
    | ((with_reducible refine wpList_allocJ rfl rfl ?_); intro w2 g2 hz2 hb2 hg2; have HF : Hid (G2 w g1 g2 1099511627776 (.slice po l.length c) w2) := hid ⟨below_on HB1.out hb2, HC1.out.below hb2, hz2⟩; have HG := hid (show w.heap.size ≤ g2 by have := HB1.out.size; omega); have HG12 := hid (show g1 < g2 by have := HC1.out.lt; omega); clear hz2 hb2 hg2)
    | ((with_reducible refine wpList_load_at 24 _ rfl ?_ g1 0 ?_ (jC 1099511627776 (.slice po l.length c)) (.struct (Try.prog.fieldsOf 24)) ?_ underJrn rfl ?_ ?_); exact rfl; exact rfl; exact HF.out.cj.wholeJ; exact sizeJ)
    | (go_at_call 24; refine (HCK.out _ HF.out.below).mono ?_; rintro e w3 ⟨rfl, hb3⟩; replace HF := hid (HF.out.on hb3); have c0 := HF.out.cj.j0; have c1 := HF.out.cj.j1; clear hb3)
    | (go_at_call 27; refine (HAT.out _ HF.out.below).mono ?_; rintro e w4 ⟨rfl, hb4⟩; replace HF := hid (HF.out.on hb4); clear c0 c1; have c0 := HF.out.cj.j0; have c1 := HF.out.cj.j1; clear hb4)
    | ((with_reducible refine wpList_build_want 24 _ rfl ?_ (jC 0 (.slice none 0 0)) ?_ ?_); exact rfl; exact builtZJ)
    | ((with_reducible refine wpList_storeJ rfl rfl _ _ rfl g2 ?_ (s := 0) (v := .slice none 0 0) ?_ rfl HF.out.cr ?_); exact rfl; exact rfl; intro w5 h5 o5; have H5 := hid h5; have O5 := hid o5; clear h5 o5))
  refine ret_rowJ2 rfl g2 rfl rfl rfl H5.out ⟨rfl, ?_⟩
  exact below_tr HF.out.below (O5.out.below HF.out.below.size (fun i e => by have := HG.out; omega))
set_option maxRecDepth 100000 in
set_option maxHeartbeats 2000000 in
theorem rrem_ok (s : Int) (v : Value) (l : List Rp) (id : ByteArray) (w : World) (hl : RL w v l) (h : okJ ⟨s, rcs l⟩ = true) (i : Nat) (ha : atI (rcs l) (lst id) = some i) (hs0 : 0 ≤ s) (hs : s < 1099511627776) : Calls Try.prog 10 #[.agg (jC s v), .string id] w (JouE w (s + 1) (wout (rcs l) (lst id))) := by
  have HL := hid hl
  obtain ⟨po, c, rfl, _⟩ := hl
  have HCK : Hid (∀ W, Below w.heap.size w W → Calls Try.prog 24 #[.agg (jC s (.slice po l.length c))] W fun e w' => e = .returned (i64 0) ∧ Below W.heap.size W w') := hid fun W hW => by have h9 := rjcheck_any s _ l W (HL.out.below hW); rw [h] at h9; exact h9
  have HAT : Hid (∀ W, Below w.heap.size w W → Calls Try.prog 27 #[.agg (jC s (.slice po l.length c)), .string id] W fun e w' => e = .returned (i64 (i : Int)) ∧ Below W.heap.size W w') := hid fun W hW => by have h9 := rat_any s _ l id W (HL.out.below hW); rw [ha] at h9; exact h9
  have hs' : ¬ s = 1099511627776 := by omega
  clear h ha
  go_enter Try.func10, Try.ntmps10
  go_wp2_with (first
    | ((with_reducible refine wpList_boxT 24 rfl _ rfl (jC s (.slice po l.length c)) ?_ ?_); exact rfl; intro w1 g1 hc1 hb1 hg1; have HC1 := hid hc1; have HB1 := hid hb1; clear hb1 hc1)
    | ((with_reducible refine wpList_allocJ rfl rfl ?_); intro w2 g2 hz2 hb2 hg2; have HF : Hid (G2 w g1 g2 s (.slice po l.length c) w2) := hid ⟨below_on HB1.out hb2, HC1.out.below hb2, hz2⟩; have HG := hid (show w.heap.size ≤ g2 by have := HB1.out.size; omega); have HG12 := hid (show g1 < g2 by have := HC1.out.lt; omega); clear hz2 hb2 hg2)
    | ((with_reducible refine wpList_load_at 24 _ rfl ?_ g1 0 ?_ (jC s (.slice po l.length c)) (.struct (Try.prog.fieldsOf 24)) ?_ underJrn rfl ?_ ?_); exact rfl; exact rfl; exact HF.out.cj.wholeJ; exact sizeJ)
    | (go_at_call 24; refine (HCK.out _ HF.out.below).mono ?_; rintro e w3 ⟨rfl, hb3⟩; replace HF := hid (HF.out.on hb3); have c0 := HF.out.cj.j0; have c1 := HF.out.cj.j1; clear hb3)
    | (go_at_call 27; refine (HAT.out _ HF.out.below).mono ?_; rintro e w4 ⟨rfl, hb4⟩; replace HF := hid (HF.out.on hb4); clear c0 c1; have c0 := HF.out.cj.j0; have c1 := HF.out.cj.j1; clear hb4))
  have hw1 : IntKind.i64.wrap (s + 1) = s + 1 := by rw [IntKind.wrap_i64]; omega
  have HSF : Hid (∀ W, W.heap[g1]? = w4.heap[g1]? → (fun W => (Instr.loadAt 24 (.pointer (some ⟨g1, 0, none⟩))).run Try.prog W = .ok (.agg (jC s (.slice po l.length c))) W ∧ W.cell? ⟨g1, 0, none⟩ = some (i64 s)) W) := hid fun W hW => ⟨run_loadJ (HF.out.cj.keep hW), (HF.out.cj.keep hW).j0⟩
  refine wp_region_held_drew (S := (fun W => (Instr.loadAt 24 (.pointer (some ⟨g1, 0, none⟩))).run Try.prog W = .ok (.agg (jC s (.slice po l.length c))) W ∧ W.cell? ⟨g1, 0, none⟩ = some (i64 s))) (by kernel_rfl) (HSF.out _ rfl) (fun hHeld => ?_)
  have HD := hid (below_drew w4)
  refine wpAnyH_take (i := 0) (oi := ⟨some 19, .fieldAddr 24 (.tmp 2) 0, _, _, _, none⟩) (v := .pointer (some ⟨g1, 0, none⟩)) rfl (by kernel_rfl) (by kernel_rfl) (by kernel_rfl) (fun _ _ _ h => h) (Or.inl ⟨by kernel_rfl, by intro W hW; go_simp⟩) hHeld ?_
  refine wpAnyH_take (i := 1) (oi := ⟨some 20, .load 3 (.tmp 19), _, _, _, none⟩) (v := i64 s) rfl (by kernel_rfl) (by kernel_rfl) (by kernel_rfl) (fun _ _ _ h => h) (Or.inl ⟨by kernel_rfl, by intro W hW; have q0 := hW.2; go_simp⟩) hHeld ?_
  refine wpAnyH_take (i := 2) (oi := ⟨some 21, .binOp .add 3 (.tmp 20) (.const (.int .i64 1)) 3, _, _, _, none⟩) (v := i64 (s + 1)) rfl (by kernel_rfl) (by kernel_rfl) (by kernel_rfl) (fun _ _ _ h => h) (Or.inl ⟨by kernel_rfl, by intro W hW; go_simp⟩) hHeld ?_
  refine wpAnyH_take (i := 3) (oi := ⟨some 22, .load 24 (.tmp 2), _, _, _, none⟩) (v := .agg (jC s (.slice po l.length c))) rfl (by kernel_rfl) (by kernel_rfl) (by kernel_rfl) (fun _ _ _ h => h) (Or.inl ⟨by kernel_rfl, fun W hW => exec_load rfl (by kernel_rfl) hW.1⟩) hHeld ?_
  refine wpAnyH_take (i := 4) (oi := ⟨some 23, .move (.tmp 1), _, _, _, none⟩) (v := .string id) rfl (by kernel_rfl) (by kernel_rfl) (by kernel_rfl) (fun _ _ _ h => h) (Or.inl ⟨by kernel_rfl, by intro W hW; go_simp⟩) hHeld ?_
  refine wpAnyH_ready (rs := [5]) (by kernel_rfl) (by simp) ?_
  refine AllReadyH.cons rfl (fun K hK => ?_) AllReadyH.nil
  go_simp
  refine (rwithout_any s _ l id _ (HL.out.below (below_on HF.out.below HD.out))).mono ?_
  rintro e w7 ⟨v7, m7, rfl, hr7, he7, hb7⟩
  obtain ⟨p7, c7, hv7, _⟩ := hr7.buf.form
  subst hv7
  have HR7 := hid hr7
  have HE7 := hid he7
  replace HD := hid (below_on HD.out hb7)
  have HF7 := hid (HF.out.on HD.out)
  have HR7 := hid (HR7.out.base HF.out.below.size)
  have HSZ := hid (show w4.heap.size ≤ w7.heap.size from HD.out.size)
  have HL7 := hid hr7
  clear hr7 he7 hb7
  go_wp2_with fail
  refine hK.out _ _ (HSF.out _ (HD.out.block g1 HF.out.cj.lt)) (fun hHeld => ?_)
  clear hK K
  refine wpAnyH_take (i := 6) (oi := ⟨some 25, .build 24 #[(0, .tmp 21), (1, .tmp 24)], _, _, _, none⟩) (v := .agg (jC (s + 1) (.slice p7 m7.length c7))) rfl (by kernel_rfl) (by kernel_rfl) (by kernel_rfl) (fun _ _ _ h => h) (Or.inl ⟨by kernel_rfl, by intro W hW; go_simp; rfl⟩) hHeld ?_
  refine wpAnyH_ready (rs := [7]) (by kernel_rfl) (by simp) ?_
  refine AllReadyH.cons (o := ⟨none, .store 24 (.tmp 4) (.tmp 25), _, _, _, none⟩) rfl (fun K hK => ?_) AllReadyH.nil
  with_reducible refine step_storeJ ?_ ?_ (.tmp 4) (.tmp 25) ?_ g2 ?_ (s := s + 1) (v := .slice p7 m7.length c7) ?_ ?_ HF7.out.cr ?_
  · exact rfl
  · exact rfl
  · exact rfl
  · kernel_rfl
  · kernel_rfl
  · exact rfl
  intro w10 h10 o10
  have H10 := hid h10
  have O10 := hid o10
  clear h10 o10
  refine hK.out _ _ (HSF.out _ ((O10.out.block g1 HF7.out.cj.lt (by have := HG12.out; omega)).trans (HD.out.block g1 HF.out.cj.lt))) (fun hHeld => ?_)
  clear hK K
  refine wpAnyH_take (i := 8) (oi := ⟨some 5, .assign (.const (.int .i64 0)), _, _, _, none⟩) (v := i64 0) rfl (by kernel_rfl) (by kernel_rfl) (by kernel_rfl) (fun _ _ _ h => h) (Or.inl ⟨by kernel_rfl, by intro W hW; go_simp⟩) hHeld ?_
  refine wpAnyH_done (by kernel_rfl) ?_ _
  simp only [Act.put, List.setIfInBounds_toArray, List.set_cons_zero, List.set_cons_succ]
  go_wp2
  refine ret_rowJ2 rfl g2 rfl rfl rfl H10.out ⟨_, m7, rfl, (HL7.out.only O10.out (fun i e => ?_)).base HF.out.below.size, HE7.out, below_tr HF7.out.below (O10.out.below HF7.out.below.size (fun i e => by have := HG.out; omega))⟩
  have := HF.out.cr.lt
  show i < w4.heap.size
  omega
#print axioms rfind_ok
#print axioms rnewest_ok
#print axioms rrem_ok
end Go.Proofs.Ytcbmimjjpkkoeaa
