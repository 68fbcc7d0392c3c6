/- Texts laid into one, cut to what is needed: the remark ahead of each part says what is proved there. -/
import Derived.Test.YtopibkoklagceaaGreatQac
/- Contracts of isVersion and Check of package record. (Written by tools/gen_Vs.py.) -/
namespace Go.Proofs.YtopibkoklagceaaGreat
open Go Go.RowKit

def upOk (u : ByteArray) : Bool := u.toList.isEmpty || okId (lst u)
def versOk (r : Rv) (ps : Ps) : Bool := inR r.size 0 65536 && (okTag (lst r.etag) && (inR r.k 1 16 && (inR r.m 1 (16 - r.k) && (okData (lst r.data) && (okParts ps r.size && upOk r.up)))))
set_option maxRecDepth 100000 in
set_option maxHeartbeats 1000000 in
theorem vers_0 (r : Rv) (hr : r.ok) (ps : Ps) (w : World) (hp : PL w r.pv ps)  (h0 : inR r.size 0 65536 = false) : Calls Tryz.prog 83 #[.agg r.cs] w fun e w' => e = .returned (.bool false) ∧ Below w.heap.size w w' := by
 have HR := hid hr
 have HP := hid hp
 have H0 := hid h0
 clear hr hp h0
 go_enter Tryz.func83, Tryz.ntmps83
 go_wp2_with (first
  | ((with_reducible refine wpList_boxR rfl _ rfl r.cs ?_ ?_); exact rfl; intro w1 g1 hc1 hb1 hg1; have HA := hid (RBox.mk' HR.out hc1); have HB := hid hb1; have HP1 := hid (HP.out.below hb1); have c3 := HA.out.c3; have c4 := HA.out.c4; have c5 := HA.out.c5; have c6 := HA.out.c6; have c7 := HA.out.c7; have c40 := HA.out.c40; have c41 := HA.out.c41; clear hc1 hb1)
  | (go_at_call 81; refine (between_any _ _ _ _).mono ?_; rintro e w' ⟨rfl, hw'⟩; (first | rw [H0.out]); have hw2 := hw'.symm; subst hw2))
 go_ret
 exact ⟨rfl, HB.out⟩
set_option maxRecDepth 100000 in
set_option maxHeartbeats 1000000 in
theorem vers_1 (r : Rv) (hr : r.ok) (ps : Ps) (w : World) (hp : PL w r.pv ps) (h0 : inR r.size 0 65536 = true) (h1 : okTag (lst r.etag) = false) : Calls Tryz.prog 83 #[.agg r.cs] w fun e w' => e = .returned (.bool false) ∧ Below w.heap.size w w' := by
 have HR := hid hr
 have HP := hid hp
 have H0 := hid h0
 have H1 := hid h1
 clear hr hp h0 h1
 go_enter Tryz.func83, Tryz.ntmps83
 go_wp2_with (first
  | ((with_reducible refine wpList_boxR rfl _ rfl r.cs ?_ ?_); exact rfl; intro w1 g1 hc1 hb1 hg1; have HA := hid (RBox.mk' HR.out hc1); have HB := hid hb1; have HP1 := hid (HP.out.below hb1); have c3 := HA.out.c3; have c4 := HA.out.c4; have c5 := HA.out.c5; have c6 := HA.out.c6; have c7 := HA.out.c7; have c40 := HA.out.c40; have c41 := HA.out.c41; clear hc1 hb1)
  | (go_at_call 81; refine (between_any _ _ _ _).mono ?_; rintro e w' ⟨rfl, hw'⟩; (first | rw [H0.out]); have hw2 := hw'.symm; subst hw2)
  | (go_at_call 106; refine (isTag_any _ _ (by have := HR.out.e; omega)).mono ?_; rintro e w2 ⟨rfl, hb2⟩; rw [H1.out]; replace HA := hid (HA.out.below HR.out hb2); replace HP1 := hid (HP1.out.below hb2); replace HB := hid (below_on HB.out hb2); clear c3 c4 c5 c6 c7 c40 c41; have c3 := HA.out.c3; have c4 := HA.out.c4; have c5 := HA.out.c5; have c6 := HA.out.c6; have c7 := HA.out.c7; have c40 := HA.out.c40; have c41 := HA.out.c41; clear hb2))
 go_ret
 exact ⟨rfl, HB.out⟩
set_option maxRecDepth 100000 in
set_option maxHeartbeats 1000000 in
theorem vers_2 (r : Rv) (hr : r.ok) (ps : Ps) (w : World) (hp : PL w r.pv ps) (h0 : inR r.size 0 65536 = true) (h1 : okTag (lst r.etag) = true) (h2 : inR r.k 1 16 = false) : Calls Tryz.prog 83 #[.agg r.cs] w fun e w' => e = .returned (.bool false) ∧ Below w.heap.size w w' := by
 have HR := hid hr
 have HP := hid hp
 have H0 := hid h0
 have H1 := hid h1
 have H2 := hid h2
 clear hr hp h0 h1 h2
 go_enter Tryz.func83, Tryz.ntmps83
 go_wp2_with (first
  | ((with_reducible refine wpList_boxR rfl _ rfl r.cs ?_ ?_); exact rfl; intro w1 g1 hc1 hb1 hg1; have HA := hid (RBox.mk' HR.out hc1); have HB := hid hb1; have HP1 := hid (HP.out.below hb1); have c3 := HA.out.c3; have c4 := HA.out.c4; have c5 := HA.out.c5; have c6 := HA.out.c6; have c7 := HA.out.c7; have c40 := HA.out.c40; have c41 := HA.out.c41; clear hc1 hb1)
  | (go_at_call 81; refine (between_any _ _ _ _).mono ?_; rintro e w' ⟨rfl, hw'⟩; (first | rw [H0.out] | rw [H2.out]); have hw2 := hw'.symm; subst hw2)
  | (go_at_call 106; refine (isTag_any _ _ (by have := HR.out.e; omega)).mono ?_; rintro e w2 ⟨rfl, hb2⟩; rw [H1.out]; replace HA := hid (HA.out.below HR.out hb2); replace HP1 := hid (HP1.out.below hb2); replace HB := hid (below_on HB.out hb2); clear c3 c4 c5 c6 c7 c40 c41; have c3 := HA.out.c3; have c4 := HA.out.c4; have c5 := HA.out.c5; have c6 := HA.out.c6; have c7 := HA.out.c7; have c40 := HA.out.c40; have c41 := HA.out.c41; clear hb2))
 go_ret
 exact ⟨rfl, HB.out⟩
set_option maxRecDepth 100000 in
set_option maxHeartbeats 1000000 in
theorem vers_3 (r : Rv) (hr : r.ok) (ps : Ps) (w : World) (hp : PL w r.pv ps) (h0 : inR r.size 0 65536 = true) (h1 : okTag (lst r.etag) = true) (h2 : inR r.k 1 16 = true) (h3 : inR r.m 1 (16 - r.k) = false) : Calls Tryz.prog 83 #[.agg r.cs] w fun e w' => e = .returned (.bool false) ∧ Below w.heap.size w w' := by
 have HR := hid hr
 have HP := hid hp
 have H0 := hid h0
 have H1 := hid h1
 have H2 := hid h2
 have H3 := hid h3
 have hk := inR_iff.1 h2
 have hk1 := hk.1
 have hk2 := hk.2
 clear hk
 clear hr hp h0 h1 h2 h3
 go_enter Tryz.func83, Tryz.ntmps83
 go_wp2_with (first
  | ((with_reducible refine wpList_boxR rfl _ rfl r.cs ?_ ?_); exact rfl; intro w1 g1 hc1 hb1 hg1; have HA := hid (RBox.mk' HR.out hc1); have HB := hid hb1; have HP1 := hid (HP.out.below hb1); have c3 := HA.out.c3; have c4 := HA.out.c4; have c5 := HA.out.c5; have c6 := HA.out.c6; have c7 := HA.out.c7; have c40 := HA.out.c40; have c41 := HA.out.c41; clear hc1 hb1)
  | (go_at_call 81; refine (between_any _ _ _ _).mono ?_; rintro e w' ⟨rfl, hw'⟩; (first | rw [H0.out] | rw [H2.out] | rw [H3.out]); have hw2 := hw'.symm; subst hw2)
  | (go_at_call 106; refine (isTag_any _ _ (by have := HR.out.e; omega)).mono ?_; rintro e w2 ⟨rfl, hb2⟩; rw [H1.out]; replace HA := hid (HA.out.below HR.out hb2); replace HP1 := hid (HP1.out.below hb2); replace HB := hid (below_on HB.out hb2); clear c3 c4 c5 c6 c7 c40 c41; have c3 := HA.out.c3; have c4 := HA.out.c4; have c5 := HA.out.c5; have c6 := HA.out.c6; have c7 := HA.out.c7; have c40 := HA.out.c40; have c41 := HA.out.c41; clear hb2))
 go_ret
 exact ⟨rfl, HB.out⟩
set_option maxRecDepth 100000 in
set_option maxHeartbeats 1000000 in
theorem vers_4 (r : Rv) (hr : r.ok) (ps : Ps) (w : World) (hp : PL w r.pv ps) (h0 : inR r.size 0 65536 = true) (h1 : okTag (lst r.etag) = true) (h2 : inR r.k 1 16 = true) (h3 : inR r.m 1 (16 - r.k) = true) (h4 : okData (lst r.data) = false) : Calls Tryz.prog 83 #[.agg r.cs] w fun e w' => e = .returned (.bool false) ∧ Below w.heap.size w w' := by
 have HR := hid hr
 have HP := hid hp
 have H0 := hid h0
 have H1 := hid h1
 have H2 := hid h2
 have H3 := hid h3
 have H4 := hid h4
 have hk := inR_iff.1 h2
 have hk1 := hk.1
 have hk2 := hk.2
 clear hk
 clear hr hp h0 h1 h2 h3 h4
 go_enter Tryz.func83, Tryz.ntmps83
 go_wp2_with (first
  | ((with_reducible refine wpList_boxR rfl _ rfl r.cs ?_ ?_); exact rfl; intro w1 g1 hc1 hb1 hg1; have HA := hid (RBox.mk' HR.out hc1); have HB := hid hb1; have HP1 := hid (HP.out.below hb1); have c3 := HA.out.c3; have c4 := HA.out.c4; have c5 := HA.out.c5; have c6 := HA.out.c6; have c7 := HA.out.c7; have c40 := HA.out.c40; have c41 := HA.out.c41; clear hc1 hb1)
  | (go_at_call 81; refine (between_any _ _ _ _).mono ?_; rintro e w' ⟨rfl, hw'⟩; (first | rw [H0.out] | rw [H2.out] | rw [H3.out]); have hw2 := hw'.symm; subst hw2)
  | (go_at_call 106; refine (isTag_any _ _ (by have := HR.out.e; omega)).mono ?_; rintro e w2 ⟨rfl, hb2⟩; rw [H1.out]; replace HA := hid (HA.out.below HR.out hb2); replace HP1 := hid (HP1.out.below hb2); replace HB := hid (below_on HB.out hb2); clear c3 c4 c5 c6 c7 c40 c41; have c3 := HA.out.c3; have c4 := HA.out.c4; have c5 := HA.out.c5; have c6 := HA.out.c6; have c7 := HA.out.c7; have c40 := HA.out.c40; have c41 := HA.out.c41; clear hb2)
  | (go_at_call 107; refine (isDataName_any _ _ (by have := HR.out.d; omega)).mono ?_; rintro e w3 ⟨rfl, hb3⟩; rw [H4.out]; replace HA := hid (HA.out.below HR.out hb3); replace HP1 := hid (HP1.out.below hb3); replace HB := hid (below_on HB.out hb3); clear c3 c4 c5 c6 c7 c40 c41; have c3 := HA.out.c3; have c4 := HA.out.c4; have c5 := HA.out.c5; have c6 := HA.out.c6; have c7 := HA.out.c7; have c40 := HA.out.c40; have c41 := HA.out.c41; clear hb3))
 go_ret
 exact ⟨rfl, HB.out⟩
set_option maxRecDepth 100000 in
set_option maxHeartbeats 1000000 in
theorem vers_5 (r : Rv) (hr : r.ok) (ps : Ps) (w : World) (hp : PL w r.pv ps) (h0 : inR r.size 0 65536 = true) (h1 : okTag (lst r.etag) = true) (h2 : inR r.k 1 16 = true) (h3 : inR r.m 1 (16 - r.k) = true) (h4 : okData (lst r.data) = true) (h5 : okParts ps r.size = false) : Calls Tryz.prog 83 #[.agg r.cs] w fun e w' => e = .returned (.bool false) ∧ Below w.heap.size w w' := by
 have HR := hid hr
 have HP := hid hp
 have H0 := hid h0
 have H1 := hid h1
 have H2 := hid h2
 have H3 := hid h3
 have H4 := hid h4
 have H5 := hid h5
 have hk := inR_iff.1 h2
 have hk1 := hk.1
 have hk2 := hk.2
 clear hk
 have hz := inR_iff.1 h0
 have hz1 := hz.1
 have hz2 := hz.2
 clear hz
 clear hr hp h0 h1 h2 h3 h4 h5
 go_enter Tryz.func83, Tryz.ntmps83
 go_wp2_with (first
  | ((with_reducible refine wpList_boxR rfl _ rfl r.cs ?_ ?_); exact rfl; intro w1 g1 hc1 hb1 hg1; have HA := hid (RBox.mk' HR.out hc1); have HB := hid hb1; have HP1 := hid (HP.out.below hb1); have c3 := HA.out.c3; have c4 := HA.out.c4; have c5 := HA.out.c5; have c6 := HA.out.c6; have c7 := HA.out.c7; have c40 := HA.out.c40; have c41 := HA.out.c41; clear hc1 hb1)
  | (go_at_call 81; refine (between_any _ _ _ _).mono ?_; rintro e w' ⟨rfl, hw'⟩; (first | rw [H0.out] | rw [H2.out] | rw [H3.out]); have hw2 := hw'.symm; subst hw2)
  | (go_at_call 106; refine (isTag_any _ _ (by have := HR.out.e; omega)).mono ?_; rintro e w2 ⟨rfl, hb2⟩; rw [H1.out]; replace HA := hid (HA.out.below HR.out hb2); replace HP1 := hid (HP1.out.below hb2); replace HB := hid (below_on HB.out hb2); clear c3 c4 c5 c6 c7 c40 c41; have c3 := HA.out.c3; have c4 := HA.out.c4; have c5 := HA.out.c5; have c6 := HA.out.c6; have c7 := HA.out.c7; have c40 := HA.out.c40; have c41 := HA.out.c41; clear hb2)
  | (go_at_call 107; refine (isDataName_any _ _ (by have := HR.out.d; omega)).mono ?_; rintro e w3 ⟨rfl, hb3⟩; rw [H4.out]; replace HA := hid (HA.out.below HR.out hb3); replace HP1 := hid (HP1.out.below hb3); replace HB := hid (below_on HB.out hb3); clear c3 c4 c5 c6 c7 c40 c41; have c3 := HA.out.c3; have c4 := HA.out.c4; have c5 := HA.out.c5; have c6 := HA.out.c6; have c7 := HA.out.c7; have c40 := HA.out.c40; have c41 := HA.out.c41; clear hb3)
  | (go_at_call 108; refine (partsMake_any _ ps _ _ HP1.out hz1 hz2).mono ?_; rintro e w4 ⟨rfl, hb4⟩; rw [H5.out]; replace HA := hid (HA.out.below HR.out hb4); replace HP1 := hid (HP1.out.below hb4); replace HB := hid (below_on HB.out hb4); clear c3 c4 c5 c6 c7 c40 c41; have c3 := HA.out.c3; have c4 := HA.out.c4; have c5 := HA.out.c5; have c6 := HA.out.c6; have c7 := HA.out.c7; have c40 := HA.out.c40; have c41 := HA.out.c41; clear hb4))
 go_ret
 exact ⟨rfl, HB.out⟩
set_option maxRecDepth 100000 in
set_option maxHeartbeats 1000000 in
theorem vers_6a (r : Rv) (hr : r.ok) (ps : Ps) (w : World) (hp : PL w r.pv ps) (h0 : inR r.size 0 65536 = true) (h1 : okTag (lst r.etag) = true) (h2 : inR r.k 1 16 = true) (h3 : inR r.m 1 (16 - r.k) = true) (h4 : okData (lst r.data) = true) (h5 : okParts ps r.size = true) (h6 : r.up.toList.isEmpty = true) : Calls Tryz.prog 83 #[.agg r.cs] w fun e w' => e = .returned (.bool true) ∧ Below w.heap.size w w' := by
 have HR := hid hr
 have HP := hid hp
 have H0 := hid h0
 have H1 := hid h1
 have H2 := hid h2
 have H3 := hid h3
 have H4 := hid h4
 have H5 := hid h5
 have hk := inR_iff.1 h2
 have hk1 := hk.1
 have hk2 := hk.2
 clear hk
 have hz := inR_iff.1 h0
 have hz1 := hz.1
 have hz2 := hz.2
 clear hz
 clear hr hp h0 h1 h2 h3 h4 h5
 go_enter Tryz.func83, Tryz.ntmps83
 go_wp2_with (first
  | ((with_reducible refine wpList_boxR rfl _ rfl r.cs ?_ ?_); exact rfl; intro w1 g1 hc1 hb1 hg1; have HA := hid (RBox.mk' HR.out hc1); have HB := hid hb1; have HP1 := hid (HP.out.below hb1); have c3 := HA.out.c3; have c4 := HA.out.c4; have c5 := HA.out.c5; have c6 := HA.out.c6; have c7 := HA.out.c7; have c40 := HA.out.c40; have c41 := HA.out.c41; clear hc1 hb1)
  | (go_at_call 81; refine (between_any _ _ _ _).mono ?_; rintro e w' ⟨rfl, hw'⟩; (first | rw [H0.out] | rw [H2.out] | rw [H3.out]); have hw2 := hw'.symm; subst hw2)
  | (go_at_call 106; refine (isTag_any _ _ (by have := HR.out.e; omega)).mono ?_; rintro e w2 ⟨rfl, hb2⟩; rw [H1.out]; replace HA := hid (HA.out.below HR.out hb2); replace HP1 := hid (HP1.out.below hb2); replace HB := hid (below_on HB.out hb2); clear c3 c4 c5 c6 c7 c40 c41; have c3 := HA.out.c3; have c4 := HA.out.c4; have c5 := HA.out.c5; have c6 := HA.out.c6; have c7 := HA.out.c7; have c40 := HA.out.c40; have c41 := HA.out.c41; clear hb2)
  | (go_at_call 107; refine (isDataName_any _ _ (by have := HR.out.d; omega)).mono ?_; rintro e w3 ⟨rfl, hb3⟩; rw [H4.out]; replace HA := hid (HA.out.below HR.out hb3); replace HP1 := hid (HP1.out.below hb3); replace HB := hid (below_on HB.out hb3); clear c3 c4 c5 c6 c7 c40 c41; have c3 := HA.out.c3; have c4 := HA.out.c4; have c5 := HA.out.c5; have c6 := HA.out.c6; have c7 := HA.out.c7; have c40 := HA.out.c40; have c41 := HA.out.c41; clear hb3)
  | (go_at_call 108; refine (partsMake_any _ ps _ _ HP1.out hz1 hz2).mono ?_; rintro e w4 ⟨rfl, hb4⟩; rw [H5.out]; replace HA := hid (HA.out.below HR.out hb4); replace HP1 := hid (HP1.out.below hb4); replace HB := hid (below_on HB.out hb4); clear c3 c4 c5 c6 c7 c40 c41; have c3 := HA.out.c3; have c4 := HA.out.c4; have c5 := HA.out.c5; have c6 := HA.out.c6; have c7 := HA.out.c7; have c40 := HA.out.c40; have c41 := HA.out.c41; clear hb4))
 go_ret
 exact ⟨rfl, HB.out⟩
set_option maxRecDepth 100000 in
set_option maxHeartbeats 1000000 in
theorem vers_6b (r : Rv) (hr : r.ok) (ps : Ps) (w : World) (hp : PL w r.pv ps) (h0 : inR r.size 0 65536 = true) (h1 : okTag (lst r.etag) = true) (h2 : inR r.k 1 16 = true) (h3 : inR r.m 1 (16 - r.k) = true) (h4 : okData (lst r.data) = true) (h5 : okParts ps r.size = true) (h6 : r.up.toList.isEmpty = false) (h7 : okId (lst r.up) = true) : Calls Tryz.prog 83 #[.agg r.cs] w fun e w' => e = .returned (.bool true) ∧ Below w.heap.size w w' := by
 have HR := hid hr
 have HP := hid hp
 have H0 := hid h0
 have H1 := hid h1
 have H2 := hid h2
 have H3 := hid h3
 have H4 := hid h4
 have H5 := hid h5
 have hk := inR_iff.1 h2
 have hk1 := hk.1
 have hk2 := hk.2
 clear hk
 have hz := inR_iff.1 h0
 have hz1 := hz.1
 have hz2 := hz.2
 clear hz
 have H7 := hid h7
 clear hr hp h0 h1 h2 h3 h4 h5 h7
 go_enter Tryz.func83, Tryz.ntmps83
 go_wp2_with (first
  | ((with_reducible refine wpList_boxR rfl _ rfl r.cs ?_ ?_); exact rfl; intro w1 g1 hc1 hb1 hg1; have HA := hid (RBox.mk' HR.out hc1); have HB := hid hb1; have HP1 := hid (HP.out.below hb1); have c3 := HA.out.c3; have c4 := HA.out.c4; have c5 := HA.out.c5; have c6 := HA.out.c6; have c7 := HA.out.c7; have c40 := HA.out.c40; have c41 := HA.out.c41; clear hc1 hb1)
  | (go_at_call 81; refine (between_any _ _ _ _).mono ?_; rintro e w' ⟨rfl, hw'⟩; (first | rw [H0.out] | rw [H2.out] | rw [H3.out]); have hw2 := hw'.symm; subst hw2)
  | (go_at_call 106; refine (isTag_any _ _ (by have := HR.out.e; omega)).mono ?_; rintro e w2 ⟨rfl, hb2⟩; rw [H1.out]; replace HA := hid (HA.out.below HR.out hb2); replace HP1 := hid (HP1.out.below hb2); replace HB := hid (below_on HB.out hb2); clear c3 c4 c5 c6 c7 c40 c41; have c3 := HA.out.c3; have c4 := HA.out.c4; have c5 := HA.out.c5; have c6 := HA.out.c6; have c7 := HA.out.c7; have c40 := HA.out.c40; have c41 := HA.out.c41; clear hb2)
  | (go_at_call 107; refine (isDataName_any _ _ (by have := HR.out.d; omega)).mono ?_; rintro e w3 ⟨rfl, hb3⟩; rw [H4.out]; replace HA := hid (HA.out.below HR.out hb3); replace HP1 := hid (HP1.out.below hb3); replace HB := hid (below_on HB.out hb3); clear c3 c4 c5 c6 c7 c40 c41; have c3 := HA.out.c3; have c4 := HA.out.c4; have c5 := HA.out.c5; have c6 := HA.out.c6; have c7 := HA.out.c7; have c40 := HA.out.c40; have c41 := HA.out.c41; clear hb3)
  | (go_at_call 108; refine (partsMake_any _ ps _ _ HP1.out hz1 hz2).mono ?_; rintro e w4 ⟨rfl, hb4⟩; rw [H5.out]; replace HA := hid (HA.out.below HR.out hb4); replace HP1 := hid (HP1.out.below hb4); replace HB := hid (below_on HB.out hb4); clear c3 c4 c5 c6 c7 c40 c41; have c3 := HA.out.c3; have c4 := HA.out.c4; have c5 := HA.out.c5; have c6 := HA.out.c6; have c7 := HA.out.c7; have c40 := HA.out.c40; have c41 := HA.out.c41; clear hb4)
  | (go_at_call 80; refine (isID_any _ _ (by have := HR.out.u; omega)).mono ?_; rintro e w5 ⟨rfl, hb5⟩; rw [H7.out]; replace HA := hid (HA.out.below HR.out hb5); replace HP1 := hid (HP1.out.below hb5); replace HB := hid (below_on HB.out hb5); clear c3 c4 c5 c6 c7 c40 c41; have c3 := HA.out.c3; have c4 := HA.out.c4; have c5 := HA.out.c5; have c6 := HA.out.c6; have c7 := HA.out.c7; have c40 := HA.out.c40; have c41 := HA.out.c41; clear hb5))
 go_ret
 exact ⟨rfl, HB.out⟩
set_option maxRecDepth 100000 in
set_option maxHeartbeats 1000000 in
theorem vers_6c (r : Rv) (hr : r.ok) (ps : Ps) (w : World) (hp : PL w r.pv ps) (h0 : inR r.size 0 65536 = true) (h1 : okTag (lst r.etag) = true) (h2 : inR r.k 1 16 = true) (h3 : inR r.m 1 (16 - r.k) = true) (h4 : okData (lst r.data) = true) (h5 : okParts ps r.size = true) (h6 : r.up.toList.isEmpty = false) (h7 : okId (lst r.up) = false) : Calls Tryz.prog 83 #[.agg r.cs] w fun e w' => e = .returned (.bool false) ∧ Below w.heap.size w w' := by
 have HR := hid hr
 have HP := hid hp
 have H0 := hid h0
 have H1 := hid h1
 have H2 := hid h2
 have H3 := hid h3
 have H4 := hid h4
 have H5 := hid h5
 have hk := inR_iff.1 h2
 have hk1 := hk.1
 have hk2 := hk.2
 clear hk
 have hz := inR_iff.1 h0
 have hz1 := hz.1
 have hz2 := hz.2
 clear hz
 have H7 := hid h7
 clear hr hp h0 h1 h2 h3 h4 h5 h7
 go_enter Tryz.func83, Tryz.ntmps83
 go_wp2_with (first
  | ((with_reducible refine wpList_boxR rfl _ rfl r.cs ?_ ?_); exact rfl; intro w1 g1 hc1 hb1 hg1; have HA := hid (RBox.mk' HR.out hc1); have HB := hid hb1; have HP1 := hid (HP.out.below hb1); have c3 := HA.out.c3; have c4 := HA.out.c4; have c5 := HA.out.c5; have c6 := HA.out.c6; have c7 := HA.out.c7; have c40 := HA.out.c40; have c41 := HA.out.c41; clear hc1 hb1)
  | (go_at_call 81; refine (between_any _ _ _ _).mono ?_; rintro e w' ⟨rfl, hw'⟩; (first | rw [H0.out] | rw [H2.out] | rw [H3.out]); have hw2 := hw'.symm; subst hw2)
  | (go_at_call 106; refine (isTag_any _ _ (by have := HR.out.e; omega)).mono ?_; rintro e w2 ⟨rfl, hb2⟩; rw [H1.out]; replace HA := hid (HA.out.below HR.out hb2); replace HP1 := hid (HP1.out.below hb2); replace HB := hid (below_on HB.out hb2); clear c3 c4 c5 c6 c7 c40 c41; have c3 := HA.out.c3; have c4 := HA.out.c4; have c5 := HA.out.c5; have c6 := HA.out.c6; have c7 := HA.out.c7; have c40 := HA.out.c40; have c41 := HA.out.c41; clear hb2)
  | (go_at_call 107; refine (isDataName_any _ _ (by have := HR.out.d; omega)).mono ?_; rintro e w3 ⟨rfl, hb3⟩; rw [H4.out]; replace HA := hid (HA.out.below HR.out hb3); replace HP1 := hid (HP1.out.below hb3); replace HB := hid (below_on HB.out hb3); clear c3 c4 c5 c6 c7 c40 c41; have c3 := HA.out.c3; have c4 := HA.out.c4; have c5 := HA.out.c5; have c6 := HA.out.c6; have c7 := HA.out.c7; have c40 := HA.out.c40; have c41 := HA.out.c41; clear hb3)
  | (go_at_call 108; refine (partsMake_any _ ps _ _ HP1.out hz1 hz2).mono ?_; rintro e w4 ⟨rfl, hb4⟩; rw [H5.out]; replace HA := hid (HA.out.below HR.out hb4); replace HP1 := hid (HP1.out.below hb4); replace HB := hid (below_on HB.out hb4); clear c3 c4 c5 c6 c7 c40 c41; have c3 := HA.out.c3; have c4 := HA.out.c4; have c5 := HA.out.c5; have c6 := HA.out.c6; have c7 := HA.out.c7; have c40 := HA.out.c40; have c41 := HA.out.c41; clear hb4)
  | (go_at_call 80; refine (isID_any _ _ (by have := HR.out.u; omega)).mono ?_; rintro e w5 ⟨rfl, hb5⟩; rw [H7.out]; replace HA := hid (HA.out.below HR.out hb5); replace HP1 := hid (HP1.out.below hb5); replace HB := hid (below_on HB.out hb5); clear c3 c4 c5 c6 c7 c40 c41; have c3 := HA.out.c3; have c4 := HA.out.c4; have c5 := HA.out.c5; have c6 := HA.out.c6; have c7 := HA.out.c7; have c40 := HA.out.c40; have c41 := HA.out.c41; clear hb5))
 go_ret
 exact ⟨rfl, HB.out⟩
theorem isVersion_any (r : Rv) (hr : r.ok) (ps : Ps) (w : World) (hp : PL w r.pv ps) : Calls Tryz.prog 83 #[.agg r.cs] w fun e w' => e = .returned (.bool (versOk r ps)) ∧ Below w.heap.size w w' := by
 unfold versOk upOk
 cases h0 : inR r.size 0 65536
 ·exact vers_0 r hr ps w hp h0
 cases h1 : okTag (lst r.etag)
 ·exact vers_1 r hr ps w hp h0 h1
 cases h2 : inR r.k 1 16
 ·exact vers_2 r hr ps w hp h0 h1 h2
 cases h3 : inR r.m 1 (16 - r.k)
 ·exact vers_3 r hr ps w hp h0 h1 h2 h3
 cases h4 : okData (lst r.data)
 ·exact vers_4 r hr ps w hp h0 h1 h2 h3 h4
 cases h5 : okParts ps r.size
 ·exact vers_5 r hr ps w hp h0 h1 h2 h3 h4 h5
 cases h6 : r.up.toList.isEmpty
 ·cases h7 : okId (lst r.up)
  ·exact vers_6c r hr ps w hp h0 h1 h2 h3 h4 h5 h6 h7
  ·exact vers_6b r hr ps w hp h0 h1 h2 h3 h4 h5 h6 h7
 ·exact vers_6a r hr ps w hp h0 h1 h2 h3 h4 h5 h6
end Go.Proofs.YtopibkoklagceaaGreat

/- Contract of Same of package record. (Written by tools/gen_Vn.py.) -/
namespace Go.Proofs.YtopibkoklagceaaGreat
open Go Go.RowKit

theorem rc_eq (r s : Rv) (ps qs : Ps) : r.rc ps = s.rc qs ↔ (r.id.toList == s.id.toList) = true ∧ (r.time == s.time) = true ∧ (r.mark == s.mark) = true ∧ (r.size == s.size) = true ∧ (r.etag.toList == s.etag.toList) = true ∧ (r.k == s.k) = true ∧ (r.m == s.m) = true ∧ (r.data.toList == s.data.toList) = true ∧ decide (r.sum = s.sum) = true ∧ decide (ps = qs) = true ∧ (r.up.toList == s.up.toList) = true := by
 simp only [lst_beq, decide_eq_true_eq, beq_iff_eq]
 unfold Rv.rc
 simp only [Rc.mk.injEq]
theorem rc_ne {r s : Rv} {ps qs : Ps} (h : ¬ ((r.id.toList == s.id.toList) = true ∧ (r.time == s.time) = true ∧ (r.mark == s.mark) = true ∧ (r.size == s.size) = true ∧ (r.etag.toList == s.etag.toList) = true ∧ (r.k == s.k) = true ∧ (r.m == s.m) = true ∧ (r.data.toList == s.data.toList) = true ∧ decide (r.sum = s.sum) = true ∧ decide (ps = qs) = true ∧ (r.up.toList == s.up.toList) = true)) : decide (r.rc ps = s.rc qs) = false := decide_eq_false fun e => h ((rc_eq r s ps qs).1 e)
theorem underD : Tryz.prog.underlying 37 = some (.array 32 5) := by kernel_rfl
end Go.Proofs.YtopibkoklagceaaGreat
