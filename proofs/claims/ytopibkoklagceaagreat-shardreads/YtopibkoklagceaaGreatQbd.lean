/- Texts laid into one, cut to what is needed: the remark ahead of each part says what is proved there. -/
import Derived.Test.YtopibkoklagceaaGreatQbc
import Derived.Deep.MidRow
/- The document's Check, some cases. (Written by tools/gen_Vu.py.) -/
namespace Go.Proofs.YtopibkoklagceaaGreat
open Go Go.RowKit

set_option maxRecDepth 100000 in
set_option maxHeartbeats 1000000 in
theorem rcheck_v0 (r : Rv) (hr : r.ok) (ps : Ps) (w : World) (hp : PL w r.pv ps) (h0 : okId (lst r.id) = true) (h1 : inR r.time 0 1048576 = true) (hm : r.mark = false) (h10 : inR r.size 0 65536 = false) : Calls Tryz.prog 60 #[.agg r.cs] w fun e w' => e = .returned (i64 2) ∧ Below w.heap.size w w' := by
 have HR := hid hr
 have HP := hid hp
 have H0 := hid h0
 have H1 := hid h1
 have H10 := hid h10
 clear hr hp h0 h1 h10
 go_enter Tryz.func60, Tryz.ntmps60
 go_wp2_with (first
  | ((with_reducible refine wpList_boxR rfl _ rfl r.cs ?_ ?_); exact rfl; intro w1 g1 hc1 hb1 hg1; have HA := hid (RBox.mk' HR.out hc1); have HB := hid hb1; have HP1 := hid (HP.out.below hb1); have c0 := HA.out.c0; have c1 := HA.out.c1; have c2 := HA.out.c2; have c3 := HA.out.c3; have c4 := HA.out.c4; have c5 := HA.out.c5; have c6 := HA.out.c6; have c7 := HA.out.c7; have c40 := HA.out.c40; have c41 := HA.out.c41; rw [hm] at c2; clear hc1 hb1)
  | (go_at_call 84; refine (from_any _ _ _ _).mono ?_; rintro e w' ⟨rfl, hw'⟩; (first | rw [H1.out] | rw [H10.out]); have hw2 := hw'.symm; subst hw2)
  | (go_at_call 87; refine (rID_any _ _ (by have := HR.out.i; omega)).mono ?_; rintro e w' ⟨rfl, hw'⟩; rw [H0.out]; have hw2 := hw'.symm; subst hw2))
 go_ret
 exact ⟨rfl, HB.out⟩
set_option maxRecDepth 100000 in
set_option maxHeartbeats 1000000 in
theorem rcheck_v1 (r : Rv) (hr : r.ok) (ps : Ps) (w : World) (hp : PL w r.pv ps) (h0 : okId (lst r.id) = true) (h1 : inR r.time 0 1048576 = true) (hm : r.mark = false) (h10 : inR r.size 0 65536 = true) (h11 : okTag (lst r.etag) = false) : Calls Tryz.prog 60 #[.agg r.cs] w fun e w' => e = .returned (i64 2) ∧ Below w.heap.size w w' := by
 have HR := hid hr
 have HP := hid hp
 have H0 := hid h0
 have H1 := hid h1
 have H10 := hid h10
 have H11 := hid h11
 clear hr hp h0 h1 h10 h11
 go_enter Tryz.func60, Tryz.ntmps60
 go_wp2_with (first
  | ((with_reducible refine wpList_boxR rfl _ rfl r.cs ?_ ?_); exact rfl; intro w1 g1 hc1 hb1 hg1; have HA := hid (RBox.mk' HR.out hc1); have HB := hid hb1; have HP1 := hid (HP.out.below hb1); have c0 := HA.out.c0; have c1 := HA.out.c1; have c2 := HA.out.c2; have c3 := HA.out.c3; have c4 := HA.out.c4; have c5 := HA.out.c5; have c6 := HA.out.c6; have c7 := HA.out.c7; have c40 := HA.out.c40; have c41 := HA.out.c41; rw [hm] at c2; clear hc1 hb1)
  | (go_at_call 84; refine (from_any _ _ _ _).mono ?_; rintro e w' ⟨rfl, hw'⟩; (first | rw [H1.out] | rw [H10.out]); have hw2 := hw'.symm; subst hw2)
  | (go_at_call 87; refine (rID_any _ _ (by have := HR.out.i; omega)).mono ?_; rintro e w' ⟨rfl, hw'⟩; rw [H0.out]; have hw2 := hw'.symm; subst hw2)
  | (go_at_call 88; refine (rTag_any _ _ (by have := HR.out.e; omega)).mono ?_; rintro e w' ⟨rfl, hw'⟩; rw [H11.out]; have hw2 := hw'.symm; subst hw2))
 go_ret
 exact ⟨rfl, HB.out⟩
set_option maxRecDepth 100000 in
set_option maxHeartbeats 1000000 in
theorem rcheck_v2 (r : Rv) (hr : r.ok) (ps : Ps) (w : World) (hp : PL w r.pv ps) (h0 : okId (lst r.id) = true) (h1 : inR r.time 0 1048576 = true) (hm : r.mark = false) (h10 : inR r.size 0 65536 = true) (h11 : okTag (lst r.etag) = true) (h12 : inR r.k 1 15 = false) : Calls Tryz.prog 60 #[.agg r.cs] w fun e w' => e = .returned (i64 2) ∧ Below w.heap.size w w' := by
 have HR := hid hr
 have HP := hid hp
 have H0 := hid h0
 have H1 := hid h1
 have H10 := hid h10
 have H11 := hid h11
 have H12 := hid h12
 clear hr hp h0 h1 h10 h11 h12
 go_enter Tryz.func60, Tryz.ntmps60
 go_wp2_with (first
  | ((with_reducible refine wpList_boxR rfl _ rfl r.cs ?_ ?_); exact rfl; intro w1 g1 hc1 hb1 hg1; have HA := hid (RBox.mk' HR.out hc1); have HB := hid hb1; have HP1 := hid (HP.out.below hb1); have c0 := HA.out.c0; have c1 := HA.out.c1; have c2 := HA.out.c2; have c3 := HA.out.c3; have c4 := HA.out.c4; have c5 := HA.out.c5; have c6 := HA.out.c6; have c7 := HA.out.c7; have c40 := HA.out.c40; have c41 := HA.out.c41; rw [hm] at c2; clear hc1 hb1)
  | (go_at_call 84; refine (from_any _ _ _ _).mono ?_; rintro e w' ⟨rfl, hw'⟩; (first | rw [H1.out] | rw [H10.out] | rw [H12.out]); have hw2 := hw'.symm; subst hw2)
  | (go_at_call 87; refine (rID_any _ _ (by have := HR.out.i; omega)).mono ?_; rintro e w' ⟨rfl, hw'⟩; rw [H0.out]; have hw2 := hw'.symm; subst hw2)
  | (go_at_call 88; refine (rTag_any _ _ (by have := HR.out.e; omega)).mono ?_; rintro e w' ⟨rfl, hw'⟩; rw [H11.out]; have hw2 := hw'.symm; subst hw2))
 go_ret
 exact ⟨rfl, HB.out⟩
set_option maxRecDepth 100000 in
set_option maxHeartbeats 1000000 in
theorem rcheck_v3 (r : Rv) (hr : r.ok) (ps : Ps) (w : World) (hp : PL w r.pv ps) (h0 : okId (lst r.id) = true) (h1 : inR r.time 0 1048576 = true) (hm : r.mark = false) (h10 : inR r.size 0 65536 = true) (h11 : okTag (lst r.etag) = true) (h12 : inR r.k 1 15 = true) (h13 : inR r.m 1 15 = false) : Calls Tryz.prog 60 #[.agg r.cs] w fun e w' => e = .returned (i64 2) ∧ Below w.heap.size w w' := by
 have HR := hid hr
 have HP := hid hp
 have H0 := hid h0
 have H1 := hid h1
 have H10 := hid h10
 have H11 := hid h11
 have H12 := hid h12
 have H13 := hid h13
 clear hr hp h0 h1 h10 h11 h12 h13
 go_enter Tryz.func60, Tryz.ntmps60
 go_wp2_with (first
  | ((with_reducible refine wpList_boxR rfl _ rfl r.cs ?_ ?_); exact rfl; intro w1 g1 hc1 hb1 hg1; have HA := hid (RBox.mk' HR.out hc1); have HB := hid hb1; have HP1 := hid (HP.out.below hb1); have c0 := HA.out.c0; have c1 := HA.out.c1; have c2 := HA.out.c2; have c3 := HA.out.c3; have c4 := HA.out.c4; have c5 := HA.out.c5; have c6 := HA.out.c6; have c7 := HA.out.c7; have c40 := HA.out.c40; have c41 := HA.out.c41; rw [hm] at c2; clear hc1 hb1)
  | (go_at_call 84; refine (from_any _ _ _ _).mono ?_; rintro e w' ⟨rfl, hw'⟩; (first | rw [H1.out] | rw [H10.out] | rw [H12.out] | rw [H13.out]); have hw2 := hw'.symm; subst hw2)
  | (go_at_call 87; refine (rID_any _ _ (by have := HR.out.i; omega)).mono ?_; rintro e w' ⟨rfl, hw'⟩; rw [H0.out]; have hw2 := hw'.symm; subst hw2)
  | (go_at_call 88; refine (rTag_any _ _ (by have := HR.out.e; omega)).mono ?_; rintro e w' ⟨rfl, hw'⟩; rw [H11.out]; have hw2 := hw'.symm; subst hw2))
 go_ret
 exact ⟨rfl, HB.out⟩
set_option maxRecDepth 100000 in
set_option maxHeartbeats 1000000 in
theorem rcheck_v4 (r : Rv) (hr : r.ok) (ps : Ps) (w : World) (hp : PL w r.pv ps) (h0 : okId (lst r.id) = true) (h1 : inR r.time 0 1048576 = true) (hm : r.mark = false) (h10 : inR r.size 0 65536 = true) (h11 : okTag (lst r.etag) = true) (h12 : inR r.k 1 15 = true) (h13 : inR r.m 1 15 = true) (v4 : ¬ r.k + r.m ≤ 16) : Calls Tryz.prog 60 #[.agg r.cs] w fun e w' => e = .returned (i64 2) ∧ Below w.heap.size w w' := by
 have HR := hid hr
 have HP := hid hp
 have hkm :  16 < r.k + r.m := by omega
 have hk1 := (inR_iff.1 h12).1
 have hk2 := (inR_iff.1 h12).2
 have hk3 := (inR_iff.1 h13).1
 have hk4 := (inR_iff.1 h13).2
 have H0 := hid h0
 have H1 := hid h1
 have H10 := hid h10
 have H11 := hid h11
 have H12 := hid h12
 have H13 := hid h13
 clear hr hp h0 h1 h10 h11 h12 h13
 go_enter Tryz.func60, Tryz.ntmps60
 go_wp2_with (first
  | ((with_reducible refine wpList_boxR rfl _ rfl r.cs ?_ ?_); exact rfl; intro w1 g1 hc1 hb1 hg1; have HA := hid (RBox.mk' HR.out hc1); have HB := hid hb1; have HP1 := hid (HP.out.below hb1); have c0 := HA.out.c0; have c1 := HA.out.c1; have c2 := HA.out.c2; have c3 := HA.out.c3; have c4 := HA.out.c4; have c5 := HA.out.c5; have c6 := HA.out.c6; have c7 := HA.out.c7; have c40 := HA.out.c40; have c41 := HA.out.c41; rw [hm] at c2; clear hc1 hb1)
  | (go_at_call 84; refine (from_any _ _ _ _).mono ?_; rintro e w' ⟨rfl, hw'⟩; (first | rw [H1.out] | rw [H10.out] | rw [H12.out] | rw [H13.out]); have hw2 := hw'.symm; subst hw2)
  | (go_at_call 87; refine (rID_any _ _ (by have := HR.out.i; omega)).mono ?_; rintro e w' ⟨rfl, hw'⟩; rw [H0.out]; have hw2 := hw'.symm; subst hw2)
  | (go_at_call 88; refine (rTag_any _ _ (by have := HR.out.e; omega)).mono ?_; rintro e w' ⟨rfl, hw'⟩; rw [H11.out]; have hw2 := hw'.symm; subst hw2))
 go_ret
 exact ⟨rfl, HB.out⟩
set_option maxRecDepth 100000 in
set_option maxHeartbeats 1000000 in
theorem rcheck_v5 (r : Rv) (hr : r.ok) (ps : Ps) (w : World) (hp : PL w r.pv ps) (h0 : okId (lst r.id) = true) (h1 : inR r.time 0 1048576 = true) (hm : r.mark = false) (h10 : inR r.size 0 65536 = true) (h11 : okTag (lst r.etag) = true) (h12 : inR r.k 1 15 = true) (h13 : inR r.m 1 15 = true) (v4 : r.k + r.m ≤ 16) (h15 : okData (lst r.data) = false) : Calls Tryz.prog 60 #[.agg r.cs] w fun e w' => e = .returned (i64 2) ∧ Below w.heap.size w w' := by
 have HR := hid hr
 have HP := hid hp
 have hkm : ¬ 16 < r.k + r.m := by omega
 have hk1 := (inR_iff.1 h12).1
 have hk2 := (inR_iff.1 h12).2
 have hk3 := (inR_iff.1 h13).1
 have hk4 := (inR_iff.1 h13).2
 have H0 := hid h0
 have H1 := hid h1
 have H10 := hid h10
 have H11 := hid h11
 have H12 := hid h12
 have H13 := hid h13
 have H15 := hid h15
 clear hr hp h0 h1 h10 h11 h12 h13 h15
 go_enter Tryz.func60, Tryz.ntmps60
 go_wp2_with (first
  | ((with_reducible refine wpList_boxR rfl _ rfl r.cs ?_ ?_); exact rfl; intro w1 g1 hc1 hb1 hg1; have HA := hid (RBox.mk' HR.out hc1); have HB := hid hb1; have HP1 := hid (HP.out.below hb1); have c0 := HA.out.c0; have c1 := HA.out.c1; have c2 := HA.out.c2; have c3 := HA.out.c3; have c4 := HA.out.c4; have c5 := HA.out.c5; have c6 := HA.out.c6; have c7 := HA.out.c7; have c40 := HA.out.c40; have c41 := HA.out.c41; rw [hm] at c2; clear hc1 hb1)
  | (go_at_call 84; refine (from_any _ _ _ _).mono ?_; rintro e w' ⟨rfl, hw'⟩; (first | rw [H1.out] | rw [H10.out] | rw [H12.out] | rw [H13.out]); have hw2 := hw'.symm; subst hw2)
  | (go_at_call 87; refine (rID_any _ _ (by have := HR.out.i; omega)).mono ?_; rintro e w' ⟨rfl, hw'⟩; rw [H0.out]; have hw2 := hw'.symm; subst hw2)
  | (go_at_call 88; refine (rTag_any _ _ (by have := HR.out.e; omega)).mono ?_; rintro e w' ⟨rfl, hw'⟩; rw [H11.out]; have hw2 := hw'.symm; subst hw2)
  | (go_at_call 32; refine (rData_any _ _ (by have := HR.out.d; omega)).mono ?_; rintro e w' ⟨rfl, hw'⟩; rw [H15.out]; have hw2 := hw'.symm; subst hw2))
 go_ret
 exact ⟨rfl, HB.out⟩
set_option maxRecDepth 100000 in
set_option maxHeartbeats 1000000 in
theorem rcheck_v6 (r : Rv) (hr : r.ok) (ps : Ps) (w : World) (hp : PL w r.pv ps) (h0 : okId (lst r.id) = true) (h1 : inR r.time 0 1048576 = true) (hm : r.mark = false) (h10 : inR r.size 0 65536 = true) (h11 : okTag (lst r.etag) = true) (h12 : inR r.k 1 15 = true) (h13 : inR r.m 1 15 = true) (v4 : r.k + r.m ≤ 16) (h15 : okData (lst r.data) = true) (h16 : okParts ps r.size = false) : Calls Tryz.prog 60 #[.agg r.cs] w fun e w' => e = .returned (i64 2) ∧ Below w.heap.size w w' := by
 have HR := hid hr
 have HP := hid hp
 have hkm : ¬ 16 < r.k + r.m := by omega
 have hk1 := (inR_iff.1 h12).1
 have hk2 := (inR_iff.1 h12).2
 have hk3 := (inR_iff.1 h13).1
 have hk4 := (inR_iff.1 h13).2
 have H0 := hid h0
 have H1 := hid h1
 have H10 := hid h10
 have H11 := hid h11
 have H12 := hid h12
 have H13 := hid h13
 have H15 := hid h15
 have H16 := hid h16
 clear hr hp h0 h1 h10 h11 h12 h13 h15 h16
 go_enter Tryz.func60, Tryz.ntmps60
 go_wp2_with (first
  | ((with_reducible refine wpList_boxR rfl _ rfl r.cs ?_ ?_); exact rfl; intro w1 g1 hc1 hb1 hg1; have HA := hid (RBox.mk' HR.out hc1); have HB := hid hb1; have HP1 := hid (HP.out.below hb1); have c0 := HA.out.c0; have c1 := HA.out.c1; have c2 := HA.out.c2; have c3 := HA.out.c3; have c4 := HA.out.c4; have c5 := HA.out.c5; have c6 := HA.out.c6; have c7 := HA.out.c7; have c40 := HA.out.c40; have c41 := HA.out.c41; rw [hm] at c2; clear hc1 hb1)
  | (go_at_call 84; refine (from_any _ _ _ _).mono ?_; rintro e w' ⟨rfl, hw'⟩; (first | rw [H1.out] | rw [H10.out] | rw [H12.out] | rw [H13.out]); have hw2 := hw'.symm; subst hw2)
  | (go_at_call 87; refine (rID_any _ _ (by have := HR.out.i; omega)).mono ?_; rintro e w' ⟨rfl, hw'⟩; rw [H0.out]; have hw2 := hw'.symm; subst hw2)
  | (go_at_call 88; refine (rTag_any _ _ (by have := HR.out.e; omega)).mono ?_; rintro e w' ⟨rfl, hw'⟩; rw [H11.out]; have hw2 := hw'.symm; subst hw2)
  | (go_at_call 32; refine (rData_any _ _ (by have := HR.out.d; omega)).mono ?_; rintro e w' ⟨rfl, hw'⟩; rw [H15.out]; have hw2 := hw'.symm; subst hw2)
  | (go_at_call 89; refine (rParts_any _ ps _ _ HP1.out).mono ?_; rintro e w' ⟨rfl, hw'⟩; rw [H16.out]; have hw2 := hw'.symm; subst hw2))
 go_ret
 exact ⟨rfl, HB.out⟩
set_option maxRecDepth 100000 in
set_option maxHeartbeats 1000000 in
theorem rcheck_v7a (r : Rv) (hr : r.ok) (ps : Ps) (w : World) (hp : PL w r.pv ps) (h0 : okId (lst r.id) = true) (h1 : inR r.time 0 1048576 = true) (hm : r.mark = false) (h10 : inR r.size 0 65536 = true) (h11 : okTag (lst r.etag) = true) (h12 : inR r.k 1 15 = true) (h13 : inR r.m 1 15 = true) (v4 : r.k + r.m ≤ 16) (h15 : okData (lst r.data) = true) (h16 : okParts ps r.size = true) (u0 : r.up.toList.isEmpty = true) : Calls Tryz.prog 60 #[.agg r.cs] w fun e w' => e = .returned (i64 0) ∧ Below w.heap.size w w' := by
 have HR := hid hr
 have HP := hid hp
 have hkm : ¬ 16 < r.k + r.m := by omega
 have hk1 := (inR_iff.1 h12).1
 have hk2 := (inR_iff.1 h12).2
 have hk3 := (inR_iff.1 h13).1
 have hk4 := (inR_iff.1 h13).2
 have H0 := hid h0
 have H1 := hid h1
 have H10 := hid h10
 have H11 := hid h11
 have H12 := hid h12
 have H13 := hid h13
 have H15 := hid h15
 have H16 := hid h16
 clear hr hp h0 h1 h10 h11 h12 h13 h15 h16
 go_enter Tryz.func60, Tryz.ntmps60
 go_wp2_with (first
  | ((with_reducible refine wpList_boxR rfl _ rfl r.cs ?_ ?_); exact rfl; intro w1 g1 hc1 hb1 hg1; have HA := hid (RBox.mk' HR.out hc1); have HB := hid hb1; have HP1 := hid (HP.out.below hb1); have c0 := HA.out.c0; have c1 := HA.out.c1; have c2 := HA.out.c2; have c3 := HA.out.c3; have c4 := HA.out.c4; have c5 := HA.out.c5; have c6 := HA.out.c6; have c7 := HA.out.c7; have c40 := HA.out.c40; have c41 := HA.out.c41; rw [hm] at c2; clear hc1 hb1)
  | (go_at_call 84; refine (from_any _ _ _ _).mono ?_; rintro e w' ⟨rfl, hw'⟩; (first | rw [H1.out] | rw [H10.out] | rw [H12.out] | rw [H13.out]); have hw2 := hw'.symm; subst hw2)
  | (go_at_call 87; refine (rID_any _ _ (by have := HR.out.i; omega)).mono ?_; rintro e w' ⟨rfl, hw'⟩; rw [H0.out]; have hw2 := hw'.symm; subst hw2)
  | (go_at_call 88; refine (rTag_any _ _ (by have := HR.out.e; omega)).mono ?_; rintro e w' ⟨rfl, hw'⟩; rw [H11.out]; have hw2 := hw'.symm; subst hw2)
  | (go_at_call 32; refine (rData_any _ _ (by have := HR.out.d; omega)).mono ?_; rintro e w' ⟨rfl, hw'⟩; rw [H15.out]; have hw2 := hw'.symm; subst hw2)
  | (go_at_call 89; refine (rParts_any _ ps _ _ HP1.out).mono ?_; rintro e w' ⟨rfl, hw'⟩; rw [H16.out]; have hw2 := hw'.symm; subst hw2))
 go_ret
 exact ⟨rfl, HB.out⟩
set_option maxRecDepth 100000 in
set_option maxHeartbeats 1000000 in
theorem rcheck_v7b (r : Rv) (hr : r.ok) (ps : Ps) (w : World) (hp : PL w r.pv ps) (h0 : okId (lst r.id) = true) (h1 : inR r.time 0 1048576 = true) (hm : r.mark = false) (h10 : inR r.size 0 65536 = true) (h11 : okTag (lst r.etag) = true) (h12 : inR r.k 1 15 = true) (h13 : inR r.m 1 15 = true) (v4 : r.k + r.m ≤ 16) (h15 : okData (lst r.data) = true) (h16 : okParts ps r.size = true) (u0 : r.up.toList.isEmpty = false) (h20 : okId (lst r.up) = true) : Calls Tryz.prog 60 #[.agg r.cs] w fun e w' => e = .returned (i64 0) ∧ Below w.heap.size w w' := by
 have HR := hid hr
 have HP := hid hp
 have hkm : ¬ 16 < r.k + r.m := by omega
 have hk1 := (inR_iff.1 h12).1
 have hk2 := (inR_iff.1 h12).2
 have hk3 := (inR_iff.1 h13).1
 have hk4 := (inR_iff.1 h13).2
 have H0 := hid h0
 have H1 := hid h1
 have H10 := hid h10
 have H11 := hid h11
 have H12 := hid h12
 have H13 := hid h13
 have H15 := hid h15
 have H16 := hid h16
 have H20 := hid h20
 clear hr hp h0 h1 h10 h11 h12 h13 h15 h16 h20
 go_enter Tryz.func60, Tryz.ntmps60
 go_wp2_with (first
  | ((with_reducible refine wpList_boxR rfl _ rfl r.cs ?_ ?_); exact rfl; intro w1 g1 hc1 hb1 hg1; have HA := hid (RBox.mk' HR.out hc1); have HB := hid hb1; have HP1 := hid (HP.out.below hb1); have c0 := HA.out.c0; have c1 := HA.out.c1; have c2 := HA.out.c2; have c3 := HA.out.c3; have c4 := HA.out.c4; have c5 := HA.out.c5; have c6 := HA.out.c6; have c7 := HA.out.c7; have c40 := HA.out.c40; have c41 := HA.out.c41; rw [hm] at c2; clear hc1 hb1)
  | (go_at_call 84; refine (from_any _ _ _ _).mono ?_; rintro e w' ⟨rfl, hw'⟩; (first | rw [H1.out] | rw [H10.out] | rw [H12.out] | rw [H13.out]); have hw2 := hw'.symm; subst hw2)
  | (go_at_call 87; (first | ((with_reducible refine (rIDb H0.out _ (by have := HR.out.i; omega)).mono ?_)) | ((with_reducible refine (rIDb H20.out _ (by have := HR.out.u; omega)).mono ?_))); rintro e w' ⟨rfl, hw'⟩; have hw2 := hw'.symm; subst hw2)
  | (go_at_call 88; refine (rTag_any _ _ (by have := HR.out.e; omega)).mono ?_; rintro e w' ⟨rfl, hw'⟩; rw [H11.out]; have hw2 := hw'.symm; subst hw2)
  | (go_at_call 32; refine (rData_any _ _ (by have := HR.out.d; omega)).mono ?_; rintro e w' ⟨rfl, hw'⟩; rw [H15.out]; have hw2 := hw'.symm; subst hw2)
  | (go_at_call 89; refine (rParts_any _ ps _ _ HP1.out).mono ?_; rintro e w' ⟨rfl, hw'⟩; rw [H16.out]; have hw2 := hw'.symm; subst hw2))
 go_ret
 exact ⟨rfl, HB.out⟩
set_option maxRecDepth 100000 in
set_option maxHeartbeats 1000000 in
theorem rcheck_v7c (r : Rv) (hr : r.ok) (ps : Ps) (w : World) (hp : PL w r.pv ps) (h0 : okId (lst r.id) = true) (h1 : inR r.time 0 1048576 = true) (hm : r.mark = false) (h10 : inR r.size 0 65536 = true) (h11 : okTag (lst r.etag) = true) (h12 : inR r.k 1 15 = true) (h13 : inR r.m 1 15 = true) (v4 : r.k + r.m ≤ 16) (h15 : okData (lst r.data) = true) (h16 : okParts ps r.size = true) (u0 : r.up.toList.isEmpty = false) (h20 : okId (lst r.up) = false) : Calls Tryz.prog 60 #[.agg r.cs] w fun e w' => e = .returned (i64 2) ∧ Below w.heap.size w w' := by
 have HR := hid hr
 have HP := hid hp
 have hkm : ¬ 16 < r.k + r.m := by omega
 have hk1 := (inR_iff.1 h12).1
 have hk2 := (inR_iff.1 h12).2
 have hk3 := (inR_iff.1 h13).1
 have hk4 := (inR_iff.1 h13).2
 have H0 := hid h0
 have H1 := hid h1
 have H10 := hid h10
 have H11 := hid h11
 have H12 := hid h12
 have H13 := hid h13
 have H15 := hid h15
 have H16 := hid h16
 have H20 := hid h20
 clear hr hp h0 h1 h10 h11 h12 h13 h15 h16 h20
 go_enter Tryz.func60, Tryz.ntmps60
 go_wp2_with (first
  | ((with_reducible refine wpList_boxR rfl _ rfl r.cs ?_ ?_); exact rfl; intro w1 g1 hc1 hb1 hg1; have HA := hid (RBox.mk' HR.out hc1); have HB := hid hb1; have HP1 := hid (HP.out.below hb1); have c0 := HA.out.c0; have c1 := HA.out.c1; have c2 := HA.out.c2; have c3 := HA.out.c3; have c4 := HA.out.c4; have c5 := HA.out.c5; have c6 := HA.out.c6; have c7 := HA.out.c7; have c40 := HA.out.c40; have c41 := HA.out.c41; rw [hm] at c2; clear hc1 hb1)
  | (go_at_call 84; refine (from_any _ _ _ _).mono ?_; rintro e w' ⟨rfl, hw'⟩; (first | rw [H1.out] | rw [H10.out] | rw [H12.out] | rw [H13.out]); have hw2 := hw'.symm; subst hw2)
  | (go_at_call 87; (first | ((with_reducible refine (rIDb H0.out _ (by have := HR.out.i; omega)).mono ?_)) | ((with_reducible refine (rIDb H20.out _ (by have := HR.out.u; omega)).mono ?_))); rintro e w' ⟨rfl, hw'⟩; have hw2 := hw'.symm; subst hw2)
  | (go_at_call 88; refine (rTag_any _ _ (by have := HR.out.e; omega)).mono ?_; rintro e w' ⟨rfl, hw'⟩; rw [H11.out]; have hw2 := hw'.symm; subst hw2)
  | (go_at_call 32; refine (rData_any _ _ (by have := HR.out.d; omega)).mono ?_; rintro e w' ⟨rfl, hw'⟩; rw [H15.out]; have hw2 := hw'.symm; subst hw2)
  | (go_at_call 89; refine (rParts_any _ ps _ _ HP1.out).mono ?_; rintro e w' ⟨rfl, hw'⟩; rw [H16.out]; have hw2 := hw'.symm; subst hw2))
 go_ret
 exact ⟨rfl, HB.out⟩
end Go.Proofs.YtopibkoklagceaaGreat

/- The document's Check, some cases. (Written by tools/gen_Vu.py.) -/
namespace Go.Proofs.YtopibkoklagceaaGreat
open Go Go.RowKit

theorem rcheck_any (r : Rv) (hr : r.ok) (ps : Ps) (w : World) (hp : PL w r.pv ps) : Calls Tryz.prog 60 #[.agg r.cs] w fun e w' => e = .returned (i64 (if okRc (r.rc ps) = true then 0 else 2)) ∧ Below w.heap.size w w' := by
 cases h0 : okId (lst r.id)
 ·have e : okRc (r.rc ps) = false := by unfold okRc Rv.rc; simp [h0]
  rw [e]; exact rcheck_0 r hr ps w hp h0
 cases h1 : inR r.time 0 1048576
 ·have e : okRc (r.rc ps) = false := by unfold okRc Rv.rc; simp [h1]
  rw [e]; exact rcheck_1 r hr ps w hp h0 h1
 cases hm : r.mark
 ·have e : okRc (r.rc ps) = (inR r.size 0 65536 && (okTag (lst r.etag) && (inR r.k 1 15 && (inR r.m 1 15 && (decide (r.k + r.m ≤ 16) && (okData (lst r.data) && (okParts ps r.size && (r.up.toList.isEmpty || okId (lst r.up))))))))) := by
    unfold okRc Rv.rc
    simp only [hm, h0, h1, Bool.false_eq_true, if_false, hr.sl, decide_true, Bool.and_true, isEmpty_lst, Bool.true_and, Bool.and_assoc]
  rw [e]
  cases h10 : inR r.size 0 65536
  ·exact rcheck_v0 r hr ps w hp h0 h1 hm h10
  cases h11 : okTag (lst r.etag)
  ·exact rcheck_v1 r hr ps w hp h0 h1 hm h10 h11
  cases h12 : inR r.k 1 15
  ·exact rcheck_v2 r hr ps w hp h0 h1 hm h10 h11 h12
  cases h13 : inR r.m 1 15
  ·exact rcheck_v3 r hr ps w hp h0 h1 hm h10 h11 h12 h13
  by_cases v4 : r.k + r.m ≤ 16
  rotate_left
  ·rw [decide_eq_false v4]; exact rcheck_v4 r hr ps w hp h0 h1 hm h10 h11 h12 h13 v4
  rw [decide_eq_true v4]
  cases h15 : okData (lst r.data)
  ·exact rcheck_v5 r hr ps w hp h0 h1 hm h10 h11 h12 h13 v4 h15
  cases h16 : okParts ps r.size
  ·exact rcheck_v6 r hr ps w hp h0 h1 hm h10 h11 h12 h13 v4 h15 h16
  cases u0 : r.up.toList.isEmpty
  ·cases h20 : okId (lst r.up)
   ·exact rcheck_v7c r hr ps w hp h0 h1 hm h10 h11 h12 h13 v4 h15 h16 u0 h20
   ·exact rcheck_v7b r hr ps w hp h0 h1 hm h10 h11 h12 h13 v4 h15 h16 u0 h20
  ·exact rcheck_v7a r hr ps w hp h0 h1 hm h10 h11 h12 h13 v4 h15 h16 u0
 ·have e : okRc (r.rc ps) = ((r.size == 0) && (r.etag.toList.isEmpty && ((r.k == 0) && ((r.m == 0) && (r.data.toList.isEmpty && (decide (r.sum = zeroD) && (ps.isEmpty && r.up.toList.isEmpty))))))) := by
    unfold okRc Rv.rc
    have hb : ∀ x : Int, decide (x = 0) = (x == 0) := fun x => by rw [Bool.eq_iff_iff]; simp
    simp only [hm, h0, h1, if_true, isEmpty_lst, Bool.true_and, Bool.and_assoc, hb]
  rw [e]
  cases m0 : (r.size == 0)
  ·exact rcheck_m0 r hr ps w hp h0 h1 hm m0
  cases m1 : r.etag.toList.isEmpty
  ·exact rcheck_m1 r hr ps w hp h0 h1 hm m0 m1
  cases m2 : (r.k == 0)
  ·exact rcheck_m2 r hr ps w hp h0 h1 hm m0 m1 m2
  cases m3 : (r.m == 0)
  ·exact rcheck_m3 r hr ps w hp h0 h1 hm m0 m1 m2 m3
  cases m4 : r.data.toList.isEmpty
  ·exact rcheck_m4 r hr ps w hp h0 h1 hm m0 m1 m2 m3 m4
  cases m5 : decide (r.sum = zeroD)
  ·exact rcheck_m5 r hr ps w hp h0 h1 hm m0 m1 m2 m3 m4 m5
  cases m6 : ps.isEmpty
  ·exact rcheck_m6 r hr ps w hp h0 h1 hm m0 m1 m2 m3 m4 m5 m6
  cases m7 : r.up.toList.isEmpty
  ·exact rcheck_m7 r hr ps w hp h0 h1 hm m0 m1 m2 m3 m4 m5 m6 m7
  exact rcheck_m8 r hr ps w hp h0 h1 hm m0 m1 m2 m3 m4 m5 m6 m7
end Go.Proofs.YtopibkoklagceaaGreat

/- Copy of package record: its parts lie in a block that may be written. -/
namespace Go.Proofs.YtopibkoklagceaaGreat
open Go Go.RowKit

theorem PBuf.capn {B : Nat} {w : World} {n c : Nat} {ps : Ps} (h : PBuf B w (.slice none n c) ps) : c = 0 := by
 rcases h.2 with ⟨e, _⟩ | ⟨g, cap, cur, e, _⟩
 ·cases e; rfl
 ·cases e
/-- What the document's Copy tells: the parts are none only where there is no room. -/
def CopN (w : World) (r : Rv) (ps : Ps) (e : Ending) (w' : World) : Prop := ∃ po c, e = .returned (.agg ({ r with pv := .slice po ps.length c } : Rv).cs) ∧ PLF w.heap.size w' (.slice po ps.length c) ps ∧ (po = none → c = 0) ∧ Below w.heap.size w w'
set_option maxRecDepth 100000 in
set_option maxHeartbeats 400000 in
theorem rcopyN_any (r : Rv) (hk : r.ok) (po : Option Addr) (c : Nat) (ps : Ps) (w : World) (hv : r.pv = .slice po ps.length c) (h : PL w r.pv ps) (hc : po = none → c = 0) (hn : ps.length ≤ 100000) : Calls Tryz.prog 16 #[.agg r.cs] w (CopN w r ps) := by
 have HF : Hid (∀ W, Below w.heap.size w W → ∃ p3 c3 W', (Builtin.append_ #[38, 38] 38 #[.slice (some ⟨W.heap.size, 0, none⟩) 0 0, .slice po ps.length c]).run Tryz.prog (W.alloc (.cells #[] 69)) = .ok (.slice p3 ps.length c3) W' ∧ (PLF W.heap.size W' (.slice p3 ps.length c3) ps ∧ (p3 = none → c3 = 0)) ∧ Below W.heap.size W W') := hid (fun W hb => by
  obtain ⟨v1, w1, hr, hb1, hg⟩ := (PBuf.made0 W W.heap.size (Nat.le_refl _)).app po c ps (hv ▸ (h.below hb).below (below_al _ _)) hc (by simpa using by omega) (by rw [size_al]; omega)
  rw [List.nil_append] at hb1
  obtain ⟨p1, c1, hv1, hc1⟩ := hb1.form
  subst hv1
  refine ⟨p1, c1, w1, hr, ⟨(hb1.pl hn c1 hc1 (Or.inr rfl)).2, fun e => by subst e; exact hb1.capn⟩, below_grown (below_al W _) hg (Nat.le_refl _) (fun b hb => ?_)⟩
  simp [Value.ownBlock] at hb
  omega)
 have HV := hid hv
 clear h hc hv
 go_enter Tryz.func16, Tryz.ntmps16
 go_wp2_with (first
  | ((with_reducible refine wpList_boxR rfl _ rfl r.cs ?_ ?_); exact rfl; intro w1 g1 hc1 hb1 hg1; have HA1 := hid (RBox.mk' hk hc1); have HB1 := hid hb1; clear hc1 hb1)
  | ((with_reducible refine wpList_allocR rfl rfl ?_); intro w2 g2 hz2 hb2 hg2; have HZ2 := hid hz2; have HA2 := hid (HA1.out.below hk hb2); have HB2 := hid (below_on HB1.out hb2); have HG := hid (show g1 < g2 ∧ w.heap.size ≤ g1 ∧ g2 < w2.heap.size from ⟨by have := HA1.out.at_.lt; omega, by omega, HZ2.out.at_.lt⟩); have c40 := (HA2.out.below hk (below_al w2 (.cells #[] 69))).c40; rw [HV.out] at c40; obtain ⟨p3, c3, w3, hr3, hp3, hb3⟩ := HF.out _ HB2.out; have HRUN := hid hr3; have HP3 := hid hp3.1; have HN3 := hid hp3.2; have HB3 := hid hb3; clear hz2 hb2 hg2 HA1 HB1 hr3 hp3 hb3)
  | (at_builtin; (refine wpList_append_run _ _ 38 38 rfl rfl _ _ _ rfl rfl HRUN.out ?_); have HZ3 := hid (HZ2.out.below zR_ok HB3.out); have ha3 := HA2.out.below hk HB3.out; clear c40; have d40 := ha3.c40; have f40 := ha3.free; have hs := ha3.set40 hk (.slice p3 ps.length c3); have ho : Only (fun b => b = g1) w3 (w3.setCell ⟨g1, 40, none⟩ (.slice p3 ps.length c3)) := Only.set w3 _ _ rfl; have HA4 := hid hs; have HZ4 := hid (HZ3.out.only zR_ok ho (by have := HG.out; omega)); have HP4 := hid (HP3.out.only ho (fun i e => by have := HG.out; omega)); have HB4 := hid (below_tr (below_on HB2.out HB3.out) (ho.below (below_on HB2.out HB3.out).size (fun i e => by have := HG.out; omega))); clear ha3 hs ho)
  | ((with_reducible refine wpList_load_at 40 _ rfl ?_ g1 0 ?_ ({ r with pv := .slice p3 ps.length c3 } : Rv).cs (.struct (Tryz.prog.fieldsOf 40)) ?_ underRec rfl ?_ ?_); exact rfl; exact rfl; exact HA4.out.whole; (rw [Rv.size_of (r := { r with pv := .slice p3 ps.length c3 }) hk.sl]; exact sizeR))
  | ((with_reducible refine wpList_storeR rfl rfl _ _ rfl g2 ?_ (r := { r with pv := .slice p3 ps.length c3 }) ?_ zR_ok ?_ ?_ HZ4.out ?_); exact rfl; exact rfl; exact ⟨hk.sl, hk.s8, hk.i, hk.e, hk.d, hk.u⟩; exact rfl; intro w5 h5 o5; have H5 := hid h5; have O5 := hid o5; clear h5 o5))
 refine ret_rowR rfl g2 rfl rfl H5.out ⟨hk.sl, hk.s8, hk.i, hk.e, hk.d, hk.u⟩ ⟨p3, c3, rfl, ?_, HN3.out, ?_⟩
 ·exact (HP4.out.only O5.out (fun i e => by have := HG.out; omega)).base HB2.out.size
 ·exact below_tr HB4.out (O5.out.below HB4.out.size (fun i e => by have := HG.out; omega))
end Go.Proofs.YtopibkoklagceaaGreat
