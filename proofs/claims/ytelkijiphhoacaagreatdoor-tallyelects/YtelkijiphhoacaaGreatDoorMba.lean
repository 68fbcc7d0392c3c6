/- Texts laid into one, cut to what is needed: the remark ahead of each part says what is proved there. -/
import Derived.Test.YtelkijiphhoacaaGreatDoorMaz
/- The document's Check, some cases. (Written by tools/gen_Vu.py.) -/
namespace Go.Proofs.YtelkijiphhoacaaGreatDoor
open Go Go.RowKit

set_option maxRecDepth 100000 in
set_option maxHeartbeats 1000000 in
theorem rcheck_0 (r : Rv) (hr : r.ok) (ps : Ps) (w : World) (hp : PL w r.pv ps) (h0 : okId (lst r.id) = false) : Calls Tryz.prog 46 #[.agg r.cs] w fun e w' => e = .returned (i64 2) ∧ Below w.heap.size w w' := by
  have HR := hid hr
  have HP := hid hp
  have H0 := hid h0
  clear hr hp h0
  go_enter Tryz.func46, Tryz.ntmps46
  go_wp2_with (first
    | ((with_reducible refine wpList_boxR rfl _ rfl r.cs ?_ ?_); exact rfl; intro w1 g1 hc1 hb1 hg1; have HA := hid (RBox.mk' HR.out hc1); have HB := hid hb1; have HP1 := hid (HP.out.below hb1); have c0 := HA.out.c0; have c1 := HA.out.c1; have c2 := HA.out.c2; clear hc1 hb1)
    | (go_at_call 62; refine (rID_any _ _ (by have := HR.out.i; omega)).mono ?_; rintro e w' ⟨rfl, hw'⟩; rw [H0.out]; have hw2 := hw'.symm; subst hw2))
  go_ret
  exact ⟨rfl, HB.out⟩
set_option maxRecDepth 100000 in
set_option maxHeartbeats 1000000 in
theorem rcheck_1 (r : Rv) (hr : r.ok) (ps : Ps) (w : World) (hp : PL w r.pv ps) (h0 : okId (lst r.id) = true) (h1 : inR r.time 0 1048576 = false) : Calls Tryz.prog 46 #[.agg r.cs] w fun e w' => e = .returned (i64 2) ∧ Below w.heap.size w w' := by
  have HR := hid hr
  have HP := hid hp
  have H0 := hid h0
  have H1 := hid h1
  clear hr hp h0 h1
  go_enter Tryz.func46, Tryz.ntmps46
  go_wp2_with (first
    | ((with_reducible refine wpList_boxR rfl _ rfl r.cs ?_ ?_); exact rfl; intro w1 g1 hc1 hb1 hg1; have HA := hid (RBox.mk' HR.out hc1); have HB := hid hb1; have HP1 := hid (HP.out.below hb1); have c0 := HA.out.c0; have c1 := HA.out.c1; have c2 := HA.out.c2; clear hc1 hb1)
    | (go_at_call 62; refine (rID_any _ _ (by have := HR.out.i; omega)).mono ?_; rintro e w' ⟨rfl, hw'⟩; rw [H0.out]; have hw2 := hw'.symm; subst hw2)
    | (go_at_call 63; refine (from_any _ _ _ _).mono ?_; rintro e w' ⟨rfl, hw'⟩; (first | rw [H1.out]); have hw2 := hw'.symm; subst hw2))
  go_ret
  exact ⟨rfl, HB.out⟩
set_option maxRecDepth 100000 in
set_option maxHeartbeats 1000000 in
theorem rcheck_m0 (r : Rv) (hr : r.ok) (ps : Ps) (w : World) (hp : PL w r.pv ps) (h0 : okId (lst r.id) = true) (h1 : inR r.time 0 1048576 = true) (hm : r.mark = true) (m0 : (r.size == 0) = false) : Calls Tryz.prog 46 #[.agg r.cs] w fun e w' => e = .returned (i64 2) ∧ Below w.heap.size w w' := by
  have HR := hid hr
  have HP := hid hp
  have z0 : ¬ r.size = 0 := by simpa using m0
  clear m0
  have H0 := hid h0
  have H1 := hid h1
  clear hr hp h0 h1
  go_enter Tryz.func46, Tryz.ntmps46
  go_wp2_with (first
    | ((with_reducible refine wpList_boxR rfl _ rfl r.cs ?_ ?_); exact rfl; intro w1 g1 hc1 hb1 hg1; have HA := hid (RBox.mk' HR.out hc1); have HB := hid hb1; have HP1 := hid (HP.out.below hb1); have c0 := HA.out.c0; have c1 := HA.out.c1; have c2 := HA.out.c2; have c3 := HA.out.c3; have c4 := HA.out.c4; have c5 := HA.out.c5; have c6 := HA.out.c6; have c7 := HA.out.c7; have c40 := HA.out.c40; have c41 := HA.out.c41; rw [hm] at c2; clear hc1 hb1)
    | (go_at_call 62; refine (rID_any _ _ (by have := HR.out.i; omega)).mono ?_; rintro e w' ⟨rfl, hw'⟩; rw [H0.out]; have hw2 := hw'.symm; subst hw2)
    | (go_at_call 63; refine (from_any _ _ _ _).mono ?_; rintro e w' ⟨rfl, hw'⟩; (first | rw [H1.out]); have hw2 := hw'.symm; subst hw2))
  go_ret
  exact ⟨rfl, HB.out⟩
set_option maxRecDepth 100000 in
set_option maxHeartbeats 1000000 in
theorem rcheck_m1 (r : Rv) (hr : r.ok) (ps : Ps) (w : World) (hp : PL w r.pv ps) (h0 : okId (lst r.id) = true) (h1 : inR r.time 0 1048576 = true) (hm : r.mark = true) (m0 : (r.size == 0) = true) (m1 : (r.etag.toList.isEmpty) = false) : Calls Tryz.prog 46 #[.agg r.cs] w fun e w' => e = .returned (i64 2) ∧ Below w.heap.size w w' := by
  have HR := hid hr
  have HP := hid hp
  have z0 : r.size = 0 := by simpa using m0
  clear m0
  have H0 := hid h0
  have H1 := hid h1
  clear hr hp h0 h1
  go_enter Tryz.func46, Tryz.ntmps46
  go_wp2_with (first
    | ((with_reducible refine wpList_boxR rfl _ rfl r.cs ?_ ?_); exact rfl; intro w1 g1 hc1 hb1 hg1; have HA := hid (RBox.mk' HR.out hc1); have HB := hid hb1; have HP1 := hid (HP.out.below hb1); have c0 := HA.out.c0; have c1 := HA.out.c1; have c2 := HA.out.c2; have c3 := HA.out.c3; have c4 := HA.out.c4; have c5 := HA.out.c5; have c6 := HA.out.c6; have c7 := HA.out.c7; have c40 := HA.out.c40; have c41 := HA.out.c41; rw [hm] at c2; clear hc1 hb1)
    | (go_at_call 62; refine (rID_any _ _ (by have := HR.out.i; omega)).mono ?_; rintro e w' ⟨rfl, hw'⟩; rw [H0.out]; have hw2 := hw'.symm; subst hw2)
    | (go_at_call 63; refine (from_any _ _ _ _).mono ?_; rintro e w' ⟨rfl, hw'⟩; (first | rw [H1.out]); have hw2 := hw'.symm; subst hw2))
  go_ret
  exact ⟨rfl, HB.out⟩
set_option maxRecDepth 100000 in
set_option maxHeartbeats 1000000 in
theorem rcheck_m2 (r : Rv) (hr : r.ok) (ps : Ps) (w : World) (hp : PL w r.pv ps) (h0 : okId (lst r.id) = true) (h1 : inR r.time 0 1048576 = true) (hm : r.mark = true) (m0 : (r.size == 0) = true) (m1 : (r.etag.toList.isEmpty) = true) (m2 : (r.k == 0) = false) : Calls Tryz.prog 46 #[.agg r.cs] w fun e w' => e = .returned (i64 2) ∧ Below w.heap.size w w' := by
  have HR := hid hr
  have HP := hid hp
  have z0 : r.size = 0 := by simpa using m0
  clear m0
  have z2 : ¬ r.k = 0 := by simpa using m2
  clear m2
  have H0 := hid h0
  have H1 := hid h1
  clear hr hp h0 h1
  go_enter Tryz.func46, Tryz.ntmps46
  go_wp2_with (first
    | ((with_reducible refine wpList_boxR rfl _ rfl r.cs ?_ ?_); exact rfl; intro w1 g1 hc1 hb1 hg1; have HA := hid (RBox.mk' HR.out hc1); have HB := hid hb1; have HP1 := hid (HP.out.below hb1); have c0 := HA.out.c0; have c1 := HA.out.c1; have c2 := HA.out.c2; have c3 := HA.out.c3; have c4 := HA.out.c4; have c5 := HA.out.c5; have c6 := HA.out.c6; have c7 := HA.out.c7; have c40 := HA.out.c40; have c41 := HA.out.c41; rw [hm] at c2; clear hc1 hb1)
    | (go_at_call 62; refine (rID_any _ _ (by have := HR.out.i; omega)).mono ?_; rintro e w' ⟨rfl, hw'⟩; rw [H0.out]; have hw2 := hw'.symm; subst hw2)
    | (go_at_call 63; refine (from_any _ _ _ _).mono ?_; rintro e w' ⟨rfl, hw'⟩; (first | rw [H1.out]); have hw2 := hw'.symm; subst hw2))
  go_ret
  exact ⟨rfl, HB.out⟩
set_option maxRecDepth 100000 in
set_option maxHeartbeats 1000000 in
theorem rcheck_m3 (r : Rv) (hr : r.ok) (ps : Ps) (w : World) (hp : PL w r.pv ps) (h0 : okId (lst r.id) = true) (h1 : inR r.time 0 1048576 = true) (hm : r.mark = true) (m0 : (r.size == 0) = true) (m1 : (r.etag.toList.isEmpty) = true) (m2 : (r.k == 0) = true) (m3 : (r.m == 0) = false) : Calls Tryz.prog 46 #[.agg r.cs] w fun e w' => e = .returned (i64 2) ∧ Below w.heap.size w w' := by
  have HR := hid hr
  have HP := hid hp
  have z0 : r.size = 0 := by simpa using m0
  clear m0
  have z2 : r.k = 0 := by simpa using m2
  clear m2
  have z3 : ¬ r.m = 0 := by simpa using m3
  clear m3
  have H0 := hid h0
  have H1 := hid h1
  clear hr hp h0 h1
  go_enter Tryz.func46, Tryz.ntmps46
  go_wp2_with (first
    | ((with_reducible refine wpList_boxR rfl _ rfl r.cs ?_ ?_); exact rfl; intro w1 g1 hc1 hb1 hg1; have HA := hid (RBox.mk' HR.out hc1); have HB := hid hb1; have HP1 := hid (HP.out.below hb1); have c0 := HA.out.c0; have c1 := HA.out.c1; have c2 := HA.out.c2; have c3 := HA.out.c3; have c4 := HA.out.c4; have c5 := HA.out.c5; have c6 := HA.out.c6; have c7 := HA.out.c7; have c40 := HA.out.c40; have c41 := HA.out.c41; rw [hm] at c2; clear hc1 hb1)
    | (go_at_call 62; refine (rID_any _ _ (by have := HR.out.i; omega)).mono ?_; rintro e w' ⟨rfl, hw'⟩; rw [H0.out]; have hw2 := hw'.symm; subst hw2)
    | (go_at_call 63; refine (from_any _ _ _ _).mono ?_; rintro e w' ⟨rfl, hw'⟩; (first | rw [H1.out]); have hw2 := hw'.symm; subst hw2))
  go_ret
  exact ⟨rfl, HB.out⟩
set_option maxRecDepth 100000 in
set_option maxHeartbeats 1000000 in
theorem rcheck_m4 (r : Rv) (hr : r.ok) (ps : Ps) (w : World) (hp : PL w r.pv ps) (h0 : okId (lst r.id) = true) (h1 : inR r.time 0 1048576 = true) (hm : r.mark = true) (m0 : (r.size == 0) = true) (m1 : (r.etag.toList.isEmpty) = true) (m2 : (r.k == 0) = true) (m3 : (r.m == 0) = true) (m4 : (r.data.toList.isEmpty) = false) : Calls Tryz.prog 46 #[.agg r.cs] w fun e w' => e = .returned (i64 2) ∧ Below w.heap.size w w' := by
  have HR := hid hr
  have HP := hid hp
  have z0 : r.size = 0 := by simpa using m0
  clear m0
  have z2 : r.k = 0 := by simpa using m2
  clear m2
  have z3 : r.m = 0 := by simpa using m3
  clear m3
  have H0 := hid h0
  have H1 := hid h1
  clear hr hp h0 h1
  go_enter Tryz.func46, Tryz.ntmps46
  go_wp2_with (first
    | ((with_reducible refine wpList_boxR rfl _ rfl r.cs ?_ ?_); exact rfl; intro w1 g1 hc1 hb1 hg1; have HA := hid (RBox.mk' HR.out hc1); have HB := hid hb1; have HP1 := hid (HP.out.below hb1); have c0 := HA.out.c0; have c1 := HA.out.c1; have c2 := HA.out.c2; have c3 := HA.out.c3; have c4 := HA.out.c4; have c5 := HA.out.c5; have c6 := HA.out.c6; have c7 := HA.out.c7; have c40 := HA.out.c40; have c41 := HA.out.c41; rw [hm] at c2; clear hc1 hb1)
    | (go_at_call 62; refine (rID_any _ _ (by have := HR.out.i; omega)).mono ?_; rintro e w' ⟨rfl, hw'⟩; rw [H0.out]; have hw2 := hw'.symm; subst hw2)
    | (go_at_call 63; refine (from_any _ _ _ _).mono ?_; rintro e w' ⟨rfl, hw'⟩; (first | rw [H1.out]); have hw2 := hw'.symm; subst hw2))
  go_ret
  exact ⟨rfl, HB.out⟩
set_option maxRecDepth 100000 in
set_option maxHeartbeats 1000000 in
theorem rcheck_m5 (r : Rv) (hr : r.ok) (ps : Ps) (w : World) (hp : PL w r.pv ps) (h0 : okId (lst r.id) = true) (h1 : inR r.time 0 1048576 = true) (hm : r.mark = true) (m0 : (r.size == 0) = true) (m1 : (r.etag.toList.isEmpty) = true) (m2 : (r.k == 0) = true) (m3 : (r.m == 0) = true) (m4 : (r.data.toList.isEmpty) = true) (m5 : decide (r.sum = zeroD) = false) : Calls Tryz.prog 46 #[.agg r.cs] w fun e w' => e = .returned (i64 2) ∧ Below w.heap.size w w' := by
  have HR := hid hr
  have HP := hid hp
  have z0 : r.size = 0 := by simpa using m0
  clear m0
  have z2 : r.k = 0 := by simpa using m2
  clear m2
  have z3 : r.m = 0 := by simpa using m3
  clear m3
  have hsum := neqSum hr.sl zeroD_len
  rw [m5] at hsum
  clear m5
  have H0 := hid h0
  have H1 := hid h1
  clear hr hp h0 h1
  go_enter Tryz.func46, Tryz.ntmps46
  go_wp2_with (first
    | ((with_reducible refine wpList_boxR rfl _ rfl r.cs ?_ ?_); exact rfl; intro w1 g1 hc1 hb1 hg1; have HA := hid (RBox.mk' HR.out hc1); have HB := hid hb1; have HP1 := hid (HP.out.below hb1); have c0 := HA.out.c0; have c1 := HA.out.c1; have c2 := HA.out.c2; have c3 := HA.out.c3; have c4 := HA.out.c4; have c5 := HA.out.c5; have c6 := HA.out.c6; have c7 := HA.out.c7; have c40 := HA.out.c40; have c41 := HA.out.c41; rw [hm] at c2; clear hc1 hb1)
    | (go_at_call 62; refine (rID_any _ _ (by have := HR.out.i; omega)).mono ?_; rintro e w' ⟨rfl, hw'⟩; rw [H0.out]; have hw2 := hw'.symm; subst hw2)
    | (go_at_call 63; refine (from_any _ _ _ _).mono ?_; rintro e w' ⟨rfl, hw'⟩; (first | rw [H1.out]); have hw2 := hw'.symm; subst hw2)
    | ((with_reducible refine wpList_load_at 66 _ rfl ?_ g1 8 ?_ (sumC r.sum) (.array 32 5) ?_ underD rfl ?_ ?_); exact rfl; exact rfl; exact HA.out.cs; (rw [sumC_size, HR.out.sl]; exact sizeD))
    | ((with_reducible refine wpList_build_want 66 _ rfl ?_ (sumC zeroD) ?_ ?_); exact rfl; exact built_zero))
  go_ret
  exact ⟨rfl, HB.out⟩
set_option maxRecDepth 100000 in
set_option maxHeartbeats 1000000 in
theorem rcheck_m6 (r : Rv) (hr : r.ok) (ps : Ps) (w : World) (hp : PL w r.pv ps) (h0 : okId (lst r.id) = true) (h1 : inR r.time 0 1048576 = true) (hm : r.mark = true) (m0 : (r.size == 0) = true) (m1 : (r.etag.toList.isEmpty) = true) (m2 : (r.k == 0) = true) (m3 : (r.m == 0) = true) (m4 : (r.data.toList.isEmpty) = true) (m5 : decide (r.sum = zeroD) = true) (m6 : ps.isEmpty = false) : Calls Tryz.prog 46 #[.agg r.cs] w fun e w' => e = .returned (i64 2) ∧ Below w.heap.size w w' := by
  have HR := hid hr
  have HP := hid hp
  have z0 : r.size = 0 := by simpa using m0
  clear m0
  have z2 : r.k = 0 := by simpa using m2
  clear m2
  have z3 : r.m = 0 := by simpa using m3
  clear m3
  have hsum := neqSum hr.sl zeroD_len
  rw [m5] at hsum
  clear m5
  obtain ⟨pp, pc, hpv, hp1, hp2, hp3⟩ := hp
  have hp : PL w r.pv ps := ⟨pp, pc, hpv, hp1, hp2, hp3⟩
  have hlen : ¬ ps = [] := by cases ps <;> simp_all; try omega
  clear m6 hp1 hp2 hp3
  have H0 := hid h0
  have H1 := hid h1
  clear hr hp h0 h1
  go_enter Tryz.func46, Tryz.ntmps46
  go_wp2_with (first
    | ((with_reducible refine wpList_boxR rfl _ rfl r.cs ?_ ?_); exact rfl; intro w1 g1 hc1 hb1 hg1; have HA := hid (RBox.mk' HR.out hc1); have HB := hid hb1; have HP1 := hid (HP.out.below hb1); have c0 := HA.out.c0; have c1 := HA.out.c1; have c2 := HA.out.c2; have c3 := HA.out.c3; have c4 := HA.out.c4; have c5 := HA.out.c5; have c6 := HA.out.c6; have c7 := HA.out.c7; have c40 := HA.out.c40; have c41 := HA.out.c41; rw [hm] at c2; rw [hpv] at c40; clear hc1 hb1)
    | (go_at_call 62; refine (rID_any _ _ (by have := HR.out.i; omega)).mono ?_; rintro e w' ⟨rfl, hw'⟩; rw [H0.out]; have hw2 := hw'.symm; subst hw2)
    | (go_at_call 63; refine (from_any _ _ _ _).mono ?_; rintro e w' ⟨rfl, hw'⟩; (first | rw [H1.out]); have hw2 := hw'.symm; subst hw2)
    | ((with_reducible refine wpList_load_at 66 _ rfl ?_ g1 8 ?_ (sumC r.sum) (.array 32 5) ?_ underD rfl ?_ ?_); exact rfl; exact rfl; exact HA.out.cs; (rw [sumC_size, HR.out.sl]; exact sizeD))
    | ((with_reducible refine wpList_build_want 66 _ rfl ?_ (sumC zeroD) ?_ ?_); exact rfl; exact built_zero))
  go_ret
  exact ⟨rfl, HB.out⟩
set_option maxRecDepth 100000 in
set_option maxHeartbeats 1000000 in
theorem rcheck_m7 (r : Rv) (hr : r.ok) (ps : Ps) (w : World) (hp : PL w r.pv ps) (h0 : okId (lst r.id) = true) (h1 : inR r.time 0 1048576 = true) (hm : r.mark = true) (m0 : (r.size == 0) = true) (m1 : (r.etag.toList.isEmpty) = true) (m2 : (r.k == 0) = true) (m3 : (r.m == 0) = true) (m4 : (r.data.toList.isEmpty) = true) (m5 : decide (r.sum = zeroD) = true) (m6 : ps.isEmpty = true) (m7 : (r.up.toList.isEmpty) = false) : Calls Tryz.prog 46 #[.agg r.cs] w fun e w' => e = .returned (i64 2) ∧ Below w.heap.size w w' := by
  have HR := hid hr
  have HP := hid hp
  have z0 : r.size = 0 := by simpa using m0
  clear m0
  have z2 : r.k = 0 := by simpa using m2
  clear m2
  have z3 : r.m = 0 := by simpa using m3
  clear m3
  have hsum := neqSum hr.sl zeroD_len
  rw [m5] at hsum
  clear m5
  obtain ⟨pp, pc, hpv, hp1, hp2, hp3⟩ := hp
  have hp : PL w r.pv ps := ⟨pp, pc, hpv, hp1, hp2, hp3⟩
  have hlen : (ps.length : Int) = 0 := by cases ps <;> simp_all; try omega
  clear m6 hp1 hp2 hp3
  have H0 := hid h0
  have H1 := hid h1
  clear hr hp h0 h1
  go_enter Tryz.func46, Tryz.ntmps46
  go_wp2_with (first
    | ((with_reducible refine wpList_boxR rfl _ rfl r.cs ?_ ?_); exact rfl; intro w1 g1 hc1 hb1 hg1; have HA := hid (RBox.mk' HR.out hc1); have HB := hid hb1; have HP1 := hid (HP.out.below hb1); have c0 := HA.out.c0; have c1 := HA.out.c1; have c2 := HA.out.c2; have c3 := HA.out.c3; have c4 := HA.out.c4; have c5 := HA.out.c5; have c6 := HA.out.c6; have c7 := HA.out.c7; have c40 := HA.out.c40; have c41 := HA.out.c41; rw [hm] at c2; rw [hpv] at c40; clear hc1 hb1)
    | (go_at_call 62; refine (rID_any _ _ (by have := HR.out.i; omega)).mono ?_; rintro e w' ⟨rfl, hw'⟩; rw [H0.out]; have hw2 := hw'.symm; subst hw2)
    | (go_at_call 63; refine (from_any _ _ _ _).mono ?_; rintro e w' ⟨rfl, hw'⟩; (first | rw [H1.out]); have hw2 := hw'.symm; subst hw2)
    | ((with_reducible refine wpList_load_at 66 _ rfl ?_ g1 8 ?_ (sumC r.sum) (.array 32 5) ?_ underD rfl ?_ ?_); exact rfl; exact rfl; exact HA.out.cs; (rw [sumC_size, HR.out.sl]; exact sizeD))
    | ((with_reducible refine wpList_build_want 66 _ rfl ?_ (sumC zeroD) ?_ ?_); exact rfl; exact built_zero))
  go_ret
  exact ⟨rfl, HB.out⟩
set_option maxRecDepth 100000 in
set_option maxHeartbeats 1000000 in
theorem rcheck_m8 (r : Rv) (hr : r.ok) (ps : Ps) (w : World) (hp : PL w r.pv ps) (h0 : okId (lst r.id) = true) (h1 : inR r.time 0 1048576 = true) (hm : r.mark = true) (m0 : (r.size == 0) = true) (m1 : (r.etag.toList.isEmpty) = true) (m2 : (r.k == 0) = true) (m3 : (r.m == 0) = true) (m4 : (r.data.toList.isEmpty) = true) (m5 : decide (r.sum = zeroD) = true) (m6 : ps.isEmpty = true) (m7 : (r.up.toList.isEmpty) = true) : Calls Tryz.prog 46 #[.agg r.cs] w fun e w' => e = .returned (i64 0) ∧ Below w.heap.size w w' := by
  have HR := hid hr
  have HP := hid hp
  have z0 : r.size = 0 := by simpa using m0
  clear m0
  have z2 : r.k = 0 := by simpa using m2
  clear m2
  have z3 : r.m = 0 := by simpa using m3
  clear m3
  have hsum := neqSum hr.sl zeroD_len
  rw [m5] at hsum
  clear m5
  obtain ⟨pp, pc, hpv, hp1, hp2, hp3⟩ := hp
  have hp : PL w r.pv ps := ⟨pp, pc, hpv, hp1, hp2, hp3⟩
  have hlen : (ps.length : Int) = 0 := by cases ps <;> simp_all; try omega
  clear m6 hp1 hp2 hp3
  have H0 := hid h0
  have H1 := hid h1
  clear hr hp h0 h1
  go_enter Tryz.func46, Tryz.ntmps46
  go_wp2_with (first
    | ((with_reducible refine wpList_boxR rfl _ rfl r.cs ?_ ?_); exact rfl; intro w1 g1 hc1 hb1 hg1; have HA := hid (RBox.mk' HR.out hc1); have HB := hid hb1; have HP1 := hid (HP.out.below hb1); have c0 := HA.out.c0; have c1 := HA.out.c1; have c2 := HA.out.c2; have c3 := HA.out.c3; have c4 := HA.out.c4; have c5 := HA.out.c5; have c6 := HA.out.c6; have c7 := HA.out.c7; have c40 := HA.out.c40; have c41 := HA.out.c41; rw [hm] at c2; rw [hpv] at c40; clear hc1 hb1)
    | (go_at_call 62; refine (rID_any _ _ (by have := HR.out.i; omega)).mono ?_; rintro e w' ⟨rfl, hw'⟩; rw [H0.out]; have hw2 := hw'.symm; subst hw2)
    | (go_at_call 63; refine (from_any _ _ _ _).mono ?_; rintro e w' ⟨rfl, hw'⟩; (first | rw [H1.out]); have hw2 := hw'.symm; subst hw2)
    | ((with_reducible refine wpList_load_at 66 _ rfl ?_ g1 8 ?_ (sumC r.sum) (.array 32 5) ?_ underD rfl ?_ ?_); exact rfl; exact rfl; exact HA.out.cs; (rw [sumC_size, HR.out.sl]; exact sizeD))
    | ((with_reducible refine wpList_build_want 66 _ rfl ?_ (sumC zeroD) ?_ ?_); exact rfl; exact built_zero))
  go_ret
  exact ⟨rfl, HB.out⟩
end Go.Proofs.YtelkijiphhoacaaGreatDoor

/- The document's Check, some cases. (Written by tools/gen_Vu.py.) -/
namespace Go.Proofs.YtelkijiphhoacaaGreatDoor
open Go Go.RowKit

set_option maxRecDepth 100000 in
set_option maxHeartbeats 1000000 in
theorem rcheck_v0 (r : Rv) (hr : r.ok) (ps : Ps) (w : World) (hp : PL w r.pv ps) (h0 : okId (lst r.id) = true) (h1 : inR r.time 0 1048576 = true) (hm : r.mark = false) (h10 : inR r.size 0 65536 = false) : Calls Tryz.prog 46 #[.agg r.cs] w fun e w' => e = .returned (i64 2) ∧ Below w.heap.size w w' := by
  have HR := hid hr
  have HP := hid hp
  have H0 := hid h0
  have H1 := hid h1
  have H10 := hid h10
  clear hr hp h0 h1 h10
  go_enter Tryz.func46, Tryz.ntmps46
  go_wp2_with (first
    | ((with_reducible refine wpList_boxR rfl _ rfl r.cs ?_ ?_); exact rfl; intro w1 g1 hc1 hb1 hg1; have HA := hid (RBox.mk' HR.out hc1); have HB := hid hb1; have HP1 := hid (HP.out.below hb1); have c0 := HA.out.c0; have c1 := HA.out.c1; have c2 := HA.out.c2; have c3 := HA.out.c3; have c4 := HA.out.c4; have c5 := HA.out.c5; have c6 := HA.out.c6; have c7 := HA.out.c7; have c40 := HA.out.c40; have c41 := HA.out.c41; rw [hm] at c2; clear hc1 hb1)
    | (go_at_call 63; refine (from_any _ _ _ _).mono ?_; rintro e w' ⟨rfl, hw'⟩; (first | rw [H1.out] | rw [H10.out]); have hw2 := hw'.symm; subst hw2)
    | (go_at_call 62; refine (rID_any _ _ (by have := HR.out.i; omega)).mono ?_; rintro e w' ⟨rfl, hw'⟩; rw [H0.out]; have hw2 := hw'.symm; subst hw2))
  go_ret
  exact ⟨rfl, HB.out⟩
set_option maxRecDepth 100000 in
set_option maxHeartbeats 1000000 in
theorem rcheck_v1 (r : Rv) (hr : r.ok) (ps : Ps) (w : World) (hp : PL w r.pv ps) (h0 : okId (lst r.id) = true) (h1 : inR r.time 0 1048576 = true) (hm : r.mark = false) (h10 : inR r.size 0 65536 = true) (h11 : okTag (lst r.etag) = false) : Calls Tryz.prog 46 #[.agg r.cs] w fun e w' => e = .returned (i64 2) ∧ Below w.heap.size w w' := by
  have HR := hid hr
  have HP := hid hp
  have H0 := hid h0
  have H1 := hid h1
  have H10 := hid h10
  have H11 := hid h11
  clear hr hp h0 h1 h10 h11
  go_enter Tryz.func46, Tryz.ntmps46
  go_wp2_with (first
    | ((with_reducible refine wpList_boxR rfl _ rfl r.cs ?_ ?_); exact rfl; intro w1 g1 hc1 hb1 hg1; have HA := hid (RBox.mk' HR.out hc1); have HB := hid hb1; have HP1 := hid (HP.out.below hb1); have c0 := HA.out.c0; have c1 := HA.out.c1; have c2 := HA.out.c2; have c3 := HA.out.c3; have c4 := HA.out.c4; have c5 := HA.out.c5; have c6 := HA.out.c6; have c7 := HA.out.c7; have c40 := HA.out.c40; have c41 := HA.out.c41; rw [hm] at c2; clear hc1 hb1)
    | (go_at_call 63; refine (from_any _ _ _ _).mono ?_; rintro e w' ⟨rfl, hw'⟩; (first | rw [H1.out] | rw [H10.out]); have hw2 := hw'.symm; subst hw2)
    | (go_at_call 62; refine (rID_any _ _ (by have := HR.out.i; omega)).mono ?_; rintro e w' ⟨rfl, hw'⟩; rw [H0.out]; have hw2 := hw'.symm; subst hw2)
    | (go_at_call 64; refine (rTag_any _ _ (by have := HR.out.e; omega)).mono ?_; rintro e w' ⟨rfl, hw'⟩; rw [H11.out]; have hw2 := hw'.symm; subst hw2))
  go_ret
  exact ⟨rfl, HB.out⟩
set_option maxRecDepth 100000 in
set_option maxHeartbeats 1000000 in
theorem rcheck_v2 (r : Rv) (hr : r.ok) (ps : Ps) (w : World) (hp : PL w r.pv ps) (h0 : okId (lst r.id) = true) (h1 : inR r.time 0 1048576 = true) (hm : r.mark = false) (h10 : inR r.size 0 65536 = true) (h11 : okTag (lst r.etag) = true) (h12 : inR r.k 1 15 = false) : Calls Tryz.prog 46 #[.agg r.cs] w fun e w' => e = .returned (i64 2) ∧ Below w.heap.size w w' := by
  have HR := hid hr
  have HP := hid hp
  have H0 := hid h0
  have H1 := hid h1
  have H10 := hid h10
  have H11 := hid h11
  have H12 := hid h12
  clear hr hp h0 h1 h10 h11 h12
  go_enter Tryz.func46, Tryz.ntmps46
  go_wp2_with (first
    | ((with_reducible refine wpList_boxR rfl _ rfl r.cs ?_ ?_); exact rfl; intro w1 g1 hc1 hb1 hg1; have HA := hid (RBox.mk' HR.out hc1); have HB := hid hb1; have HP1 := hid (HP.out.below hb1); have c0 := HA.out.c0; have c1 := HA.out.c1; have c2 := HA.out.c2; have c3 := HA.out.c3; have c4 := HA.out.c4; have c5 := HA.out.c5; have c6 := HA.out.c6; have c7 := HA.out.c7; have c40 := HA.out.c40; have c41 := HA.out.c41; rw [hm] at c2; clear hc1 hb1)
    | (go_at_call 63; refine (from_any _ _ _ _).mono ?_; rintro e w' ⟨rfl, hw'⟩; (first | rw [H1.out] | rw [H10.out] | rw [H12.out]); have hw2 := hw'.symm; subst hw2)
    | (go_at_call 62; refine (rID_any _ _ (by have := HR.out.i; omega)).mono ?_; rintro e w' ⟨rfl, hw'⟩; rw [H0.out]; have hw2 := hw'.symm; subst hw2)
    | (go_at_call 64; refine (rTag_any _ _ (by have := HR.out.e; omega)).mono ?_; rintro e w' ⟨rfl, hw'⟩; rw [H11.out]; have hw2 := hw'.symm; subst hw2))
  go_ret
  exact ⟨rfl, HB.out⟩
set_option maxRecDepth 100000 in
set_option maxHeartbeats 1000000 in
theorem rcheck_v3 (r : Rv) (hr : r.ok) (ps : Ps) (w : World) (hp : PL w r.pv ps) (h0 : okId (lst r.id) = true) (h1 : inR r.time 0 1048576 = true) (hm : r.mark = false) (h10 : inR r.size 0 65536 = true) (h11 : okTag (lst r.etag) = true) (h12 : inR r.k 1 15 = true) (h13 : inR r.m 1 15 = false) : Calls Tryz.prog 46 #[.agg r.cs] w fun e w' => e = .returned (i64 2) ∧ Below w.heap.size w w' := by
  have HR := hid hr
  have HP := hid hp
  have H0 := hid h0
  have H1 := hid h1
  have H10 := hid h10
  have H11 := hid h11
  have H12 := hid h12
  have H13 := hid h13
  clear hr hp h0 h1 h10 h11 h12 h13
  go_enter Tryz.func46, Tryz.ntmps46
  go_wp2_with (first
    | ((with_reducible refine wpList_boxR rfl _ rfl r.cs ?_ ?_); exact rfl; intro w1 g1 hc1 hb1 hg1; have HA := hid (RBox.mk' HR.out hc1); have HB := hid hb1; have HP1 := hid (HP.out.below hb1); have c0 := HA.out.c0; have c1 := HA.out.c1; have c2 := HA.out.c2; have c3 := HA.out.c3; have c4 := HA.out.c4; have c5 := HA.out.c5; have c6 := HA.out.c6; have c7 := HA.out.c7; have c40 := HA.out.c40; have c41 := HA.out.c41; rw [hm] at c2; clear hc1 hb1)
    | (go_at_call 63; refine (from_any _ _ _ _).mono ?_; rintro e w' ⟨rfl, hw'⟩; (first | rw [H1.out] | rw [H10.out] | rw [H12.out] | rw [H13.out]); have hw2 := hw'.symm; subst hw2)
    | (go_at_call 62; refine (rID_any _ _ (by have := HR.out.i; omega)).mono ?_; rintro e w' ⟨rfl, hw'⟩; rw [H0.out]; have hw2 := hw'.symm; subst hw2)
    | (go_at_call 64; refine (rTag_any _ _ (by have := HR.out.e; omega)).mono ?_; rintro e w' ⟨rfl, hw'⟩; rw [H11.out]; have hw2 := hw'.symm; subst hw2))
  go_ret
  exact ⟨rfl, HB.out⟩
set_option maxRecDepth 100000 in
set_option maxHeartbeats 1000000 in
theorem rcheck_v4 (r : Rv) (hr : r.ok) (ps : Ps) (w : World) (hp : PL w r.pv ps) (h0 : okId (lst r.id) = true) (h1 : inR r.time 0 1048576 = true) (hm : r.mark = false) (h10 : inR r.size 0 65536 = true) (h11 : okTag (lst r.etag) = true) (h12 : inR r.k 1 15 = true) (h13 : inR r.m 1 15 = true) (v4 : ¬ r.k + r.m ≤ 16) : Calls Tryz.prog 46 #[.agg r.cs] w fun e w' => e = .returned (i64 2) ∧ Below w.heap.size w w' := by
  have HR := hid hr
  have HP := hid hp
  have hkm :  16 < r.k + r.m := by omega
  have hk1 := (inR_iff.1 h12).1
  have hk2 := (inR_iff.1 h12).2
  have hk3 := (inR_iff.1 h13).1
  have hk4 := (inR_iff.1 h13).2
  have H0 := hid h0
  have H1 := hid h1
  have H10 := hid h10
  have H11 := hid h11
  have H12 := hid h12
  have H13 := hid h13
  clear hr hp h0 h1 h10 h11 h12 h13
  go_enter Tryz.func46, Tryz.ntmps46
  go_wp2_with (first
    | ((with_reducible refine wpList_boxR rfl _ rfl r.cs ?_ ?_); exact rfl; intro w1 g1 hc1 hb1 hg1; have HA := hid (RBox.mk' HR.out hc1); have HB := hid hb1; have HP1 := hid (HP.out.below hb1); have c0 := HA.out.c0; have c1 := HA.out.c1; have c2 := HA.out.c2; have c3 := HA.out.c3; have c4 := HA.out.c4; have c5 := HA.out.c5; have c6 := HA.out.c6; have c7 := HA.out.c7; have c40 := HA.out.c40; have c41 := HA.out.c41; rw [hm] at c2; clear hc1 hb1)
    | (go_at_call 63; refine (from_any _ _ _ _).mono ?_; rintro e w' ⟨rfl, hw'⟩; (first | rw [H1.out] | rw [H10.out] | rw [H12.out] | rw [H13.out]); have hw2 := hw'.symm; subst hw2)
    | (go_at_call 62; refine (rID_any _ _ (by have := HR.out.i; omega)).mono ?_; rintro e w' ⟨rfl, hw'⟩; rw [H0.out]; have hw2 := hw'.symm; subst hw2)
    | (go_at_call 64; refine (rTag_any _ _ (by have := HR.out.e; omega)).mono ?_; rintro e w' ⟨rfl, hw'⟩; rw [H11.out]; have hw2 := hw'.symm; subst hw2))
  go_ret
  exact ⟨rfl, HB.out⟩
set_option maxRecDepth 100000 in
set_option maxHeartbeats 1000000 in
theorem rcheck_v5 (r : Rv) (hr : r.ok) (ps : Ps) (w : World) (hp : PL w r.pv ps) (h0 : okId (lst r.id) = true) (h1 : inR r.time 0 1048576 = true) (hm : r.mark = false) (h10 : inR r.size 0 65536 = true) (h11 : okTag (lst r.etag) = true) (h12 : inR r.k 1 15 = true) (h13 : inR r.m 1 15 = true) (v4 : r.k + r.m ≤ 16) (h15 : okData (lst r.data) = false) : Calls Tryz.prog 46 #[.agg r.cs] w fun e w' => e = .returned (i64 2) ∧ Below w.heap.size w w' := by
  have HR := hid hr
  have HP := hid hp
  have hkm : ¬ 16 < r.k + r.m := by omega
  have hk1 := (inR_iff.1 h12).1
  have hk2 := (inR_iff.1 h12).2
  have hk3 := (inR_iff.1 h13).1
  have hk4 := (inR_iff.1 h13).2
  have H0 := hid h0
  have H1 := hid h1
  have H10 := hid h10
  have H11 := hid h11
  have H12 := hid h12
  have H13 := hid h13
  have H15 := hid h15
  clear hr hp h0 h1 h10 h11 h12 h13 h15
  go_enter Tryz.func46, Tryz.ntmps46
  go_wp2_with (first
    | ((with_reducible refine wpList_boxR rfl _ rfl r.cs ?_ ?_); exact rfl; intro w1 g1 hc1 hb1 hg1; have HA := hid (RBox.mk' HR.out hc1); have HB := hid hb1; have HP1 := hid (HP.out.below hb1); have c0 := HA.out.c0; have c1 := HA.out.c1; have c2 := HA.out.c2; have c3 := HA.out.c3; have c4 := HA.out.c4; have c5 := HA.out.c5; have c6 := HA.out.c6; have c7 := HA.out.c7; have c40 := HA.out.c40; have c41 := HA.out.c41; rw [hm] at c2; clear hc1 hb1)
    | (go_at_call 63; refine (from_any _ _ _ _).mono ?_; rintro e w' ⟨rfl, hw'⟩; (first | rw [H1.out] | rw [H10.out] | rw [H12.out] | rw [H13.out]); have hw2 := hw'.symm; subst hw2)
    | (go_at_call 62; refine (rID_any _ _ (by have := HR.out.i; omega)).mono ?_; rintro e w' ⟨rfl, hw'⟩; rw [H0.out]; have hw2 := hw'.symm; subst hw2)
    | (go_at_call 64; refine (rTag_any _ _ (by have := HR.out.e; omega)).mono ?_; rintro e w' ⟨rfl, hw'⟩; rw [H11.out]; have hw2 := hw'.symm; subst hw2)
    | (go_at_call 65; refine (rData_any _ _ (by have := HR.out.d; omega)).mono ?_; rintro e w' ⟨rfl, hw'⟩; rw [H15.out]; have hw2 := hw'.symm; subst hw2))
  go_ret
  exact ⟨rfl, HB.out⟩
set_option maxRecDepth 100000 in
set_option maxHeartbeats 1000000 in
theorem rcheck_v6 (r : Rv) (hr : r.ok) (ps : Ps) (w : World) (hp : PL w r.pv ps) (h0 : okId (lst r.id) = true) (h1 : inR r.time 0 1048576 = true) (hm : r.mark = false) (h10 : inR r.size 0 65536 = true) (h11 : okTag (lst r.etag) = true) (h12 : inR r.k 1 15 = true) (h13 : inR r.m 1 15 = true) (v4 : r.k + r.m ≤ 16) (h15 : okData (lst r.data) = true) (h16 : okParts ps r.size = false) : Calls Tryz.prog 46 #[.agg r.cs] w fun e w' => e = .returned (i64 2) ∧ Below w.heap.size w w' := by
  have HR := hid hr
  have HP := hid hp
  have hkm : ¬ 16 < r.k + r.m := by omega
  have hk1 := (inR_iff.1 h12).1
  have hk2 := (inR_iff.1 h12).2
  have hk3 := (inR_iff.1 h13).1
  have hk4 := (inR_iff.1 h13).2
  have H0 := hid h0
  have H1 := hid h1
  have H10 := hid h10
  have H11 := hid h11
  have H12 := hid h12
  have H13 := hid h13
  have H15 := hid h15
  have H16 := hid h16
  clear hr hp h0 h1 h10 h11 h12 h13 h15 h16
  go_enter Tryz.func46, Tryz.ntmps46
  go_wp2_with (first
    | ((with_reducible refine wpList_boxR rfl _ rfl r.cs ?_ ?_); exact rfl; intro w1 g1 hc1 hb1 hg1; have HA := hid (RBox.mk' HR.out hc1); have HB := hid hb1; have HP1 := hid (HP.out.below hb1); have c0 := HA.out.c0; have c1 := HA.out.c1; have c2 := HA.out.c2; have c3 := HA.out.c3; have c4 := HA.out.c4; have c5 := HA.out.c5; have c6 := HA.out.c6; have c7 := HA.out.c7; have c40 := HA.out.c40; have c41 := HA.out.c41; rw [hm] at c2; clear hc1 hb1)
    | (go_at_call 63; refine (from_any _ _ _ _).mono ?_; rintro e w' ⟨rfl, hw'⟩; (first | rw [H1.out] | rw [H10.out] | rw [H12.out] | rw [H13.out]); have hw2 := hw'.symm; subst hw2)
    | (go_at_call 62; refine (rID_any _ _ (by have := HR.out.i; omega)).mono ?_; rintro e w' ⟨rfl, hw'⟩; rw [H0.out]; have hw2 := hw'.symm; subst hw2)
    | (go_at_call 64; refine (rTag_any _ _ (by have := HR.out.e; omega)).mono ?_; rintro e w' ⟨rfl, hw'⟩; rw [H11.out]; have hw2 := hw'.symm; subst hw2)
    | (go_at_call 65; refine (rData_any _ _ (by have := HR.out.d; omega)).mono ?_; rintro e w' ⟨rfl, hw'⟩; rw [H15.out]; have hw2 := hw'.symm; subst hw2)
    | (go_at_call 66; refine (rParts_any _ ps _ _ HP1.out).mono ?_; rintro e w' ⟨rfl, hw'⟩; rw [H16.out]; have hw2 := hw'.symm; subst hw2))
  go_ret
  exact ⟨rfl, HB.out⟩
set_option maxRecDepth 100000 in
set_option maxHeartbeats 1000000 in
theorem rcheck_v7a (r : Rv) (hr : r.ok) (ps : Ps) (w : World) (hp : PL w r.pv ps) (h0 : okId (lst r.id) = true) (h1 : inR r.time 0 1048576 = true) (hm : r.mark = false) (h10 : inR r.size 0 65536 = true) (h11 : okTag (lst r.etag) = true) (h12 : inR r.k 1 15 = true) (h13 : inR r.m 1 15 = true) (v4 : r.k + r.m ≤ 16) (h15 : okData (lst r.data) = true) (h16 : okParts ps r.size = true) (u0 : r.up.toList.isEmpty = true) : Calls Tryz.prog 46 #[.agg r.cs] w fun e w' => e = .returned (i64 0) ∧ Below w.heap.size w w' := by
  have HR := hid hr
  have HP := hid hp
  have hkm : ¬ 16 < r.k + r.m := by omega
  have hk1 := (inR_iff.1 h12).1
  have hk2 := (inR_iff.1 h12).2
  have hk3 := (inR_iff.1 h13).1
  have hk4 := (inR_iff.1 h13).2
  have H0 := hid h0
  have H1 := hid h1
  have H10 := hid h10
  have H11 := hid h11
  have H12 := hid h12
  have H13 := hid h13
  have H15 := hid h15
  have H16 := hid h16
  clear hr hp h0 h1 h10 h11 h12 h13 h15 h16
  go_enter Tryz.func46, Tryz.ntmps46
  go_wp2_with (first
    | ((with_reducible refine wpList_boxR rfl _ rfl r.cs ?_ ?_); exact rfl; intro w1 g1 hc1 hb1 hg1; have HA := hid (RBox.mk' HR.out hc1); have HB := hid hb1; have HP1 := hid (HP.out.below hb1); have c0 := HA.out.c0; have c1 := HA.out.c1; have c2 := HA.out.c2; have c3 := HA.out.c3; have c4 := HA.out.c4; have c5 := HA.out.c5; have c6 := HA.out.c6; have c7 := HA.out.c7; have c40 := HA.out.c40; have c41 := HA.out.c41; rw [hm] at c2; clear hc1 hb1)
    | (go_at_call 63; refine (from_any _ _ _ _).mono ?_; rintro e w' ⟨rfl, hw'⟩; (first | rw [H1.out] | rw [H10.out] | rw [H12.out] | rw [H13.out]); have hw2 := hw'.symm; subst hw2)
    | (go_at_call 62; refine (rID_any _ _ (by have := HR.out.i; omega)).mono ?_; rintro e w' ⟨rfl, hw'⟩; rw [H0.out]; have hw2 := hw'.symm; subst hw2)
    | (go_at_call 64; refine (rTag_any _ _ (by have := HR.out.e; omega)).mono ?_; rintro e w' ⟨rfl, hw'⟩; rw [H11.out]; have hw2 := hw'.symm; subst hw2)
    | (go_at_call 65; refine (rData_any _ _ (by have := HR.out.d; omega)).mono ?_; rintro e w' ⟨rfl, hw'⟩; rw [H15.out]; have hw2 := hw'.symm; subst hw2)
    | (go_at_call 66; refine (rParts_any _ ps _ _ HP1.out).mono ?_; rintro e w' ⟨rfl, hw'⟩; rw [H16.out]; have hw2 := hw'.symm; subst hw2))
  go_ret
  exact ⟨rfl, HB.out⟩
set_option maxRecDepth 100000 in
set_option maxHeartbeats 1000000 in
theorem rcheck_v7b (r : Rv) (hr : r.ok) (ps : Ps) (w : World) (hp : PL w r.pv ps) (h0 : okId (lst r.id) = true) (h1 : inR r.time 0 1048576 = true) (hm : r.mark = false) (h10 : inR r.size 0 65536 = true) (h11 : okTag (lst r.etag) = true) (h12 : inR r.k 1 15 = true) (h13 : inR r.m 1 15 = true) (v4 : r.k + r.m ≤ 16) (h15 : okData (lst r.data) = true) (h16 : okParts ps r.size = true) (u0 : r.up.toList.isEmpty = false) (h20 : okId (lst r.up) = true) : Calls Tryz.prog 46 #[.agg r.cs] w fun e w' => e = .returned (i64 0) ∧ Below w.heap.size w w' := by
  have HR := hid hr
  have HP := hid hp
  have hkm : ¬ 16 < r.k + r.m := by omega
  have hk1 := (inR_iff.1 h12).1
  have hk2 := (inR_iff.1 h12).2
  have hk3 := (inR_iff.1 h13).1
  have hk4 := (inR_iff.1 h13).2
  have H0 := hid h0
  have H1 := hid h1
  have H10 := hid h10
  have H11 := hid h11
  have H12 := hid h12
  have H13 := hid h13
  have H15 := hid h15
  have H16 := hid h16
  have H20 := hid h20
  clear hr hp h0 h1 h10 h11 h12 h13 h15 h16 h20
  go_enter Tryz.func46, Tryz.ntmps46
  go_wp2_with (first
    | ((with_reducible refine wpList_boxR rfl _ rfl r.cs ?_ ?_); exact rfl; intro w1 g1 hc1 hb1 hg1; have HA := hid (RBox.mk' HR.out hc1); have HB := hid hb1; have HP1 := hid (HP.out.below hb1); have c0 := HA.out.c0; have c1 := HA.out.c1; have c2 := HA.out.c2; have c3 := HA.out.c3; have c4 := HA.out.c4; have c5 := HA.out.c5; have c6 := HA.out.c6; have c7 := HA.out.c7; have c40 := HA.out.c40; have c41 := HA.out.c41; rw [hm] at c2; clear hc1 hb1)
    | (go_at_call 63; refine (from_any _ _ _ _).mono ?_; rintro e w' ⟨rfl, hw'⟩; (first | rw [H1.out] | rw [H10.out] | rw [H12.out] | rw [H13.out]); have hw2 := hw'.symm; subst hw2)
    | (go_at_call 62; (first | ((with_reducible refine (rIDb H0.out _ (by have := HR.out.i; omega)).mono ?_)) | ((with_reducible refine (rIDb H20.out _ (by have := HR.out.u; omega)).mono ?_))); rintro e w' ⟨rfl, hw'⟩; have hw2 := hw'.symm; subst hw2)
    | (go_at_call 64; refine (rTag_any _ _ (by have := HR.out.e; omega)).mono ?_; rintro e w' ⟨rfl, hw'⟩; rw [H11.out]; have hw2 := hw'.symm; subst hw2)
    | (go_at_call 65; refine (rData_any _ _ (by have := HR.out.d; omega)).mono ?_; rintro e w' ⟨rfl, hw'⟩; rw [H15.out]; have hw2 := hw'.symm; subst hw2)
    | (go_at_call 66; refine (rParts_any _ ps _ _ HP1.out).mono ?_; rintro e w' ⟨rfl, hw'⟩; rw [H16.out]; have hw2 := hw'.symm; subst hw2))
  go_ret
  exact ⟨rfl, HB.out⟩
set_option maxRecDepth 100000 in
set_option maxHeartbeats 1000000 in
theorem rcheck_v7c (r : Rv) (hr : r.ok) (ps : Ps) (w : World) (hp : PL w r.pv ps) (h0 : okId (lst r.id) = true) (h1 : inR r.time 0 1048576 = true) (hm : r.mark = false) (h10 : inR r.size 0 65536 = true) (h11 : okTag (lst r.etag) = true) (h12 : inR r.k 1 15 = true) (h13 : inR r.m 1 15 = true) (v4 : r.k + r.m ≤ 16) (h15 : okData (lst r.data) = true) (h16 : okParts ps r.size = true) (u0 : r.up.toList.isEmpty = false) (h20 : okId (lst r.up) = false) : Calls Tryz.prog 46 #[.agg r.cs] w fun e w' => e = .returned (i64 2) ∧ Below w.heap.size w w' := by
  have HR := hid hr
  have HP := hid hp
  have hkm : ¬ 16 < r.k + r.m := by omega
  have hk1 := (inR_iff.1 h12).1
  have hk2 := (inR_iff.1 h12).2
  have hk3 := (inR_iff.1 h13).1
  have hk4 := (inR_iff.1 h13).2
  have H0 := hid h0
  have H1 := hid h1
  have H10 := hid h10
  have H11 := hid h11
  have H12 := hid h12
  have H13 := hid h13
  have H15 := hid h15
  have H16 := hid h16
  have H20 := hid h20
  clear hr hp h0 h1 h10 h11 h12 h13 h15 h16 h20
  go_enter Tryz.func46, Tryz.ntmps46
  go_wp2_with (first
    | ((with_reducible refine wpList_boxR rfl _ rfl r.cs ?_ ?_); exact rfl; intro w1 g1 hc1 hb1 hg1; have HA := hid (RBox.mk' HR.out hc1); have HB := hid hb1; have HP1 := hid (HP.out.below hb1); have c0 := HA.out.c0; have c1 := HA.out.c1; have c2 := HA.out.c2; have c3 := HA.out.c3; have c4 := HA.out.c4; have c5 := HA.out.c5; have c6 := HA.out.c6; have c7 := HA.out.c7; have c40 := HA.out.c40; have c41 := HA.out.c41; rw [hm] at c2; clear hc1 hb1)
    | (go_at_call 63; refine (from_any _ _ _ _).mono ?_; rintro e w' ⟨rfl, hw'⟩; (first | rw [H1.out] | rw [H10.out] | rw [H12.out] | rw [H13.out]); have hw2 := hw'.symm; subst hw2)
    | (go_at_call 62; (first | ((with_reducible refine (rIDb H0.out _ (by have := HR.out.i; omega)).mono ?_)) | ((with_reducible refine (rIDb H20.out _ (by have := HR.out.u; omega)).mono ?_))); rintro e w' ⟨rfl, hw'⟩; have hw2 := hw'.symm; subst hw2)
    | (go_at_call 64; refine (rTag_any _ _ (by have := HR.out.e; omega)).mono ?_; rintro e w' ⟨rfl, hw'⟩; rw [H11.out]; have hw2 := hw'.symm; subst hw2)
    | (go_at_call 65; refine (rData_any _ _ (by have := HR.out.d; omega)).mono ?_; rintro e w' ⟨rfl, hw'⟩; rw [H15.out]; have hw2 := hw'.symm; subst hw2)
    | (go_at_call 66; refine (rParts_any _ ps _ _ HP1.out).mono ?_; rintro e w' ⟨rfl, hw'⟩; rw [H16.out]; have hw2 := hw'.symm; subst hw2))
  go_ret
  exact ⟨rfl, HB.out⟩
end Go.Proofs.YtelkijiphhoacaaGreatDoor

/- The document's Check, some cases. (Written by tools/gen_Vu.py.) -/
namespace Go.Proofs.YtelkijiphhoacaaGreatDoor
open Go Go.RowKit

theorem rcheck_any (r : Rv) (hr : r.ok) (ps : Ps) (w : World) (hp : PL w r.pv ps) : Calls Tryz.prog 46 #[.agg r.cs] w fun e w' => e = .returned (i64 (if okRc (r.rc ps) = true then 0 else 2)) ∧ Below w.heap.size w w' := by
  cases h0 : okId (lst r.id)
  · have e : okRc (r.rc ps) = false := by unfold okRc Rv.rc; simp [h0]
    rw [e]; exact rcheck_0 r hr ps w hp h0
  cases h1 : inR r.time 0 1048576
  · have e : okRc (r.rc ps) = false := by unfold okRc Rv.rc; simp [h1]
    rw [e]; exact rcheck_1 r hr ps w hp h0 h1
  cases hm : r.mark
  · have e : okRc (r.rc ps) = (inR r.size 0 65536 && (okTag (lst r.etag) && (inR r.k 1 15 && (inR r.m 1 15 && (decide (r.k + r.m ≤ 16) && (okData (lst r.data) && (okParts ps r.size && (r.up.toList.isEmpty || okId (lst r.up))))))))) := by
      unfold okRc Rv.rc
      simp only [hm, h0, h1, Bool.false_eq_true, if_false, hr.sl, decide_true, Bool.and_true, isEmpty_lst, Bool.true_and, Bool.and_assoc]
    rw [e]
    cases h10 : inR r.size 0 65536
    · exact rcheck_v0 r hr ps w hp h0 h1 hm h10
    cases h11 : okTag (lst r.etag)
    · exact rcheck_v1 r hr ps w hp h0 h1 hm h10 h11
    cases h12 : inR r.k 1 15
    · exact rcheck_v2 r hr ps w hp h0 h1 hm h10 h11 h12
    cases h13 : inR r.m 1 15
    · exact rcheck_v3 r hr ps w hp h0 h1 hm h10 h11 h12 h13
    by_cases v4 : r.k + r.m ≤ 16
    rotate_left
    · rw [decide_eq_false v4]; exact rcheck_v4 r hr ps w hp h0 h1 hm h10 h11 h12 h13 v4
    rw [decide_eq_true v4]
    cases h15 : okData (lst r.data)
    · exact rcheck_v5 r hr ps w hp h0 h1 hm h10 h11 h12 h13 v4 h15
    cases h16 : okParts ps r.size
    · exact rcheck_v6 r hr ps w hp h0 h1 hm h10 h11 h12 h13 v4 h15 h16
    cases u0 : r.up.toList.isEmpty
    · cases h20 : okId (lst r.up)
      · exact rcheck_v7c r hr ps w hp h0 h1 hm h10 h11 h12 h13 v4 h15 h16 u0 h20
      · exact rcheck_v7b r hr ps w hp h0 h1 hm h10 h11 h12 h13 v4 h15 h16 u0 h20
    · exact rcheck_v7a r hr ps w hp h0 h1 hm h10 h11 h12 h13 v4 h15 h16 u0
  · have e : okRc (r.rc ps) = ((r.size == 0) && (r.etag.toList.isEmpty && ((r.k == 0) && ((r.m == 0) && (r.data.toList.isEmpty && (decide (r.sum = zeroD) && (ps.isEmpty && r.up.toList.isEmpty))))))) := by
      unfold okRc Rv.rc
      have hb : ∀ x : Int, decide (x = 0) = (x == 0) := fun x => by rw [Bool.eq_iff_iff]; simp
      simp only [hm, h0, h1, if_true, isEmpty_lst, Bool.true_and, Bool.and_assoc, hb]
    rw [e]
    cases m0 : (r.size == 0)
    · exact rcheck_m0 r hr ps w hp h0 h1 hm m0
    cases m1 : r.etag.toList.isEmpty
    · exact rcheck_m1 r hr ps w hp h0 h1 hm m0 m1
    cases m2 : (r.k == 0)
    · exact rcheck_m2 r hr ps w hp h0 h1 hm m0 m1 m2
    cases m3 : (r.m == 0)
    · exact rcheck_m3 r hr ps w hp h0 h1 hm m0 m1 m2 m3
    cases m4 : r.data.toList.isEmpty
    · exact rcheck_m4 r hr ps w hp h0 h1 hm m0 m1 m2 m3 m4
    cases m5 : decide (r.sum = zeroD)
    · exact rcheck_m5 r hr ps w hp h0 h1 hm m0 m1 m2 m3 m4 m5
    cases m6 : ps.isEmpty
    · exact rcheck_m6 r hr ps w hp h0 h1 hm m0 m1 m2 m3 m4 m5 m6
    cases m7 : r.up.toList.isEmpty
    · exact rcheck_m7 r hr ps w hp h0 h1 hm m0 m1 m2 m3 m4 m5 m6 m7
    exact rcheck_m8 r hr ps w hp h0 h1 hm m0 m1 m2 m3 m4 m5 m6 m7
end Go.Proofs.YtelkijiphhoacaaGreatDoor

/- Contract of the document's Read. -/
namespace Go.Proofs.YtelkijiphhoacaaGreatDoor
open Go Go.RowKit

theorem rdR_ch (b : List Nat) : rdR b = (rdT b).bind fun q => (rdU q.2).bind fun q2 => match q2.2 with
  | [] => none
  | c :: r => if 1 < c then none else (if c = 1 then some (⟨q.1, q2.1, true, 0, [], 0, 0, [], zeroD, [], []⟩, r) else rdD q.1 q2.1 r).bind fun p => if okRc p.1 then some p else none := by
  unfold rdR rdAny
  cases h1 : rdT b with
  | none => rfl
  | some q =>
  simp only [Option.bind_eq_bind, Option.bind_some]
  cases h2 : rdU q.2 with
  | none => rfl
  | some q2 =>
  obtain ⟨t, L⟩ := q2
  cases L with
  | nil => rfl
  | cons c r =>
    simp only [Option.bind_some]
    by_cases h : 1 < c
    · rw [if_pos h, if_pos h]
    · rw [if_neg h, if_neg h]
      by_cases h1 : c = 1
      · rw [if_pos h1]; rfl
      · rw [if_neg h1]
        cases rdD q.1 t r <;> rfl
theorem built_none : Tryz.prog.built 74 [] = some zR.cs := by kernel_rfl
section
variable {w : World} {g : Nat} {r : Rv} (h : RBox w g r) (ho : r.ok)
include h ho
theorem RBox.set0 (s : ByteArray) (hs : s.size ≤ 100000) : RBox (w.setCell ⟨g, 0, none⟩ (.string s)) g { r with id := s } := RBox.mk' ⟨ho.sl, ho.s8, hs, ho.e, ho.d, ho.u⟩ (by rw [← set_lo r { r with id := s } 0 (.string s) (by omega) ⟨rfl, rfl, rfl⟩ rfl]; exact h.at_.set 0 _)
theorem RBox.set1 (n : Int) : RBox (w.setCell ⟨g, 1, none⟩ (i64 n)) g { r with time := n } := RBox.mk' ⟨ho.sl, ho.s8, ho.i, ho.e, ho.d, ho.u⟩ (by rw [← set_lo r { r with time := n } 1 (i64 n) (by omega) ⟨rfl, rfl, rfl⟩ rfl]; exact h.at_.set 1 _)
end
section
variable {w0 w : World} {g : Nat} {r : Rv} (h : DB w0 g r w)
include h
theorem DB.set0 (t : ByteArray) (ht : t.size ≤ 65536) : DB w0 g { r with id := t } (w.setCell ⟨g, 0, none⟩ (.string t)) := h.turn (h.rb.set0 h.ok t (by omega)) ⟨h.ok.sl, h.ok.s8, by show t.size ≤ _; omega, h.ok.e, h.ok.d, h.ok.u⟩ (Only.set w _ _ rfl)
theorem DB.set1 (n : Int) : DB w0 g { r with time := n } (w.setCell ⟨g, 1, none⟩ (i64 n)) := h.turn (h.rb.set1 h.ok n) ⟨h.ok.sl, h.ok.s8, h.ok.i, h.ok.e, h.ok.d, h.ok.u⟩ (Only.set w _ _ rfl)
theorem DB.set2 (b : Bool) : DB w0 g { r with mark := b } (w.setCell ⟨g, 2, none⟩ (.bool b)) := h.turn (h.rb.set2 h.ok b) ⟨h.ok.sl, h.ok.s8, h.ok.i, h.ok.e, h.ok.d, h.ok.u⟩ (Only.set w _ _ rfl)
end
/-- The result's block behind what was there, and the record's behind that. -/
structure RM (w : World) (g2 g5 : Nat) (w2 : World) : Prop where
  below : Below w.heap.size w w2
  z : RBox w2 g2 zR
  h2 : w.heap.size ≤ g2
  h5 : g2 < g5
  lt : g5 < w2.heap.size
theorem RM.end {w w2 W : World} {g2 g5 : Nat} (h : RM w g2 g5 w2) (ho : Only (fun b => b = g5) w2 W) : RBox W g2 zR ∧ Below w.heap.size w W :=
  ⟨h.z.only zR_ok ho (by have := h.h5; omega), below_tr h.below (ho.below h.below.size (fun i e => by have := h.h2; have := h.h5; omega))⟩
end Go.Proofs.YtelkijiphhoacaaGreatDoor
