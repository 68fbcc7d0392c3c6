/- Texts laid into one, cut to what is needed: the remark ahead of each part says what is proved there. -/
import Derived.Test.YtdohmokhfajjpaaGreatDoorPar
/- Contract of Same of package record, some cases. (Written by tools/gen_Vn.py.) -/
namespace Go.Proofs.YtdohmokhfajjpaaGreatDoor
open Go Go.RowKit

set_option maxRecDepth 100000 in
set_option maxHeartbeats 1000000 in
theorem same_6 (r s : Rv) (hr : r.ok) (hs : s.ok) (ps qs : Ps) (w : World) (hp : PL w r.pv ps) (hq : PL w s.pv qs) (h0 : (r.id.toList == s.id.toList) = true) (h1 : (r.time == s.time) = true) (h2 : (r.mark == s.mark) = true) (h3 : (r.size == s.size) = true) (h4 : (r.etag.toList == s.etag.toList) = true) (h5 : (r.k == s.k) = true) (h6 : (r.m == s.m) = false) : Calls Tryz.prog 51 #[.agg r.cs, .agg s.cs] w fun e w' => e = .returned (.bool (decide (r.rc ps = s.rc qs))) ∧ Below w.heap.size w w' := by
 have HD : Hid (decide (r.rc ps = s.rc qs) = false) := rc_ne (by rintro ⟨k0, k1, k2, k3, k4, k5, k6, k7, k8, k9, k10⟩; rw [k6] at h6; cases h6)
 have HR := hid hr
 have HS := hid hs
 have HP := hid hp
 have HQ := hid hq
 clear hr hs hp hq
 generalize decide (r.rc ps = s.rc qs) = dd at *
 go_enter Tryz.func51, Tryz.ntmps51
 go_wp2_with (first
  | ((with_reducible refine wpList_boxR rfl _ rfl s.cs ?_ ?_); exact rfl; intro w2 g2 hc2 hb2 hg2; have HA := hid (HA0.out.below HR.out hb2); have HC := hid (RBox.mk' HS.out hc2); have a0 := HA.out.c0; have b0 := HC.out.c0; have a1 := HA.out.c1; have b1 := HC.out.c1; have a2 := HA.out.c2; have b2 := HC.out.c2; have a3 := HA.out.c3; have b3 := HC.out.c3; have a4 := HA.out.c4; have b4 := HC.out.c4; have a5 := HA.out.c5; have b5 := HC.out.c5; have a6 := HA.out.c6; have b6 := HC.out.c6; have HB := hid (below_on HB0.out hb2); have HP2 := hid ((HP.out.below HB0.out).below hb2); have HQ2 := hid ((HQ.out.below HB0.out).below hb2); clear hc2 hb2 HA0)
  | ((with_reducible refine wpList_boxR rfl _ rfl r.cs ?_ ?_); exact rfl; intro w1 g1 hc1 hb1 hg1; have HA0 := hid (RBox.mk' HR.out hc1); have HB0 := hid hb1; clear hc1 hb1))
 go_ret
 exact ⟨by rw [HD.out]; rfl, HB.out⟩
set_option maxRecDepth 100000 in
set_option maxHeartbeats 1000000 in
theorem same_7 (r s : Rv) (hr : r.ok) (hs : s.ok) (ps qs : Ps) (w : World) (hp : PL w r.pv ps) (hq : PL w s.pv qs) (h0 : (r.id.toList == s.id.toList) = true) (h1 : (r.time == s.time) = true) (h2 : (r.mark == s.mark) = true) (h3 : (r.size == s.size) = true) (h4 : (r.etag.toList == s.etag.toList) = true) (h5 : (r.k == s.k) = true) (h6 : (r.m == s.m) = true) (h7 : (r.data.toList == s.data.toList) = false) : Calls Tryz.prog 51 #[.agg r.cs, .agg s.cs] w fun e w' => e = .returned (.bool (decide (r.rc ps = s.rc qs))) ∧ Below w.heap.size w w' := by
 have HD : Hid (decide (r.rc ps = s.rc qs) = false) := rc_ne (by rintro ⟨k0, k1, k2, k3, k4, k5, k6, k7, k8, k9, k10⟩; rw [k7] at h7; cases h7)
 have HR := hid hr
 have HS := hid hs
 have HP := hid hp
 have HQ := hid hq
 clear hr hs hp hq
 generalize decide (r.rc ps = s.rc qs) = dd at *
 go_enter Tryz.func51, Tryz.ntmps51
 go_wp2_with (first
  | ((with_reducible refine wpList_boxR rfl _ rfl s.cs ?_ ?_); exact rfl; intro w2 g2 hc2 hb2 hg2; have HA := hid (HA0.out.below HR.out hb2); have HC := hid (RBox.mk' HS.out hc2); have a0 := HA.out.c0; have b0 := HC.out.c0; have a1 := HA.out.c1; have b1 := HC.out.c1; have a2 := HA.out.c2; have b2 := HC.out.c2; have a3 := HA.out.c3; have b3 := HC.out.c3; have a4 := HA.out.c4; have b4 := HC.out.c4; have a5 := HA.out.c5; have b5 := HC.out.c5; have a6 := HA.out.c6; have b6 := HC.out.c6; have a7 := HA.out.c7; have b7 := HC.out.c7; have HB := hid (below_on HB0.out hb2); have HP2 := hid ((HP.out.below HB0.out).below hb2); have HQ2 := hid ((HQ.out.below HB0.out).below hb2); clear hc2 hb2 HA0)
  | ((with_reducible refine wpList_boxR rfl _ rfl r.cs ?_ ?_); exact rfl; intro w1 g1 hc1 hb1 hg1; have HA0 := hid (RBox.mk' HR.out hc1); have HB0 := hid hb1; clear hc1 hb1))
 go_ret
 exact ⟨by rw [HD.out]; rfl, HB.out⟩
set_option maxRecDepth 100000 in
set_option maxHeartbeats 1000000 in
theorem same_8 (r s : Rv) (hr : r.ok) (hs : s.ok) (ps qs : Ps) (w : World) (hp : PL w r.pv ps) (hq : PL w s.pv qs) (h0 : (r.id.toList == s.id.toList) = true) (h1 : (r.time == s.time) = true) (h2 : (r.mark == s.mark) = true) (h3 : (r.size == s.size) = true) (h4 : (r.etag.toList == s.etag.toList) = true) (h5 : (r.k == s.k) = true) (h6 : (r.m == s.m) = true) (h7 : (r.data.toList == s.data.toList) = true) (h8 : decide (r.sum = s.sum) = false) : Calls Tryz.prog 51 #[.agg r.cs, .agg s.cs] w fun e w' => e = .returned (.bool (decide (r.rc ps = s.rc qs))) ∧ Below w.heap.size w w' := by
 have HD : Hid (decide (r.rc ps = s.rc qs) = false) := rc_ne (by rintro ⟨k0, k1, k2, k3, k4, k5, k6, k7, k8, k9, k10⟩; rw [k8] at h8; cases h8)
 have HR := hid hr
 have HS := hid hs
 have HP := hid hp
 have HQ := hid hq
 have hsum := eqSum hr.sl hs.sl
 rw [h8] at hsum
 clear h8
 clear hr hs hp hq
 generalize decide (r.rc ps = s.rc qs) = dd at *
 go_enter Tryz.func51, Tryz.ntmps51
 go_wp2_with (first
  | ((with_reducible refine wpList_boxR rfl _ rfl s.cs ?_ ?_); exact rfl; intro w2 g2 hc2 hb2 hg2; have HA := hid (HA0.out.below HR.out hb2); have HC := hid (RBox.mk' HS.out hc2); have a0 := HA.out.c0; have b0 := HC.out.c0; have a1 := HA.out.c1; have b1 := HC.out.c1; have a2 := HA.out.c2; have b2 := HC.out.c2; have a3 := HA.out.c3; have b3 := HC.out.c3; have a4 := HA.out.c4; have b4 := HC.out.c4; have a5 := HA.out.c5; have b5 := HC.out.c5; have a6 := HA.out.c6; have b6 := HC.out.c6; have a7 := HA.out.c7; have b7 := HC.out.c7; have HB := hid (below_on HB0.out hb2); have HP2 := hid ((HP.out.below HB0.out).below hb2); have HQ2 := hid ((HQ.out.below HB0.out).below hb2); clear hc2 hb2 HA0)
  | ((with_reducible refine wpList_boxR rfl _ rfl r.cs ?_ ?_); exact rfl; intro w1 g1 hc1 hb1 hg1; have HA0 := hid (RBox.mk' HR.out hc1); have HB0 := hid hb1; clear hc1 hb1)
  | ((with_reducible refine wpList_load_at 41 _ rfl ?_ g1 8 ?_ (sumC r.sum) (.array 32 5) ?_ underD rfl ?_ ?_); exact rfl; exact rfl; exact HA.out.cs; (rw [sumC_size, HR.out.sl]; exact sizeD))
  | ((with_reducible refine wpList_load_at 41 _ rfl ?_ g2 8 ?_ (sumC s.sum) (.array 32 5) ?_ underD rfl ?_ ?_); exact rfl; exact rfl; exact HC.out.cs; (rw [sumC_size, HS.out.sl]; exact sizeD)))
 go_ret
 exact ⟨by rw [HD.out]; rfl, HB.out⟩
end Go.Proofs.YtdohmokhfajjpaaGreatDoor
