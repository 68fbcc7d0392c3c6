/- Texts laid into one, cut to what is needed: the remark ahead of each part says what is proved there. -/
import Derived.Test.YtdohmokhfajjpaaGreatDoorPar
/- Contract of Same of package record, some cases. (Written by tools/gen_Vn.py.) -/
namespace Go.Proofs.YtdohmokhfajjpaaGreatDoor
open Go Go.RowKit

set_option maxRecDepth 100000 in
set_option maxHeartbeats 1000000 in
theorem same_0 (r s : Rv) (hr : r.ok) (hs : s.ok) (ps qs : Ps) (w : World) (hp : PL w r.pv ps) (hq : PL w s.pv qs)  (h0 : (r.id.toList == s.id.toList) = false) : Calls Tryz.prog 51 #[.agg r.cs, .agg s.cs] w fun e w' => e = .returned (.bool (decide (r.rc ps = s.rc qs))) ∧ Below w.heap.size w w' := by
 have HD : Hid (decide (r.rc ps = s.rc qs) = false) := rc_ne (by rintro ⟨k0, k1, k2, k3, k4, k5, k6, k7, k8, k9, k10⟩; rw [k0] at h0; cases h0)
 have HR := hid hr
 have HS := hid hs
 have HP := hid hp
 have HQ := hid hq
 clear hr hs hp hq
 generalize decide (r.rc ps = s.rc qs) = dd at *
 go_enter Tryz.func51, Tryz.ntmps51
 go_wp2_with (first
  | ((with_reducible refine wpList_boxR rfl _ rfl s.cs ?_ ?_); exact rfl; intro w2 g2 hc2 hb2 hg2; have HA := hid (HA0.out.below HR.out hb2); have HC := hid (RBox.mk' HS.out hc2); have a0 := HA.out.c0; have b0 := HC.out.c0; have HB := hid (below_on HB0.out hb2); have HP2 := hid ((HP.out.below HB0.out).below hb2); have HQ2 := hid ((HQ.out.below HB0.out).below hb2); clear hc2 hb2 HA0)
  | ((with_reducible refine wpList_boxR rfl _ rfl r.cs ?_ ?_); exact rfl; intro w1 g1 hc1 hb1 hg1; have HA0 := hid (RBox.mk' HR.out hc1); have HB0 := hid hb1; clear hc1 hb1))
 go_ret
 exact ⟨by rw [HD.out]; rfl, HB.out⟩
set_option maxRecDepth 100000 in
set_option maxHeartbeats 1000000 in
theorem same_1 (r s : Rv) (hr : r.ok) (hs : s.ok) (ps qs : Ps) (w : World) (hp : PL w r.pv ps) (hq : PL w s.pv qs) (h0 : (r.id.toList == s.id.toList) = true) (h1 : (r.time == s.time) = false) : Calls Tryz.prog 51 #[.agg r.cs, .agg s.cs] w fun e w' => e = .returned (.bool (decide (r.rc ps = s.rc qs))) ∧ Below w.heap.size w w' := by
 have HD : Hid (decide (r.rc ps = s.rc qs) = false) := rc_ne (by rintro ⟨k0, k1, k2, k3, k4, k5, k6, k7, k8, k9, k10⟩; rw [k1] at h1; cases h1)
 have HR := hid hr
 have HS := hid hs
 have HP := hid hp
 have HQ := hid hq
 clear hr hs hp hq
 generalize decide (r.rc ps = s.rc qs) = dd at *
 go_enter Tryz.func51, Tryz.ntmps51
 go_wp2_with (first
  | ((with_reducible refine wpList_boxR rfl _ rfl s.cs ?_ ?_); exact rfl; intro w2 g2 hc2 hb2 hg2; have HA := hid (HA0.out.below HR.out hb2); have HC := hid (RBox.mk' HS.out hc2); have a0 := HA.out.c0; have b0 := HC.out.c0; have a1 := HA.out.c1; have b1 := HC.out.c1; have HB := hid (below_on HB0.out hb2); have HP2 := hid ((HP.out.below HB0.out).below hb2); have HQ2 := hid ((HQ.out.below HB0.out).below hb2); clear hc2 hb2 HA0)
  | ((with_reducible refine wpList_boxR rfl _ rfl r.cs ?_ ?_); exact rfl; intro w1 g1 hc1 hb1 hg1; have HA0 := hid (RBox.mk' HR.out hc1); have HB0 := hid hb1; clear hc1 hb1))
 go_ret
 exact ⟨by rw [HD.out]; rfl, HB.out⟩
set_option maxRecDepth 100000 in
set_option maxHeartbeats 1000000 in
theorem same_2 (r s : Rv) (hr : r.ok) (hs : s.ok) (ps qs : Ps) (w : World) (hp : PL w r.pv ps) (hq : PL w s.pv qs) (h0 : (r.id.toList == s.id.toList) = true) (h1 : (r.time == s.time) = true) (h2 : (r.mark == s.mark) = false) : Calls Tryz.prog 51 #[.agg r.cs, .agg s.cs] w fun e w' => e = .returned (.bool (decide (r.rc ps = s.rc qs))) ∧ Below w.heap.size w w' := by
 have HD : Hid (decide (r.rc ps = s.rc qs) = false) := rc_ne (by rintro ⟨k0, k1, k2, k3, k4, k5, k6, k7, k8, k9, k10⟩; rw [k2] at h2; cases h2)
 have HR := hid hr
 have HS := hid hs
 have HP := hid hp
 have HQ := hid hq
 clear hr hs hp hq
 generalize decide (r.rc ps = s.rc qs) = dd at *
 go_enter Tryz.func51, Tryz.ntmps51
 go_wp2_with (first
  | ((with_reducible refine wpList_boxR rfl _ rfl s.cs ?_ ?_); exact rfl; intro w2 g2 hc2 hb2 hg2; have HA := hid (HA0.out.below HR.out hb2); have HC := hid (RBox.mk' HS.out hc2); have a0 := HA.out.c0; have b0 := HC.out.c0; have a1 := HA.out.c1; have b1 := HC.out.c1; have a2 := HA.out.c2; have b2 := HC.out.c2; have HB := hid (below_on HB0.out hb2); have HP2 := hid ((HP.out.below HB0.out).below hb2); have HQ2 := hid ((HQ.out.below HB0.out).below hb2); clear hc2 hb2 HA0)
  | ((with_reducible refine wpList_boxR rfl _ rfl r.cs ?_ ?_); exact rfl; intro w1 g1 hc1 hb1 hg1; have HA0 := hid (RBox.mk' HR.out hc1); have HB0 := hid hb1; clear hc1 hb1))
 go_ret
 exact ⟨by rw [HD.out]; rfl, HB.out⟩
set_option maxRecDepth 100000 in
set_option maxHeartbeats 1000000 in
theorem same_3 (r s : Rv) (hr : r.ok) (hs : s.ok) (ps qs : Ps) (w : World) (hp : PL w r.pv ps) (hq : PL w s.pv qs) (h0 : (r.id.toList == s.id.toList) = true) (h1 : (r.time == s.time) = true) (h2 : (r.mark == s.mark) = true) (h3 : (r.size == s.size) = false) : Calls Tryz.prog 51 #[.agg r.cs, .agg s.cs] w fun e w' => e = .returned (.bool (decide (r.rc ps = s.rc qs))) ∧ Below w.heap.size w w' := by
 have HD : Hid (decide (r.rc ps = s.rc qs) = false) := rc_ne (by rintro ⟨k0, k1, k2, k3, k4, k5, k6, k7, k8, k9, k10⟩; rw [k3] at h3; cases h3)
 have HR := hid hr
 have HS := hid hs
 have HP := hid hp
 have HQ := hid hq
 clear hr hs hp hq
 generalize decide (r.rc ps = s.rc qs) = dd at *
 go_enter Tryz.func51, Tryz.ntmps51
 go_wp2_with (first
  | ((with_reducible refine wpList_boxR rfl _ rfl s.cs ?_ ?_); exact rfl; intro w2 g2 hc2 hb2 hg2; have HA := hid (HA0.out.below HR.out hb2); have HC := hid (RBox.mk' HS.out hc2); have a0 := HA.out.c0; have b0 := HC.out.c0; have a1 := HA.out.c1; have b1 := HC.out.c1; have a2 := HA.out.c2; have b2 := HC.out.c2; have a3 := HA.out.c3; have b3 := HC.out.c3; have HB := hid (below_on HB0.out hb2); have HP2 := hid ((HP.out.below HB0.out).below hb2); have HQ2 := hid ((HQ.out.below HB0.out).below hb2); clear hc2 hb2 HA0)
  | ((with_reducible refine wpList_boxR rfl _ rfl r.cs ?_ ?_); exact rfl; intro w1 g1 hc1 hb1 hg1; have HA0 := hid (RBox.mk' HR.out hc1); have HB0 := hid hb1; clear hc1 hb1))
 go_ret
 exact ⟨by rw [HD.out]; rfl, HB.out⟩
set_option maxRecDepth 100000 in
set_option maxHeartbeats 1000000 in
theorem same_4 (r s : Rv) (hr : r.ok) (hs : s.ok) (ps qs : Ps) (w : World) (hp : PL w r.pv ps) (hq : PL w s.pv qs) (h0 : (r.id.toList == s.id.toList) = true) (h1 : (r.time == s.time) = true) (h2 : (r.mark == s.mark) = true) (h3 : (r.size == s.size) = true) (h4 : (r.etag.toList == s.etag.toList) = false) : Calls Tryz.prog 51 #[.agg r.cs, .agg s.cs] w fun e w' => e = .returned (.bool (decide (r.rc ps = s.rc qs))) ∧ Below w.heap.size w w' := by
 have HD : Hid (decide (r.rc ps = s.rc qs) = false) := rc_ne (by rintro ⟨k0, k1, k2, k3, k4, k5, k6, k7, k8, k9, k10⟩; rw [k4] at h4; cases h4)
 have HR := hid hr
 have HS := hid hs
 have HP := hid hp
 have HQ := hid hq
 clear hr hs hp hq
 generalize decide (r.rc ps = s.rc qs) = dd at *
 go_enter Tryz.func51, Tryz.ntmps51
 go_wp2_with (first
  | ((with_reducible refine wpList_boxR rfl _ rfl s.cs ?_ ?_); exact rfl; intro w2 g2 hc2 hb2 hg2; have HA := hid (HA0.out.below HR.out hb2); have HC := hid (RBox.mk' HS.out hc2); have a0 := HA.out.c0; have b0 := HC.out.c0; have a1 := HA.out.c1; have b1 := HC.out.c1; have a2 := HA.out.c2; have b2 := HC.out.c2; have a3 := HA.out.c3; have b3 := HC.out.c3; have a4 := HA.out.c4; have b4 := HC.out.c4; have HB := hid (below_on HB0.out hb2); have HP2 := hid ((HP.out.below HB0.out).below hb2); have HQ2 := hid ((HQ.out.below HB0.out).below hb2); clear hc2 hb2 HA0)
  | ((with_reducible refine wpList_boxR rfl _ rfl r.cs ?_ ?_); exact rfl; intro w1 g1 hc1 hb1 hg1; have HA0 := hid (RBox.mk' HR.out hc1); have HB0 := hid hb1; clear hc1 hb1))
 go_ret
 exact ⟨by rw [HD.out]; rfl, HB.out⟩
set_option maxRecDepth 100000 in
set_option maxHeartbeats 1000000 in
theorem same_5 (r s : Rv) (hr : r.ok) (hs : s.ok) (ps qs : Ps) (w : World) (hp : PL w r.pv ps) (hq : PL w s.pv qs) (h0 : (r.id.toList == s.id.toList) = true) (h1 : (r.time == s.time) = true) (h2 : (r.mark == s.mark) = true) (h3 : (r.size == s.size) = true) (h4 : (r.etag.toList == s.etag.toList) = true) (h5 : (r.k == s.k) = false) : Calls Tryz.prog 51 #[.agg r.cs, .agg s.cs] w fun e w' => e = .returned (.bool (decide (r.rc ps = s.rc qs))) ∧ Below w.heap.size w w' := by
 have HD : Hid (decide (r.rc ps = s.rc qs) = false) := rc_ne (by rintro ⟨k0, k1, k2, k3, k4, k5, k6, k7, k8, k9, k10⟩; rw [k5] at h5; cases h5)
 have HR := hid hr
 have HS := hid hs
 have HP := hid hp
 have HQ := hid hq
 clear hr hs hp hq
 generalize decide (r.rc ps = s.rc qs) = dd at *
 go_enter Tryz.func51, Tryz.ntmps51
 go_wp2_with (first
  | ((with_reducible refine wpList_boxR rfl _ rfl s.cs ?_ ?_); exact rfl; intro w2 g2 hc2 hb2 hg2; have HA := hid (HA0.out.below HR.out hb2); have HC := hid (RBox.mk' HS.out hc2); have a0 := HA.out.c0; have b0 := HC.out.c0; have a1 := HA.out.c1; have b1 := HC.out.c1; have a2 := HA.out.c2; have b2 := HC.out.c2; have a3 := HA.out.c3; have b3 := HC.out.c3; have a4 := HA.out.c4; have b4 := HC.out.c4; have a5 := HA.out.c5; have b5 := HC.out.c5; have HB := hid (below_on HB0.out hb2); have HP2 := hid ((HP.out.below HB0.out).below hb2); have HQ2 := hid ((HQ.out.below HB0.out).below hb2); clear hc2 hb2 HA0)
  | ((with_reducible refine wpList_boxR rfl _ rfl r.cs ?_ ?_); exact rfl; intro w1 g1 hc1 hb1 hg1; have HA0 := hid (RBox.mk' HR.out hc1); have HB0 := hid hb1; clear hc1 hb1))
 go_ret
 exact ⟨by rw [HD.out]; rfl, HB.out⟩
end Go.Proofs.YtdohmokhfajjpaaGreatDoor
