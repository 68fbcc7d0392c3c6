/- Texts laid into one: the remark ahead of each part says what is proved there. -/
import Derived.Test.YtelkijiphhoacaaDoorLaa
import Derived.Test.YtelkijiphhoacaaDoorLab
import Derived.Test.YtelkijiphhoacaaDoorLac
import Derived.Test.YtelkijiphhoacaaDoorLad
import Derived.Test.YtelkijiphhoacaaDoorLae
import Derived.Test.YtelkijiphhoacaaDoorLaf
import Derived.Test.YtelkijiphhoacaaDoorLag
import Derived.Test.YtelkijiphhoacaaDoorLah
import Derived.Test.YtelkijiphhoacaaDoorLai
import Derived.Test.YtelkijiphhoacaaDoorLaj
import Derived.Test.YtelkijiphhoacaaDoorLak
import Derived.Test.YtelkijiphhoacaaDoorLal
import Derived.Test.YtelkijiphhoacaaDoorLam
import Derived.Test.YtelkijiphhoacaaDoorLan
import Derived.Test.YtelkijiphhoacaaDoorLao
import Derived.Test.YtelkijiphhoacaaDoorLap
import Derived.Test.YtelkijiphhoacaaDoorLaq
import Derived.Test.YtelkijiphhoacaaDoorLar
import Derived.Test.YtelkijiphhoacaaDoorLas
import Derived.Test.YtelkijiphhoacaaDoorLat
import Derived.Test.YtelkijiphhoacaaDoorLau
import Derived.Test.YtelkijiphhoacaaDoorLav
import Derived.Test.YtelkijiphhoacaaDoorRaa
import Derived.Test.YtelkijiphhoacaaDoorRab
/- The record's Check and the journal's, of texts and lists of any size (after the texts of the same contracts for bounded ones). -/
namespace Go.Proofs.YtelkijiphhoacaaDoor.G
open Go Go.RowKit
open Go Go.RowKit

theorem rc_eq (r s : Rv) (ps qs : Ps) : r.rc ps = s.rc qs ↔ (r.id.toList == s.id.toList) = true ∧ (r.time == s.time) = true ∧ (r.mark == s.mark) = true ∧ (r.size == s.size) = true ∧ (r.etag.toList == s.etag.toList) = true ∧ (r.k == s.k) = true ∧ (r.m == s.m) = true ∧ (r.data.toList == s.data.toList) = true ∧ decide (r.sum = s.sum) = true ∧ decide (ps = qs) = true ∧ (r.up.toList == s.up.toList) = true := by
  simp only [lst_beq, decide_eq_true_eq, beq_iff_eq]
  unfold Rv.rc
  simp only [Rc.mk.injEq]
theorem rc_ne {r s : Rv} {ps qs : Ps} (h : ¬ ((r.id.toList == s.id.toList) = true ∧ (r.time == s.time) = true ∧ (r.mark == s.mark) = true ∧ (r.size == s.size) = true ∧ (r.etag.toList == s.etag.toList) = true ∧ (r.k == s.k) = true ∧ (r.m == s.m) = true ∧ (r.data.toList == s.data.toList) = true ∧ decide (r.sum = s.sum) = true ∧ decide (ps = qs) = true ∧ (r.up.toList == s.up.toList) = true)) : decide (r.rc ps = s.rc qs) = false := decide_eq_false fun e => h ((rc_eq r s ps qs).1 e)
theorem underD : Tryd.prog.underlying 57 = some (.array 32 5) := by kernel_rfl
open Go Go.RowKit

set_option maxRecDepth 100000 in
set_option maxHeartbeats 1000000 in
theorem same_0 (r s : Rv) (hr : r.ok) (hs : s.ok) (ps qs : Ps) (w : World) (hp : PL w r.pv ps) (hq : PL w s.pv qs)  (h0 : (r.id.toList == s.id.toList) = false) : Calls Tryd.prog 30 #[.agg r.cs, .agg s.cs] w fun e w' => e = .returned (.bool (decide (r.rc ps = s.rc qs))) ∧ Below w.heap.size w w' := by
  have HD : Hid (decide (r.rc ps = s.rc qs) = false) := rc_ne (by rintro ⟨k0, k1, k2, k3, k4, k5, k6, k7, k8, k9, k10⟩; rw [k0] at h0; cases h0)
  have HR := hid hr
  have HS := hid hs
  have HP := hid hp
  have HQ := hid hq
  clear hr hs hp hq
  generalize decide (r.rc ps = s.rc qs) = dd at *
  go_enter Tryd.func30, Tryd.ntmps30
  go_wp2_with (first
    | ((with_reducible refine wpList_boxR rfl _ rfl s.cs ?_ ?_); exact rfl; intro w2 g2 hc2 hb2 hg2; have HA := hid (HA0.out.below HR.out hb2); have HC := hid (RBox.mk' HS.out hc2); have a0 := HA.out.c0; have b0 := HC.out.c0; have HB := hid (below_on HB0.out hb2); have HP2 := hid ((HP.out.below HB0.out).below hb2); have HQ2 := hid ((HQ.out.below HB0.out).below hb2); clear hc2 hb2 HA0)
    | ((with_reducible refine wpList_boxR rfl _ rfl r.cs ?_ ?_); exact rfl; intro w1 g1 hc1 hb1 hg1; have HA0 := hid (RBox.mk' HR.out hc1); have HB0 := hid hb1; clear hc1 hb1))
  go_ret
  exact ⟨by rw [HD.out]; rfl, HB.out⟩
set_option maxRecDepth 100000 in
set_option maxHeartbeats 1000000 in
theorem same_1 (r s : Rv) (hr : r.ok) (hs : s.ok) (ps qs : Ps) (w : World) (hp : PL w r.pv ps) (hq : PL w s.pv qs) (h0 : (r.id.toList == s.id.toList) = true) (h1 : (r.time == s.time) = false) : Calls Tryd.prog 30 #[.agg r.cs, .agg s.cs] w fun e w' => e = .returned (.bool (decide (r.rc ps = s.rc qs))) ∧ Below w.heap.size w w' := by
  have HD : Hid (decide (r.rc ps = s.rc qs) = false) := rc_ne (by rintro ⟨k0, k1, k2, k3, k4, k5, k6, k7, k8, k9, k10⟩; rw [k1] at h1; cases h1)
  have HR := hid hr
  have HS := hid hs
  have HP := hid hp
  have HQ := hid hq
  clear hr hs hp hq
  generalize decide (r.rc ps = s.rc qs) = dd at *
  go_enter Tryd.func30, Tryd.ntmps30
  go_wp2_with (first
    | ((with_reducible refine wpList_boxR rfl _ rfl s.cs ?_ ?_); exact rfl; intro w2 g2 hc2 hb2 hg2; have HA := hid (HA0.out.below HR.out hb2); have HC := hid (RBox.mk' HS.out hc2); have a0 := HA.out.c0; have b0 := HC.out.c0; have a1 := HA.out.c1; have b1 := HC.out.c1; have HB := hid (below_on HB0.out hb2); have HP2 := hid ((HP.out.below HB0.out).below hb2); have HQ2 := hid ((HQ.out.below HB0.out).below hb2); clear hc2 hb2 HA0)
    | ((with_reducible refine wpList_boxR rfl _ rfl r.cs ?_ ?_); exact rfl; intro w1 g1 hc1 hb1 hg1; have HA0 := hid (RBox.mk' HR.out hc1); have HB0 := hid hb1; clear hc1 hb1))
  go_ret
  exact ⟨by rw [HD.out]; rfl, HB.out⟩
set_option maxRecDepth 100000 in
set_option maxHeartbeats 1000000 in
theorem same_2 (r s : Rv) (hr : r.ok) (hs : s.ok) (ps qs : Ps) (w : World) (hp : PL w r.pv ps) (hq : PL w s.pv qs) (h0 : (r.id.toList == s.id.toList) = true) (h1 : (r.time == s.time) = true) (h2 : (r.mark == s.mark) = false) : Calls Tryd.prog 30 #[.agg r.cs, .agg s.cs] w fun e w' => e = .returned (.bool (decide (r.rc ps = s.rc qs))) ∧ Below w.heap.size w w' := by
  have HD : Hid (decide (r.rc ps = s.rc qs) = false) := rc_ne (by rintro ⟨k0, k1, k2, k3, k4, k5, k6, k7, k8, k9, k10⟩; rw [k2] at h2; cases h2)
  have HR := hid hr
  have HS := hid hs
  have HP := hid hp
  have HQ := hid hq
  clear hr hs hp hq
  generalize decide (r.rc ps = s.rc qs) = dd at *
  go_enter Tryd.func30, Tryd.ntmps30
  go_wp2_with (first
    | ((with_reducible refine wpList_boxR rfl _ rfl s.cs ?_ ?_); exact rfl; intro w2 g2 hc2 hb2 hg2; have HA := hid (HA0.out.below HR.out hb2); have HC := hid (RBox.mk' HS.out hc2); have a0 := HA.out.c0; have b0 := HC.out.c0; have a1 := HA.out.c1; have b1 := HC.out.c1; have a2 := HA.out.c2; have b2 := HC.out.c2; have HB := hid (below_on HB0.out hb2); have HP2 := hid ((HP.out.below HB0.out).below hb2); have HQ2 := hid ((HQ.out.below HB0.out).below hb2); clear hc2 hb2 HA0)
    | ((with_reducible refine wpList_boxR rfl _ rfl r.cs ?_ ?_); exact rfl; intro w1 g1 hc1 hb1 hg1; have HA0 := hid (RBox.mk' HR.out hc1); have HB0 := hid hb1; clear hc1 hb1))
  go_ret
  exact ⟨by rw [HD.out]; rfl, HB.out⟩
set_option maxRecDepth 100000 in
set_option maxHeartbeats 1000000 in
theorem same_3 (r s : Rv) (hr : r.ok) (hs : s.ok) (ps qs : Ps) (w : World) (hp : PL w r.pv ps) (hq : PL w s.pv qs) (h0 : (r.id.toList == s.id.toList) = true) (h1 : (r.time == s.time) = true) (h2 : (r.mark == s.mark) = true) (h3 : (r.size == s.size) = false) : Calls Tryd.prog 30 #[.agg r.cs, .agg s.cs] w fun e w' => e = .returned (.bool (decide (r.rc ps = s.rc qs))) ∧ Below w.heap.size w w' := by
  have HD : Hid (decide (r.rc ps = s.rc qs) = false) := rc_ne (by rintro ⟨k0, k1, k2, k3, k4, k5, k6, k7, k8, k9, k10⟩; rw [k3] at h3; cases h3)
  have HR := hid hr
  have HS := hid hs
  have HP := hid hp
  have HQ := hid hq
  clear hr hs hp hq
  generalize decide (r.rc ps = s.rc qs) = dd at *
  go_enter Tryd.func30, Tryd.ntmps30
  go_wp2_with (first
    | ((with_reducible refine wpList_boxR rfl _ rfl s.cs ?_ ?_); exact rfl; intro w2 g2 hc2 hb2 hg2; have HA := hid (HA0.out.below HR.out hb2); have HC := hid (RBox.mk' HS.out hc2); have a0 := HA.out.c0; have b0 := HC.out.c0; have a1 := HA.out.c1; have b1 := HC.out.c1; have a2 := HA.out.c2; have b2 := HC.out.c2; have a3 := HA.out.c3; have b3 := HC.out.c3; have HB := hid (below_on HB0.out hb2); have HP2 := hid ((HP.out.below HB0.out).below hb2); have HQ2 := hid ((HQ.out.below HB0.out).below hb2); clear hc2 hb2 HA0)
    | ((with_reducible refine wpList_boxR rfl _ rfl r.cs ?_ ?_); exact rfl; intro w1 g1 hc1 hb1 hg1; have HA0 := hid (RBox.mk' HR.out hc1); have HB0 := hid hb1; clear hc1 hb1))
  go_ret
  exact ⟨by rw [HD.out]; rfl, HB.out⟩
set_option maxRecDepth 100000 in
set_option maxHeartbeats 1000000 in
theorem same_4 (r s : Rv) (hr : r.ok) (hs : s.ok) (ps qs : Ps) (w : World) (hp : PL w r.pv ps) (hq : PL w s.pv qs) (h0 : (r.id.toList == s.id.toList) = true) (h1 : (r.time == s.time) = true) (h2 : (r.mark == s.mark) = true) (h3 : (r.size == s.size) = true) (h4 : (r.etag.toList == s.etag.toList) = false) : Calls Tryd.prog 30 #[.agg r.cs, .agg s.cs] w fun e w' => e = .returned (.bool (decide (r.rc ps = s.rc qs))) ∧ Below w.heap.size w w' := by
  have HD : Hid (decide (r.rc ps = s.rc qs) = false) := rc_ne (by rintro ⟨k0, k1, k2, k3, k4, k5, k6, k7, k8, k9, k10⟩; rw [k4] at h4; cases h4)
  have HR := hid hr
  have HS := hid hs
  have HP := hid hp
  have HQ := hid hq
  clear hr hs hp hq
  generalize decide (r.rc ps = s.rc qs) = dd at *
  go_enter Tryd.func30, Tryd.ntmps30
  go_wp2_with (first
    | ((with_reducible refine wpList_boxR rfl _ rfl s.cs ?_ ?_); exact rfl; intro w2 g2 hc2 hb2 hg2; have HA := hid (HA0.out.below HR.out hb2); have HC := hid (RBox.mk' HS.out hc2); have a0 := HA.out.c0; have b0 := HC.out.c0; have a1 := HA.out.c1; have b1 := HC.out.c1; have a2 := HA.out.c2; have b2 := HC.out.c2; have a3 := HA.out.c3; have b3 := HC.out.c3; have a4 := HA.out.c4; have b4 := HC.out.c4; have HB := hid (below_on HB0.out hb2); have HP2 := hid ((HP.out.below HB0.out).below hb2); have HQ2 := hid ((HQ.out.below HB0.out).below hb2); clear hc2 hb2 HA0)
    | ((with_reducible refine wpList_boxR rfl _ rfl r.cs ?_ ?_); exact rfl; intro w1 g1 hc1 hb1 hg1; have HA0 := hid (RBox.mk' HR.out hc1); have HB0 := hid hb1; clear hc1 hb1))
  go_ret
  exact ⟨by rw [HD.out]; rfl, HB.out⟩
set_option maxRecDepth 100000 in
set_option maxHeartbeats 1000000 in
theorem same_5 (r s : Rv) (hr : r.ok) (hs : s.ok) (ps qs : Ps) (w : World) (hp : PL w r.pv ps) (hq : PL w s.pv qs) (h0 : (r.id.toList == s.id.toList) = true) (h1 : (r.time == s.time) = true) (h2 : (r.mark == s.mark) = true) (h3 : (r.size == s.size) = true) (h4 : (r.etag.toList == s.etag.toList) = true) (h5 : (r.k == s.k) = false) : Calls Tryd.prog 30 #[.agg r.cs, .agg s.cs] w fun e w' => e = .returned (.bool (decide (r.rc ps = s.rc qs))) ∧ Below w.heap.size w w' := by
  have HD : Hid (decide (r.rc ps = s.rc qs) = false) := rc_ne (by rintro ⟨k0, k1, k2, k3, k4, k5, k6, k7, k8, k9, k10⟩; rw [k5] at h5; cases h5)
  have HR := hid hr
  have HS := hid hs
  have HP := hid hp
  have HQ := hid hq
  clear hr hs hp hq
  generalize decide (r.rc ps = s.rc qs) = dd at *
  go_enter Tryd.func30, Tryd.ntmps30
  go_wp2_with (first
    | ((with_reducible refine wpList_boxR rfl _ rfl s.cs ?_ ?_); exact rfl; intro w2 g2 hc2 hb2 hg2; have HA := hid (HA0.out.below HR.out hb2); have HC := hid (RBox.mk' HS.out hc2); have a0 := HA.out.c0; have b0 := HC.out.c0; have a1 := HA.out.c1; have b1 := HC.out.c1; have a2 := HA.out.c2; have b2 := HC.out.c2; have a3 := HA.out.c3; have b3 := HC.out.c3; have a4 := HA.out.c4; have b4 := HC.out.c4; have a5 := HA.out.c5; have b5 := HC.out.c5; have HB := hid (below_on HB0.out hb2); have HP2 := hid ((HP.out.below HB0.out).below hb2); have HQ2 := hid ((HQ.out.below HB0.out).below hb2); clear hc2 hb2 HA0)
    | ((with_reducible refine wpList_boxR rfl _ rfl r.cs ?_ ?_); exact rfl; intro w1 g1 hc1 hb1 hg1; have HA0 := hid (RBox.mk' HR.out hc1); have HB0 := hid hb1; clear hc1 hb1))
  go_ret
  exact ⟨by rw [HD.out]; rfl, HB.out⟩
open Go Go.RowKit

set_option maxRecDepth 100000 in
set_option maxHeartbeats 1000000 in
theorem same_6 (r s : Rv) (hr : r.ok) (hs : s.ok) (ps qs : Ps) (w : World) (hp : PL w r.pv ps) (hq : PL w s.pv qs) (h0 : (r.id.toList == s.id.toList) = true) (h1 : (r.time == s.time) = true) (h2 : (r.mark == s.mark) = true) (h3 : (r.size == s.size) = true) (h4 : (r.etag.toList == s.etag.toList) = true) (h5 : (r.k == s.k) = true) (h6 : (r.m == s.m) = false) : Calls Tryd.prog 30 #[.agg r.cs, .agg s.cs] w fun e w' => e = .returned (.bool (decide (r.rc ps = s.rc qs))) ∧ Below w.heap.size w w' := by
  have HD : Hid (decide (r.rc ps = s.rc qs) = false) := rc_ne (by rintro ⟨k0, k1, k2, k3, k4, k5, k6, k7, k8, k9, k10⟩; rw [k6] at h6; cases h6)
  have HR := hid hr
  have HS := hid hs
  have HP := hid hp
  have HQ := hid hq
  clear hr hs hp hq
  generalize decide (r.rc ps = s.rc qs) = dd at *
  go_enter Tryd.func30, Tryd.ntmps30
  go_wp2_with (first
    | ((with_reducible refine wpList_boxR rfl _ rfl s.cs ?_ ?_); exact rfl; intro w2 g2 hc2 hb2 hg2; have HA := hid (HA0.out.below HR.out hb2); have HC := hid (RBox.mk' HS.out hc2); have a0 := HA.out.c0; have b0 := HC.out.c0; have a1 := HA.out.c1; have b1 := HC.out.c1; have a2 := HA.out.c2; have b2 := HC.out.c2; have a3 := HA.out.c3; have b3 := HC.out.c3; have a4 := HA.out.c4; have b4 := HC.out.c4; have a5 := HA.out.c5; have b5 := HC.out.c5; have a6 := HA.out.c6; have b6 := HC.out.c6; have HB := hid (below_on HB0.out hb2); have HP2 := hid ((HP.out.below HB0.out).below hb2); have HQ2 := hid ((HQ.out.below HB0.out).below hb2); clear hc2 hb2 HA0)
    | ((with_reducible refine wpList_boxR rfl _ rfl r.cs ?_ ?_); exact rfl; intro w1 g1 hc1 hb1 hg1; have HA0 := hid (RBox.mk' HR.out hc1); have HB0 := hid hb1; clear hc1 hb1))
  go_ret
  exact ⟨by rw [HD.out]; rfl, HB.out⟩
set_option maxRecDepth 100000 in
set_option maxHeartbeats 1000000 in
theorem same_7 (r s : Rv) (hr : r.ok) (hs : s.ok) (ps qs : Ps) (w : World) (hp : PL w r.pv ps) (hq : PL w s.pv qs) (h0 : (r.id.toList == s.id.toList) = true) (h1 : (r.time == s.time) = true) (h2 : (r.mark == s.mark) = true) (h3 : (r.size == s.size) = true) (h4 : (r.etag.toList == s.etag.toList) = true) (h5 : (r.k == s.k) = true) (h6 : (r.m == s.m) = true) (h7 : (r.data.toList == s.data.toList) = false) : Calls Tryd.prog 30 #[.agg r.cs, .agg s.cs] w fun e w' => e = .returned (.bool (decide (r.rc ps = s.rc qs))) ∧ Below w.heap.size w w' := by
  have HD : Hid (decide (r.rc ps = s.rc qs) = false) := rc_ne (by rintro ⟨k0, k1, k2, k3, k4, k5, k6, k7, k8, k9, k10⟩; rw [k7] at h7; cases h7)
  have HR := hid hr
  have HS := hid hs
  have HP := hid hp
  have HQ := hid hq
  clear hr hs hp hq
  generalize decide (r.rc ps = s.rc qs) = dd at *
  go_enter Tryd.func30, Tryd.ntmps30
  go_wp2_with (first
    | ((with_reducible refine wpList_boxR rfl _ rfl s.cs ?_ ?_); exact rfl; intro w2 g2 hc2 hb2 hg2; have HA := hid (HA0.out.below HR.out hb2); have HC := hid (RBox.mk' HS.out hc2); have a0 := HA.out.c0; have b0 := HC.out.c0; have a1 := HA.out.c1; have b1 := HC.out.c1; have a2 := HA.out.c2; have b2 := HC.out.c2; have a3 := HA.out.c3; have b3 := HC.out.c3; have a4 := HA.out.c4; have b4 := HC.out.c4; have a5 := HA.out.c5; have b5 := HC.out.c5; have a6 := HA.out.c6; have b6 := HC.out.c6; have a7 := HA.out.c7; have b7 := HC.out.c7; have HB := hid (below_on HB0.out hb2); have HP2 := hid ((HP.out.below HB0.out).below hb2); have HQ2 := hid ((HQ.out.below HB0.out).below hb2); clear hc2 hb2 HA0)
    | ((with_reducible refine wpList_boxR rfl _ rfl r.cs ?_ ?_); exact rfl; intro w1 g1 hc1 hb1 hg1; have HA0 := hid (RBox.mk' HR.out hc1); have HB0 := hid hb1; clear hc1 hb1))
  go_ret
  exact ⟨by rw [HD.out]; rfl, HB.out⟩
set_option maxRecDepth 100000 in
set_option maxHeartbeats 1000000 in
theorem same_8 (r s : Rv) (hr : r.ok) (hs : s.ok) (ps qs : Ps) (w : World) (hp : PL w r.pv ps) (hq : PL w s.pv qs) (h0 : (r.id.toList == s.id.toList) = true) (h1 : (r.time == s.time) = true) (h2 : (r.mark == s.mark) = true) (h3 : (r.size == s.size) = true) (h4 : (r.etag.toList == s.etag.toList) = true) (h5 : (r.k == s.k) = true) (h6 : (r.m == s.m) = true) (h7 : (r.data.toList == s.data.toList) = true) (h8 : decide (r.sum = s.sum) = false) : Calls Tryd.prog 30 #[.agg r.cs, .agg s.cs] w fun e w' => e = .returned (.bool (decide (r.rc ps = s.rc qs))) ∧ Below w.heap.size w w' := by
  have HD : Hid (decide (r.rc ps = s.rc qs) = false) := rc_ne (by rintro ⟨k0, k1, k2, k3, k4, k5, k6, k7, k8, k9, k10⟩; rw [k8] at h8; cases h8)
  have HR := hid hr
  have HS := hid hs
  have HP := hid hp
  have HQ := hid hq
  have hsum := eqSum hr.sl hs.sl
  rw [h8] at hsum
  clear h8
  clear hr hs hp hq
  generalize decide (r.rc ps = s.rc qs) = dd at *
  go_enter Tryd.func30, Tryd.ntmps30
  go_wp2_with (first
    | ((with_reducible refine wpList_boxR rfl _ rfl s.cs ?_ ?_); exact rfl; intro w2 g2 hc2 hb2 hg2; have HA := hid (HA0.out.below HR.out hb2); have HC := hid (RBox.mk' HS.out hc2); have a0 := HA.out.c0; have b0 := HC.out.c0; have a1 := HA.out.c1; have b1 := HC.out.c1; have a2 := HA.out.c2; have b2 := HC.out.c2; have a3 := HA.out.c3; have b3 := HC.out.c3; have a4 := HA.out.c4; have b4 := HC.out.c4; have a5 := HA.out.c5; have b5 := HC.out.c5; have a6 := HA.out.c6; have b6 := HC.out.c6; have a7 := HA.out.c7; have b7 := HC.out.c7; have HB := hid (below_on HB0.out hb2); have HP2 := hid ((HP.out.below HB0.out).below hb2); have HQ2 := hid ((HQ.out.below HB0.out).below hb2); clear hc2 hb2 HA0)
    | ((with_reducible refine wpList_boxR rfl _ rfl r.cs ?_ ?_); exact rfl; intro w1 g1 hc1 hb1 hg1; have HA0 := hid (RBox.mk' HR.out hc1); have HB0 := hid hb1; clear hc1 hb1)
    | ((with_reducible refine wpList_load_at 57 _ rfl ?_ g1 8 ?_ (sumC r.sum) (.array 32 5) ?_ underD rfl ?_ ?_); exact rfl; exact rfl; exact HA.out.cs; (rw [sumC_size, HR.out.sl]; exact sizeD))
    | ((with_reducible refine wpList_load_at 57 _ rfl ?_ g2 8 ?_ (sumC s.sum) (.array 32 5) ?_ underD rfl ?_ ?_); exact rfl; exact rfl; exact HC.out.cs; (rw [sumC_size, HS.out.sl]; exact sizeD)))
  go_ret
  exact ⟨by rw [HD.out]; rfl, HB.out⟩
end Go.Proofs.YtelkijiphhoacaaDoor.G
