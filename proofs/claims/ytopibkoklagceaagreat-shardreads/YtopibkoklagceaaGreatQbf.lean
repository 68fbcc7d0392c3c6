/- Texts laid into one, cut to what is needed: the remark ahead of each part says what is proved there. -/
import Derived.Test.YtopibkoklagceaaGreatQac
import Derived.Test.YtopibkoklagceaaGreatQad
import Derived.Test.YtopibkoklagceaaGreatQbe
import Derived.Test.YtopibkoklagceaaGreatQbc
import Derived.Test.YtopibkoklagceaaGreatQbd
/- Contract of the document's Same, some cases. (Written by tools/gen_Vv.py.) -/
namespace Go.Proofs.YtopibkoklagceaaGreat
open Go Go.RowKit

set_option maxRecDepth 100000 in
set_option maxHeartbeats 2000000 in
theorem rsame_7 (r s : Rv) (hr : r.ok) (hs : s.ok) (ps qs : Ps) (w : World) (hp : PL w r.pv ps) (hq : PL w s.pv qs) (h0 : (r.id.toList == s.id.toList) = true) (h1 : (r.time == s.time) = true) (h2 : (r.mark == s.mark) = true) (h3 : (r.size == s.size) = true) (h4 : (r.etag.toList == s.etag.toList) = true) (h5 : (r.k == s.k) = true) (h6 : (r.m == s.m) = true) (h7 : (r.data.toList == s.data.toList) = false) : Calls Tryz.prog 26 #[.agg r.cs, .agg s.cs] w fun e w' => e = .returned (.bool (decide (r.rc ps = s.rc qs))) ∧ Below w.heap.size w w' := by
 have HD : Hid (decide (r.rc ps = s.rc qs) = false) := rc_ne (by rintro ⟨k0, k1, k2, k3, k4, k5, k6, k7, k8, k9, k10⟩; rw [k7] at h7; cases h7)
 have HNE : Hid (ps ≠ qs → decide (r.rc ps = s.rc qs) = false) := fun h => decide_eq_false fun e => h (congrArg Rc.parts e)
 have HR := hid hr
 have HS := hid hs
 have HP := hid hp
 have HQ := hid hq
 obtain ⟨p1, d1, hpv, hpc, hpl, _⟩ := hp
 obtain ⟨p2, d2, hqv, hqc, hql, _⟩ := hq
 clear hr hs
 generalize decide (r.rc ps = s.rc qs) = dd at *
 by_cases hlen : ps.length = qs.length
 ·have hlen' : ((ps.length : Int) == (qs.length : Int)) = true := by simp; omega
  go_enter Tryz.func26, Tryz.ntmps26
  go_wp2_with (first
   | ((with_reducible refine wpList_boxR rfl _ rfl s.cs ?_ ?_); exact rfl; intro w2 g2 hc2 hb2 hg2; have HA := hid (HA0.out.below HR.out hb2); have HC := hid (RBox.mk' HS.out hc2); have a40 := HA.out.c40; have b40 := HC.out.c40; rw [hpv] at a40; rw [hqv] at b40; have HB := hid (below_on HB0.out hb2); have HP2 := hid ((HP.out.below HB0.out).below hb2); have HQ2 := hid ((HQ.out.below HB0.out).below hb2); clear hc2 hb2 HA0)
   | ((with_reducible refine wpList_boxR rfl _ rfl r.cs ?_ ?_); exact rfl; intro w1 g1 hc1 hb1 hg1; have HA0 := hid (RBox.mk' HR.out hc1); have HB0 := hid hb1; clear hc1 hb1))
  rw [hpv] at HP2
  rw [hqv] at HQ2
  go_loopw [5] (fun v wr => ∃ k : Nat, k ≤ ps.length ∧ v = i64 k ∧ Below w2.heap.size w2 wr ∧ ∀ i, i < k → ps.getD i (0, 0) = qs.getD i (0, 0)) (fun v _ => (ps.length - intOf v).toNat)
  case atStart => exact ⟨0, by omega, rfl, Below.refl _ _, fun i hi => by omega⟩
  case round =>
   obtain ⟨k, hk, rfl, hw, hok⟩ := hrel
   have HOK := hid hok
   have HW := hid hw
   have HA2 := hid (HA.out.below HR.out hw)
   have HC2 := hid (HC.out.below HS.out hw)
   have a40' := HA2.out.c40
   have b40' := HC2.out.c40
   rw [hpv] at a40'
   rw [hqv] at b40'
   clear hok a40 b40
   by_cases hlt : k < ps.length
   ·have hlt' : (k : Int) < (ps.length : Int) := by omega
    have hlt2 : (k : Int) < (qs.length : Int) := by omega
    obtain ⟨b, o, hpo, x1, x2⟩ := (HP2.out.below hw).at hlt
    obtain ⟨b', o', hqo, y1, y2⟩ := (HQ2.out.below hw).at (show k < qs.length by omega)
    subst hpo hqo
    clear hw
    have hdisc : ps.getD k (0, 0) ≠ qs.getD k (0, 0) → dd = false := fun h => HNE.out fun e => h (by rw [e])
    have HX := hid hdisc
    clear hdisc
    clear h0 h1 h2 h3 h4 h5 h6 h7
    by_cases hX : (ps.getD k (0, 0)).1 = (qs.getD k (0, 0)).1
    ·by_cases hY : (ps.getD k (0, 0)).2 = (qs.getD k (0, 0)).2
     ·have HXY : Hid (ps.getD k (0, 0) = qs.getD k (0, 0)) := Prod.ext hX hY
      rw [← hX] at y1
      rw [← hY] at y2
      clear hX hY
      generalize (ps.getD k (0, 0)).1 = X1 at *
      generalize (ps.getD k (0, 0)).2 = X2 at *
      go_wp2
      go_region
      go_wp2
      exact ⟨⟨k + 1, by omega, by simp, HW.out.drew, fun i hi => (by
       by_cases e : i = k
       ·rw [e]; exact HXY.out
       ·exact HOK.out i (by omega))⟩, by simp [intOf]; omega⟩
     ·have e := HX.out fun e => hY (by rw [e])
      have E := hid e
      clear e
      rw [← hX] at y1
      clear hX HX
      generalize (ps.getD k (0, 0)).1 = X1 at *
      generalize (ps.getD k (0, 0)).2 = X2 at *
      generalize (qs.getD k (0, 0)).2 = Y2 at *
      go_wp2
      go_region
      go_wp2
      go_ret
      exact ⟨by rw [E.out]; rfl, (below_on HB.out HW.out).drew⟩
    ·have e := HX.out fun e => hX (by rw [e])
     have E := hid e
     clear e HX
     generalize (ps.getD k (0, 0)).1 = X1 at *
     generalize (ps.getD k (0, 0)).2 = X2 at *
     generalize (qs.getD k (0, 0)).1 = Y1 at *
     generalize (qs.getD k (0, 0)).2 = Y2 at *
     go_wp2
     go_region
     go_wp2
     go_ret
     exact ⟨by rw [E.out]; rfl, (below_on HB.out HW.out).drew⟩
   ·have hlt' : ¬ (k : Int) < (ps.length : Int) := by omega
    have heq : ps = qs := List.ext_getElem hlen fun i h1 h2 => by
     have := HOK.out i (by omega)
     simpa [List.getD, h1, h2] using this
    have E : Hid (dd = false) := HD.out
    clear heq hw
    have a0 := HA2.out.c0
    have b0 := HC2.out.c0
    have a1 := HA2.out.c1
    have b1 := HC2.out.c1
    have a2 := HA2.out.c2
    have b2 := HC2.out.c2
    have a3 := HA2.out.c3
    have b3 := HC2.out.c3
    have a4 := HA2.out.c4
    have b4 := HC2.out.c4
    have a5 := HA2.out.c5
    have b5 := HC2.out.c5
    have a6 := HA2.out.c6
    have b6 := HC2.out.c6
    have a7 := HA2.out.c7
    have b7 := HC2.out.c7
    go_wp2_with (first
     | fail)
    go_ret
    exact ⟨by rw [E.out]; rfl, below_on HB.out HW.out⟩
 ·have hlen' : ((ps.length : Int) == (qs.length : Int)) = false := by simp; omega
  have E : Hid (dd = false) := HNE.out fun e => hlen (by rw [e])
  clear h0 h1 h2 h3 h4 h5 h6 h7
  go_enter Tryz.func26, Tryz.ntmps26
  go_wp2_with (first
   | ((with_reducible refine wpList_boxR rfl _ rfl s.cs ?_ ?_); exact rfl; intro w2 g2 hc2 hb2 hg2; have HA := hid (HA0.out.below HR.out hb2); have HC := hid (RBox.mk' HS.out hc2); have a40 := HA.out.c40; have b40 := HC.out.c40; rw [hpv] at a40; rw [hqv] at b40; have HB := hid (below_on HB0.out hb2); clear hc2 hb2 HA0)
   | ((with_reducible refine wpList_boxR rfl _ rfl r.cs ?_ ?_); exact rfl; intro w1 g1 hc1 hb1 hg1; have HA0 := hid (RBox.mk' HR.out hc1); have HB0 := hid hb1; clear hc1 hb1))
  go_ret
  exact ⟨by rw [E.out]; rfl, HB.out⟩
set_option maxRecDepth 100000 in
set_option maxHeartbeats 2000000 in
theorem rsame_8 (r s : Rv) (hr : r.ok) (hs : s.ok) (ps qs : Ps) (w : World) (hp : PL w r.pv ps) (hq : PL w s.pv qs) (h0 : (r.id.toList == s.id.toList) = true) (h1 : (r.time == s.time) = true) (h2 : (r.mark == s.mark) = true) (h3 : (r.size == s.size) = true) (h4 : (r.etag.toList == s.etag.toList) = true) (h5 : (r.k == s.k) = true) (h6 : (r.m == s.m) = true) (h7 : (r.data.toList == s.data.toList) = true) (h8 : decide (r.sum = s.sum) = false) : Calls Tryz.prog 26 #[.agg r.cs, .agg s.cs] w fun e w' => e = .returned (.bool (decide (r.rc ps = s.rc qs))) ∧ Below w.heap.size w w' := by
 have HD : Hid (decide (r.rc ps = s.rc qs) = false) := rc_ne (by rintro ⟨k0, k1, k2, k3, k4, k5, k6, k7, k8, k9, k10⟩; rw [k8] at h8; cases h8)
 have HNE : Hid (ps ≠ qs → decide (r.rc ps = s.rc qs) = false) := fun h => decide_eq_false fun e => h (congrArg Rc.parts e)
 have HR := hid hr
 have HS := hid hs
 have HP := hid hp
 have HQ := hid hq
 have hsum := eqSum hr.sl hs.sl
 rw [h8] at hsum
 clear h8
 obtain ⟨p1, d1, hpv, hpc, hpl, _⟩ := hp
 obtain ⟨p2, d2, hqv, hqc, hql, _⟩ := hq
 clear hr hs
 generalize decide (r.rc ps = s.rc qs) = dd at *
 by_cases hlen : ps.length = qs.length
 ·have hlen' : ((ps.length : Int) == (qs.length : Int)) = true := by simp; omega
  go_enter Tryz.func26, Tryz.ntmps26
  go_wp2_with (first
   | ((with_reducible refine wpList_boxR rfl _ rfl s.cs ?_ ?_); exact rfl; intro w2 g2 hc2 hb2 hg2; have HA := hid (HA0.out.below HR.out hb2); have HC := hid (RBox.mk' HS.out hc2); have a40 := HA.out.c40; have b40 := HC.out.c40; rw [hpv] at a40; rw [hqv] at b40; have HB := hid (below_on HB0.out hb2); have HP2 := hid ((HP.out.below HB0.out).below hb2); have HQ2 := hid ((HQ.out.below HB0.out).below hb2); clear hc2 hb2 HA0)
   | ((with_reducible refine wpList_boxR rfl _ rfl r.cs ?_ ?_); exact rfl; intro w1 g1 hc1 hb1 hg1; have HA0 := hid (RBox.mk' HR.out hc1); have HB0 := hid hb1; clear hc1 hb1))
  rw [hpv] at HP2
  rw [hqv] at HQ2
  go_loopw [5] (fun v wr => ∃ k : Nat, k ≤ ps.length ∧ v = i64 k ∧ Below w2.heap.size w2 wr ∧ ∀ i, i < k → ps.getD i (0, 0) = qs.getD i (0, 0)) (fun v _ => (ps.length - intOf v).toNat)
  case atStart => exact ⟨0, by omega, rfl, Below.refl _ _, fun i hi => by omega⟩
  case round =>
   obtain ⟨k, hk, rfl, hw, hok⟩ := hrel
   have HOK := hid hok
   have HW := hid hw
   have HA2 := hid (HA.out.below HR.out hw)
   have HC2 := hid (HC.out.below HS.out hw)
   have a40' := HA2.out.c40
   have b40' := HC2.out.c40
   rw [hpv] at a40'
   rw [hqv] at b40'
   clear hok a40 b40
   by_cases hlt : k < ps.length
   ·have hlt' : (k : Int) < (ps.length : Int) := by omega
    have hlt2 : (k : Int) < (qs.length : Int) := by omega
    obtain ⟨b, o, hpo, x1, x2⟩ := (HP2.out.below hw).at hlt
    obtain ⟨b', o', hqo, y1, y2⟩ := (HQ2.out.below hw).at (show k < qs.length by omega)
    subst hpo hqo
    clear hw
    have hdisc : ps.getD k (0, 0) ≠ qs.getD k (0, 0) → dd = false := fun h => HNE.out fun e => h (by rw [e])
    have HX := hid hdisc
    clear hdisc
    clear h0 h1 h2 h3 h4 h5 h6 h7 hsum
    by_cases hX : (ps.getD k (0, 0)).1 = (qs.getD k (0, 0)).1
    ·by_cases hY : (ps.getD k (0, 0)).2 = (qs.getD k (0, 0)).2
     ·have HXY : Hid (ps.getD k (0, 0) = qs.getD k (0, 0)) := Prod.ext hX hY
      rw [← hX] at y1
      rw [← hY] at y2
      clear hX hY
      generalize (ps.getD k (0, 0)).1 = X1 at *
      generalize (ps.getD k (0, 0)).2 = X2 at *
      go_wp2
      go_region
      go_wp2
      exact ⟨⟨k + 1, by omega, by simp, HW.out.drew, fun i hi => (by
       by_cases e : i = k
       ·rw [e]; exact HXY.out
       ·exact HOK.out i (by omega))⟩, by simp [intOf]; omega⟩
     ·have e := HX.out fun e => hY (by rw [e])
      have E := hid e
      clear e
      rw [← hX] at y1
      clear hX HX
      generalize (ps.getD k (0, 0)).1 = X1 at *
      generalize (ps.getD k (0, 0)).2 = X2 at *
      generalize (qs.getD k (0, 0)).2 = Y2 at *
      go_wp2
      go_region
      go_wp2
      go_ret
      exact ⟨by rw [E.out]; rfl, (below_on HB.out HW.out).drew⟩
    ·have e := HX.out fun e => hX (by rw [e])
     have E := hid e
     clear e HX
     generalize (ps.getD k (0, 0)).1 = X1 at *
     generalize (ps.getD k (0, 0)).2 = X2 at *
     generalize (qs.getD k (0, 0)).1 = Y1 at *
     generalize (qs.getD k (0, 0)).2 = Y2 at *
     go_wp2
     go_region
     go_wp2
     go_ret
     exact ⟨by rw [E.out]; rfl, (below_on HB.out HW.out).drew⟩
   ·have hlt' : ¬ (k : Int) < (ps.length : Int) := by omega
    have heq : ps = qs := List.ext_getElem hlen fun i h1 h2 => by
     have := HOK.out i (by omega)
     simpa [List.getD, h1, h2] using this
    have E : Hid (dd = false) := HD.out
    clear heq hw
    have a0 := HA2.out.c0
    have b0 := HC2.out.c0
    have a1 := HA2.out.c1
    have b1 := HC2.out.c1
    have a2 := HA2.out.c2
    have b2 := HC2.out.c2
    have a3 := HA2.out.c3
    have b3 := HC2.out.c3
    have a4 := HA2.out.c4
    have b4 := HC2.out.c4
    have a5 := HA2.out.c5
    have b5 := HC2.out.c5
    have a6 := HA2.out.c6
    have b6 := HC2.out.c6
    have a7 := HA2.out.c7
    have b7 := HC2.out.c7
    go_wp2_with (first
     | ((with_reducible refine wpList_load_at 37 _ rfl ?_ g1 8 ?_ (sumC r.sum) (.array 32 5) ?_ underD rfl ?_ ?_); exact rfl; exact rfl; exact HA2.out.cs; (rw [sumC_size, HR.out.sl]; exact sizeD))
     | ((with_reducible refine wpList_load_at 37 _ rfl ?_ g2 8 ?_ (sumC s.sum) (.array 32 5) ?_ underD rfl ?_ ?_); exact rfl; exact rfl; exact HC2.out.cs; (rw [sumC_size, HS.out.sl]; exact sizeD)))
    go_ret
    exact ⟨by rw [E.out]; rfl, below_on HB.out HW.out⟩
 ·have hlen' : ((ps.length : Int) == (qs.length : Int)) = false := by simp; omega
  have E : Hid (dd = false) := HNE.out fun e => hlen (by rw [e])
  clear h0 h1 h2 h3 h4 h5 h6 h7 hsum
  go_enter Tryz.func26, Tryz.ntmps26
  go_wp2_with (first
   | ((with_reducible refine wpList_boxR rfl _ rfl s.cs ?_ ?_); exact rfl; intro w2 g2 hc2 hb2 hg2; have HA := hid (HA0.out.below HR.out hb2); have HC := hid (RBox.mk' HS.out hc2); have a40 := HA.out.c40; have b40 := HC.out.c40; rw [hpv] at a40; rw [hqv] at b40; have HB := hid (below_on HB0.out hb2); clear hc2 hb2 HA0)
   | ((with_reducible refine wpList_boxR rfl _ rfl r.cs ?_ ?_); exact rfl; intro w1 g1 hc1 hb1 hg1; have HA0 := hid (RBox.mk' HR.out hc1); have HB0 := hid hb1; clear hc1 hb1))
  go_ret
  exact ⟨by rw [E.out]; rfl, HB.out⟩
end Go.Proofs.YtopibkoklagceaaGreat

/- Contract of the document's Same, some cases. (Written by tools/gen_Vv.py.) -/
namespace Go.Proofs.YtopibkoklagceaaGreat
open Go Go.RowKit

set_option maxRecDepth 100000 in
set_option maxHeartbeats 2000000 in
theorem rsame_9 (r s : Rv) (hr : r.ok) (hs : s.ok) (ps qs : Ps) (w : World) (hp : PL w r.pv ps) (hq : PL w s.pv qs) (h0 : (r.id.toList == s.id.toList) = true) (h1 : (r.time == s.time) = true) (h2 : (r.mark == s.mark) = true) (h3 : (r.size == s.size) = true) (h4 : (r.etag.toList == s.etag.toList) = true) (h5 : (r.k == s.k) = true) (h6 : (r.m == s.m) = true) (h7 : (r.data.toList == s.data.toList) = true) (h8 : decide (r.sum = s.sum) = true) (h10 : (r.up.toList == s.up.toList) = false) : Calls Tryz.prog 26 #[.agg r.cs, .agg s.cs] w fun e w' => e = .returned (.bool (decide (r.rc ps = s.rc qs))) ∧ Below w.heap.size w w' := by
 have HD : Hid (decide (r.rc ps = s.rc qs) = false) := rc_ne (by rintro ⟨k0, k1, k2, k3, k4, k5, k6, k7, k8, k9, k10⟩; rw [k10] at h10; cases h10)
 have HNE : Hid (ps ≠ qs → decide (r.rc ps = s.rc qs) = false) := fun h => decide_eq_false fun e => h (congrArg Rc.parts e)
 have HR := hid hr
 have HS := hid hs
 have HP := hid hp
 have HQ := hid hq
 have hsum := eqSum hr.sl hs.sl
 rw [h8] at hsum
 clear h8
 obtain ⟨p1, d1, hpv, hpc, hpl, _⟩ := hp
 obtain ⟨p2, d2, hqv, hqc, hql, _⟩ := hq
 clear hr hs
 generalize decide (r.rc ps = s.rc qs) = dd at *
 by_cases hlen : ps.length = qs.length
 ·have hlen' : ((ps.length : Int) == (qs.length : Int)) = true := by simp; omega
  go_enter Tryz.func26, Tryz.ntmps26
  go_wp2_with (first
   | ((with_reducible refine wpList_boxR rfl _ rfl s.cs ?_ ?_); exact rfl; intro w2 g2 hc2 hb2 hg2; have HA := hid (HA0.out.below HR.out hb2); have HC := hid (RBox.mk' HS.out hc2); have a40 := HA.out.c40; have b40 := HC.out.c40; rw [hpv] at a40; rw [hqv] at b40; have HB := hid (below_on HB0.out hb2); have HP2 := hid ((HP.out.below HB0.out).below hb2); have HQ2 := hid ((HQ.out.below HB0.out).below hb2); clear hc2 hb2 HA0)
   | ((with_reducible refine wpList_boxR rfl _ rfl r.cs ?_ ?_); exact rfl; intro w1 g1 hc1 hb1 hg1; have HA0 := hid (RBox.mk' HR.out hc1); have HB0 := hid hb1; clear hc1 hb1))
  rw [hpv] at HP2
  rw [hqv] at HQ2
  go_loopw [5] (fun v wr => ∃ k : Nat, k ≤ ps.length ∧ v = i64 k ∧ Below w2.heap.size w2 wr ∧ ∀ i, i < k → ps.getD i (0, 0) = qs.getD i (0, 0)) (fun v _ => (ps.length - intOf v).toNat)
  case atStart => exact ⟨0, by omega, rfl, Below.refl _ _, fun i hi => by omega⟩
  case round =>
   obtain ⟨k, hk, rfl, hw, hok⟩ := hrel
   have HOK := hid hok
   have HW := hid hw
   have HA2 := hid (HA.out.below HR.out hw)
   have HC2 := hid (HC.out.below HS.out hw)
   have a40' := HA2.out.c40
   have b40' := HC2.out.c40
   rw [hpv] at a40'
   rw [hqv] at b40'
   clear hok a40 b40
   by_cases hlt : k < ps.length
   ·have hlt' : (k : Int) < (ps.length : Int) := by omega
    have hlt2 : (k : Int) < (qs.length : Int) := by omega
    obtain ⟨b, o, hpo, x1, x2⟩ := (HP2.out.below hw).at hlt
    obtain ⟨b', o', hqo, y1, y2⟩ := (HQ2.out.below hw).at (show k < qs.length by omega)
    subst hpo hqo
    clear hw
    have hdisc : ps.getD k (0, 0) ≠ qs.getD k (0, 0) → dd = false := fun h => HNE.out fun e => h (by rw [e])
    have HX := hid hdisc
    clear hdisc
    clear h0 h1 h2 h3 h4 h5 h6 h7 h10 hsum
    by_cases hX : (ps.getD k (0, 0)).1 = (qs.getD k (0, 0)).1
    ·by_cases hY : (ps.getD k (0, 0)).2 = (qs.getD k (0, 0)).2
     ·have HXY : Hid (ps.getD k (0, 0) = qs.getD k (0, 0)) := Prod.ext hX hY
      rw [← hX] at y1
      rw [← hY] at y2
      clear hX hY
      generalize (ps.getD k (0, 0)).1 = X1 at *
      generalize (ps.getD k (0, 0)).2 = X2 at *
      go_wp2
      go_region
      go_wp2
      exact ⟨⟨k + 1, by omega, by simp, HW.out.drew, fun i hi => (by
       by_cases e : i = k
       ·rw [e]; exact HXY.out
       ·exact HOK.out i (by omega))⟩, by simp [intOf]; omega⟩
     ·have e := HX.out fun e => hY (by rw [e])
      have E := hid e
      clear e
      rw [← hX] at y1
      clear hX HX
      generalize (ps.getD k (0, 0)).1 = X1 at *
      generalize (ps.getD k (0, 0)).2 = X2 at *
      generalize (qs.getD k (0, 0)).2 = Y2 at *
      go_wp2
      go_region
      go_wp2
      go_ret
      exact ⟨by rw [E.out]; rfl, (below_on HB.out HW.out).drew⟩
    ·have e := HX.out fun e => hX (by rw [e])
     have E := hid e
     clear e HX
     generalize (ps.getD k (0, 0)).1 = X1 at *
     generalize (ps.getD k (0, 0)).2 = X2 at *
     generalize (qs.getD k (0, 0)).1 = Y1 at *
     generalize (qs.getD k (0, 0)).2 = Y2 at *
     go_wp2
     go_region
     go_wp2
     go_ret
     exact ⟨by rw [E.out]; rfl, (below_on HB.out HW.out).drew⟩
   ·have hlt' : ¬ (k : Int) < (ps.length : Int) := by omega
    have heq : ps = qs := List.ext_getElem hlen fun i h1 h2 => by
     have := HOK.out i (by omega)
     simpa [List.getD, h1, h2] using this
    have E : Hid (dd = false) := HD.out
    clear heq hw
    have a0 := HA2.out.c0
    have b0 := HC2.out.c0
    have a1 := HA2.out.c1
    have b1 := HC2.out.c1
    have a2 := HA2.out.c2
    have b2 := HC2.out.c2
    have a3 := HA2.out.c3
    have b3 := HC2.out.c3
    have a4 := HA2.out.c4
    have b4 := HC2.out.c4
    have a5 := HA2.out.c5
    have b5 := HC2.out.c5
    have a6 := HA2.out.c6
    have b6 := HC2.out.c6
    have a7 := HA2.out.c7
    have b7 := HC2.out.c7
    have a41 := HA2.out.c41
    have b41 := HC2.out.c41
    go_wp2_with (first
     | ((with_reducible refine wpList_load_at 37 _ rfl ?_ g1 8 ?_ (sumC r.sum) (.array 32 5) ?_ underD rfl ?_ ?_); exact rfl; exact rfl; exact HA2.out.cs; (rw [sumC_size, HR.out.sl]; exact sizeD))
     | ((with_reducible refine wpList_load_at 37 _ rfl ?_ g2 8 ?_ (sumC s.sum) (.array 32 5) ?_ underD rfl ?_ ?_); exact rfl; exact rfl; exact HC2.out.cs; (rw [sumC_size, HS.out.sl]; exact sizeD)))
    go_ret
    exact ⟨by rw [E.out]; rfl, below_on HB.out HW.out⟩
 ·have hlen' : ((ps.length : Int) == (qs.length : Int)) = false := by simp; omega
  have E : Hid (dd = false) := HNE.out fun e => hlen (by rw [e])
  clear h0 h1 h2 h3 h4 h5 h6 h7 h10 hsum
  go_enter Tryz.func26, Tryz.ntmps26
  go_wp2_with (first
   | ((with_reducible refine wpList_boxR rfl _ rfl s.cs ?_ ?_); exact rfl; intro w2 g2 hc2 hb2 hg2; have HA := hid (HA0.out.below HR.out hb2); have HC := hid (RBox.mk' HS.out hc2); have a40 := HA.out.c40; have b40 := HC.out.c40; rw [hpv] at a40; rw [hqv] at b40; have HB := hid (below_on HB0.out hb2); clear hc2 hb2 HA0)
   | ((with_reducible refine wpList_boxR rfl _ rfl r.cs ?_ ?_); exact rfl; intro w1 g1 hc1 hb1 hg1; have HA0 := hid (RBox.mk' HR.out hc1); have HB0 := hid hb1; clear hc1 hb1))
  go_ret
  exact ⟨by rw [E.out]; rfl, HB.out⟩
set_option maxRecDepth 100000 in
set_option maxHeartbeats 2000000 in
theorem rsame_10 (r s : Rv) (hr : r.ok) (hs : s.ok) (ps qs : Ps) (w : World) (hp : PL w r.pv ps) (hq : PL w s.pv qs) (h0 : (r.id.toList == s.id.toList) = true) (h1 : (r.time == s.time) = true) (h2 : (r.mark == s.mark) = true) (h3 : (r.size == s.size) = true) (h4 : (r.etag.toList == s.etag.toList) = true) (h5 : (r.k == s.k) = true) (h6 : (r.m == s.m) = true) (h7 : (r.data.toList == s.data.toList) = true) (h8 : decide (r.sum = s.sum) = true) (h10 : (r.up.toList == s.up.toList) = true) : Calls Tryz.prog 26 #[.agg r.cs, .agg s.cs] w fun e w' => e = .returned (.bool (decide (r.rc ps = s.rc qs))) ∧ Below w.heap.size w w' := by
 have HD : Hid (ps = qs → decide (r.rc ps = s.rc qs) = true) := fun h9' => by
  have h9 : decide (ps = qs) = true := decide_eq_true h9'
  exact decide_eq_true ((rc_eq r s ps qs).2 ⟨h0, h1, h2, h3, h4, h5, h6, h7, h8, h9, h10⟩)
 have HNE : Hid (ps ≠ qs → decide (r.rc ps = s.rc qs) = false) := fun h => decide_eq_false fun e => h (congrArg Rc.parts e)
 have HR := hid hr
 have HS := hid hs
 have HP := hid hp
 have HQ := hid hq
 have hsum := eqSum hr.sl hs.sl
 rw [h8] at hsum
 clear h8
 obtain ⟨p1, d1, hpv, hpc, hpl, _⟩ := hp
 obtain ⟨p2, d2, hqv, hqc, hql, _⟩ := hq
 clear hr hs
 generalize decide (r.rc ps = s.rc qs) = dd at *
 by_cases hlen : ps.length = qs.length
 ·have hlen' : ((ps.length : Int) == (qs.length : Int)) = true := by simp; omega
  go_enter Tryz.func26, Tryz.ntmps26
  go_wp2_with (first
   | ((with_reducible refine wpList_boxR rfl _ rfl s.cs ?_ ?_); exact rfl; intro w2 g2 hc2 hb2 hg2; have HA := hid (HA0.out.below HR.out hb2); have HC := hid (RBox.mk' HS.out hc2); have a40 := HA.out.c40; have b40 := HC.out.c40; rw [hpv] at a40; rw [hqv] at b40; have HB := hid (below_on HB0.out hb2); have HP2 := hid ((HP.out.below HB0.out).below hb2); have HQ2 := hid ((HQ.out.below HB0.out).below hb2); clear hc2 hb2 HA0)
   | ((with_reducible refine wpList_boxR rfl _ rfl r.cs ?_ ?_); exact rfl; intro w1 g1 hc1 hb1 hg1; have HA0 := hid (RBox.mk' HR.out hc1); have HB0 := hid hb1; clear hc1 hb1))
  rw [hpv] at HP2
  rw [hqv] at HQ2
  go_loopw [5] (fun v wr => ∃ k : Nat, k ≤ ps.length ∧ v = i64 k ∧ Below w2.heap.size w2 wr ∧ ∀ i, i < k → ps.getD i (0, 0) = qs.getD i (0, 0)) (fun v _ => (ps.length - intOf v).toNat)
  case atStart => exact ⟨0, by omega, rfl, Below.refl _ _, fun i hi => by omega⟩
  case round =>
   obtain ⟨k, hk, rfl, hw, hok⟩ := hrel
   have HOK := hid hok
   have HW := hid hw
   have HA2 := hid (HA.out.below HR.out hw)
   have HC2 := hid (HC.out.below HS.out hw)
   have a40' := HA2.out.c40
   have b40' := HC2.out.c40
   rw [hpv] at a40'
   rw [hqv] at b40'
   clear hok a40 b40
   by_cases hlt : k < ps.length
   ·have hlt' : (k : Int) < (ps.length : Int) := by omega
    have hlt2 : (k : Int) < (qs.length : Int) := by omega
    obtain ⟨b, o, hpo, x1, x2⟩ := (HP2.out.below hw).at hlt
    obtain ⟨b', o', hqo, y1, y2⟩ := (HQ2.out.below hw).at (show k < qs.length by omega)
    subst hpo hqo
    clear hw
    have hdisc : ps.getD k (0, 0) ≠ qs.getD k (0, 0) → dd = false := fun h => HNE.out fun e => h (by rw [e])
    have HX := hid hdisc
    clear hdisc
    clear h0 h1 h2 h3 h4 h5 h6 h7 h10 hsum
    by_cases hX : (ps.getD k (0, 0)).1 = (qs.getD k (0, 0)).1
    ·by_cases hY : (ps.getD k (0, 0)).2 = (qs.getD k (0, 0)).2
     ·have HXY : Hid (ps.getD k (0, 0) = qs.getD k (0, 0)) := Prod.ext hX hY
      rw [← hX] at y1
      rw [← hY] at y2
      clear hX hY
      generalize (ps.getD k (0, 0)).1 = X1 at *
      generalize (ps.getD k (0, 0)).2 = X2 at *
      go_wp2
      go_region
      go_wp2
      exact ⟨⟨k + 1, by omega, by simp, HW.out.drew, fun i hi => (by
       by_cases e : i = k
       ·rw [e]; exact HXY.out
       ·exact HOK.out i (by omega))⟩, by simp [intOf]; omega⟩
     ·have e := HX.out fun e => hY (by rw [e])
      have E := hid e
      clear e
      rw [← hX] at y1
      clear hX HX
      generalize (ps.getD k (0, 0)).1 = X1 at *
      generalize (ps.getD k (0, 0)).2 = X2 at *
      generalize (qs.getD k (0, 0)).2 = Y2 at *
      go_wp2
      go_region
      go_wp2
      go_ret
      exact ⟨by rw [E.out]; rfl, (below_on HB.out HW.out).drew⟩
    ·have e := HX.out fun e => hX (by rw [e])
     have E := hid e
     clear e HX
     generalize (ps.getD k (0, 0)).1 = X1 at *
     generalize (ps.getD k (0, 0)).2 = X2 at *
     generalize (qs.getD k (0, 0)).1 = Y1 at *
     generalize (qs.getD k (0, 0)).2 = Y2 at *
     go_wp2
     go_region
     go_wp2
     go_ret
     exact ⟨by rw [E.out]; rfl, (below_on HB.out HW.out).drew⟩
   ·have hlt' : ¬ (k : Int) < (ps.length : Int) := by omega
    have heq : ps = qs := List.ext_getElem hlen fun i h1 h2 => by
     have := HOK.out i (by omega)
     simpa [List.getD, h1, h2] using this
    have E : Hid (dd = true) := HD.out heq
    clear heq hw
    have a0 := HA2.out.c0
    have b0 := HC2.out.c0
    have a1 := HA2.out.c1
    have b1 := HC2.out.c1
    have a2 := HA2.out.c2
    have b2 := HC2.out.c2
    have a3 := HA2.out.c3
    have b3 := HC2.out.c3
    have a4 := HA2.out.c4
    have b4 := HC2.out.c4
    have a5 := HA2.out.c5
    have b5 := HC2.out.c5
    have a6 := HA2.out.c6
    have b6 := HC2.out.c6
    have a7 := HA2.out.c7
    have b7 := HC2.out.c7
    have a41 := HA2.out.c41
    have b41 := HC2.out.c41
    go_wp2_with (first
     | ((with_reducible refine wpList_load_at 37 _ rfl ?_ g1 8 ?_ (sumC r.sum) (.array 32 5) ?_ underD rfl ?_ ?_); exact rfl; exact rfl; exact HA2.out.cs; (rw [sumC_size, HR.out.sl]; exact sizeD))
     | ((with_reducible refine wpList_load_at 37 _ rfl ?_ g2 8 ?_ (sumC s.sum) (.array 32 5) ?_ underD rfl ?_ ?_); exact rfl; exact rfl; exact HC2.out.cs; (rw [sumC_size, HS.out.sl]; exact sizeD)))
    go_ret
    exact ⟨by rw [E.out]; rfl, below_on HB.out HW.out⟩
 ·have hlen' : ((ps.length : Int) == (qs.length : Int)) = false := by simp; omega
  have E : Hid (dd = false) := HNE.out fun e => hlen (by rw [e])
  clear h0 h1 h2 h3 h4 h5 h6 h7 h10 hsum
  go_enter Tryz.func26, Tryz.ntmps26
  go_wp2_with (first
   | ((with_reducible refine wpList_boxR rfl _ rfl s.cs ?_ ?_); exact rfl; intro w2 g2 hc2 hb2 hg2; have HA := hid (HA0.out.below HR.out hb2); have HC := hid (RBox.mk' HS.out hc2); have a40 := HA.out.c40; have b40 := HC.out.c40; rw [hpv] at a40; rw [hqv] at b40; have HB := hid (below_on HB0.out hb2); clear hc2 hb2 HA0)
   | ((with_reducible refine wpList_boxR rfl _ rfl r.cs ?_ ?_); exact rfl; intro w1 g1 hc1 hb1 hg1; have HA0 := hid (RBox.mk' HR.out hc1); have HB0 := hid hb1; clear hc1 hb1))
  go_ret
  exact ⟨by rw [E.out]; rfl, HB.out⟩
end Go.Proofs.YtopibkoklagceaaGreat

/- Contract of the document's Same, some cases. (Written by tools/gen_Vv.py.) -/
namespace Go.Proofs.YtopibkoklagceaaGreat
open Go Go.RowKit

theorem rsame_any (r s : Rv) (hr : r.ok) (hs : s.ok) (ps qs : Ps) (w : World) (hp : PL w r.pv ps) (hq : PL w s.pv qs) : Calls Tryz.prog 26 #[.agg r.cs, .agg s.cs] w fun e w' => e = .returned (.bool (decide (r.rc ps = s.rc qs))) ∧ Below w.heap.size w w' := by
 cases h0 : (r.id.toList == s.id.toList)
 ·exact rsame_0 r s hr hs ps qs w hp hq h0
 cases h1 : (r.time == s.time)
 ·exact rsame_1 r s hr hs ps qs w hp hq h0 h1
 cases h2 : (r.mark == s.mark)
 ·exact rsame_2 r s hr hs ps qs w hp hq h0 h1 h2
 cases h3 : (r.size == s.size)
 ·exact rsame_3 r s hr hs ps qs w hp hq h0 h1 h2 h3
 cases h4 : (r.etag.toList == s.etag.toList)
 ·exact rsame_4 r s hr hs ps qs w hp hq h0 h1 h2 h3 h4
 cases h5 : (r.k == s.k)
 ·exact rsame_5 r s hr hs ps qs w hp hq h0 h1 h2 h3 h4 h5
 cases h6 : (r.m == s.m)
 ·exact rsame_6 r s hr hs ps qs w hp hq h0 h1 h2 h3 h4 h5 h6
 cases h7 : (r.data.toList == s.data.toList)
 ·exact rsame_7 r s hr hs ps qs w hp hq h0 h1 h2 h3 h4 h5 h6 h7
 cases h8 : decide (r.sum = s.sum)
 ·exact rsame_8 r s hr hs ps qs w hp hq h0 h1 h2 h3 h4 h5 h6 h7 h8
 cases h10 : (r.up.toList == s.up.toList)
 ·exact rsame_9 r s hr hs ps qs w hp hq h0 h1 h2 h3 h4 h5 h6 h7 h8 h10
 exact rsame_10 r s hr hs ps qs w hp hq h0 h1 h2 h3 h4 h5 h6 h7 h8 h10
end Go.Proofs.YtopibkoklagceaaGreat

/- RecordTells: records that came in; what is carried through its walk; its early ends. -/
namespace Go.Proofs.YtopibkoklagceaaGreat
open Go Go.RowKit

/-- What is told of a record that came in; its parts have room only where they lie somewhere. -/
def IsRN (w : World) (r : Rv) : Prop := IsR w r ∧ ∀ n c, r.pv = .slice none n c → c = 0
section
variable {H : Type} {enc : TypeId × Value → H} {w : World} {held : Bool} {fuel : Nat}
set_option maxRecDepth 100000 in
theorem rec_nil {cs : List Value} {x : DataW H × List MemPlace} (h : DataW.trod enc Tryz.prog w 0 (fun _ => true) held fuel 40 cs = some x) (n c : Nat) (e : cs[40]? = some (.slice none n c)) : c = 0 := by
 obtain ⟨xs, m, _, _, hcl, hxl, hf⟩ := DataW.trod_struct Tryz.underlying40 h
 have hx : xs.length = 11 := by rw [hxl]; rfl
 have kP : Tryz.prog.cellsOf 38 = 1 := by kernel_rfl
 match xs, hx with
 | [y0, y1, y2, y3, y4, y5, y6, y7, y8, y9, y10], _ =>
  have f9 : DataW.trod enc Tryz.prog w 0 (fun _ => true) held m 38 ((cs.drop 40).take (Tryz.prog.cellsOf 38)) = some y9 := hf 9 _ rfl
  rw [kP] at f9
  rcases DataW.trod_slice Tryz.underlying38 f9 with ⟨hcs, _⟩ | ⟨ad, l, c', elems, rest, n', _, hcs, _⟩
  ·have e2 := congrArg (·[0]?) hcs
   simp only [List.getElem?_take, List.getElem?_drop] at e2
   rw [show 40 + 0 = 40 from rfl, e] at e2
   simp at e2
   exact e2.2
  ·have e2 := congrArg (·[0]?) hcs
   simp only [List.getElem?_take, List.getElem?_drop] at e2
   rw [show 40 + 0 = 40 from rfl, e] at e2
   simp at e2
theorem rec_read2 {cs : List Value} {x : DataW H × List MemPlace} (h : DataW.trod enc Tryz.prog w 0 (fun _ => true) held fuel 40 cs = some x) : ∃ r : Rv, IsRN w r ∧ cs = r.cs.toList := by
 obtain ⟨r, hr, e⟩ := rec_read h
 refine ⟨r, ⟨hr, fun n c hp => rec_nil h n c ?_⟩, e⟩
 rw [e, Array.getElem?_toList, Rv.pv_at hr.sl, hp]
end
/-- What is carried: the two records, the copy of the first, the lent bytes. -/
structure Tl (w : World) (ra rb ri : Rv) (ps qs : Ps) (ga gb gi gl : Nat) (b : Option Addr) (bs : List Nat) (W : World) : Prop where
 below : Below w.heap.size w W
 ca : CAt W ga ra.cs 40
 cb : CAt W gb rb.cs 40
 ci : CAt W gi ri.cs 40
 pa : PL W ra.pv ps
 pb : PL W rb.pv qs
 pi : PL W ri.pv ps
 le : Lent W gl bs
 bl : BL W b bs
theorem Tl.on {w W W' : World} {ra rb ri : Rv} {ps qs : Ps} {ga gb gi gl : Nat} {b : Option Addr} {bs : List Nat} (h : Tl w ra rb ri ps qs ga gb gi gl b bs W) (hb : Below W.heap.size W W') : Tl w ra rb ri ps qs ga gb gi gl b bs W' :=
 ⟨below_on h.below hb, h.ca.below hb, h.cb.below hb, h.ci.below hb, h.pa.below hb, h.pb.below hb, h.pi.below hb, h.le.below hb, h.bl.below hb⟩
end Go.Proofs.YtopibkoklagceaaGreat
