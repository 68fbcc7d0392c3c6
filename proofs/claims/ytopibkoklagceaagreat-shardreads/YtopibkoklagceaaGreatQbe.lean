/- Texts laid into one, cut to what is needed: the remark ahead of each part says what is proved there. -/
import Derived.Test.YtopibkoklagceaaGreatQac
import Derived.Test.YtopibkoklagceaaGreatQad
/- Contract of the document's Same, some cases. (Written by tools/gen_Vv.py.) -/
namespace Go.Proofs.YtopibkoklagceaaGreat
open Go Go.RowKit

set_option maxRecDepth 100000 in
set_option maxHeartbeats 2000000 in
theorem rsame_0 (r s : Rv) (hr : r.ok) (hs : s.ok) (ps qs : Ps) (w : World) (hp : PL w r.pv ps) (hq : PL w s.pv qs)  (h0 : (r.id.toList == s.id.toList) = false) : Calls Tryz.prog 26 #[.agg r.cs, .agg s.cs] w fun e w' => e = .returned (.bool (decide (r.rc ps = s.rc qs))) ∧ Below w.heap.size w w' := by
 have HD : Hid (decide (r.rc ps = s.rc qs) = false) := rc_ne (by rintro ⟨k0, k1, k2, k3, k4, k5, k6, k7, k8, k9, k10⟩; rw [k0] at h0; cases h0)
 have HNE : Hid (ps ≠ qs → decide (r.rc ps = s.rc qs) = false) := fun h => decide_eq_false fun e => h (congrArg Rc.parts e)
 have HR := hid hr
 have HS := hid hs
 have HP := hid hp
 have HQ := hid hq
 obtain ⟨p1, d1, hpv, hpc, hpl, _⟩ := hp
 obtain ⟨p2, d2, hqv, hqc, hql, _⟩ := hq
 clear hr hs
 generalize decide (r.rc ps = s.rc qs) = dd at *
 by_cases hlen : ps.length = qs.length
 ·have hlen' : ((ps.length : Int) == (qs.length : Int)) = true := by simp; omega
  go_enter Tryz.func26, Tryz.ntmps26
  go_wp2_with (first
   | ((with_reducible refine wpList_boxR rfl _ rfl s.cs ?_ ?_); exact rfl; intro w2 g2 hc2 hb2 hg2; have HA := hid (HA0.out.below HR.out hb2); have HC := hid (RBox.mk' HS.out hc2); have a40 := HA.out.c40; have b40 := HC.out.c40; rw [hpv] at a40; rw [hqv] at b40; have HB := hid (below_on HB0.out hb2); have HP2 := hid ((HP.out.below HB0.out).below hb2); have HQ2 := hid ((HQ.out.below HB0.out).below hb2); clear hc2 hb2 HA0)
   | ((with_reducible refine wpList_boxR rfl _ rfl r.cs ?_ ?_); exact rfl; intro w1 g1 hc1 hb1 hg1; have HA0 := hid (RBox.mk' HR.out hc1); have HB0 := hid hb1; clear hc1 hb1))
  rw [hpv] at HP2
  rw [hqv] at HQ2
  go_loopw [5] (fun v wr => ∃ k : Nat, k ≤ ps.length ∧ v = i64 k ∧ Below w2.heap.size w2 wr ∧ ∀ i, i < k → ps.getD i (0, 0) = qs.getD i (0, 0)) (fun v _ => (ps.length - intOf v).toNat)
  case atStart => exact ⟨0, by omega, rfl, Below.refl _ _, fun i hi => by omega⟩
  case round =>
   obtain ⟨k, hk, rfl, hw, hok⟩ := hrel
   have HOK := hid hok
   have HW := hid hw
   have HA2 := hid (HA.out.below HR.out hw)
   have HC2 := hid (HC.out.below HS.out hw)
   have a40' := HA2.out.c40
   have b40' := HC2.out.c40
   rw [hpv] at a40'
   rw [hqv] at b40'
   clear hok a40 b40
   by_cases hlt : k < ps.length
   ·have hlt' : (k : Int) < (ps.length : Int) := by omega
    have hlt2 : (k : Int) < (qs.length : Int) := by omega
    obtain ⟨b, o, hpo, x1, x2⟩ := (HP2.out.below hw).at hlt
    obtain ⟨b', o', hqo, y1, y2⟩ := (HQ2.out.below hw).at (show k < qs.length by omega)
    subst hpo hqo
    clear hw
    have hdisc : ps.getD k (0, 0) ≠ qs.getD k (0, 0) → dd = false := fun h => HNE.out fun e => h (by rw [e])
    have HX := hid hdisc
    clear hdisc
    clear h0
    by_cases hX : (ps.getD k (0, 0)).1 = (qs.getD k (0, 0)).1
    ·by_cases hY : (ps.getD k (0, 0)).2 = (qs.getD k (0, 0)).2
     ·have HXY : Hid (ps.getD k (0, 0) = qs.getD k (0, 0)) := Prod.ext hX hY
      rw [← hX] at y1
      rw [← hY] at y2
      clear hX hY
      generalize (ps.getD k (0, 0)).1 = X1 at *
      generalize (ps.getD k (0, 0)).2 = X2 at *
      go_wp2
      go_region
      go_wp2
      exact ⟨⟨k + 1, by omega, by simp, HW.out.drew, fun i hi => (by
       by_cases e : i = k
       ·rw [e]; exact HXY.out
       ·exact HOK.out i (by omega))⟩, by simp [intOf]; omega⟩
     ·have e := HX.out fun e => hY (by rw [e])
      have E := hid e
      clear e
      rw [← hX] at y1
      clear hX HX
      generalize (ps.getD k (0, 0)).1 = X1 at *
      generalize (ps.getD k (0, 0)).2 = X2 at *
      generalize (qs.getD k (0, 0)).2 = Y2 at *
      go_wp2
      go_region
      go_wp2
      go_ret
      exact ⟨by rw [E.out]; rfl, (below_on HB.out HW.out).drew⟩
    ·have e := HX.out fun e => hX (by rw [e])
     have E := hid e
     clear e HX
     generalize (ps.getD k (0, 0)).1 = X1 at *
     generalize (ps.getD k (0, 0)).2 = X2 at *
     generalize (qs.getD k (0, 0)).1 = Y1 at *
     generalize (qs.getD k (0, 0)).2 = Y2 at *
     go_wp2
     go_region
     go_wp2
     go_ret
     exact ⟨by rw [E.out]; rfl, (below_on HB.out HW.out).drew⟩
   ·have hlt' : ¬ (k : Int) < (ps.length : Int) := by omega
    have heq : ps = qs := List.ext_getElem hlen fun i h1 h2 => by
     have := HOK.out i (by omega)
     simpa [List.getD, h1, h2] using this
    have E : Hid (dd = false) := HD.out
    clear heq hw
    have a0 := HA2.out.c0
    have b0 := HC2.out.c0
    go_wp2_with (first
     | fail)
    go_ret
    exact ⟨by rw [E.out]; rfl, below_on HB.out HW.out⟩
 ·have hlen' : ((ps.length : Int) == (qs.length : Int)) = false := by simp; omega
  have E : Hid (dd = false) := HNE.out fun e => hlen (by rw [e])
  clear h0
  go_enter Tryz.func26, Tryz.ntmps26
  go_wp2_with (first
   | ((with_reducible refine wpList_boxR rfl _ rfl s.cs ?_ ?_); exact rfl; intro w2 g2 hc2 hb2 hg2; have HA := hid (HA0.out.below HR.out hb2); have HC := hid (RBox.mk' HS.out hc2); have a40 := HA.out.c40; have b40 := HC.out.c40; rw [hpv] at a40; rw [hqv] at b40; have HB := hid (below_on HB0.out hb2); clear hc2 hb2 HA0)
   | ((with_reducible refine wpList_boxR rfl _ rfl r.cs ?_ ?_); exact rfl; intro w1 g1 hc1 hb1 hg1; have HA0 := hid (RBox.mk' HR.out hc1); have HB0 := hid hb1; clear hc1 hb1))
  go_ret
  exact ⟨by rw [E.out]; rfl, HB.out⟩
set_option maxRecDepth 100000 in
set_option maxHeartbeats 2000000 in
theorem rsame_1 (r s : Rv) (hr : r.ok) (hs : s.ok) (ps qs : Ps) (w : World) (hp : PL w r.pv ps) (hq : PL w s.pv qs) (h0 : (r.id.toList == s.id.toList) = true) (h1 : (r.time == s.time) = false) : Calls Tryz.prog 26 #[.agg r.cs, .agg s.cs] w fun e w' => e = .returned (.bool (decide (r.rc ps = s.rc qs))) ∧ Below w.heap.size w w' := by
 have HD : Hid (decide (r.rc ps = s.rc qs) = false) := rc_ne (by rintro ⟨k0, k1, k2, k3, k4, k5, k6, k7, k8, k9, k10⟩; rw [k1] at h1; cases h1)
 have HNE : Hid (ps ≠ qs → decide (r.rc ps = s.rc qs) = false) := fun h => decide_eq_false fun e => h (congrArg Rc.parts e)
 have HR := hid hr
 have HS := hid hs
 have HP := hid hp
 have HQ := hid hq
 obtain ⟨p1, d1, hpv, hpc, hpl, _⟩ := hp
 obtain ⟨p2, d2, hqv, hqc, hql, _⟩ := hq
 clear hr hs
 generalize decide (r.rc ps = s.rc qs) = dd at *
 by_cases hlen : ps.length = qs.length
 ·have hlen' : ((ps.length : Int) == (qs.length : Int)) = true := by simp; omega
  go_enter Tryz.func26, Tryz.ntmps26
  go_wp2_with (first
   | ((with_reducible refine wpList_boxR rfl _ rfl s.cs ?_ ?_); exact rfl; intro w2 g2 hc2 hb2 hg2; have HA := hid (HA0.out.below HR.out hb2); have HC := hid (RBox.mk' HS.out hc2); have a40 := HA.out.c40; have b40 := HC.out.c40; rw [hpv] at a40; rw [hqv] at b40; have HB := hid (below_on HB0.out hb2); have HP2 := hid ((HP.out.below HB0.out).below hb2); have HQ2 := hid ((HQ.out.below HB0.out).below hb2); clear hc2 hb2 HA0)
   | ((with_reducible refine wpList_boxR rfl _ rfl r.cs ?_ ?_); exact rfl; intro w1 g1 hc1 hb1 hg1; have HA0 := hid (RBox.mk' HR.out hc1); have HB0 := hid hb1; clear hc1 hb1))
  rw [hpv] at HP2
  rw [hqv] at HQ2
  go_loopw [5] (fun v wr => ∃ k : Nat, k ≤ ps.length ∧ v = i64 k ∧ Below w2.heap.size w2 wr ∧ ∀ i, i < k → ps.getD i (0, 0) = qs.getD i (0, 0)) (fun v _ => (ps.length - intOf v).toNat)
  case atStart => exact ⟨0, by omega, rfl, Below.refl _ _, fun i hi => by omega⟩
  case round =>
   obtain ⟨k, hk, rfl, hw, hok⟩ := hrel
   have HOK := hid hok
   have HW := hid hw
   have HA2 := hid (HA.out.below HR.out hw)
   have HC2 := hid (HC.out.below HS.out hw)
   have a40' := HA2.out.c40
   have b40' := HC2.out.c40
   rw [hpv] at a40'
   rw [hqv] at b40'
   clear hok a40 b40
   by_cases hlt : k < ps.length
   ·have hlt' : (k : Int) < (ps.length : Int) := by omega
    have hlt2 : (k : Int) < (qs.length : Int) := by omega
    obtain ⟨b, o, hpo, x1, x2⟩ := (HP2.out.below hw).at hlt
    obtain ⟨b', o', hqo, y1, y2⟩ := (HQ2.out.below hw).at (show k < qs.length by omega)
    subst hpo hqo
    clear hw
    have hdisc : ps.getD k (0, 0) ≠ qs.getD k (0, 0) → dd = false := fun h => HNE.out fun e => h (by rw [e])
    have HX := hid hdisc
    clear hdisc
    clear h0 h1
    by_cases hX : (ps.getD k (0, 0)).1 = (qs.getD k (0, 0)).1
    ·by_cases hY : (ps.getD k (0, 0)).2 = (qs.getD k (0, 0)).2
     ·have HXY : Hid (ps.getD k (0, 0) = qs.getD k (0, 0)) := Prod.ext hX hY
      rw [← hX] at y1
      rw [← hY] at y2
      clear hX hY
      generalize (ps.getD k (0, 0)).1 = X1 at *
      generalize (ps.getD k (0, 0)).2 = X2 at *
      go_wp2
      go_region
      go_wp2
      exact ⟨⟨k + 1, by omega, by simp, HW.out.drew, fun i hi => (by
       by_cases e : i = k
       ·rw [e]; exact HXY.out
       ·exact HOK.out i (by omega))⟩, by simp [intOf]; omega⟩
     ·have e := HX.out fun e => hY (by rw [e])
      have E := hid e
      clear e
      rw [← hX] at y1
      clear hX HX
      generalize (ps.getD k (0, 0)).1 = X1 at *
      generalize (ps.getD k (0, 0)).2 = X2 at *
      generalize (qs.getD k (0, 0)).2 = Y2 at *
      go_wp2
      go_region
      go_wp2
      go_ret
      exact ⟨by rw [E.out]; rfl, (below_on HB.out HW.out).drew⟩
    ·have e := HX.out fun e => hX (by rw [e])
     have E := hid e
     clear e HX
     generalize (ps.getD k (0, 0)).1 = X1 at *
     generalize (ps.getD k (0, 0)).2 = X2 at *
     generalize (qs.getD k (0, 0)).1 = Y1 at *
     generalize (qs.getD k (0, 0)).2 = Y2 at *
     go_wp2
     go_region
     go_wp2
     go_ret
     exact ⟨by rw [E.out]; rfl, (below_on HB.out HW.out).drew⟩
   ·have hlt' : ¬ (k : Int) < (ps.length : Int) := by omega
    have heq : ps = qs := List.ext_getElem hlen fun i h1 h2 => by
     have := HOK.out i (by omega)
     simpa [List.getD, h1, h2] using this
    have E : Hid (dd = false) := HD.out
    clear heq hw
    have a0 := HA2.out.c0
    have b0 := HC2.out.c0
    have a1 := HA2.out.c1
    have b1 := HC2.out.c1
    go_wp2_with (first
     | fail)
    go_ret
    exact ⟨by rw [E.out]; rfl, below_on HB.out HW.out⟩
 ·have hlen' : ((ps.length : Int) == (qs.length : Int)) = false := by simp; omega
  have E : Hid (dd = false) := HNE.out fun e => hlen (by rw [e])
  clear h0 h1
  go_enter Tryz.func26, Tryz.ntmps26
  go_wp2_with (first
   | ((with_reducible refine wpList_boxR rfl _ rfl s.cs ?_ ?_); exact rfl; intro w2 g2 hc2 hb2 hg2; have HA := hid (HA0.out.below HR.out hb2); have HC := hid (RBox.mk' HS.out hc2); have a40 := HA.out.c40; have b40 := HC.out.c40; rw [hpv] at a40; rw [hqv] at b40; have HB := hid (below_on HB0.out hb2); clear hc2 hb2 HA0)
   | ((with_reducible refine wpList_boxR rfl _ rfl r.cs ?_ ?_); exact rfl; intro w1 g1 hc1 hb1 hg1; have HA0 := hid (RBox.mk' HR.out hc1); have HB0 := hid hb1; clear hc1 hb1))
  go_ret
  exact ⟨by rw [E.out]; rfl, HB.out⟩
set_option maxRecDepth 100000 in
set_option maxHeartbeats 2000000 in
theorem rsame_2 (r s : Rv) (hr : r.ok) (hs : s.ok) (ps qs : Ps) (w : World) (hp : PL w r.pv ps) (hq : PL w s.pv qs) (h0 : (r.id.toList == s.id.toList) = true) (h1 : (r.time == s.time) = true) (h2 : (r.mark == s.mark) = false) : Calls Tryz.prog 26 #[.agg r.cs, .agg s.cs] w fun e w' => e = .returned (.bool (decide (r.rc ps = s.rc qs))) ∧ Below w.heap.size w w' := by
 have HD : Hid (decide (r.rc ps = s.rc qs) = false) := rc_ne (by rintro ⟨k0, k1, k2, k3, k4, k5, k6, k7, k8, k9, k10⟩; rw [k2] at h2; cases h2)
 have HNE : Hid (ps ≠ qs → decide (r.rc ps = s.rc qs) = false) := fun h => decide_eq_false fun e => h (congrArg Rc.parts e)
 have HR := hid hr
 have HS := hid hs
 have HP := hid hp
 have HQ := hid hq
 obtain ⟨p1, d1, hpv, hpc, hpl, _⟩ := hp
 obtain ⟨p2, d2, hqv, hqc, hql, _⟩ := hq
 clear hr hs
 generalize decide (r.rc ps = s.rc qs) = dd at *
 by_cases hlen : ps.length = qs.length
 ·have hlen' : ((ps.length : Int) == (qs.length : Int)) = true := by simp; omega
  go_enter Tryz.func26, Tryz.ntmps26
  go_wp2_with (first
   | ((with_reducible refine wpList_boxR rfl _ rfl s.cs ?_ ?_); exact rfl; intro w2 g2 hc2 hb2 hg2; have HA := hid (HA0.out.below HR.out hb2); have HC := hid (RBox.mk' HS.out hc2); have a40 := HA.out.c40; have b40 := HC.out.c40; rw [hpv] at a40; rw [hqv] at b40; have HB := hid (below_on HB0.out hb2); have HP2 := hid ((HP.out.below HB0.out).below hb2); have HQ2 := hid ((HQ.out.below HB0.out).below hb2); clear hc2 hb2 HA0)
   | ((with_reducible refine wpList_boxR rfl _ rfl r.cs ?_ ?_); exact rfl; intro w1 g1 hc1 hb1 hg1; have HA0 := hid (RBox.mk' HR.out hc1); have HB0 := hid hb1; clear hc1 hb1))
  rw [hpv] at HP2
  rw [hqv] at HQ2
  go_loopw [5] (fun v wr => ∃ k : Nat, k ≤ ps.length ∧ v = i64 k ∧ Below w2.heap.size w2 wr ∧ ∀ i, i < k → ps.getD i (0, 0) = qs.getD i (0, 0)) (fun v _ => (ps.length - intOf v).toNat)
  case atStart => exact ⟨0, by omega, rfl, Below.refl _ _, fun i hi => by omega⟩
  case round =>
   obtain ⟨k, hk, rfl, hw, hok⟩ := hrel
   have HOK := hid hok
   have HW := hid hw
   have HA2 := hid (HA.out.below HR.out hw)
   have HC2 := hid (HC.out.below HS.out hw)
   have a40' := HA2.out.c40
   have b40' := HC2.out.c40
   rw [hpv] at a40'
   rw [hqv] at b40'
   clear hok a40 b40
   by_cases hlt : k < ps.length
   ·have hlt' : (k : Int) < (ps.length : Int) := by omega
    have hlt2 : (k : Int) < (qs.length : Int) := by omega
    obtain ⟨b, o, hpo, x1, x2⟩ := (HP2.out.below hw).at hlt
    obtain ⟨b', o', hqo, y1, y2⟩ := (HQ2.out.below hw).at (show k < qs.length by omega)
    subst hpo hqo
    clear hw
    have hdisc : ps.getD k (0, 0) ≠ qs.getD k (0, 0) → dd = false := fun h => HNE.out fun e => h (by rw [e])
    have HX := hid hdisc
    clear hdisc
    clear h0 h1 h2
    by_cases hX : (ps.getD k (0, 0)).1 = (qs.getD k (0, 0)).1
    ·by_cases hY : (ps.getD k (0, 0)).2 = (qs.getD k (0, 0)).2
     ·have HXY : Hid (ps.getD k (0, 0) = qs.getD k (0, 0)) := Prod.ext hX hY
      rw [← hX] at y1
      rw [← hY] at y2
      clear hX hY
      generalize (ps.getD k (0, 0)).1 = X1 at *
      generalize (ps.getD k (0, 0)).2 = X2 at *
      go_wp2
      go_region
      go_wp2
      exact ⟨⟨k + 1, by omega, by simp, HW.out.drew, fun i hi => (by
       by_cases e : i = k
       ·rw [e]; exact HXY.out
       ·exact HOK.out i (by omega))⟩, by simp [intOf]; omega⟩
     ·have e := HX.out fun e => hY (by rw [e])
      have E := hid e
      clear e
      rw [← hX] at y1
      clear hX HX
      generalize (ps.getD k (0, 0)).1 = X1 at *
      generalize (ps.getD k (0, 0)).2 = X2 at *
      generalize (qs.getD k (0, 0)).2 = Y2 at *
      go_wp2
      go_region
      go_wp2
      go_ret
      exact ⟨by rw [E.out]; rfl, (below_on HB.out HW.out).drew⟩
    ·have e := HX.out fun e => hX (by rw [e])
     have E := hid e
     clear e HX
     generalize (ps.getD k (0, 0)).1 = X1 at *
     generalize (ps.getD k (0, 0)).2 = X2 at *
     generalize (qs.getD k (0, 0)).1 = Y1 at *
     generalize (qs.getD k (0, 0)).2 = Y2 at *
     go_wp2
     go_region
     go_wp2
     go_ret
     exact ⟨by rw [E.out]; rfl, (below_on HB.out HW.out).drew⟩
   ·have hlt' : ¬ (k : Int) < (ps.length : Int) := by omega
    have heq : ps = qs := List.ext_getElem hlen fun i h1 h2 => by
     have := HOK.out i (by omega)
     simpa [List.getD, h1, h2] using this
    have E : Hid (dd = false) := HD.out
    clear heq hw
    have a0 := HA2.out.c0
    have b0 := HC2.out.c0
    have a1 := HA2.out.c1
    have b1 := HC2.out.c1
    have a2 := HA2.out.c2
    have b2 := HC2.out.c2
    go_wp2_with (first
     | fail)
    go_ret
    exact ⟨by rw [E.out]; rfl, below_on HB.out HW.out⟩
 ·have hlen' : ((ps.length : Int) == (qs.length : Int)) = false := by simp; omega
  have E : Hid (dd = false) := HNE.out fun e => hlen (by rw [e])
  clear h0 h1 h2
  go_enter Tryz.func26, Tryz.ntmps26
  go_wp2_with (first
   | ((with_reducible refine wpList_boxR rfl _ rfl s.cs ?_ ?_); exact rfl; intro w2 g2 hc2 hb2 hg2; have HA := hid (HA0.out.below HR.out hb2); have HC := hid (RBox.mk' HS.out hc2); have a40 := HA.out.c40; have b40 := HC.out.c40; rw [hpv] at a40; rw [hqv] at b40; have HB := hid (below_on HB0.out hb2); clear hc2 hb2 HA0)
   | ((with_reducible refine wpList_boxR rfl _ rfl r.cs ?_ ?_); exact rfl; intro w1 g1 hc1 hb1 hg1; have HA0 := hid (RBox.mk' HR.out hc1); have HB0 := hid hb1; clear hc1 hb1))
  go_ret
  exact ⟨by rw [E.out]; rfl, HB.out⟩
set_option maxRecDepth 100000 in
set_option maxHeartbeats 2000000 in
theorem rsame_3 (r s : Rv) (hr : r.ok) (hs : s.ok) (ps qs : Ps) (w : World) (hp : PL w r.pv ps) (hq : PL w s.pv qs) (h0 : (r.id.toList == s.id.toList) = true) (h1 : (r.time == s.time) = true) (h2 : (r.mark == s.mark) = true) (h3 : (r.size == s.size) = false) : Calls Tryz.prog 26 #[.agg r.cs, .agg s.cs] w fun e w' => e = .returned (.bool (decide (r.rc ps = s.rc qs))) ∧ Below w.heap.size w w' := by
 have HD : Hid (decide (r.rc ps = s.rc qs) = false) := rc_ne (by rintro ⟨k0, k1, k2, k3, k4, k5, k6, k7, k8, k9, k10⟩; rw [k3] at h3; cases h3)
 have HNE : Hid (ps ≠ qs → decide (r.rc ps = s.rc qs) = false) := fun h => decide_eq_false fun e => h (congrArg Rc.parts e)
 have HR := hid hr
 have HS := hid hs
 have HP := hid hp
 have HQ := hid hq
 obtain ⟨p1, d1, hpv, hpc, hpl, _⟩ := hp
 obtain ⟨p2, d2, hqv, hqc, hql, _⟩ := hq
 clear hr hs
 generalize decide (r.rc ps = s.rc qs) = dd at *
 by_cases hlen : ps.length = qs.length
 ·have hlen' : ((ps.length : Int) == (qs.length : Int)) = true := by simp; omega
  go_enter Tryz.func26, Tryz.ntmps26
  go_wp2_with (first
   | ((with_reducible refine wpList_boxR rfl _ rfl s.cs ?_ ?_); exact rfl; intro w2 g2 hc2 hb2 hg2; have HA := hid (HA0.out.below HR.out hb2); have HC := hid (RBox.mk' HS.out hc2); have a40 := HA.out.c40; have b40 := HC.out.c40; rw [hpv] at a40; rw [hqv] at b40; have HB := hid (below_on HB0.out hb2); have HP2 := hid ((HP.out.below HB0.out).below hb2); have HQ2 := hid ((HQ.out.below HB0.out).below hb2); clear hc2 hb2 HA0)
   | ((with_reducible refine wpList_boxR rfl _ rfl r.cs ?_ ?_); exact rfl; intro w1 g1 hc1 hb1 hg1; have HA0 := hid (RBox.mk' HR.out hc1); have HB0 := hid hb1; clear hc1 hb1))
  rw [hpv] at HP2
  rw [hqv] at HQ2
  go_loopw [5] (fun v wr => ∃ k : Nat, k ≤ ps.length ∧ v = i64 k ∧ Below w2.heap.size w2 wr ∧ ∀ i, i < k → ps.getD i (0, 0) = qs.getD i (0, 0)) (fun v _ => (ps.length - intOf v).toNat)
  case atStart => exact ⟨0, by omega, rfl, Below.refl _ _, fun i hi => by omega⟩
  case round =>
   obtain ⟨k, hk, rfl, hw, hok⟩ := hrel
   have HOK := hid hok
   have HW := hid hw
   have HA2 := hid (HA.out.below HR.out hw)
   have HC2 := hid (HC.out.below HS.out hw)
   have a40' := HA2.out.c40
   have b40' := HC2.out.c40
   rw [hpv] at a40'
   rw [hqv] at b40'
   clear hok a40 b40
   by_cases hlt : k < ps.length
   ·have hlt' : (k : Int) < (ps.length : Int) := by omega
    have hlt2 : (k : Int) < (qs.length : Int) := by omega
    obtain ⟨b, o, hpo, x1, x2⟩ := (HP2.out.below hw).at hlt
    obtain ⟨b', o', hqo, y1, y2⟩ := (HQ2.out.below hw).at (show k < qs.length by omega)
    subst hpo hqo
    clear hw
    have hdisc : ps.getD k (0, 0) ≠ qs.getD k (0, 0) → dd = false := fun h => HNE.out fun e => h (by rw [e])
    have HX := hid hdisc
    clear hdisc
    clear h0 h1 h2 h3
    by_cases hX : (ps.getD k (0, 0)).1 = (qs.getD k (0, 0)).1
    ·by_cases hY : (ps.getD k (0, 0)).2 = (qs.getD k (0, 0)).2
     ·have HXY : Hid (ps.getD k (0, 0) = qs.getD k (0, 0)) := Prod.ext hX hY
      rw [← hX] at y1
      rw [← hY] at y2
      clear hX hY
      generalize (ps.getD k (0, 0)).1 = X1 at *
      generalize (ps.getD k (0, 0)).2 = X2 at *
      go_wp2
      go_region
      go_wp2
      exact ⟨⟨k + 1, by omega, by simp, HW.out.drew, fun i hi => (by
       by_cases e : i = k
       ·rw [e]; exact HXY.out
       ·exact HOK.out i (by omega))⟩, by simp [intOf]; omega⟩
     ·have e := HX.out fun e => hY (by rw [e])
      have E := hid e
      clear e
      rw [← hX] at y1
      clear hX HX
      generalize (ps.getD k (0, 0)).1 = X1 at *
      generalize (ps.getD k (0, 0)).2 = X2 at *
      generalize (qs.getD k (0, 0)).2 = Y2 at *
      go_wp2
      go_region
      go_wp2
      go_ret
      exact ⟨by rw [E.out]; rfl, (below_on HB.out HW.out).drew⟩
    ·have e := HX.out fun e => hX (by rw [e])
     have E := hid e
     clear e HX
     generalize (ps.getD k (0, 0)).1 = X1 at *
     generalize (ps.getD k (0, 0)).2 = X2 at *
     generalize (qs.getD k (0, 0)).1 = Y1 at *
     generalize (qs.getD k (0, 0)).2 = Y2 at *
     go_wp2
     go_region
     go_wp2
     go_ret
     exact ⟨by rw [E.out]; rfl, (below_on HB.out HW.out).drew⟩
   ·have hlt' : ¬ (k : Int) < (ps.length : Int) := by omega
    have heq : ps = qs := List.ext_getElem hlen fun i h1 h2 => by
     have := HOK.out i (by omega)
     simpa [List.getD, h1, h2] using this
    have E : Hid (dd = false) := HD.out
    clear heq hw
    have a0 := HA2.out.c0
    have b0 := HC2.out.c0
    have a1 := HA2.out.c1
    have b1 := HC2.out.c1
    have a2 := HA2.out.c2
    have b2 := HC2.out.c2
    have a3 := HA2.out.c3
    have b3 := HC2.out.c3
    go_wp2_with (first
     | fail)
    go_ret
    exact ⟨by rw [E.out]; rfl, below_on HB.out HW.out⟩
 ·have hlen' : ((ps.length : Int) == (qs.length : Int)) = false := by simp; omega
  have E : Hid (dd = false) := HNE.out fun e => hlen (by rw [e])
  clear h0 h1 h2 h3
  go_enter Tryz.func26, Tryz.ntmps26
  go_wp2_with (first
   | ((with_reducible refine wpList_boxR rfl _ rfl s.cs ?_ ?_); exact rfl; intro w2 g2 hc2 hb2 hg2; have HA := hid (HA0.out.below HR.out hb2); have HC := hid (RBox.mk' HS.out hc2); have a40 := HA.out.c40; have b40 := HC.out.c40; rw [hpv] at a40; rw [hqv] at b40; have HB := hid (below_on HB0.out hb2); clear hc2 hb2 HA0)
   | ((with_reducible refine wpList_boxR rfl _ rfl r.cs ?_ ?_); exact rfl; intro w1 g1 hc1 hb1 hg1; have HA0 := hid (RBox.mk' HR.out hc1); have HB0 := hid hb1; clear hc1 hb1))
  go_ret
  exact ⟨by rw [E.out]; rfl, HB.out⟩
end Go.Proofs.YtopibkoklagceaaGreat

/- Contract of the document's Same, some cases. (Written by tools/gen_Vv.py.) -/
namespace Go.Proofs.YtopibkoklagceaaGreat
open Go Go.RowKit

set_option maxRecDepth 100000 in
set_option maxHeartbeats 2000000 in
theorem rsame_4 (r s : Rv) (hr : r.ok) (hs : s.ok) (ps qs : Ps) (w : World) (hp : PL w r.pv ps) (hq : PL w s.pv qs) (h0 : (r.id.toList == s.id.toList) = true) (h1 : (r.time == s.time) = true) (h2 : (r.mark == s.mark) = true) (h3 : (r.size == s.size) = true) (h4 : (r.etag.toList == s.etag.toList) = false) : Calls Tryz.prog 26 #[.agg r.cs, .agg s.cs] w fun e w' => e = .returned (.bool (decide (r.rc ps = s.rc qs))) ∧ Below w.heap.size w w' := by
 have HD : Hid (decide (r.rc ps = s.rc qs) = false) := rc_ne (by rintro ⟨k0, k1, k2, k3, k4, k5, k6, k7, k8, k9, k10⟩; rw [k4] at h4; cases h4)
 have HNE : Hid (ps ≠ qs → decide (r.rc ps = s.rc qs) = false) := fun h => decide_eq_false fun e => h (congrArg Rc.parts e)
 have HR := hid hr
 have HS := hid hs
 have HP := hid hp
 have HQ := hid hq
 obtain ⟨p1, d1, hpv, hpc, hpl, _⟩ := hp
 obtain ⟨p2, d2, hqv, hqc, hql, _⟩ := hq
 clear hr hs
 generalize decide (r.rc ps = s.rc qs) = dd at *
 by_cases hlen : ps.length = qs.length
 ·have hlen' : ((ps.length : Int) == (qs.length : Int)) = true := by simp; omega
  go_enter Tryz.func26, Tryz.ntmps26
  go_wp2_with (first
   | ((with_reducible refine wpList_boxR rfl _ rfl s.cs ?_ ?_); exact rfl; intro w2 g2 hc2 hb2 hg2; have HA := hid (HA0.out.below HR.out hb2); have HC := hid (RBox.mk' HS.out hc2); have a40 := HA.out.c40; have b40 := HC.out.c40; rw [hpv] at a40; rw [hqv] at b40; have HB := hid (below_on HB0.out hb2); have HP2 := hid ((HP.out.below HB0.out).below hb2); have HQ2 := hid ((HQ.out.below HB0.out).below hb2); clear hc2 hb2 HA0)
   | ((with_reducible refine wpList_boxR rfl _ rfl r.cs ?_ ?_); exact rfl; intro w1 g1 hc1 hb1 hg1; have HA0 := hid (RBox.mk' HR.out hc1); have HB0 := hid hb1; clear hc1 hb1))
  rw [hpv] at HP2
  rw [hqv] at HQ2
  go_loopw [5] (fun v wr => ∃ k : Nat, k ≤ ps.length ∧ v = i64 k ∧ Below w2.heap.size w2 wr ∧ ∀ i, i < k → ps.getD i (0, 0) = qs.getD i (0, 0)) (fun v _ => (ps.length - intOf v).toNat)
  case atStart => exact ⟨0, by omega, rfl, Below.refl _ _, fun i hi => by omega⟩
  case round =>
   obtain ⟨k, hk, rfl, hw, hok⟩ := hrel
   have HOK := hid hok
   have HW := hid hw
   have HA2 := hid (HA.out.below HR.out hw)
   have HC2 := hid (HC.out.below HS.out hw)
   have a40' := HA2.out.c40
   have b40' := HC2.out.c40
   rw [hpv] at a40'
   rw [hqv] at b40'
   clear hok a40 b40
   by_cases hlt : k < ps.length
   ·have hlt' : (k : Int) < (ps.length : Int) := by omega
    have hlt2 : (k : Int) < (qs.length : Int) := by omega
    obtain ⟨b, o, hpo, x1, x2⟩ := (HP2.out.below hw).at hlt
    obtain ⟨b', o', hqo, y1, y2⟩ := (HQ2.out.below hw).at (show k < qs.length by omega)
    subst hpo hqo
    clear hw
    have hdisc : ps.getD k (0, 0) ≠ qs.getD k (0, 0) → dd = false := fun h => HNE.out fun e => h (by rw [e])
    have HX := hid hdisc
    clear hdisc
    clear h0 h1 h2 h3 h4
    by_cases hX : (ps.getD k (0, 0)).1 = (qs.getD k (0, 0)).1
    ·by_cases hY : (ps.getD k (0, 0)).2 = (qs.getD k (0, 0)).2
     ·have HXY : Hid (ps.getD k (0, 0) = qs.getD k (0, 0)) := Prod.ext hX hY
      rw [← hX] at y1
      rw [← hY] at y2
      clear hX hY
      generalize (ps.getD k (0, 0)).1 = X1 at *
      generalize (ps.getD k (0, 0)).2 = X2 at *
      go_wp2
      go_region
      go_wp2
      exact ⟨⟨k + 1, by omega, by simp, HW.out.drew, fun i hi => (by
       by_cases e : i = k
       ·rw [e]; exact HXY.out
       ·exact HOK.out i (by omega))⟩, by simp [intOf]; omega⟩
     ·have e := HX.out fun e => hY (by rw [e])
      have E := hid e
      clear e
      rw [← hX] at y1
      clear hX HX
      generalize (ps.getD k (0, 0)).1 = X1 at *
      generalize (ps.getD k (0, 0)).2 = X2 at *
      generalize (qs.getD k (0, 0)).2 = Y2 at *
      go_wp2
      go_region
      go_wp2
      go_ret
      exact ⟨by rw [E.out]; rfl, (below_on HB.out HW.out).drew⟩
    ·have e := HX.out fun e => hX (by rw [e])
     have E := hid e
     clear e HX
     generalize (ps.getD k (0, 0)).1 = X1 at *
     generalize (ps.getD k (0, 0)).2 = X2 at *
     generalize (qs.getD k (0, 0)).1 = Y1 at *
     generalize (qs.getD k (0, 0)).2 = Y2 at *
     go_wp2
     go_region
     go_wp2
     go_ret
     exact ⟨by rw [E.out]; rfl, (below_on HB.out HW.out).drew⟩
   ·have hlt' : ¬ (k : Int) < (ps.length : Int) := by omega
    have heq : ps = qs := List.ext_getElem hlen fun i h1 h2 => by
     have := HOK.out i (by omega)
     simpa [List.getD, h1, h2] using this
    have E : Hid (dd = false) := HD.out
    clear heq hw
    have a0 := HA2.out.c0
    have b0 := HC2.out.c0
    have a1 := HA2.out.c1
    have b1 := HC2.out.c1
    have a2 := HA2.out.c2
    have b2 := HC2.out.c2
    have a3 := HA2.out.c3
    have b3 := HC2.out.c3
    have a4 := HA2.out.c4
    have b4 := HC2.out.c4
    go_wp2_with (first
     | fail)
    go_ret
    exact ⟨by rw [E.out]; rfl, below_on HB.out HW.out⟩
 ·have hlen' : ((ps.length : Int) == (qs.length : Int)) = false := by simp; omega
  have E : Hid (dd = false) := HNE.out fun e => hlen (by rw [e])
  clear h0 h1 h2 h3 h4
  go_enter Tryz.func26, Tryz.ntmps26
  go_wp2_with (first
   | ((with_reducible refine wpList_boxR rfl _ rfl s.cs ?_ ?_); exact rfl; intro w2 g2 hc2 hb2 hg2; have HA := hid (HA0.out.below HR.out hb2); have HC := hid (RBox.mk' HS.out hc2); have a40 := HA.out.c40; have b40 := HC.out.c40; rw [hpv] at a40; rw [hqv] at b40; have HB := hid (below_on HB0.out hb2); clear hc2 hb2 HA0)
   | ((with_reducible refine wpList_boxR rfl _ rfl r.cs ?_ ?_); exact rfl; intro w1 g1 hc1 hb1 hg1; have HA0 := hid (RBox.mk' HR.out hc1); have HB0 := hid hb1; clear hc1 hb1))
  go_ret
  exact ⟨by rw [E.out]; rfl, HB.out⟩
set_option maxRecDepth 100000 in
set_option maxHeartbeats 2000000 in
theorem rsame_5 (r s : Rv) (hr : r.ok) (hs : s.ok) (ps qs : Ps) (w : World) (hp : PL w r.pv ps) (hq : PL w s.pv qs) (h0 : (r.id.toList == s.id.toList) = true) (h1 : (r.time == s.time) = true) (h2 : (r.mark == s.mark) = true) (h3 : (r.size == s.size) = true) (h4 : (r.etag.toList == s.etag.toList) = true) (h5 : (r.k == s.k) = false) : Calls Tryz.prog 26 #[.agg r.cs, .agg s.cs] w fun e w' => e = .returned (.bool (decide (r.rc ps = s.rc qs))) ∧ Below w.heap.size w w' := by
 have HD : Hid (decide (r.rc ps = s.rc qs) = false) := rc_ne (by rintro ⟨k0, k1, k2, k3, k4, k5, k6, k7, k8, k9, k10⟩; rw [k5] at h5; cases h5)
 have HNE : Hid (ps ≠ qs → decide (r.rc ps = s.rc qs) = false) := fun h => decide_eq_false fun e => h (congrArg Rc.parts e)
 have HR := hid hr
 have HS := hid hs
 have HP := hid hp
 have HQ := hid hq
 obtain ⟨p1, d1, hpv, hpc, hpl, _⟩ := hp
 obtain ⟨p2, d2, hqv, hqc, hql, _⟩ := hq
 clear hr hs
 generalize decide (r.rc ps = s.rc qs) = dd at *
 by_cases hlen : ps.length = qs.length
 ·have hlen' : ((ps.length : Int) == (qs.length : Int)) = true := by simp; omega
  go_enter Tryz.func26, Tryz.ntmps26
  go_wp2_with (first
   | ((with_reducible refine wpList_boxR rfl _ rfl s.cs ?_ ?_); exact rfl; intro w2 g2 hc2 hb2 hg2; have HA := hid (HA0.out.below HR.out hb2); have HC := hid (RBox.mk' HS.out hc2); have a40 := HA.out.c40; have b40 := HC.out.c40; rw [hpv] at a40; rw [hqv] at b40; have HB := hid (below_on HB0.out hb2); have HP2 := hid ((HP.out.below HB0.out).below hb2); have HQ2 := hid ((HQ.out.below HB0.out).below hb2); clear hc2 hb2 HA0)
   | ((with_reducible refine wpList_boxR rfl _ rfl r.cs ?_ ?_); exact rfl; intro w1 g1 hc1 hb1 hg1; have HA0 := hid (RBox.mk' HR.out hc1); have HB0 := hid hb1; clear hc1 hb1))
  rw [hpv] at HP2
  rw [hqv] at HQ2
  go_loopw [5] (fun v wr => ∃ k : Nat, k ≤ ps.length ∧ v = i64 k ∧ Below w2.heap.size w2 wr ∧ ∀ i, i < k → ps.getD i (0, 0) = qs.getD i (0, 0)) (fun v _ => (ps.length - intOf v).toNat)
  case atStart => exact ⟨0, by omega, rfl, Below.refl _ _, fun i hi => by omega⟩
  case round =>
   obtain ⟨k, hk, rfl, hw, hok⟩ := hrel
   have HOK := hid hok
   have HW := hid hw
   have HA2 := hid (HA.out.below HR.out hw)
   have HC2 := hid (HC.out.below HS.out hw)
   have a40' := HA2.out.c40
   have b40' := HC2.out.c40
   rw [hpv] at a40'
   rw [hqv] at b40'
   clear hok a40 b40
   by_cases hlt : k < ps.length
   ·have hlt' : (k : Int) < (ps.length : Int) := by omega
    have hlt2 : (k : Int) < (qs.length : Int) := by omega
    obtain ⟨b, o, hpo, x1, x2⟩ := (HP2.out.below hw).at hlt
    obtain ⟨b', o', hqo, y1, y2⟩ := (HQ2.out.below hw).at (show k < qs.length by omega)
    subst hpo hqo
    clear hw
    have hdisc : ps.getD k (0, 0) ≠ qs.getD k (0, 0) → dd = false := fun h => HNE.out fun e => h (by rw [e])
    have HX := hid hdisc
    clear hdisc
    clear h0 h1 h2 h3 h4 h5
    by_cases hX : (ps.getD k (0, 0)).1 = (qs.getD k (0, 0)).1
    ·by_cases hY : (ps.getD k (0, 0)).2 = (qs.getD k (0, 0)).2
     ·have HXY : Hid (ps.getD k (0, 0) = qs.getD k (0, 0)) := Prod.ext hX hY
      rw [← hX] at y1
      rw [← hY] at y2
      clear hX hY
      generalize (ps.getD k (0, 0)).1 = X1 at *
      generalize (ps.getD k (0, 0)).2 = X2 at *
      go_wp2
      go_region
      go_wp2
      exact ⟨⟨k + 1, by omega, by simp, HW.out.drew, fun i hi => (by
       by_cases e : i = k
       ·rw [e]; exact HXY.out
       ·exact HOK.out i (by omega))⟩, by simp [intOf]; omega⟩
     ·have e := HX.out fun e => hY (by rw [e])
      have E := hid e
      clear e
      rw [← hX] at y1
      clear hX HX
      generalize (ps.getD k (0, 0)).1 = X1 at *
      generalize (ps.getD k (0, 0)).2 = X2 at *
      generalize (qs.getD k (0, 0)).2 = Y2 at *
      go_wp2
      go_region
      go_wp2
      go_ret
      exact ⟨by rw [E.out]; rfl, (below_on HB.out HW.out).drew⟩
    ·have e := HX.out fun e => hX (by rw [e])
     have E := hid e
     clear e HX
     generalize (ps.getD k (0, 0)).1 = X1 at *
     generalize (ps.getD k (0, 0)).2 = X2 at *
     generalize (qs.getD k (0, 0)).1 = Y1 at *
     generalize (qs.getD k (0, 0)).2 = Y2 at *
     go_wp2
     go_region
     go_wp2
     go_ret
     exact ⟨by rw [E.out]; rfl, (below_on HB.out HW.out).drew⟩
   ·have hlt' : ¬ (k : Int) < (ps.length : Int) := by omega
    have heq : ps = qs := List.ext_getElem hlen fun i h1 h2 => by
     have := HOK.out i (by omega)
     simpa [List.getD, h1, h2] using this
    have E : Hid (dd = false) := HD.out
    clear heq hw
    have a0 := HA2.out.c0
    have b0 := HC2.out.c0
    have a1 := HA2.out.c1
    have b1 := HC2.out.c1
    have a2 := HA2.out.c2
    have b2 := HC2.out.c2
    have a3 := HA2.out.c3
    have b3 := HC2.out.c3
    have a4 := HA2.out.c4
    have b4 := HC2.out.c4
    have a5 := HA2.out.c5
    have b5 := HC2.out.c5
    go_wp2_with (first
     | fail)
    go_ret
    exact ⟨by rw [E.out]; rfl, below_on HB.out HW.out⟩
 ·have hlen' : ((ps.length : Int) == (qs.length : Int)) = false := by simp; omega
  have E : Hid (dd = false) := HNE.out fun e => hlen (by rw [e])
  clear h0 h1 h2 h3 h4 h5
  go_enter Tryz.func26, Tryz.ntmps26
  go_wp2_with (first
   | ((with_reducible refine wpList_boxR rfl _ rfl s.cs ?_ ?_); exact rfl; intro w2 g2 hc2 hb2 hg2; have HA := hid (HA0.out.below HR.out hb2); have HC := hid (RBox.mk' HS.out hc2); have a40 := HA.out.c40; have b40 := HC.out.c40; rw [hpv] at a40; rw [hqv] at b40; have HB := hid (below_on HB0.out hb2); clear hc2 hb2 HA0)
   | ((with_reducible refine wpList_boxR rfl _ rfl r.cs ?_ ?_); exact rfl; intro w1 g1 hc1 hb1 hg1; have HA0 := hid (RBox.mk' HR.out hc1); have HB0 := hid hb1; clear hc1 hb1))
  go_ret
  exact ⟨by rw [E.out]; rfl, HB.out⟩
set_option maxRecDepth 100000 in
set_option maxHeartbeats 2000000 in
theorem rsame_6 (r s : Rv) (hr : r.ok) (hs : s.ok) (ps qs : Ps) (w : World) (hp : PL w r.pv ps) (hq : PL w s.pv qs) (h0 : (r.id.toList == s.id.toList) = true) (h1 : (r.time == s.time) = true) (h2 : (r.mark == s.mark) = true) (h3 : (r.size == s.size) = true) (h4 : (r.etag.toList == s.etag.toList) = true) (h5 : (r.k == s.k) = true) (h6 : (r.m == s.m) = false) : Calls Tryz.prog 26 #[.agg r.cs, .agg s.cs] w fun e w' => e = .returned (.bool (decide (r.rc ps = s.rc qs))) ∧ Below w.heap.size w w' := by
 have HD : Hid (decide (r.rc ps = s.rc qs) = false) := rc_ne (by rintro ⟨k0, k1, k2, k3, k4, k5, k6, k7, k8, k9, k10⟩; rw [k6] at h6; cases h6)
 have HNE : Hid (ps ≠ qs → decide (r.rc ps = s.rc qs) = false) := fun h => decide_eq_false fun e => h (congrArg Rc.parts e)
 have HR := hid hr
 have HS := hid hs
 have HP := hid hp
 have HQ := hid hq
 obtain ⟨p1, d1, hpv, hpc, hpl, _⟩ := hp
 obtain ⟨p2, d2, hqv, hqc, hql, _⟩ := hq
 clear hr hs
 generalize decide (r.rc ps = s.rc qs) = dd at *
 by_cases hlen : ps.length = qs.length
 ·have hlen' : ((ps.length : Int) == (qs.length : Int)) = true := by simp; omega
  go_enter Tryz.func26, Tryz.ntmps26
  go_wp2_with (first
   | ((with_reducible refine wpList_boxR rfl _ rfl s.cs ?_ ?_); exact rfl; intro w2 g2 hc2 hb2 hg2; have HA := hid (HA0.out.below HR.out hb2); have HC := hid (RBox.mk' HS.out hc2); have a40 := HA.out.c40; have b40 := HC.out.c40; rw [hpv] at a40; rw [hqv] at b40; have HB := hid (below_on HB0.out hb2); have HP2 := hid ((HP.out.below HB0.out).below hb2); have HQ2 := hid ((HQ.out.below HB0.out).below hb2); clear hc2 hb2 HA0)
   | ((with_reducible refine wpList_boxR rfl _ rfl r.cs ?_ ?_); exact rfl; intro w1 g1 hc1 hb1 hg1; have HA0 := hid (RBox.mk' HR.out hc1); have HB0 := hid hb1; clear hc1 hb1))
  rw [hpv] at HP2
  rw [hqv] at HQ2
  go_loopw [5] (fun v wr => ∃ k : Nat, k ≤ ps.length ∧ v = i64 k ∧ Below w2.heap.size w2 wr ∧ ∀ i, i < k → ps.getD i (0, 0) = qs.getD i (0, 0)) (fun v _ => (ps.length - intOf v).toNat)
  case atStart => exact ⟨0, by omega, rfl, Below.refl _ _, fun i hi => by omega⟩
  case round =>
   obtain ⟨k, hk, rfl, hw, hok⟩ := hrel
   have HOK := hid hok
   have HW := hid hw
   have HA2 := hid (HA.out.below HR.out hw)
   have HC2 := hid (HC.out.below HS.out hw)
   have a40' := HA2.out.c40
   have b40' := HC2.out.c40
   rw [hpv] at a40'
   rw [hqv] at b40'
   clear hok a40 b40
   by_cases hlt : k < ps.length
   ·have hlt' : (k : Int) < (ps.length : Int) := by omega
    have hlt2 : (k : Int) < (qs.length : Int) := by omega
    obtain ⟨b, o, hpo, x1, x2⟩ := (HP2.out.below hw).at hlt
    obtain ⟨b', o', hqo, y1, y2⟩ := (HQ2.out.below hw).at (show k < qs.length by omega)
    subst hpo hqo
    clear hw
    have hdisc : ps.getD k (0, 0) ≠ qs.getD k (0, 0) → dd = false := fun h => HNE.out fun e => h (by rw [e])
    have HX := hid hdisc
    clear hdisc
    clear h0 h1 h2 h3 h4 h5 h6
    by_cases hX : (ps.getD k (0, 0)).1 = (qs.getD k (0, 0)).1
    ·by_cases hY : (ps.getD k (0, 0)).2 = (qs.getD k (0, 0)).2
     ·have HXY : Hid (ps.getD k (0, 0) = qs.getD k (0, 0)) := Prod.ext hX hY
      rw [← hX] at y1
      rw [← hY] at y2
      clear hX hY
      generalize (ps.getD k (0, 0)).1 = X1 at *
      generalize (ps.getD k (0, 0)).2 = X2 at *
      go_wp2
      go_region
      go_wp2
      exact ⟨⟨k + 1, by omega, by simp, HW.out.drew, fun i hi => (by
       by_cases e : i = k
       ·rw [e]; exact HXY.out
       ·exact HOK.out i (by omega))⟩, by simp [intOf]; omega⟩
     ·have e := HX.out fun e => hY (by rw [e])
      have E := hid e
      clear e
      rw [← hX] at y1
      clear hX HX
      generalize (ps.getD k (0, 0)).1 = X1 at *
      generalize (ps.getD k (0, 0)).2 = X2 at *
      generalize (qs.getD k (0, 0)).2 = Y2 at *
      go_wp2
      go_region
      go_wp2
      go_ret
      exact ⟨by rw [E.out]; rfl, (below_on HB.out HW.out).drew⟩
    ·have e := HX.out fun e => hX (by rw [e])
     have E := hid e
     clear e HX
     generalize (ps.getD k (0, 0)).1 = X1 at *
     generalize (ps.getD k (0, 0)).2 = X2 at *
     generalize (qs.getD k (0, 0)).1 = Y1 at *
     generalize (qs.getD k (0, 0)).2 = Y2 at *
     go_wp2
     go_region
     go_wp2
     go_ret
     exact ⟨by rw [E.out]; rfl, (below_on HB.out HW.out).drew⟩
   ·have hlt' : ¬ (k : Int) < (ps.length : Int) := by omega
    have heq : ps = qs := List.ext_getElem hlen fun i h1 h2 => by
     have := HOK.out i (by omega)
     simpa [List.getD, h1, h2] using this
    have E : Hid (dd = false) := HD.out
    clear heq hw
    have a0 := HA2.out.c0
    have b0 := HC2.out.c0
    have a1 := HA2.out.c1
    have b1 := HC2.out.c1
    have a2 := HA2.out.c2
    have b2 := HC2.out.c2
    have a3 := HA2.out.c3
    have b3 := HC2.out.c3
    have a4 := HA2.out.c4
    have b4 := HC2.out.c4
    have a5 := HA2.out.c5
    have b5 := HC2.out.c5
    have a6 := HA2.out.c6
    have b6 := HC2.out.c6
    go_wp2_with (first
     | fail)
    go_ret
    exact ⟨by rw [E.out]; rfl, below_on HB.out HW.out⟩
 ·have hlen' : ((ps.length : Int) == (qs.length : Int)) = false := by simp; omega
  have E : Hid (dd = false) := HNE.out fun e => hlen (by rw [e])
  clear h0 h1 h2 h3 h4 h5 h6
  go_enter Tryz.func26, Tryz.ntmps26
  go_wp2_with (first
   | ((with_reducible refine wpList_boxR rfl _ rfl s.cs ?_ ?_); exact rfl; intro w2 g2 hc2 hb2 hg2; have HA := hid (HA0.out.below HR.out hb2); have HC := hid (RBox.mk' HS.out hc2); have a40 := HA.out.c40; have b40 := HC.out.c40; rw [hpv] at a40; rw [hqv] at b40; have HB := hid (below_on HB0.out hb2); clear hc2 hb2 HA0)
   | ((with_reducible refine wpList_boxR rfl _ rfl r.cs ?_ ?_); exact rfl; intro w1 g1 hc1 hb1 hg1; have HA0 := hid (RBox.mk' HR.out hc1); have HB0 := hid hb1; clear hc1 hb1))
  go_ret
  exact ⟨by rw [E.out]; rfl, HB.out⟩
end Go.Proofs.YtopibkoklagceaaGreat
