/- Texts laid into one, cut to what is needed: the remark ahead of each part says what is proved there. -/
import Derived.Test.YtelkijiphhoacaaGreatDoorMae
import Derived.Test.YtelkijiphhoacaaGreatDoorMaf
import Derived.Test.YtelkijiphhoacaaGreatDoorMbc
import Derived.Test.YtelkijiphhoacaaGreatDoorMbb
import Derived.Test.YtelkijiphhoacaaGreatDoorMaw
import Derived.Test.YtelkijiphhoacaaGreatDoorMar
import Derived.Test.YtelkijiphhoacaaGreatDoorMaq
import Derived.Test.YtelkijiphhoacaaGreatDoorMad
import Derived.Test.YtelkijiphhoacaaGreatDoorMap
import Derived.Test.YtelkijiphhoacaaGreatDoorMab
import Derived.Test.YtelkijiphhoacaaGreatDoorMak
/- Contract of the document's Same, some cases. (Written by tools/gen_Vv.py.) -/
namespace Go.Proofs.YtelkijiphhoacaaGreatDoor
open Go Go.RowKit

set_option maxRecDepth 100000 in
set_option maxHeartbeats 2000000 in
theorem rsame_7 (r s : Rv) (hr : r.ok) (hs : s.ok) (ps qs : Ps) (w : World) (hp : PL w r.pv ps) (hq : PL w s.pv qs) (h0 : (r.id.toList == s.id.toList) = true) (h1 : (r.time == s.time) = true) (h2 : (r.mark == s.mark) = true) (h3 : (r.size == s.size) = true) (h4 : (r.etag.toList == s.etag.toList) = true) (h5 : (r.k == s.k) = true) (h6 : (r.m == s.m) = true) (h7 : (r.data.toList == s.data.toList) = false) : Calls Tryz.prog 35 #[.agg r.cs, .agg s.cs] w fun e w' => e = .returned (.bool (decide (r.rc ps = s.rc qs))) ∧ Below w.heap.size w w' := by
  have HD : Hid (decide (r.rc ps = s.rc qs) = false) := rc_ne (by rintro ⟨k0, k1, k2, k3, k4, k5, k6, k7, k8, k9, k10⟩; rw [k7] at h7; cases h7)
  have HNE : Hid (ps ≠ qs → decide (r.rc ps = s.rc qs) = false) := fun h => decide_eq_false fun e => h (congrArg Rc.parts e)
  have HR := hid hr
  have HS := hid hs
  have HP := hid hp
  have HQ := hid hq
  obtain ⟨p1, d1, hpv, hpc, hpl, _⟩ := hp
  obtain ⟨p2, d2, hqv, hqc, hql, _⟩ := hq
  clear hr hs
  generalize decide (r.rc ps = s.rc qs) = dd at *
  by_cases hlen : ps.length = qs.length
  · have hlen' : ((ps.length : Int) == (qs.length : Int)) = true := by simp; omega
    go_enter Tryz.func35, Tryz.ntmps35
    go_wp2_with (first
      | ((with_reducible refine wpList_boxR rfl _ rfl s.cs ?_ ?_); exact rfl; intro w2 g2 hc2 hb2 hg2; have HA := hid (HA0.out.below HR.out hb2); have HC := hid (RBox.mk' HS.out hc2); have a40 := HA.out.c40; have b40 := HC.out.c40; rw [hpv] at a40; rw [hqv] at b40; have HB := hid (below_on HB0.out hb2); have HP2 := hid ((HP.out.below HB0.out).below hb2); have HQ2 := hid ((HQ.out.below HB0.out).below hb2); clear hc2 hb2 HA0)
      | ((with_reducible refine wpList_boxR rfl _ rfl r.cs ?_ ?_); exact rfl; intro w1 g1 hc1 hb1 hg1; have HA0 := hid (RBox.mk' HR.out hc1); have HB0 := hid hb1; clear hc1 hb1))
    rw [hpv] at HP2
    rw [hqv] at HQ2
    go_loopw [5] (fun v wr => ∃ k : Nat, k ≤ ps.length ∧ v = i64 k ∧ Below w2.heap.size w2 wr ∧ ∀ i, i < k → ps.getD i (0, 0) = qs.getD i (0, 0)) (fun v _ => (ps.length - intOf v).toNat)
    case atStart => exact ⟨0, by omega, rfl, Below.refl _ _, fun i hi => by omega⟩
    case round =>
      obtain ⟨k, hk, rfl, hw, hok⟩ := hrel
      have HOK := hid hok
      have HW := hid hw
      have HA2 := hid (HA.out.below HR.out hw)
      have HC2 := hid (HC.out.below HS.out hw)
      have a40' := HA2.out.c40
      have b40' := HC2.out.c40
      rw [hpv] at a40'
      rw [hqv] at b40'
      clear hok a40 b40
      by_cases hlt : k < ps.length
      · have hlt' : (k : Int) < (ps.length : Int) := by omega
        have hlt2 : (k : Int) < (qs.length : Int) := by omega
        obtain ⟨b, o, hpo, x1, x2⟩ := (HP2.out.below hw).at hlt
        obtain ⟨b', o', hqo, y1, y2⟩ := (HQ2.out.below hw).at (show k < qs.length by omega)
        subst hpo hqo
        clear hw
        have hdisc : ps.getD k (0, 0) ≠ qs.getD k (0, 0) → dd = false := fun h => HNE.out fun e => h (by rw [e])
        have HX := hid hdisc
        clear hdisc
        clear h0 h1 h2 h3 h4 h5 h6 h7
        by_cases hX : (ps.getD k (0, 0)).1 = (qs.getD k (0, 0)).1
        · by_cases hY : (ps.getD k (0, 0)).2 = (qs.getD k (0, 0)).2
          · have HXY : Hid (ps.getD k (0, 0) = qs.getD k (0, 0)) := Prod.ext hX hY
            rw [← hX] at y1
            rw [← hY] at y2
            clear hX hY
            generalize (ps.getD k (0, 0)).1 = X1 at *
            generalize (ps.getD k (0, 0)).2 = X2 at *
            go_wp2
            go_region
            go_wp2
            exact ⟨⟨k + 1, by omega, by simp, HW.out.drew, fun i hi => (by
              by_cases e : i = k
              · rw [e]; exact HXY.out
              · exact HOK.out i (by omega))⟩, by simp [intOf]; omega⟩
          · have e := HX.out fun e => hY (by rw [e])
            have E := hid e
            clear e
            rw [← hX] at y1
            clear hX HX
            generalize (ps.getD k (0, 0)).1 = X1 at *
            generalize (ps.getD k (0, 0)).2 = X2 at *
            generalize (qs.getD k (0, 0)).2 = Y2 at *
            go_wp2
            go_region
            go_wp2
            go_ret
            exact ⟨by rw [E.out]; rfl, (below_on HB.out HW.out).drew⟩
        · have e := HX.out fun e => hX (by rw [e])
          have E := hid e
          clear e HX
          generalize (ps.getD k (0, 0)).1 = X1 at *
          generalize (ps.getD k (0, 0)).2 = X2 at *
          generalize (qs.getD k (0, 0)).1 = Y1 at *
          generalize (qs.getD k (0, 0)).2 = Y2 at *
          go_wp2
          go_region
          go_wp2
          go_ret
          exact ⟨by rw [E.out]; rfl, (below_on HB.out HW.out).drew⟩
      · have hlt' : ¬ (k : Int) < (ps.length : Int) := by omega
        have heq : ps = qs := List.ext_getElem hlen fun i h1 h2 => by
          have := HOK.out i (by omega)
          simpa [List.getD, h1, h2] using this
        have E : Hid (dd = false) := HD.out
        clear heq hw
        have a0 := HA2.out.c0
        have b0 := HC2.out.c0
        have a1 := HA2.out.c1
        have b1 := HC2.out.c1
        have a2 := HA2.out.c2
        have b2 := HC2.out.c2
        have a3 := HA2.out.c3
        have b3 := HC2.out.c3
        have a4 := HA2.out.c4
        have b4 := HC2.out.c4
        have a5 := HA2.out.c5
        have b5 := HC2.out.c5
        have a6 := HA2.out.c6
        have b6 := HC2.out.c6
        have a7 := HA2.out.c7
        have b7 := HC2.out.c7
        go_wp2_with (first
          | fail)
        go_ret
        exact ⟨by rw [E.out]; rfl, below_on HB.out HW.out⟩
  · have hlen' : ((ps.length : Int) == (qs.length : Int)) = false := by simp; omega
    have E : Hid (dd = false) := HNE.out fun e => hlen (by rw [e])
    clear h0 h1 h2 h3 h4 h5 h6 h7
    go_enter Tryz.func35, Tryz.ntmps35
    go_wp2_with (first
      | ((with_reducible refine wpList_boxR rfl _ rfl s.cs ?_ ?_); exact rfl; intro w2 g2 hc2 hb2 hg2; have HA := hid (HA0.out.below HR.out hb2); have HC := hid (RBox.mk' HS.out hc2); have a40 := HA.out.c40; have b40 := HC.out.c40; rw [hpv] at a40; rw [hqv] at b40; have HB := hid (below_on HB0.out hb2); clear hc2 hb2 HA0)
      | ((with_reducible refine wpList_boxR rfl _ rfl r.cs ?_ ?_); exact rfl; intro w1 g1 hc1 hb1 hg1; have HA0 := hid (RBox.mk' HR.out hc1); have HB0 := hid hb1; clear hc1 hb1))
    go_ret
    exact ⟨by rw [E.out]; rfl, HB.out⟩
set_option maxRecDepth 100000 in
set_option maxHeartbeats 2000000 in
theorem rsame_8 (r s : Rv) (hr : r.ok) (hs : s.ok) (ps qs : Ps) (w : World) (hp : PL w r.pv ps) (hq : PL w s.pv qs) (h0 : (r.id.toList == s.id.toList) = true) (h1 : (r.time == s.time) = true) (h2 : (r.mark == s.mark) = true) (h3 : (r.size == s.size) = true) (h4 : (r.etag.toList == s.etag.toList) = true) (h5 : (r.k == s.k) = true) (h6 : (r.m == s.m) = true) (h7 : (r.data.toList == s.data.toList) = true) (h8 : decide (r.sum = s.sum) = false) : Calls Tryz.prog 35 #[.agg r.cs, .agg s.cs] w fun e w' => e = .returned (.bool (decide (r.rc ps = s.rc qs))) ∧ Below w.heap.size w w' := by
  have HD : Hid (decide (r.rc ps = s.rc qs) = false) := rc_ne (by rintro ⟨k0, k1, k2, k3, k4, k5, k6, k7, k8, k9, k10⟩; rw [k8] at h8; cases h8)
  have HNE : Hid (ps ≠ qs → decide (r.rc ps = s.rc qs) = false) := fun h => decide_eq_false fun e => h (congrArg Rc.parts e)
  have HR := hid hr
  have HS := hid hs
  have HP := hid hp
  have HQ := hid hq
  have hsum := eqSum hr.sl hs.sl
  rw [h8] at hsum
  clear h8
  obtain ⟨p1, d1, hpv, hpc, hpl, _⟩ := hp
  obtain ⟨p2, d2, hqv, hqc, hql, _⟩ := hq
  clear hr hs
  generalize decide (r.rc ps = s.rc qs) = dd at *
  by_cases hlen : ps.length = qs.length
  · have hlen' : ((ps.length : Int) == (qs.length : Int)) = true := by simp; omega
    go_enter Tryz.func35, Tryz.ntmps35
    go_wp2_with (first
      | ((with_reducible refine wpList_boxR rfl _ rfl s.cs ?_ ?_); exact rfl; intro w2 g2 hc2 hb2 hg2; have HA := hid (HA0.out.below HR.out hb2); have HC := hid (RBox.mk' HS.out hc2); have a40 := HA.out.c40; have b40 := HC.out.c40; rw [hpv] at a40; rw [hqv] at b40; have HB := hid (below_on HB0.out hb2); have HP2 := hid ((HP.out.below HB0.out).below hb2); have HQ2 := hid ((HQ.out.below HB0.out).below hb2); clear hc2 hb2 HA0)
      | ((with_reducible refine wpList_boxR rfl _ rfl r.cs ?_ ?_); exact rfl; intro w1 g1 hc1 hb1 hg1; have HA0 := hid (RBox.mk' HR.out hc1); have HB0 := hid hb1; clear hc1 hb1))
    rw [hpv] at HP2
    rw [hqv] at HQ2
    go_loopw [5] (fun v wr => ∃ k : Nat, k ≤ ps.length ∧ v = i64 k ∧ Below w2.heap.size w2 wr ∧ ∀ i, i < k → ps.getD i (0, 0) = qs.getD i (0, 0)) (fun v _ => (ps.length - intOf v).toNat)
    case atStart => exact ⟨0, by omega, rfl, Below.refl _ _, fun i hi => by omega⟩
    case round =>
      obtain ⟨k, hk, rfl, hw, hok⟩ := hrel
      have HOK := hid hok
      have HW := hid hw
      have HA2 := hid (HA.out.below HR.out hw)
      have HC2 := hid (HC.out.below HS.out hw)
      have a40' := HA2.out.c40
      have b40' := HC2.out.c40
      rw [hpv] at a40'
      rw [hqv] at b40'
      clear hok a40 b40
      by_cases hlt : k < ps.length
      · have hlt' : (k : Int) < (ps.length : Int) := by omega
        have hlt2 : (k : Int) < (qs.length : Int) := by omega
        obtain ⟨b, o, hpo, x1, x2⟩ := (HP2.out.below hw).at hlt
        obtain ⟨b', o', hqo, y1, y2⟩ := (HQ2.out.below hw).at (show k < qs.length by omega)
        subst hpo hqo
        clear hw
        have hdisc : ps.getD k (0, 0) ≠ qs.getD k (0, 0) → dd = false := fun h => HNE.out fun e => h (by rw [e])
        have HX := hid hdisc
        clear hdisc
        clear h0 h1 h2 h3 h4 h5 h6 h7 hsum
        by_cases hX : (ps.getD k (0, 0)).1 = (qs.getD k (0, 0)).1
        · by_cases hY : (ps.getD k (0, 0)).2 = (qs.getD k (0, 0)).2
          · have HXY : Hid (ps.getD k (0, 0) = qs.getD k (0, 0)) := Prod.ext hX hY
            rw [← hX] at y1
            rw [← hY] at y2
            clear hX hY
            generalize (ps.getD k (0, 0)).1 = X1 at *
            generalize (ps.getD k (0, 0)).2 = X2 at *
            go_wp2
            go_region
            go_wp2
            exact ⟨⟨k + 1, by omega, by simp, HW.out.drew, fun i hi => (by
              by_cases e : i = k
              · rw [e]; exact HXY.out
              · exact HOK.out i (by omega))⟩, by simp [intOf]; omega⟩
          · have e := HX.out fun e => hY (by rw [e])
            have E := hid e
            clear e
            rw [← hX] at y1
            clear hX HX
            generalize (ps.getD k (0, 0)).1 = X1 at *
            generalize (ps.getD k (0, 0)).2 = X2 at *
            generalize (qs.getD k (0, 0)).2 = Y2 at *
            go_wp2
            go_region
            go_wp2
            go_ret
            exact ⟨by rw [E.out]; rfl, (below_on HB.out HW.out).drew⟩
        · have e := HX.out fun e => hX (by rw [e])
          have E := hid e
          clear e HX
          generalize (ps.getD k (0, 0)).1 = X1 at *
          generalize (ps.getD k (0, 0)).2 = X2 at *
          generalize (qs.getD k (0, 0)).1 = Y1 at *
          generalize (qs.getD k (0, 0)).2 = Y2 at *
          go_wp2
          go_region
          go_wp2
          go_ret
          exact ⟨by rw [E.out]; rfl, (below_on HB.out HW.out).drew⟩
      · have hlt' : ¬ (k : Int) < (ps.length : Int) := by omega
        have heq : ps = qs := List.ext_getElem hlen fun i h1 h2 => by
          have := HOK.out i (by omega)
          simpa [List.getD, h1, h2] using this
        have E : Hid (dd = false) := HD.out
        clear heq hw
        have a0 := HA2.out.c0
        have b0 := HC2.out.c0
        have a1 := HA2.out.c1
        have b1 := HC2.out.c1
        have a2 := HA2.out.c2
        have b2 := HC2.out.c2
        have a3 := HA2.out.c3
        have b3 := HC2.out.c3
        have a4 := HA2.out.c4
        have b4 := HC2.out.c4
        have a5 := HA2.out.c5
        have b5 := HC2.out.c5
        have a6 := HA2.out.c6
        have b6 := HC2.out.c6
        have a7 := HA2.out.c7
        have b7 := HC2.out.c7
        go_wp2_with (first
          | ((with_reducible refine wpList_load_at 66 _ rfl ?_ g1 8 ?_ (sumC r.sum) (.array 32 5) ?_ underD rfl ?_ ?_); exact rfl; exact rfl; exact HA2.out.cs; (rw [sumC_size, HR.out.sl]; exact sizeD))
          | ((with_reducible refine wpList_load_at 66 _ rfl ?_ g2 8 ?_ (sumC s.sum) (.array 32 5) ?_ underD rfl ?_ ?_); exact rfl; exact rfl; exact HC2.out.cs; (rw [sumC_size, HS.out.sl]; exact sizeD)))
        go_ret
        exact ⟨by rw [E.out]; rfl, below_on HB.out HW.out⟩
  · have hlen' : ((ps.length : Int) == (qs.length : Int)) = false := by simp; omega
    have E : Hid (dd = false) := HNE.out fun e => hlen (by rw [e])
    clear h0 h1 h2 h3 h4 h5 h6 h7 hsum
    go_enter Tryz.func35, Tryz.ntmps35
    go_wp2_with (first
      | ((with_reducible refine wpList_boxR rfl _ rfl s.cs ?_ ?_); exact rfl; intro w2 g2 hc2 hb2 hg2; have HA := hid (HA0.out.below HR.out hb2); have HC := hid (RBox.mk' HS.out hc2); have a40 := HA.out.c40; have b40 := HC.out.c40; rw [hpv] at a40; rw [hqv] at b40; have HB := hid (below_on HB0.out hb2); clear hc2 hb2 HA0)
      | ((with_reducible refine wpList_boxR rfl _ rfl r.cs ?_ ?_); exact rfl; intro w1 g1 hc1 hb1 hg1; have HA0 := hid (RBox.mk' HR.out hc1); have HB0 := hid hb1; clear hc1 hb1))
    go_ret
    exact ⟨by rw [E.out]; rfl, HB.out⟩
end Go.Proofs.YtelkijiphhoacaaGreatDoor

/- Contract of the document's Same, some cases. (Written by tools/gen_Vv.py.) -/
namespace Go.Proofs.YtelkijiphhoacaaGreatDoor
open Go Go.RowKit

set_option maxRecDepth 100000 in
set_option maxHeartbeats 2000000 in
theorem rsame_9 (r s : Rv) (hr : r.ok) (hs : s.ok) (ps qs : Ps) (w : World) (hp : PL w r.pv ps) (hq : PL w s.pv qs) (h0 : (r.id.toList == s.id.toList) = true) (h1 : (r.time == s.time) = true) (h2 : (r.mark == s.mark) = true) (h3 : (r.size == s.size) = true) (h4 : (r.etag.toList == s.etag.toList) = true) (h5 : (r.k == s.k) = true) (h6 : (r.m == s.m) = true) (h7 : (r.data.toList == s.data.toList) = true) (h8 : decide (r.sum = s.sum) = true) (h10 : (r.up.toList == s.up.toList) = false) : Calls Tryz.prog 35 #[.agg r.cs, .agg s.cs] w fun e w' => e = .returned (.bool (decide (r.rc ps = s.rc qs))) ∧ Below w.heap.size w w' := by
  have HD : Hid (decide (r.rc ps = s.rc qs) = false) := rc_ne (by rintro ⟨k0, k1, k2, k3, k4, k5, k6, k7, k8, k9, k10⟩; rw [k10] at h10; cases h10)
  have HNE : Hid (ps ≠ qs → decide (r.rc ps = s.rc qs) = false) := fun h => decide_eq_false fun e => h (congrArg Rc.parts e)
  have HR := hid hr
  have HS := hid hs
  have HP := hid hp
  have HQ := hid hq
  have hsum := eqSum hr.sl hs.sl
  rw [h8] at hsum
  clear h8
  obtain ⟨p1, d1, hpv, hpc, hpl, _⟩ := hp
  obtain ⟨p2, d2, hqv, hqc, hql, _⟩ := hq
  clear hr hs
  generalize decide (r.rc ps = s.rc qs) = dd at *
  by_cases hlen : ps.length = qs.length
  · have hlen' : ((ps.length : Int) == (qs.length : Int)) = true := by simp; omega
    go_enter Tryz.func35, Tryz.ntmps35
    go_wp2_with (first
      | ((with_reducible refine wpList_boxR rfl _ rfl s.cs ?_ ?_); exact rfl; intro w2 g2 hc2 hb2 hg2; have HA := hid (HA0.out.below HR.out hb2); have HC := hid (RBox.mk' HS.out hc2); have a40 := HA.out.c40; have b40 := HC.out.c40; rw [hpv] at a40; rw [hqv] at b40; have HB := hid (below_on HB0.out hb2); have HP2 := hid ((HP.out.below HB0.out).below hb2); have HQ2 := hid ((HQ.out.below HB0.out).below hb2); clear hc2 hb2 HA0)
      | ((with_reducible refine wpList_boxR rfl _ rfl r.cs ?_ ?_); exact rfl; intro w1 g1 hc1 hb1 hg1; have HA0 := hid (RBox.mk' HR.out hc1); have HB0 := hid hb1; clear hc1 hb1))
    rw [hpv] at HP2
    rw [hqv] at HQ2
    go_loopw [5] (fun v wr => ∃ k : Nat, k ≤ ps.length ∧ v = i64 k ∧ Below w2.heap.size w2 wr ∧ ∀ i, i < k → ps.getD i (0, 0) = qs.getD i (0, 0)) (fun v _ => (ps.length - intOf v).toNat)
    case atStart => exact ⟨0, by omega, rfl, Below.refl _ _, fun i hi => by omega⟩
    case round =>
      obtain ⟨k, hk, rfl, hw, hok⟩ := hrel
      have HOK := hid hok
      have HW := hid hw
      have HA2 := hid (HA.out.below HR.out hw)
      have HC2 := hid (HC.out.below HS.out hw)
      have a40' := HA2.out.c40
      have b40' := HC2.out.c40
      rw [hpv] at a40'
      rw [hqv] at b40'
      clear hok a40 b40
      by_cases hlt : k < ps.length
      · have hlt' : (k : Int) < (ps.length : Int) := by omega
        have hlt2 : (k : Int) < (qs.length : Int) := by omega
        obtain ⟨b, o, hpo, x1, x2⟩ := (HP2.out.below hw).at hlt
        obtain ⟨b', o', hqo, y1, y2⟩ := (HQ2.out.below hw).at (show k < qs.length by omega)
        subst hpo hqo
        clear hw
        have hdisc : ps.getD k (0, 0) ≠ qs.getD k (0, 0) → dd = false := fun h => HNE.out fun e => h (by rw [e])
        have HX := hid hdisc
        clear hdisc
        clear h0 h1 h2 h3 h4 h5 h6 h7 h10 hsum
        by_cases hX : (ps.getD k (0, 0)).1 = (qs.getD k (0, 0)).1
        · by_cases hY : (ps.getD k (0, 0)).2 = (qs.getD k (0, 0)).2
          · have HXY : Hid (ps.getD k (0, 0) = qs.getD k (0, 0)) := Prod.ext hX hY
            rw [← hX] at y1
            rw [← hY] at y2
            clear hX hY
            generalize (ps.getD k (0, 0)).1 = X1 at *
            generalize (ps.getD k (0, 0)).2 = X2 at *
            go_wp2
            go_region
            go_wp2
            exact ⟨⟨k + 1, by omega, by simp, HW.out.drew, fun i hi => (by
              by_cases e : i = k
              · rw [e]; exact HXY.out
              · exact HOK.out i (by omega))⟩, by simp [intOf]; omega⟩
          · have e := HX.out fun e => hY (by rw [e])
            have E := hid e
            clear e
            rw [← hX] at y1
            clear hX HX
            generalize (ps.getD k (0, 0)).1 = X1 at *
            generalize (ps.getD k (0, 0)).2 = X2 at *
            generalize (qs.getD k (0, 0)).2 = Y2 at *
            go_wp2
            go_region
            go_wp2
            go_ret
            exact ⟨by rw [E.out]; rfl, (below_on HB.out HW.out).drew⟩
        · have e := HX.out fun e => hX (by rw [e])
          have E := hid e
          clear e HX
          generalize (ps.getD k (0, 0)).1 = X1 at *
          generalize (ps.getD k (0, 0)).2 = X2 at *
          generalize (qs.getD k (0, 0)).1 = Y1 at *
          generalize (qs.getD k (0, 0)).2 = Y2 at *
          go_wp2
          go_region
          go_wp2
          go_ret
          exact ⟨by rw [E.out]; rfl, (below_on HB.out HW.out).drew⟩
      · have hlt' : ¬ (k : Int) < (ps.length : Int) := by omega
        have heq : ps = qs := List.ext_getElem hlen fun i h1 h2 => by
          have := HOK.out i (by omega)
          simpa [List.getD, h1, h2] using this
        have E : Hid (dd = false) := HD.out
        clear heq hw
        have a0 := HA2.out.c0
        have b0 := HC2.out.c0
        have a1 := HA2.out.c1
        have b1 := HC2.out.c1
        have a2 := HA2.out.c2
        have b2 := HC2.out.c2
        have a3 := HA2.out.c3
        have b3 := HC2.out.c3
        have a4 := HA2.out.c4
        have b4 := HC2.out.c4
        have a5 := HA2.out.c5
        have b5 := HC2.out.c5
        have a6 := HA2.out.c6
        have b6 := HC2.out.c6
        have a7 := HA2.out.c7
        have b7 := HC2.out.c7
        have a41 := HA2.out.c41
        have b41 := HC2.out.c41
        go_wp2_with (first
          | ((with_reducible refine wpList_load_at 66 _ rfl ?_ g1 8 ?_ (sumC r.sum) (.array 32 5) ?_ underD rfl ?_ ?_); exact rfl; exact rfl; exact HA2.out.cs; (rw [sumC_size, HR.out.sl]; exact sizeD))
          | ((with_reducible refine wpList_load_at 66 _ rfl ?_ g2 8 ?_ (sumC s.sum) (.array 32 5) ?_ underD rfl ?_ ?_); exact rfl; exact rfl; exact HC2.out.cs; (rw [sumC_size, HS.out.sl]; exact sizeD)))
        go_ret
        exact ⟨by rw [E.out]; rfl, below_on HB.out HW.out⟩
  · have hlen' : ((ps.length : Int) == (qs.length : Int)) = false := by simp; omega
    have E : Hid (dd = false) := HNE.out fun e => hlen (by rw [e])
    clear h0 h1 h2 h3 h4 h5 h6 h7 h10 hsum
    go_enter Tryz.func35, Tryz.ntmps35
    go_wp2_with (first
      | ((with_reducible refine wpList_boxR rfl _ rfl s.cs ?_ ?_); exact rfl; intro w2 g2 hc2 hb2 hg2; have HA := hid (HA0.out.below HR.out hb2); have HC := hid (RBox.mk' HS.out hc2); have a40 := HA.out.c40; have b40 := HC.out.c40; rw [hpv] at a40; rw [hqv] at b40; have HB := hid (below_on HB0.out hb2); clear hc2 hb2 HA0)
      | ((with_reducible refine wpList_boxR rfl _ rfl r.cs ?_ ?_); exact rfl; intro w1 g1 hc1 hb1 hg1; have HA0 := hid (RBox.mk' HR.out hc1); have HB0 := hid hb1; clear hc1 hb1))
    go_ret
    exact ⟨by rw [E.out]; rfl, HB.out⟩
set_option maxRecDepth 100000 in
set_option maxHeartbeats 2000000 in
theorem rsame_10 (r s : Rv) (hr : r.ok) (hs : s.ok) (ps qs : Ps) (w : World) (hp : PL w r.pv ps) (hq : PL w s.pv qs) (h0 : (r.id.toList == s.id.toList) = true) (h1 : (r.time == s.time) = true) (h2 : (r.mark == s.mark) = true) (h3 : (r.size == s.size) = true) (h4 : (r.etag.toList == s.etag.toList) = true) (h5 : (r.k == s.k) = true) (h6 : (r.m == s.m) = true) (h7 : (r.data.toList == s.data.toList) = true) (h8 : decide (r.sum = s.sum) = true) (h10 : (r.up.toList == s.up.toList) = true) : Calls Tryz.prog 35 #[.agg r.cs, .agg s.cs] w fun e w' => e = .returned (.bool (decide (r.rc ps = s.rc qs))) ∧ Below w.heap.size w w' := by
  have HD : Hid (ps = qs → decide (r.rc ps = s.rc qs) = true) := fun h9' => by
    have h9 : decide (ps = qs) = true := decide_eq_true h9'
    exact decide_eq_true ((rc_eq r s ps qs).2 ⟨h0, h1, h2, h3, h4, h5, h6, h7, h8, h9, h10⟩)
  have HNE : Hid (ps ≠ qs → decide (r.rc ps = s.rc qs) = false) := fun h => decide_eq_false fun e => h (congrArg Rc.parts e)
  have HR := hid hr
  have HS := hid hs
  have HP := hid hp
  have HQ := hid hq
  have hsum := eqSum hr.sl hs.sl
  rw [h8] at hsum
  clear h8
  obtain ⟨p1, d1, hpv, hpc, hpl, _⟩ := hp
  obtain ⟨p2, d2, hqv, hqc, hql, _⟩ := hq
  clear hr hs
  generalize decide (r.rc ps = s.rc qs) = dd at *
  by_cases hlen : ps.length = qs.length
  · have hlen' : ((ps.length : Int) == (qs.length : Int)) = true := by simp; omega
    go_enter Tryz.func35, Tryz.ntmps35
    go_wp2_with (first
      | ((with_reducible refine wpList_boxR rfl _ rfl s.cs ?_ ?_); exact rfl; intro w2 g2 hc2 hb2 hg2; have HA := hid (HA0.out.below HR.out hb2); have HC := hid (RBox.mk' HS.out hc2); have a40 := HA.out.c40; have b40 := HC.out.c40; rw [hpv] at a40; rw [hqv] at b40; have HB := hid (below_on HB0.out hb2); have HP2 := hid ((HP.out.below HB0.out).below hb2); have HQ2 := hid ((HQ.out.below HB0.out).below hb2); clear hc2 hb2 HA0)
      | ((with_reducible refine wpList_boxR rfl _ rfl r.cs ?_ ?_); exact rfl; intro w1 g1 hc1 hb1 hg1; have HA0 := hid (RBox.mk' HR.out hc1); have HB0 := hid hb1; clear hc1 hb1))
    rw [hpv] at HP2
    rw [hqv] at HQ2
    go_loopw [5] (fun v wr => ∃ k : Nat, k ≤ ps.length ∧ v = i64 k ∧ Below w2.heap.size w2 wr ∧ ∀ i, i < k → ps.getD i (0, 0) = qs.getD i (0, 0)) (fun v _ => (ps.length - intOf v).toNat)
    case atStart => exact ⟨0, by omega, rfl, Below.refl _ _, fun i hi => by omega⟩
    case round =>
      obtain ⟨k, hk, rfl, hw, hok⟩ := hrel
      have HOK := hid hok
      have HW := hid hw
      have HA2 := hid (HA.out.below HR.out hw)
      have HC2 := hid (HC.out.below HS.out hw)
      have a40' := HA2.out.c40
      have b40' := HC2.out.c40
      rw [hpv] at a40'
      rw [hqv] at b40'
      clear hok a40 b40
      by_cases hlt : k < ps.length
      · have hlt' : (k : Int) < (ps.length : Int) := by omega
        have hlt2 : (k : Int) < (qs.length : Int) := by omega
        obtain ⟨b, o, hpo, x1, x2⟩ := (HP2.out.below hw).at hlt
        obtain ⟨b', o', hqo, y1, y2⟩ := (HQ2.out.below hw).at (show k < qs.length by omega)
        subst hpo hqo
        clear hw
        have hdisc : ps.getD k (0, 0) ≠ qs.getD k (0, 0) → dd = false := fun h => HNE.out fun e => h (by rw [e])
        have HX := hid hdisc
        clear hdisc
        clear h0 h1 h2 h3 h4 h5 h6 h7 h10 hsum
        by_cases hX : (ps.getD k (0, 0)).1 = (qs.getD k (0, 0)).1
        · by_cases hY : (ps.getD k (0, 0)).2 = (qs.getD k (0, 0)).2
          · have HXY : Hid (ps.getD k (0, 0) = qs.getD k (0, 0)) := Prod.ext hX hY
            rw [← hX] at y1
            rw [← hY] at y2
            clear hX hY
            generalize (ps.getD k (0, 0)).1 = X1 at *
            generalize (ps.getD k (0, 0)).2 = X2 at *
            go_wp2
            go_region
            go_wp2
            exact ⟨⟨k + 1, by omega, by simp, HW.out.drew, fun i hi => (by
              by_cases e : i = k
              · rw [e]; exact HXY.out
              · exact HOK.out i (by omega))⟩, by simp [intOf]; omega⟩
          · have e := HX.out fun e => hY (by rw [e])
            have E := hid e
            clear e
            rw [← hX] at y1
            clear hX HX
            generalize (ps.getD k (0, 0)).1 = X1 at *
            generalize (ps.getD k (0, 0)).2 = X2 at *
            generalize (qs.getD k (0, 0)).2 = Y2 at *
            go_wp2
            go_region
            go_wp2
            go_ret
            exact ⟨by rw [E.out]; rfl, (below_on HB.out HW.out).drew⟩
        · have e := HX.out fun e => hX (by rw [e])
          have E := hid e
          clear e HX
          generalize (ps.getD k (0, 0)).1 = X1 at *
          generalize (ps.getD k (0, 0)).2 = X2 at *
          generalize (qs.getD k (0, 0)).1 = Y1 at *
          generalize (qs.getD k (0, 0)).2 = Y2 at *
          go_wp2
          go_region
          go_wp2
          go_ret
          exact ⟨by rw [E.out]; rfl, (below_on HB.out HW.out).drew⟩
      · have hlt' : ¬ (k : Int) < (ps.length : Int) := by omega
        have heq : ps = qs := List.ext_getElem hlen fun i h1 h2 => by
          have := HOK.out i (by omega)
          simpa [List.getD, h1, h2] using this
        have E : Hid (dd = true) := HD.out heq
        clear heq hw
        have a0 := HA2.out.c0
        have b0 := HC2.out.c0
        have a1 := HA2.out.c1
        have b1 := HC2.out.c1
        have a2 := HA2.out.c2
        have b2 := HC2.out.c2
        have a3 := HA2.out.c3
        have b3 := HC2.out.c3
        have a4 := HA2.out.c4
        have b4 := HC2.out.c4
        have a5 := HA2.out.c5
        have b5 := HC2.out.c5
        have a6 := HA2.out.c6
        have b6 := HC2.out.c6
        have a7 := HA2.out.c7
        have b7 := HC2.out.c7
        have a41 := HA2.out.c41
        have b41 := HC2.out.c41
        go_wp2_with (first
          | ((with_reducible refine wpList_load_at 66 _ rfl ?_ g1 8 ?_ (sumC r.sum) (.array 32 5) ?_ underD rfl ?_ ?_); exact rfl; exact rfl; exact HA2.out.cs; (rw [sumC_size, HR.out.sl]; exact sizeD))
          | ((with_reducible refine wpList_load_at 66 _ rfl ?_ g2 8 ?_ (sumC s.sum) (.array 32 5) ?_ underD rfl ?_ ?_); exact rfl; exact rfl; exact HC2.out.cs; (rw [sumC_size, HS.out.sl]; exact sizeD)))
        go_ret
        exact ⟨by rw [E.out]; rfl, below_on HB.out HW.out⟩
  · have hlen' : ((ps.length : Int) == (qs.length : Int)) = false := by simp; omega
    have E : Hid (dd = false) := HNE.out fun e => hlen (by rw [e])
    clear h0 h1 h2 h3 h4 h5 h6 h7 h10 hsum
    go_enter Tryz.func35, Tryz.ntmps35
    go_wp2_with (first
      | ((with_reducible refine wpList_boxR rfl _ rfl s.cs ?_ ?_); exact rfl; intro w2 g2 hc2 hb2 hg2; have HA := hid (HA0.out.below HR.out hb2); have HC := hid (RBox.mk' HS.out hc2); have a40 := HA.out.c40; have b40 := HC.out.c40; rw [hpv] at a40; rw [hqv] at b40; have HB := hid (below_on HB0.out hb2); clear hc2 hb2 HA0)
      | ((with_reducible refine wpList_boxR rfl _ rfl r.cs ?_ ?_); exact rfl; intro w1 g1 hc1 hb1 hg1; have HA0 := hid (RBox.mk' HR.out hc1); have HB0 := hid hb1; clear hc1 hb1))
    go_ret
    exact ⟨by rw [E.out]; rfl, HB.out⟩
end Go.Proofs.YtelkijiphhoacaaGreatDoor

/- Contract of the document's Same, some cases. (Written by tools/gen_Vv.py.) -/
namespace Go.Proofs.YtelkijiphhoacaaGreatDoor
open Go Go.RowKit

theorem rsame_any (r s : Rv) (hr : r.ok) (hs : s.ok) (ps qs : Ps) (w : World) (hp : PL w r.pv ps) (hq : PL w s.pv qs) : Calls Tryz.prog 35 #[.agg r.cs, .agg s.cs] w fun e w' => e = .returned (.bool (decide (r.rc ps = s.rc qs))) ∧ Below w.heap.size w w' := by
  cases h0 : (r.id.toList == s.id.toList)
  · exact rsame_0 r s hr hs ps qs w hp hq h0
  cases h1 : (r.time == s.time)
  · exact rsame_1 r s hr hs ps qs w hp hq h0 h1
  cases h2 : (r.mark == s.mark)
  · exact rsame_2 r s hr hs ps qs w hp hq h0 h1 h2
  cases h3 : (r.size == s.size)
  · exact rsame_3 r s hr hs ps qs w hp hq h0 h1 h2 h3
  cases h4 : (r.etag.toList == s.etag.toList)
  · exact rsame_4 r s hr hs ps qs w hp hq h0 h1 h2 h3 h4
  cases h5 : (r.k == s.k)
  · exact rsame_5 r s hr hs ps qs w hp hq h0 h1 h2 h3 h4 h5
  cases h6 : (r.m == s.m)
  · exact rsame_6 r s hr hs ps qs w hp hq h0 h1 h2 h3 h4 h5 h6
  cases h7 : (r.data.toList == s.data.toList)
  · exact rsame_7 r s hr hs ps qs w hp hq h0 h1 h2 h3 h4 h5 h6 h7
  cases h8 : decide (r.sum = s.sum)
  · exact rsame_8 r s hr hs ps qs w hp hq h0 h1 h2 h3 h4 h5 h6 h7 h8
  cases h10 : (r.up.toList == s.up.toList)
  · exact rsame_9 r s hr hs ps qs w hp hq h0 h1 h2 h3 h4 h5 h6 h7 h8 h10
  exact rsame_10 r s hr hs ps qs w hp hq h0 h1 h2 h3 h4 h5 h6 h7 h8 h10
end Go.Proofs.YtelkijiphhoacaaGreatDoor

/- The document's At and Same. -/
namespace Go.Proofs.YtelkijiphhoacaaGreatDoor
open Go Go.RowKit

set_option maxRecDepth 100000 in
set_option maxHeartbeats 2000000 in
theorem rat_any (s : Int) (v : Value) (l : List Rp) (id : ByteArray) (w : World) (hl : RL w v l) : Calls Tryz.prog 47 #[.agg (jC s v), .string id] w fun e w' => e = .returned (i64 (plI (atI (rcs l) (lst id)))) ∧ Below w.heap.size w w' := by
  have HL := hid hl
  obtain ⟨po, c, rfl, hc1, hn, _⟩ := hl
  obtain ⟨n, hN⟩ : ∃ n, l.length = n := ⟨_, rfl⟩
  have HN := hid hN
  rw [hN] at hn ⊢
  clear hN hc1
  go_enter Tryz.func47, Tryz.ntmps47
  go_wp2_with ((with_reducible refine wpList_boxT 27 rfl _ rfl (jC s (.slice po n c)) ?_ ?_); exact rfl; intro w1 g1 hc1 hb1 hg1; have HJ := hid hc1; have HB := hid hb1; clear hb1 hc1)
  go_loopg [5] n (fun gg s5 wr => ∃ kk : Nat, kk ≤ n ∧ n - kk ≤ gg ∧ s5 = i64 kk ∧ Hid (Below w1.heap.size w1 wr) ∧ Hid (∀ j x, (rcs l)[j]? = some x → j < kk → x.id ≠ lst id))
  case atStart => exact ⟨0, Nat.zero_le _, by omega, rfl, Below.refl _ _, fun j x _ hj => absurd hj (Nat.not_lt_zero _)⟩
  case round =>
    obtain ⟨kk, hkk, hg, rfl, BW, A⟩ := hrel
    have c1 := (HJ.out.below BW.out).j1
    have BW0 := hid (below_on HB.out BW.out)
    by_cases hlt : kk < n
    · have hltz : (kk : Int) < (n : Int) := by omega
      obtain ⟨x, hx⟩ : ∃ x, l[kk]? = some x := ⟨_, List.getElem?_eq_getElem (by have := HN.out; omega)⟩
      obtain ⟨b, o, c', e, _, hcl⟩ := HL.out.where hx
      rw [HN.out] at e
      cases e
      have i1 : wr.cell? ⟨b, o + kk * 42, none⟩ = some (.string x.r.id) := by have := (hcl.below BW0.out) kk x hx 0 (.string x.r.id) (by rw [x.r.get8 0 (by omega)]; rfl); exact this
      have HXR : Hid ((rcs l)[kk]? = some x.rc) := hid (by rw [rcs_get, hx]; rfl)
      clear hcl hx
      by_cases hq : lst x.r.id = lst id
      · have hne : (x.r.id.toList == id.toList) = true := by rw [lst_beq]; exact decide_eq_true hq
        go_wp2
        go_ret
        refine ⟨?_, BW0.out⟩
        rw [atI_hit (k := kk) (x := x.rc) (fun j y hy hj => A.out j y hy hj) HXR.out hq]
        rfl
      · have hne : (x.r.id.toList == id.toList) = false := by rw [lst_beq]; exact decide_eq_false hq
        go_wp2
        go_roundg (n - (kk + 1))
        case measure => omega
        case rel =>
          refine ⟨kk + 1, by omega, by omega, by go_num, BW.out, (show Hid _ from fun j y hy hj => ?_)⟩
          by_cases e : j = kk
          · subst e; rw [HXR.out] at hy; cases hy; exact hq
          · exact A.out j y hy (by omega)
    · have hltz : ¬ (kk : Int) < (n : Int) := by omega
      go_wp2
      go_ret
      refine ⟨?_, BW0.out⟩
      rw [atI_snoc_none (k := kk) (fun j y hy hj => A.out j y hy hj) (by rw [rcs_len, HN.out]; omega)]
      rfl
set_option maxRecDepth 100000 in
set_option maxHeartbeats 4000000 in
theorem rjsame_any (s t : Int) (u v : Value) (l m : List Rp) (w : World) (hl : RL w u l) (hm : RL w v m) : Calls Tryz.prog 23 #[.agg (jC s u), .agg (jC t v)] w fun e w' => e = .returned (.bool (decide ((⟨s, rcs l⟩ : Jr) = ⟨t, rcs m⟩))) ∧ Below w.heap.size w w' := by
  have HLL := hid hl
  have HMM := hid hm
  obtain ⟨po, c, rfl, hc1, hn1, _⟩ := hl
  obtain ⟨qo, d, rfl, hd1, hn2, _⟩ := hm
  have T1 : Hid True := hid trivial
  by_cases hst : s = t
  · subst hst
    by_cases hne : l.length = m.length
    · obtain ⟨B, hB⟩ : ∃ B : Bool, decide ((⟨s, rcs l⟩ : Jr) = ⟨s, rcs m⟩) = B := ⟨_, rfl⟩
      rw [hB]
      have HBB := hid hB
      have HNE := hid hne
      obtain ⟨n, hn⟩ : ∃ n, m.length = n := ⟨_, rfl⟩
      have HN := hid hn
      rw [hn] at hne hn2 ⊢
      rw [hne]
      clear hB hn hne hc1 hd1 hn1
      go_enter Tryz.func23, Tryz.ntmps23
      go_wp2_with (first
        | (clear T1; (with_reducible refine wpList_boxT 27 rfl _ rfl (jC s (.slice po n c)) ?_ ?_); exact rfl; intro w1 g1 hc1 hb1 hg1; have HJ := hid hc1; have HB := hid hb1; clear hb1 hc1)
        | ((with_reducible refine wpList_boxT 27 rfl _ rfl (jC s (.slice qo n d)) ?_ ?_); exact rfl; intro w2 g2 hc2 hb2 hg2; have HJ2 := hid hc2; replace HJ := hid (HJ.out.below hb2); replace HB := hid (below_on HB.out hb2); have j0 := HJ.out.j0; have j1 := HJ.out.j1; have k0 := HJ2.out.j0; have k1 := HJ2.out.j1; clear hb2 hc2))
      clear j0 j1 k0 k1
      go_loopg [5] n (fun gg s5 wr => ∃ kk : Nat, kk ≤ n ∧ n - kk ≤ gg ∧ s5 = i64 kk ∧ Hid (Below w2.heap.size w2 wr) ∧ Hid (∀ j, j < kk → (rcs l)[j]? = (rcs m)[j]?))
      case atStart => exact ⟨0, Nat.zero_le _, by omega, rfl, Below.refl _ _, fun j hj => absurd hj (Nat.not_lt_zero _)⟩
      case round =>
        obtain ⟨kk, hkk, hg, rfl, BW, A⟩ := hrel
        have j1 := (HJ.out.below BW.out).j1
        have k1 := (HJ2.out.below BW.out).j1
        have BW0 := hid (below_on HB.out BW.out)
        by_cases hlt : kk < n
        · have hltz : (kk : Int) < (n : Int) := by omega
          obtain ⟨x, hx⟩ : ∃ x, l[kk]? = some x := ⟨_, List.getElem?_eq_getElem (by have := HNE.out; have := HN.out; omega)⟩
          obtain ⟨y, hy⟩ : ∃ y, m[kk]? = some y := ⟨_, List.getElem?_eq_getElem (by have := HN.out; omega)⟩
          obtain ⟨b1, o1, c1, e1, _, hc1⟩ := HLL.out.where hx
          rw [HNE.out, HN.out] at e1
          cases e1
          obtain ⟨b2, o2, c2, e2, _, hc2⟩ := HMM.out.where hy
          rw [HN.out] at e2
          cases e2
          have hox := HLL.out.each x (List.mem_of_getElem? hx)
          have hoy := HMM.out.each y (List.mem_of_getElem? hy)
          have HXR : Hid ((rcs l)[kk]? = some x.rc) := hid (by rw [rcs_get, hx]; rfl)
          have HYR : Hid ((rcs m)[kk]? = some y.rc) := hid (by rw [rcs_get, hy]; rfl)
          obtain ⟨D, hD⟩ : ∃ D : Bool, decide (x.rc = y.rc) = D := ⟨_, rfl⟩
          have HSM : Hid (∀ W, Below w.heap.size w W → Calls Tryz.prog 35 #[.agg x.r.cs, .agg y.r.cs] W fun e w' => e = .returned (.bool D) ∧ Below W.heap.size W w') := hid (fun W hW => by
            have := rsame_any x.r y.r hox.ok hoy.ok x.ps y.ps W (hox.pl.below hW) (hoy.pl.below hW)
            rw [show decide (x.r.rc x.ps = y.r.rc y.ps) = D from hD] at this
            exact this)
          have HSF : Hid (∀ W, Below wr.heap.size wr W → (fun W => W.cell? ⟨g1, 1, none⟩ = some (.slice (some ⟨b1, o1, none⟩) n c) ∧ W.cell? ⟨g2, 1, none⟩ = some (.slice (some ⟨b2, o2, none⟩) n d) ∧ (Instr.loadAt 74 (.pointer (some ⟨b1, o1 + kk * 42, none⟩))).run Tryz.prog W = .ok (.agg x.r.cs) W ∧ (Instr.loadAt 74 (.pointer (some ⟨b2, o2 + kk * 42, none⟩))).run Tryz.prog W = .ok (.agg y.r.cs) W) W) := hid (fun W hW => ⟨(HJ.out.below (below_on BW.out hW)).j1, (HJ2.out.below (below_on BW.out hW)).j1, run_loadM hox.ok ((hc1.below (below_on BW0.out hW)).range hx), run_loadM hoy.ok ((hc2.below (below_on BW0.out hW)).range hy)⟩)
          have HDD := hid hD
          clear hc1 hc2 hox hoy hx hy hD
          go_upto_region 6 with fail
          refine wp_region_held_drew (S := (fun W => W.cell? ⟨g1, 1, none⟩ = some (.slice (some ⟨b1, o1, none⟩) n c) ∧ W.cell? ⟨g2, 1, none⟩ = some (.slice (some ⟨b2, o2, none⟩) n d) ∧ (Instr.loadAt 74 (.pointer (some ⟨b1, o1 + kk * 42, none⟩))).run Tryz.prog W = .ok (.agg x.r.cs) W ∧ (Instr.loadAt 74 (.pointer (some ⟨b2, o2 + kk * 42, none⟩))).run Tryz.prog W = .ok (.agg y.r.cs) W)) (by kernel_rfl) (HSF.out _ (below_drew _)) (fun hHeld => ?_)
          have HD := hid (below_drew wr)
          refine wpAnyH_take (i := 0) (oi := ⟨some 27, .fieldAddr 27 (.tmp 2) 1, _, _, _, none⟩) (v := .pointer (some ⟨g1, 1, none⟩)) rfl (by kernel_rfl) (by kernel_rfl) (by kernel_rfl) (fun _ _ _ h => h) (Or.inl ⟨by kernel_rfl, by intro W hW; go_simp⟩) hHeld ?_
          refine wpAnyH_take (i := 1) (oi := ⟨some 28, .load 25 (.tmp 27), _, _, _, none⟩) (v := .slice (some ⟨b1, o1, none⟩) n c) rfl (by kernel_rfl) (by kernel_rfl) (by kernel_rfl) (fun _ _ _ h => h) (Or.inl ⟨by kernel_rfl, by intro W hW; have q0 := hW.1; go_simp⟩) hHeld ?_
          refine wpAnyH_take (i := 2) (oi := ⟨some 29, .move (.tmp 5), _, _, _, none⟩) (v := i64 kk) rfl (by kernel_rfl) (by kernel_rfl) (by kernel_rfl) (fun _ _ _ h => h) (Or.inl ⟨by kernel_rfl, by intro W hW; go_simp⟩) hHeld ?_
          refine wpAnyH_take (i := 3) (oi := ⟨some 30, .indexAddr 25 (.tmp 28) (.tmp 29), _, _, _, none⟩) (v := .pointer (some ⟨b1, o1 + kk * 42, none⟩)) rfl (by kernel_rfl) (by kernel_rfl) (by kernel_rfl) (fun _ _ _ h => h) (Or.inl ⟨by kernel_rfl, by intro W hW; go_simp⟩) hHeld ?_
          refine wpAnyH_take (i := 4) (oi := ⟨some 31, .load 74 (.tmp 30), _, _, _, none⟩) (v := .agg x.r.cs) rfl (by kernel_rfl) (by kernel_rfl) (by kernel_rfl) (fun _ _ _ h => h) (Or.inl ⟨by kernel_rfl, fun W hW => exec_load rfl (by kernel_rfl) hW.2.2.1⟩) hHeld ?_
          refine wpAnyH_take (i := 5) (oi := ⟨some 32, .fieldAddr 27 (.tmp 3) 1, _, _, _, none⟩) (v := .pointer (some ⟨g2, 1, none⟩)) rfl (by kernel_rfl) (by kernel_rfl) (by kernel_rfl) (fun _ _ _ h => h) (Or.inl ⟨by kernel_rfl, by intro W hW; go_simp⟩) hHeld ?_
          refine wpAnyH_take (i := 6) (oi := ⟨some 33, .load 25 (.tmp 32), _, _, _, none⟩) (v := .slice (some ⟨b2, o2, none⟩) n d) rfl (by kernel_rfl) (by kernel_rfl) (by kernel_rfl) (fun _ _ _ h => h) (Or.inl ⟨by kernel_rfl, by intro W hW; have q0 := hW.2.1; go_simp⟩) hHeld ?_
          refine wpAnyH_take (i := 7) (oi := ⟨some 34, .move (.tmp 5), _, _, _, none⟩) (v := i64 kk) rfl (by kernel_rfl) (by kernel_rfl) (by kernel_rfl) (fun _ _ _ h => h) (Or.inl ⟨by kernel_rfl, by intro W hW; go_simp⟩) hHeld ?_
          refine wpAnyH_take (i := 8) (oi := ⟨some 35, .indexAddr 25 (.tmp 33) (.tmp 34), _, _, _, none⟩) (v := .pointer (some ⟨b2, o2 + kk * 42, none⟩)) rfl (by kernel_rfl) (by kernel_rfl) (by kernel_rfl) (fun _ _ _ h => h) (Or.inl ⟨by kernel_rfl, by intro W hW; go_simp⟩) hHeld ?_
          refine wpAnyH_take (i := 9) (oi := ⟨some 36, .load 74 (.tmp 35), _, _, _, none⟩) (v := .agg y.r.cs) rfl (by kernel_rfl) (by kernel_rfl) (by kernel_rfl) (fun _ _ _ h => h) (Or.inl ⟨by kernel_rfl, fun W hW => exec_load rfl (by kernel_rfl) hW.2.2.2⟩) hHeld ?_
          refine wpAnyH_ready (rs := [10]) (by kernel_rfl) (by simp) ?_
          refine AllReadyH.cons rfl (fun K hK => ?_) AllReadyH.nil
          go_simp
          refine (HSM.out _ (below_on BW0.out HD.out)).mono ?_
          rintro e x8 ⟨rfl, hb⟩
          replace HD := hid (below_on HD.out hb)
          clear hb
          go_wp2_with fail
          refine hK.out _ _ (HSF.out _ HD.out) (fun hHeld => ?_)
          clear hK K
          refine wpAnyH_take (i := 11) (oi := ⟨some 38, .unOp .not 4 (.tmp 37), _, _, _, none⟩) (v := .bool !D) rfl (by kernel_rfl) (by kernel_rfl) (by kernel_rfl) (fun _ _ _ h => h) (Or.inl ⟨by kernel_rfl, by intro W hW; go_simp⟩) hHeld ?_
          refine wpAnyH_done (by kernel_rfl) ?_ _
          simp only [Act.put, List.setIfInBounds_toArray, List.set_cons_zero, List.set_cons_succ]
          clear hHeld j1 k1
          cases D with
          | true =>
            go_wp2
            go_roundg (n - (kk + 1))
            case measure => omega
            case rel =>
              refine ⟨kk + 1, by omega, by omega, by go_num, below_on BW.out HD.out, (show Hid _ from fun j hj => ?_)⟩
              by_cases e : j = kk
              · subst e; rw [HXR.out, HYR.out, of_decide_eq_true HDD.out]
              · exact A.out j (by omega)
          | false =>
            go_wp2
            go_ret
            refine ⟨?_, below_on BW0.out HD.out⟩
            rw [← HBB.out, decide_eq_false (fun e => of_decide_eq_false HDD.out (Option.some.inj (by rw [← HXR.out, ← HYR.out, (Jr.mk.inj e).2])))]
            rfl
        · have hltz : ¬ (kk : Int) < (n : Int) := by omega
          go_wp2
          go_ret
          refine ⟨?_, BW0.out⟩
          have e : rcs l = rcs m := List.ext_getElem? fun j => by
            by_cases hj : j < kk
            · exact A.out j hj
            · rw [List.getElem?_eq_none (by rw [rcs_len, HNE.out, HN.out]; omega), List.getElem?_eq_none (by rw [rcs_len, HN.out]; omega)]
          rw [← HBB.out, decide_eq_true (by rw [e])]
          rfl
    · have e : decide ((⟨s, rcs l⟩ : Jr) = ⟨s, rcs m⟩) = false := decide_eq_false fun e => hne (by have := congrArg List.length (Jr.mk.inj e).2; rwa [rcs_len, rcs_len] at this)
      rw [e]
      have hne' : ¬ (l.length : Int) = (m.length : Int) := by omega
      clear e
      go_enter Tryz.func23, Tryz.ntmps23
      go_wp2_with (first
        | (clear T1; (with_reducible refine wpList_boxT 27 rfl _ rfl (jC s (.slice po l.length c)) ?_ ?_); exact rfl; intro w1 g1 hc1 hb1 hg1; have HJ := hid hc1; have HB := hid hb1; clear hb1 hc1)
        | ((with_reducible refine wpList_boxT 27 rfl _ rfl (jC s (.slice qo m.length d)) ?_ ?_); exact rfl; intro w2 g2 hc2 hb2 hg2; have HJ2 := hid hc2; replace HJ := hid (HJ.out.below hb2); replace HB := hid (below_on HB.out hb2); have j0 := HJ.out.j0; have j1 := HJ.out.j1; have k0 := HJ2.out.j0; have k1 := HJ2.out.j1; clear hb2 hc2))
      go_ret
      exact ⟨rfl, HB.out⟩
  · have e : decide ((⟨s, rcs l⟩ : Jr) = ⟨t, rcs m⟩) = false := decide_eq_false fun e => hst (Jr.mk.inj e).1
    rw [e]
    clear e
    go_enter Tryz.func23, Tryz.ntmps23
    go_wp2_with (first
      | (clear T1; (with_reducible refine wpList_boxT 27 rfl _ rfl (jC s (.slice po l.length c)) ?_ ?_); exact rfl; intro w1 g1 hc1 hb1 hg1; have HJ := hid hc1; have HB := hid hb1; clear hb1 hc1)
      | ((with_reducible refine wpList_boxT 27 rfl _ rfl (jC t (.slice qo m.length d)) ?_ ?_); exact rfl; intro w2 g2 hc2 hb2 hg2; have HJ2 := hid hc2; replace HJ := hid (HJ.out.below hb2); replace HB := hid (below_on HB.out hb2); have j0 := HJ.out.j0; have j1 := HJ.out.j1; have k0 := HJ2.out.j0; have k1 := HJ2.out.j1; clear hb2 hc2))
    go_ret
    exact ⟨rfl, HB.out⟩
end Go.Proofs.YtelkijiphhoacaaGreatDoor

/- The chapter's journal, reckoned. -/
namespace Go.Proofs.YtelkijiphhoacaaGreatDoor
open Go

/-- The mark null at a moment. -/
def mkN (t : Int) : Rc := ⟨[110, 117, 108, 108], t, true, 0, [], 0, 0, [], zeroD, [], []⟩
theorem zero_add : addJ ⟨0, []⟩ (mkN 1) = (0, some ⟨1, [mkN 1]⟩) := by decide +kernel
end Go.Proofs.YtelkijiphhoacaaGreatDoor

/- awake: the chapter's examples. -/
namespace Go.Proofs.YtelkijiphhoacaaGreatDoor
open Go Go.RowKit

/-- What is carried through awake. -/
structure Aw (w : World) (a0 a1 : Addr) (W : World) : Prop where
  below : Below w.heap.size w W
  er : Ers W a0 a1
theorem Aw.on {w W W' : World} {a0 a1 : Addr} (h : Aw w a0 a1 W) (hb : Below W.heap.size W W') : Aw w a0 a1 W' := ⟨below_on h.below hb, h.er.below hb⟩
end Go.Proofs.YtelkijiphhoacaaGreatDoor
