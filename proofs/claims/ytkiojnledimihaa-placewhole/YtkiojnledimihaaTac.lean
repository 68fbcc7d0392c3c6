/- Texts laid into one: the remark ahead of each part says what is proved there. -/
import Derived.Test.YtkiojnledimihaaPaa
import Derived.Test.YtkiojnledimihaaPab
import Derived.Test.YtkiojnledimihaaPac
import Derived.Test.YtkiojnledimihaaPad
import Derived.Test.YtkiojnledimihaaPae
import Derived.Test.YtkiojnledimihaaPaf
import Derived.Test.YtkiojnledimihaaPag
import Derived.Test.YtkiojnledimihaaPah
import Derived.Test.YtkiojnledimihaaPai
import Derived.Test.YtkiojnledimihaaPaj
import Derived.Test.YtkiojnledimihaaPak
import Derived.Test.YtkiojnledimihaaPal
import Derived.Test.YtkiojnledimihaaTaa
import Derived.Test.YtkiojnledimihaaTab
import Derived.WalkLawsBesides
/- The walk of PlaceWhole, over the contracts of package place. -/
namespace Go.Proofs.Ytkiojnledimihaa
open Go Go.RowKit Go.Shelf

theorem step_callG {P : Program} {w : World} {ops : Array Oper} {o : Oper} {a : Act} {K : Act → World → Prop} {Q : Exit → Act → World → Prop} {E : Prop} (hw : Region.wanted o (yielded ops a.tmps) = true) (f : FuncId) (vs : Array Value) (hrun : (execOp a.eval o).run P w = .ok (.enter f vs) w)
    (h : Calls P f vs w fun e w' => ∃ v, e = .returned v ∧ K (a.put o.dst v) w') : if Region.wanted o (yielded ops a.tmps) = true then Oper.wp P o a w K Q else E := by
  rw [if_pos hw]
  exact H.wp_enter f vs hrun h
/-- What the loops of PlaceWhole ask, behind Parts: w2 and all worlds above it. -/
structure WhC (w2 : World) (po : Option Addr) (c ga k : Nat) (tv : Nat → TV) (ns : List Nm) : Prop where
  cl : ∀ W, Below w2.heap.size w2 W → ∀ i, i < ns.length → ∃ b o, po = some ⟨b, o, none⟩ ∧ W.cell? ⟨b, o + i, none⟩ = some (sv (ns.getD i []))
  cg : ∀ W, Below w2.heap.size w2 W → ∀ s, s < k → W.cell? ⟨ga, s, none⟩ = some (.slice (tv s).po (tv s).ns.length (tv s).c)
  st : ∀ W, Below w2.heap.size w2 W → ∀ i, i < ns.length → Calls Try.prog 10 #[sv (ns.getD i []), .int .i64 (k : Int)] W fun e w' => e = .returned (.tuple #[.int .i64 (stN (ns.getD i []) k : Int), .int .i64 0]) ∧ Below W.heap.size W w'
  sl : ∀ i, i < ns.length → stN (ns.getD i []) k < k
  il : ∀ W, Below w2.heap.size w2 W → ∀ x, Calls Try.prog 22 #[.slice po ns.length c, sv x] W fun e w' => e = .returned (.int .i64 (cnT ns x : Int)) ∧ w' = W
  ig : ∀ W, Below w2.heap.size w2 W → ∀ s x, s < k → Calls Try.prog 22 #[.slice (tv s).po (tv s).ns.length (tv s).c, sv x] W fun e w' => e = .returned (.int .i64 ((if stN x k = s then cnT ns x else 0 : Nat) : Int)) ∧ w' = W
theorem WhC.made (hP : PlC) {w1 w2 : World} {po : Option Addr} {ns : List Nm} {ga k : Nat} {va : Nat → Value} {tv : Nat → TV} (c : Nat) (htx : TxO w1 po ns) (hn : ns.length ≤ 60) (hls : ∀ x ∈ ns, x.length ≤ 500) (hk : 1 ≤ k ∧ k ≤ 4) (hok : ∀ x ∈ ns, okP x = true) (h : PtM w1 w2 ga k va (ptS ns k)) (ht : ∀ j, j < k → va j = (tv j).v ∧ (tv j).ns = ptS ns k j ∧ Rm (tv j).po (tv j).ns.length (tv j).c) : WhC w2 po c ga k tv ns := by
  have h2 := htx.below h.be
  have mem : ∀ i, i < ns.length → ns.getD i [] ∈ ns := fun i hi => by rw [getD_in _ _ _ hi]; exact List.getElem_mem hi
  have ok4 : ∀ x ∈ ns, okS x (k : Int) = true := fun x hx => by unfold okS; rw [hok x hx]; simp; omega
  refine ⟨fun W hb i hi => (h2.below hb).cell hi, fun W hb s hs => ((h.below hb).cell hs).trans (by rw [(ht s hs).1]), fun W hb i hi => ?_, fun i hi => ?_, fun W hb x => in13_any (h2.below hb) c (by omega) x, fun W hb s x hs => ?_⟩
  · have hl := hls _ (mem i hi)
    have := hP.set (ns.getD i []) k W (by unfold maxLen; omega) (by omega)
    rwa [show stE (ns.getD i []) (k : Int) = 0 by unfold stE; rw [if_pos (ok4 _ (mem i hi))]] at this
  · have := stN_lt (ok4 _ (mem i hi)); rwa [Int.toNat_natCast] at this
  · have h1 := in13_any ((h.below hb).tx1 ht hs) (tv s).c (by rw [(ht s hs).2.1]; have := ptS_len ns k s; omega) x
    have e : cnT (tv s).ns x = if stN x k = s then cnT ns x else 0 := by rw [(ht s hs).2.1]; exact cnt_ptS ns k s x
    rw [e] at h1; exact h1
set_option maxHeartbeats 8000000 in
set_option maxRecDepth 100000 in
theorem placeWhole_core (hP : PlC) (v : Value) (ns : List Nm) (n : Int) (w : World) (hx : IsTx w v ns) (hn : -9223372036854775808 ≤ n ∧ n ≤ 9223372036854775807) :
    Calls Try.prog 6 #[v, .int .i64 n] w fun e w' => e = .returned (.bool true) ∧ Below w.heap.size w w' := by
  obtain ⟨po, c, rfl, hln, htx, hls, hrm⟩ := hx
  have HAW := hid (awake13_any hP w)
  have HLG := hid (fun W (hb : Below w.heap.size w W) => long13_any (htx.below hb) c hln hls 60)
  by_cases hmain : lgB ns 60 = false ∧ 1 ≤ n ∧ n ≤ 4
  · obtain ⟨h1, h2, h3⟩ := hmain
    obtain ⟨hn60, hls5⟩ := lg_le (n := 60) h1
    obtain ⟨k, rfl⟩ : ∃ k : Nat, n = (k : Int) := ⟨n.toNat, by omega⟩
    have HPA := hid (fun W (hb : Below w.heap.size w W) => hP.parts c k (htx.below hb) hrm hln hls hn)
    rw [h1] at HLG
    have h2' : ¬ (k : Int) < 1 := by omega
    have h3' : ¬ (4 : Int) < (k : Int) := by omega
    by_cases hz : prE ns k = 0
    · have hok : ∀ x ∈ ns, okP x = true := by
        unfold prE at hz
        rw [if_pos (by omega), if_neg (by omega)] at hz
        split at hz
        · rename_i ha; exact fun x hx => List.all_eq_true.1 ha x hx
        · cases hz
      have HP1 : Hid (∀ W, Below w.heap.size w W → Calls Try.prog 15 #[.slice po ns.length c, .int .i64 (k : Int)] W fun e w' => ∃ ga va tv, e = .returned (.tuple #[.slice (some ⟨ga, 0, none⟩) k k, .int .i64 0]) ∧ PtM W w' ga k va (ptS ns k) ∧ (∀ j, j < k → va j = (tv j).v ∧ (tv j).ns = ptS ns k j ∧ Rm (tv j).po (tv j).ns.length (tv j).c) ∧ WhC w' po c ga k tv ns ∧ WhT w' po c ga k tv ns (wths [] ns)) := hid (fun W hb => (HPA.out W hb).mono fun e w' hq => by
        rcases hq with ⟨_, ga, va, h1, h2⟩ | ⟨h1, _⟩
        · rw [Int.toNat_natCast] at h1 h2
          obtain ⟨tv, ht⟩ := h2.tv
          exact ⟨ga, va, tv, h1, h2, ht, WhC.made hP c (htx.below hb) hn60 hls5 (by omega) hok h2 ht, WhT.made hP c (htx.below hb) hrm hn60 hls5 (by omega) hok h2 ht⟩
        · exact absurd hz h1)
      have HTX := hid (fun W (hb : Below w.heap.size w W) => htx.below hb)
      have HMG := hid (fun (W : World) (po : Option Addr) (l : List TV) c h1 h2 h3 h4 h5 h6 => hP.merge (w := W) (po := po) (l := l) c h1 h2 h3 h4 h5 h6)
      clear HPA hP htx hls hz
      unfold maxLen at hln
      go_enter Try.func6, Try.ntmps6
      go_wp2_with (first
        | (go_at_call 12; refine HAW.out.mono ?_; rintro e w1 ⟨rfl, hb1⟩; have HB := hid hb1; clear hb1)
        | (go_at_call 13; refine (HLG.out _ HB.out).mono ?_; rintro e w2 ⟨rfl, hw⟩; have hw2 := hw.symm; subst hw2)
        | (go_at_call 15; refine (HP1.out _ HB.out).mono ?_; rintro e w3 ⟨ga, va, tv, rfl, hq3, ht3, hc3, hd3⟩; have HPM := hid hq3; have HTV := hid ht3; have HWC := hid hc3; have HWT := hid hd3; have HB3 := hid (below_on _ _ HB.out hq3.be); clear hq3 ht3 hc3 hd3))
      clear HAW HLG HP1
      go_loopg [8, 9, 10, 11, 12] ns.length (fun gg q _ _ _ _ wr => ∃ i : Nat, i ≤ ns.length ∧ ns.length - i ≤ gg ∧ q = .int .i64 (i : Int) ∧ Below w3.heap.size w3 wr)
      case atStart => exact ⟨0, Nat.zero_le _, by omega, rfl, Below.refl _ _⟩
      case round =>
        obtain ⟨i, hi, hgg, rfl, hb⟩ := hrel
        have HB4 := hid hb
        clear hb
        by_cases hlt : i < ns.length
        · have hlt' : (i : Int) < (ns.length : Int) := by omega
          have hi2 : (i : Int) < 1000 := by omega
          have HST := hid (HWC.out.st wr HB4.out i hlt)
          have hsl := HWC.out.sl i hlt
          have HCL := hid (fun W hb => HWC.out.cl W hb i hlt)
          have HCG := hid (fun W hb s hs => HWC.out.cg W hb s hs)
          have HIL := hid (fun W hb => HWC.out.il W hb (ns.getD i []))
          have HIG := hid (fun W hb s hs => HWC.out.ig W hb s (ns.getD i []) hs)
          obtain ⟨b, o, hp, z0⟩ := HCL.out wr HB4.out
          subst hp
          have HCL2 : Hid (∀ W, Below w3.heap.size w3 W → W.cell? ⟨b, o + i, none⟩ = some (sv (ns.getD i []))) := hid (fun W hb => by
            obtain ⟨b', o', e', h⟩ := HCL.out W hb
            cases e'; exact h)
          clear HCL HWC HWT HTX HMG HPM HTV
          generalize ns.getD i [] = x at *
          generalize stN x k = kk at *
          have hkk : (kk : Int) < (k : Int) := by omega
          have hk0 : ¬ (kk : Int) < 0 := by omega
          go_wp2_with (go_at_call 10; refine HST.out.mono ?_; rintro e w5 ⟨rfl, hb5⟩; have HB5 := hid (below_on _ _ HB4.out hb5); clear hb5)
          clear HST z0
          try generalize decide (k ≤ kk) = d1
          try generalize decide ((k : Int) ≤ (kk : Int)) = d3
          try generalize decide ((kk : Int) < 0) = d2
          go_loopg [11, 12] k (fun gg q _ wq => ∃ s : Nat, s ≤ k ∧ k - s ≤ gg ∧ q = .int .i64 (s : Int) ∧ Below w3.heap.size w3 wq)
          case atStart => exact ⟨0, Nat.zero_le _, by omega, rfl, HB5.out⟩
          case round =>
            clear HB5 HB4
            obtain ⟨s, hs, hgs, rfl, hb⟩ := hrel
            have HB6 := hid hb
            clear hb
            by_cases hst : s < k
            · have hst' : (s : Int) < (k : Int) := by omega
              have y0 := HCL2.out wr HB6.out
              have HI1 := hid (HIL.out wr HB6.out)
              have HI2 := hid (fun W hb => HIG.out W hb s hst)
              have HSS : Hid (∀ W, Below w3.heap.size w3 W → W.cell? ⟨ga, s, none⟩ = some (.slice (tv s).po (tv s).ns.length (tv s).c) ∧ W.cell? ⟨b, o + i, none⟩ = some (sv x)) := hid (fun W hb => ⟨HCG.out W hb s hst, HCL2.out W hb⟩)
              clear HCG HIL HIG HCL2
              generalize (tv s).po = tpo at *
              generalize (tv s).ns.length = tln at *
              generalize (tv s).c = tcc at *
              generalize cnT ns x = m at *
              by_cases hsk : s = kk
              · have HI3 : Hid (∀ W, Below w3.heap.size w3 W → Calls Try.prog 22 #[.slice tpo tln tcc, sv x] W fun e w' => e = .returned (.int .i64 (m : Int)) ∧ w' = W) := hid (fun W hb => by have := HI2.out W hb; rw [if_pos hsk.symm] at this; exact this)
                have hmm : ((m : Int) != (m : Int)) = false := by simp
                clear HI2
                subst hsk
                go_wp2_with (go_at_call 22; refine HI1.out.mono ?_; rintro e w6 ⟨rfl, hw⟩; have hw2 := hw.symm; subst hw2)
                clear y0
                go_region_held3 (fun w' => w'.cell? ⟨ga, s, none⟩ = some (.slice tpo tln tcc) ∧ w'.cell? ⟨b, o + i, none⟩ = some (sv x)) (first | exact HSS.out _ HB6.out | exact HSS.out _ (below_on _ _ HB6.out (below_drewN _ _))) ((go_at_call 22; (first | refine (HI3.out _ (below_on _ _ HB6.out (below_drewN _ _))).mono ?_ | refine (HI3.out _ HB6.out).mono ?_); rintro e w7 ⟨rfl, hw⟩; have hw2 := hw.symm; subst hw2))
                go_wp2
                go_roundg (k - (s + 1))
                case measure => omega
                case rel => exact ⟨s + 1, by omega, by omega, by go_num, (by first | exact HB6.out | exact below_on _ _ HB6.out (below_drewN _ _))⟩
              · have HI3 : Hid (∀ W, Below w3.heap.size w3 W → Calls Try.prog 22 #[.slice tpo tln tcc, sv x] W fun e w' => e = .returned (.int .i64 0) ∧ w' = W) := hid (fun W hb => by have := HI2.out W hb; rw [if_neg fun h => hsk h.symm] at this; exact this)
                have hq : ¬ (s : Int) = (kk : Int) := by omega
                clear HI2 hsk HI1 y0
                go_wp2_with fail
                go_region_held3 (fun w' => w'.cell? ⟨ga, s, none⟩ = some (.slice tpo tln tcc) ∧ w'.cell? ⟨b, o + i, none⟩ = some (sv x)) (first | exact HSS.out _ HB6.out | exact HSS.out _ (below_on _ _ HB6.out (below_drewN _ _))) ((go_at_call 22; (first | refine (HI3.out _ (below_on _ _ HB6.out (below_drewN _ _))).mono ?_ | refine (HI3.out _ HB6.out).mono ?_); rintro e w7 ⟨rfl, hw⟩; have hw2 := hw.symm; subst hw2))
                go_wp2
                go_roundg (k - (s + 1))
                case measure => omega
                case rel => exact ⟨s + 1, by omega, by omega, by go_num, (by first | exact HB6.out | exact below_on _ _ HB6.out (below_drewN _ _))⟩
            · have hst' : ¬ (s : Int) < (k : Int) := by omega
              go_wp2
              go_roundg (ns.length - (i + 1))
              case measure => omega
              case rel => exact ⟨i + 1, by omega, by omega, by go_num, HB6.out⟩
        · have hlt' : ¬ (i : Int) < (ns.length : Int) := by omega
          have HWL := hid HWC.out
          have HBK := hid (HWT.out.bk wr HB4.out)
          have hk1 : 1 ≤ (k : Int) := by omega
          have hkm : (k : Int) ≤ 4 := by omega
          go_wp2
          go_loopg [13, 14] k (fun gg o v wq => ∃ (q : Nat) (vp : Option Addr) (vc : Nat), q ≤ k ∧ k - q ≤ gg ∧ v = .int .i64 ((k : Int) - 1 - (q : Int)) ∧ o = .slice vp q vc ∧ BkI w3 tv k q (.slice vp q vc) wq)
          case atStart => exact ⟨0, none, 0, Nat.zero_le _, by omega, by simp, rfl, HBK.out⟩
          case round =>
            clear HBK HB4
            obtain ⟨q, vp, vc, hq, hgq, rfl, rfl, hb⟩ := hrel
            have HBK := hid hb
            clear hb
            by_cases hqt : q < k
            · have hge : (0 : Int) ≤ (k : Int) - 1 - (q : Int) := by omega
              obtain ⟨s, hs⟩ : ∃ s : Nat, k - 1 - q = s := ⟨_, rfl⟩
              have hsi : ((k : Int) - 1 - (q : Int)) = (s : Int) := by omega
              have hsk : s < k := by omega
              have y0 := HWL.out.cg wr HBK.out.be s hsk
              obtain ⟨vp', vc', w6, hr, hbn⟩ := HBK.out.next (by omega)
              rw [hs] at hr
              dsimp only [TV.v] at hr
              have HR := hid hr
              have HBN := hid hbn
              have HKE : Hid (((k : Int) - 1 - ((q + 1 : Nat) : Int)) = (s : Int) - 1) := hid (by omega)
              rw [hsi]
              have HQK : Hid (q + 1 ≤ k ∧ k - (q + 1) < k - q) := hid (by omega)
              have hs0 : 0 ≤ (s : Int) := by omega
              have hs4 : (s : Int) < (k : Int) := by omega
              clear hr hbn hge hsi hqt
              generalize hq1 : q + 1 = q1 at *
              generalize (tv s).po = tpo at *
              generalize (tv s).ns.length = tln at *
              generalize (tv s).c = tcc at *
              go_wp2_with (at_builtin; refine wpList_append_run _ _ 33 rfl rfl _ _ (.slice vp' q1 vc') rfl rfl HR.out ?_)
              go_roundg (k - q1)
              case measure => have := HQK.out; omega
              case rel => exact ⟨q1, vp', vc', HQK.out.1, Nat.le_refl _, by rw [HKE.out], rfl, HBN.out⟩
            · have hge : ¬ (0 : Int) ≤ (k : Int) - 1 - (q : Int) := by omega
              have e : q = k := by omega
              subst e
              have HM1 := hid (HWT.out.m1 wr HBK.out.be)
              have HM2 := hid (fun W hb => HWT.out.m2 vp vc wr HBK.out W hb)
              have HM3 := hid (fun W hb => HWT.out.m3 W hb)
              have HBE := hid HBK.out.be
              have HML := hid HWT.out.ml
              have HLT := hid HWT.out.lt
              have HIN := hid HWT.out.inl
              have HON := hid HWT.out.one
              have HIL := hid (fun W hb x => HWL.out.il W hb x)
              have HCL := hid (fun W hb i hi => HWL.out.cl W hb i hi)
              clear HBK HWT HWL HTX HMG HPM HTV
              generalize wths [] ns = m at *
              have HTM := hid (fun (W : World) (c1 : Nat) (p1 : Option Addr) (c2 : Nat) (p2 : Option Addr) (B1 B2 : Nat) (h1 : TxtS B1 W (.slice p1 m.length c1) m) (h2 : TxtS B2 W (.slice p2 m.length c2) m) => sameTexts_true (.slice p1 m.length c1) (.slice p2 m.length c2) m W (by have := HML.out; omega) h1.t.at h2.t.at)
              have HTO : Hid (∀ (W : World) (B1 c1 : Nat) (p1 : Option Addr), TxtS B1 W (.slice p1 m.length c1) m → (∀ W', Below W.heap.size W W' → ∀ i, i < m.length → ∃ b o, p1 = some ⟨b, o, none⟩ ∧ W'.cell? ⟨b, o + i, none⟩ = some (sv (m.getD i []))) ∧ ∀ W', Below W.heap.size W W' → ∀ x, Calls Try.prog 22 #[.slice p1 m.length c1, sv x] W' fun e w' => e = .returned (.int .i64 (cnT m x : Int)) ∧ w' = W') := hid (fun W B1 c1 p1 h => ⟨fun W' hb i hi => ((tx_of h.t).below hb).cell hi, fun W' hb x => in13_any ((tx_of h.t).below hb) c1 (by have := HML.out; omega) x⟩)
              have HML2 : Hid (m.length ≤ 60) := hid HML.out
              generalize hmm : m.length = mm at *
              go_wp2_with (first
                | (go_at_call 20; refine HM1.out.mono ?_; rintro e w4 ⟨p1, c1, rfl, ht4, hb4⟩; rw [hmm] at ht4 ⊢; have HT4 := hid ht4; have HB5 := hid hb4; clear ht4 hb4 HM1)
                | (go_at_call 20; refine (HM2.out _ HB5.out).mono ?_; rintro e w5 ⟨p2, c2, rfl, ht5, hb5⟩; rw [hmm] at ht5 ⊢; have HT5 := hid ht5; have HT45 := hid (HT4.out.below hb5); have HB6 := hid (below_on _ _ (below_on _ _ HBE.out HB5.out) hb5); clear ht5 hb5 HM2)
                | (go_at_call 20; refine (HM3.out _ HB6.out).mono ?_; rintro e w6 ⟨p3, c3, rfl, ht6, hb6⟩; rw [hmm] at ht6 ⊢; have HT6 := hid ht6; have HB7 := hid (below_on _ _ ((Below.refl _ _).alloc (Nat.le_refl _) _) hb6); clear ht6 hb6 HM3
                   have HS1 := hid (HTM.out w6 c1 p1 c2 p2 _ _ (HT45.out.below HB7.out) (HT5.out.below HB7.out))
                   have HS2 := hid (fun q => HTM.out (w6.drewN q) c1 p1 c3 p3 _ _ ((HT45.out.below HB7.out).below (below_drewN _ _)) (HT6.out.below (below_drewN _ _))))
                | (go_at_call 17; refine HS1.out.mono ?_; clear HS1; rintro e w7 ⟨rfl, q7, rfl⟩)
                | (go_at_call 17; refine (HS2.out _).mono ?_; clear HS2; rintro e w8 ⟨rfl, q8, rfl⟩))
              have hb9 : Below w6.heap.size w6 (w6.drewN (q7 + q8)) := below_drewN _ _
              obtain ⟨hca, hia⟩ := HTO.out _ _ c1 p1 ((HT45.out.below HB7.out).below hb9)
              have HBX := hid (below_on _ _ (below_on _ _ HB6.out HB7.out) hb9)
              have HCA := hid hca
              have HIA := hid hia
              clear HTO HTM HT4 HT5 HT45 HT6 HB5 HB6 HB7 hb9 hca hia
              generalize w6.drewN (q7 + q8) = w9 at *
              clear HBE
              go_loopg [18] mm (fun gg q wz => ∃ i : Nat, i ≤ mm ∧ mm - i ≤ gg ∧ q = .int .i64 (i : Int) ∧ Below w9.heap.size w9 wz)
              case atStart => exact ⟨0, Nat.zero_le _, by omega, rfl, Below.refl _ _⟩
              case round =>
                obtain ⟨i, hi, hgi, rfl, hb⟩ := hrel
                have HBZ := hid hb
                clear hb
                by_cases hlt2 : i < mm
                · have hlt2' : (i : Int) < (mm : Int) := by omega
                  have hi3 : (i : Int) < 1000 := by have := HML2.out; omega
                  have hin := HIN.out i hlt2
                  have HII := hid (fun W hb => HIL.out W (below_on _ _ HBX.out hb) (m.getD i []))
                  have HCI := hid (fun W hb => HCA.out W hb i hlt2)
                  obtain ⟨b, o, hp, z0⟩ := HCI.out wr HBZ.out
                  subst hp
                  have HCJ : Hid (∀ W, Below w9.heap.size w9 W → W.cell? ⟨b, o + i, none⟩ = some (sv (m.getD i []))) := hid (fun W hb => by
                    obtain ⟨b', o', e', h'⟩ := HCI.out W hb
                    cases e'; exact h')
                  have hcn : ((cnT ns (m.getD i []) : Int) == 0) = false := beq_eq_false_iff_ne.2 (by omega)
                  by_cases h0 : i = 0
                  · subst h0
                    rw [Nat.add_zero] at z0 HCJ
                    rw [show ((0 : Nat) : Int) = 0 from rfl]
                    clear HCI HIL HIN HON HCL HIA HCA HLT hin hlt2
                    generalize m.getD 0 [] = x at *
                    generalize cnT ns x = n1 at *
                    go_wp2_with fail
                    have HDW : Hid (Below w9.heap.size w9 wr.drew) := hid (below_on _ _ HBZ.out ((Below.refl _ _).drew))
                    refine then_only ?_
                    refine wp_region_held_drew (S := fun w' : World => w'.cell? ⟨b, o, none⟩ = some (sv x)) (by kernel_rfl) (HCJ.out _ HDW.out) ?_
                    generalize wr.drew = wd at HDW ⊢
                    intro hHeld
                    refine wpAnyH_take (i := 0) (oi := ⟨some 136, .move (.tmp 18), _, _, _, none⟩) (v := .int .i64 0) rfl (by kernel_rfl) (by kernel_rfl) (by kernel_rfl) (fun _ _ _ h => h) (Or.inl ⟨by kernel_rfl, by intro W hW; go_simp⟩) hHeld ?_
                    refine wpAnyH_take (i := 1) (oi := ⟨some 137, .binOp .gtr 3 (.tmp 136) (.const (.int .i64 0)) 3, _, _, _, none⟩) (v := .bool false) rfl (by kernel_rfl) (by kernel_rfl) (by kernel_rfl) (fun _ _ _ h => h) (Or.inl ⟨by kernel_rfl, by intro W hW; go_simp⟩) hHeld ?_
                    refine wpAnyH_take (i := 2) (oi := ⟨some 138, .move (.tmp 137), _, _, _, none⟩) (v := .bool false) rfl (by kernel_rfl) (by kernel_rfl) (by kernel_rfl) (fun _ _ _ h => h) (Or.inl ⟨by kernel_rfl, by intro W hW; go_simp⟩) hHeld ?_
                    refine wpAnyH_take (i := 3) (oi := ⟨some 139, .move (.tmp 15), _, _, _, some (2, true)⟩) (v := undef) rfl (by kernel_rfl) (by kernel_rfl) (by kernel_rfl) (fun _ _ _ h => h) (Or.inr ⟨by kernel_rfl, rfl⟩) hHeld ?_
                    refine wpAnyH_take (i := 4) (oi := ⟨some 140, .move (.tmp 18), _, _, _, some (2, true)⟩) (v := undef) rfl (by kernel_rfl) (by kernel_rfl) (by kernel_rfl) (fun _ _ _ h => h) (Or.inr ⟨by kernel_rfl, rfl⟩) hHeld ?_
                    refine wpAnyH_take (i := 5) (oi := ⟨some 141, .indexAddr 30 (.tmp 139) (.tmp 140), _, _, _, some (2, true)⟩) (v := undef) rfl (by kernel_rfl) (by kernel_rfl) (by kernel_rfl) (fun _ _ _ h => h) (Or.inr ⟨by kernel_rfl, rfl⟩) hHeld ?_
                    refine wpAnyH_take (i := 6) (oi := ⟨some 142, .load 9 (.tmp 141), _, _, _, some (2, true)⟩) (v := undef) rfl (by kernel_rfl) (by kernel_rfl) (by kernel_rfl) (fun _ _ _ h => h) (Or.inr ⟨by kernel_rfl, rfl⟩) hHeld ?_
                    refine wpAnyH_take (i := 7) (oi := ⟨some 143, .move (.tmp 15), _, _, _, some (2, true)⟩) (v := undef) rfl (by kernel_rfl) (by kernel_rfl) (by kernel_rfl) (fun _ _ _ h => h) (Or.inr ⟨by kernel_rfl, rfl⟩) hHeld ?_
                    refine wpAnyH_take (i := 8) (oi := ⟨some 144, .move (.tmp 18), _, _, _, some (2, true)⟩) (v := undef) rfl (by kernel_rfl) (by kernel_rfl) (by kernel_rfl) (fun _ _ _ h => h) (Or.inr ⟨by kernel_rfl, rfl⟩) hHeld ?_
                    refine wpAnyH_take (i := 9) (oi := ⟨some 145, .binOp .sub 3 (.tmp 144) (.const (.int .i64 1)) 3, _, _, _, some (2, true)⟩) (v := undef) rfl (by kernel_rfl) (by kernel_rfl) (by kernel_rfl) (fun _ _ _ h => h) (Or.inr ⟨by kernel_rfl, rfl⟩) hHeld ?_
                    refine wpAnyH_take (i := 10) (oi := ⟨some 146, .indexAddr 30 (.tmp 143) (.tmp 145), _, _, _, some (2, true)⟩) (v := undef) rfl (by kernel_rfl) (by kernel_rfl) (by kernel_rfl) (fun _ _ _ h => h) (Or.inr ⟨by kernel_rfl, rfl⟩) hHeld ?_
                    refine wpAnyH_take (i := 11) (oi := ⟨some 147, .load 9 (.tmp 146), _, _, _, some (2, true)⟩) (v := undef) rfl (by kernel_rfl) (by kernel_rfl) (by kernel_rfl) (fun _ _ _ h => h) (Or.inr ⟨by kernel_rfl, rfl⟩) hHeld ?_
                    refine wpAnyH_take (i := 12) (oi := ⟨some 148, .binOp .leq 9 (.tmp 142) (.tmp 147) 9, _, _, _, some (2, true)⟩) (v := undef) rfl (by kernel_rfl) (by kernel_rfl) (by kernel_rfl) (fun _ _ _ h => h) (Or.inr ⟨by kernel_rfl, rfl⟩) hHeld ?_
                    refine wpAnyH_take (i := 13) (oi := ⟨some 149, .pick (.tmp 138) (.tmp 148) (.const (.bool false)), _, _, _, none⟩) (v := .bool false) rfl (by kernel_rfl) (by kernel_rfl) (by kernel_rfl) (fun _ _ _ h => h) (Or.inl ⟨by kernel_rfl, by intro W hW; go_simp⟩) hHeld ?_
                    refine wpAnyH_take (i := 14) (oi := ⟨some 150, .move (.tmp 149), _, _, _, none⟩) (v := .bool false) rfl (by kernel_rfl) (by kernel_rfl) (by kernel_rfl) (fun _ _ _ h => h) (Or.inl ⟨by kernel_rfl, by intro W hW; go_simp⟩) hHeld ?_
                    refine wpAnyH_take (i := 15) (oi := ⟨some 151, .move (.tmp 0), _, _, _, some (14, false)⟩) (v := .slice po ns.length c) rfl (by kernel_rfl) (by kernel_rfl) (by kernel_rfl) (fun _ _ _ h => h) (Or.inl ⟨by kernel_rfl, by intro W hW; go_simp⟩) hHeld ?_
                    refine wpAnyH_take (i := 16) (oi := ⟨some 152, .move (.tmp 15), _, _, _, some (14, false)⟩) (v := (.slice (some ⟨b, o, none⟩) mm c1)) rfl (by kernel_rfl) (by kernel_rfl) (by kernel_rfl) (fun _ _ _ h => h) (Or.inl ⟨by kernel_rfl, by intro W hW; go_simp⟩) hHeld ?_
                    refine wpAnyH_take (i := 17) (oi := ⟨some 153, .move (.tmp 18), _, _, _, some (14, false)⟩) (v := .int .i64 0) rfl (by kernel_rfl) (by kernel_rfl) (by kernel_rfl) (fun _ _ _ h => h) (Or.inl ⟨by kernel_rfl, by intro W hW; go_simp⟩) hHeld ?_
                    refine wpAnyH_take (i := 18) (oi := ⟨some 154, .indexAddr 30 (.tmp 152) (.tmp 153), _, _, _, some (14, false)⟩) (v := .pointer (some ⟨b, o, none⟩)) rfl (by kernel_rfl) (by kernel_rfl) (by kernel_rfl) (fun _ _ _ h => h) (Or.inl ⟨by kernel_rfl, by intro W hW; go_simp⟩) hHeld ?_
                    refine wpAnyH_take (i := 19) (oi := ⟨some 155, .load 9 (.tmp 154), _, _, _, some (14, false)⟩) (v := sv x) rfl (by kernel_rfl) (by kernel_rfl) (by kernel_rfl) (fun _ _ _ h => h) (Or.inl ⟨by kernel_rfl, by intro W hW; go_simp⟩) hHeld ?_
                    refine wpAnyH_ready (rs := [20]) (by kernel_rfl) (by simp) ?_
                    refine AllReadyH.cons (o := ⟨some 156, .call { callee := .value (.func 22), args := #[.tmp 151, .tmp 155], argTypes := #[30, 9] }, _, _, _, some (14, false)⟩) rfl ?_ AllReadyH.nil
                    intro K hK
                    with_reducible refine step_callG ?_ 22 #[.slice po ns.length c, sv x] ?_ ?_
                    · kernel_rfl
                    · kernel_rfl
                    refine (HII.out _ HDW.out).mono ?_
                    rintro e wy ⟨rfl, hw⟩
                    have hw2 := hw.symm
                    subst hw2
                    refine ⟨_, rfl, hK.out _ _ (HCJ.out _ HDW.out) (fun hHeld => ?_)⟩
                    clear hK K
                    refine wpAnyH_take (i := 21) (oi := ⟨some 157, .binOp .eql 3 (.tmp 156) (.const (.int .i64 0)) 3, _, _, _, some (14, false)⟩) (v := .bool false) rfl (by kernel_rfl) (by kernel_rfl) (by kernel_rfl) (fun _ _ _ h => h) (Or.inl ⟨by kernel_rfl, by intro W hW; go_simp⟩) hHeld ?_
                    refine wpAnyH_take (i := 22) (oi := ⟨some 158, .pick (.tmp 150) (.const (.bool true)) (.tmp 157), _, _, _, none⟩) (v := .bool false) rfl (by kernel_rfl) (by kernel_rfl) (by kernel_rfl) (fun _ _ _ h => h) (Or.inl ⟨by kernel_rfl, by intro W hW; go_simp⟩) hHeld ?_
                    refine wpAnyH_done (by kernel_rfl) ?_ _
                    simp only [Act.put, List.setIfInBounds_toArray, List.set_cons_zero, List.set_cons_succ]
                    go_wp2
                    go_roundg (mm - 1)
                    case measure => omega
                    case rel => exact ⟨1, by omega, by omega, by go_num, HDW.out⟩
                  · obtain ⟨j, hj⟩ : ∃ j, i - 1 = j := ⟨_, rfl⟩
                    have h0' : (0 : Int) < (i : Int) := by omega
                    have hd0 : decide (0 < i) = true := decide_eq_true (by omega)
                    have hij : (i : Int) - 1 = (j : Int) := by omega
                    have hjm : (j : Int) < (mm : Int) := by omega
                    have hj0 : (0 : Int) ≤ (j : Int) := by omega
                    have hjw : IntKind.i64.wrap (j : Int) = (j : Int) := by exact IntWalk.i64_in _ ⟨by omega, by omega⟩
                    obtain ⟨hbl, hne⟩ := HLT.out i (by omega) hlt2
                    rw [hj] at hbl hne
                    have hne2 : (m.getD i [] == m.getD j []) = false := beq_eq_false_iff_ne.2 hne
                    have HCK : Hid (∀ W, Below w9.heap.size w9 W → W.cell? ⟨b, o + i, none⟩ = some (sv (m.getD i [])) ∧ W.cell? ⟨b, o + j, none⟩ = some (sv (m.getD j []))) := hid (fun W hb => ⟨HCJ.out W hb, by
                      obtain ⟨b', o', e', h'⟩ := HCA.out W hb j (by omega)
                      cases e'; exact h'⟩)
                    have y0 := (HCK.out wr HBZ.out).2
                    clear HCI HIL HIN HON HCL HIA HCA HLT hin h0 hlt2 hj hne
                    generalize m.getD i [] = x at *
                    generalize m.getD j [] = y at *
                    generalize cnT ns x = n1 at *
                    go_wp2_with fail
                    have HDW : Hid (Below w9.heap.size w9 wr.drew) := hid (below_on _ _ HBZ.out ((Below.refl _ _).drew))
                    refine then_only ?_
                    refine wp_region_held_drew (S := fun w' : World => w'.cell? ⟨b, o + i, none⟩ = some (sv x) ∧ w'.cell? ⟨b, o + j, none⟩ = some (sv y)) (by kernel_rfl) (HCK.out _ HDW.out) ?_
                    generalize wr.drew = wd at HDW ⊢
                    intro hHeld
                    refine wpAnyH_take (i := 0) (oi := ⟨some 136, .move (.tmp 18), _, _, _, none⟩) (v := .int .i64 (i : Int)) rfl (by kernel_rfl) (by kernel_rfl) (by kernel_rfl) (fun _ _ _ h => h) (Or.inl ⟨by kernel_rfl, by intro W hW; go_simp⟩) hHeld ?_
                    refine wpAnyH_take (i := 1) (oi := ⟨some 137, .binOp .gtr 3 (.tmp 136) (.const (.int .i64 0)) 3, _, _, _, none⟩) (v := .bool true) rfl (by kernel_rfl) (by kernel_rfl) (by kernel_rfl) (fun _ _ _ h => h) (Or.inl ⟨by kernel_rfl, by intro W hW; go_simp⟩) hHeld ?_
                    refine wpAnyH_take (i := 2) (oi := ⟨some 138, .move (.tmp 137), _, _, _, none⟩) (v := .bool true) rfl (by kernel_rfl) (by kernel_rfl) (by kernel_rfl) (fun _ _ _ h => h) (Or.inl ⟨by kernel_rfl, by intro W hW; go_simp⟩) hHeld ?_
                    refine wpAnyH_take (i := 3) (oi := ⟨some 139, .move (.tmp 15), _, _, _, some (2, true)⟩) (v := (.slice (some ⟨b, o, none⟩) mm c1)) rfl (by kernel_rfl) (by kernel_rfl) (by kernel_rfl) (fun _ _ _ h => h) (Or.inl ⟨by kernel_rfl, by intro W hW; go_simp⟩) hHeld ?_
                    refine wpAnyH_take (i := 4) (oi := ⟨some 140, .move (.tmp 18), _, _, _, some (2, true)⟩) (v := .int .i64 (i : Int)) rfl (by kernel_rfl) (by kernel_rfl) (by kernel_rfl) (fun _ _ _ h => h) (Or.inl ⟨by kernel_rfl, by intro W hW; go_simp⟩) hHeld ?_
                    refine wpAnyH_take (i := 5) (oi := ⟨some 141, .indexAddr 30 (.tmp 139) (.tmp 140), _, _, _, some (2, true)⟩) (v := .pointer (some ⟨b, o + i, none⟩)) rfl (by kernel_rfl) (by kernel_rfl) (by kernel_rfl) (fun _ _ _ h => h) (Or.inl ⟨by kernel_rfl, by intro W hW; go_simp⟩) hHeld ?_
                    refine wpAnyH_take (i := 6) (oi := ⟨some 142, .load 9 (.tmp 141), _, _, _, some (2, true)⟩) (v := sv x) rfl (by kernel_rfl) (by kernel_rfl) (by kernel_rfl) (fun _ _ _ h => h) (Or.inl ⟨by kernel_rfl, by intro W hW; obtain ⟨hw1, hw2⟩ := hW; go_simp⟩) hHeld ?_
                    refine wpAnyH_take (i := 7) (oi := ⟨some 143, .move (.tmp 15), _, _, _, some (2, true)⟩) (v := (.slice (some ⟨b, o, none⟩) mm c1)) rfl (by kernel_rfl) (by kernel_rfl) (by kernel_rfl) (fun _ _ _ h => h) (Or.inl ⟨by kernel_rfl, by intro W hW; go_simp⟩) hHeld ?_
                    refine wpAnyH_take (i := 8) (oi := ⟨some 144, .move (.tmp 18), _, _, _, some (2, true)⟩) (v := .int .i64 (i : Int)) rfl (by kernel_rfl) (by kernel_rfl) (by kernel_rfl) (fun _ _ _ h => h) (Or.inl ⟨by kernel_rfl, by intro W hW; go_simp⟩) hHeld ?_
                    refine wpAnyH_take (i := 9) (oi := ⟨some 145, .binOp .sub 3 (.tmp 144) (.const (.int .i64 1)) 3, _, _, _, some (2, true)⟩) (v := .int .i64 (j : Int)) rfl (by kernel_rfl) (by kernel_rfl) (by kernel_rfl) (fun _ _ _ h => h) (Or.inl ⟨by kernel_rfl, by intro W hW; go_simp⟩) hHeld ?_
                    refine wpAnyH_take (i := 10) (oi := ⟨some 146, .indexAddr 30 (.tmp 143) (.tmp 145), _, _, _, some (2, true)⟩) (v := .pointer (some ⟨b, o + j, none⟩)) rfl (by kernel_rfl) (by kernel_rfl) (by kernel_rfl) (fun _ _ _ h => h) (Or.inl ⟨by kernel_rfl, by intro W hW; go_simp⟩) hHeld ?_
                    refine wpAnyH_take (i := 11) (oi := ⟨some 147, .load 9 (.tmp 146), _, _, _, some (2, true)⟩) (v := sv y) rfl (by kernel_rfl) (by kernel_rfl) (by kernel_rfl) (fun _ _ _ h => h) (Or.inl ⟨by kernel_rfl, by intro W hW; obtain ⟨hw1, hw2⟩ := hW; go_simp⟩) hHeld ?_
                    refine wpAnyH_take (i := 12) (oi := ⟨some 148, .binOp .leq 9 (.tmp 142) (.tmp 147) 9, _, _, _, some (2, true)⟩) (v := .bool false) rfl (by kernel_rfl) (by kernel_rfl) (by kernel_rfl) (fun _ _ _ h => h) (Or.inl ⟨by kernel_rfl, by intro W hW; go_simp⟩) hHeld ?_
                    refine wpAnyH_take (i := 13) (oi := ⟨some 149, .pick (.tmp 138) (.tmp 148) (.const (.bool false)), _, _, _, none⟩) (v := .bool false) rfl (by kernel_rfl) (by kernel_rfl) (by kernel_rfl) (fun _ _ _ h => h) (Or.inl ⟨by kernel_rfl, by intro W hW; go_simp⟩) hHeld ?_
                    refine wpAnyH_take (i := 14) (oi := ⟨some 150, .move (.tmp 149), _, _, _, none⟩) (v := .bool false) rfl (by kernel_rfl) (by kernel_rfl) (by kernel_rfl) (fun _ _ _ h => h) (Or.inl ⟨by kernel_rfl, by intro W hW; go_simp⟩) hHeld ?_
                    refine wpAnyH_take (i := 15) (oi := ⟨some 151, .move (.tmp 0), _, _, _, some (14, false)⟩) (v := .slice po ns.length c) rfl (by kernel_rfl) (by kernel_rfl) (by kernel_rfl) (fun _ _ _ h => h) (Or.inl ⟨by kernel_rfl, by intro W hW; go_simp⟩) hHeld ?_
                    refine wpAnyH_take (i := 16) (oi := ⟨some 152, .move (.tmp 15), _, _, _, some (14, false)⟩) (v := (.slice (some ⟨b, o, none⟩) mm c1)) rfl (by kernel_rfl) (by kernel_rfl) (by kernel_rfl) (fun _ _ _ h => h) (Or.inl ⟨by kernel_rfl, by intro W hW; go_simp⟩) hHeld ?_
                    refine wpAnyH_take (i := 17) (oi := ⟨some 153, .move (.tmp 18), _, _, _, some (14, false)⟩) (v := .int .i64 (i : Int)) rfl (by kernel_rfl) (by kernel_rfl) (by kernel_rfl) (fun _ _ _ h => h) (Or.inl ⟨by kernel_rfl, by intro W hW; go_simp⟩) hHeld ?_
                    refine wpAnyH_take (i := 18) (oi := ⟨some 154, .indexAddr 30 (.tmp 152) (.tmp 153), _, _, _, some (14, false)⟩) (v := .pointer (some ⟨b, o + i, none⟩)) rfl (by kernel_rfl) (by kernel_rfl) (by kernel_rfl) (fun _ _ _ h => h) (Or.inl ⟨by kernel_rfl, by intro W hW; go_simp⟩) hHeld ?_
                    refine wpAnyH_take (i := 19) (oi := ⟨some 155, .load 9 (.tmp 154), _, _, _, some (14, false)⟩) (v := sv x) rfl (by kernel_rfl) (by kernel_rfl) (by kernel_rfl) (fun _ _ _ h => h) (Or.inl ⟨by kernel_rfl, by intro W hW; obtain ⟨hw1, hw2⟩ := hW; go_simp⟩) hHeld ?_
                    refine wpAnyH_ready (rs := [20]) (by kernel_rfl) (by simp) ?_
                    refine AllReadyH.cons (o := ⟨some 156, .call { callee := .value (.func 22), args := #[.tmp 151, .tmp 155], argTypes := #[30, 9] }, _, _, _, some (14, false)⟩) rfl ?_ AllReadyH.nil
                    intro K hK
                    with_reducible refine step_callG ?_ 22 #[.slice po ns.length c, sv x] ?_ ?_
                    · kernel_rfl
                    · kernel_rfl
                    refine (HII.out _ HDW.out).mono ?_
                    rintro e wy ⟨rfl, hw⟩
                    have hw2 := hw.symm
                    subst hw2
                    refine ⟨_, rfl, hK.out _ _ (HCK.out _ HDW.out) (fun hHeld => ?_)⟩
                    clear hK K
                    refine wpAnyH_take (i := 21) (oi := ⟨some 157, .binOp .eql 3 (.tmp 156) (.const (.int .i64 0)) 3, _, _, _, some (14, false)⟩) (v := .bool false) rfl (by kernel_rfl) (by kernel_rfl) (by kernel_rfl) (fun _ _ _ h => h) (Or.inl ⟨by kernel_rfl, by intro W hW; go_simp⟩) hHeld ?_
                    refine wpAnyH_take (i := 22) (oi := ⟨some 158, .pick (.tmp 150) (.const (.bool true)) (.tmp 157), _, _, _, none⟩) (v := .bool false) rfl (by kernel_rfl) (by kernel_rfl) (by kernel_rfl) (fun _ _ _ h => h) (Or.inl ⟨by kernel_rfl, by intro W hW; go_simp⟩) hHeld ?_
                    refine wpAnyH_done (by kernel_rfl) ?_ _
                    simp only [Act.put, List.setIfInBounds_toArray, List.set_cons_zero, List.set_cons_succ]
                    go_wp2
                    go_roundg (mm - (i + 1))
                    case measure => omega
                    case rel => exact ⟨i + 1, by omega, by omega, by go_num, HDW.out⟩
                · have hlt2' : ¬ (i : Int) < (mm : Int) := by omega
                  clear HCA HLT HIN
                  go_wp2
                  go_loopg [19] ns.length (fun gg q wz => ∃ i : Nat, i ≤ ns.length ∧ ns.length - i ≤ gg ∧ q = .int .i64 (i : Int) ∧ Below w9.heap.size w9 wz)
                  case atStart => exact ⟨0, Nat.zero_le _, by omega, rfl, HBZ.out⟩
                  case round =>
                    clear HBZ
                    obtain ⟨j, hj, hgj, rfl, hb⟩ := hrel
                    have HBZ := hid hb
                    clear hb
                    by_cases hlt3 : j < ns.length
                    · have hlt3' : (j : Int) < (ns.length : Int) := by omega
                      have hj3 : (j : Int) < 1000 := by omega
                      have HII := hid (fun W hb => HIA.out W hb (ns.getD j []))
                      obtain ⟨b, o, hp, z0⟩ := HCL.out wr (below_on _ _ HBX.out HBZ.out) j hlt3
                      subst hp
                      have h1n := HON.out j hlt3
                      rw [h1n] at HII
                      clear HIL HIA HCL HON h1n
                      generalize ns.getD j [] = x at *
                      go_wp2_with (go_at_call 22; refine (HII.out _ HBZ.out).mono ?_; rintro e wy ⟨rfl, hw⟩; have hw2 := hw.symm; subst hw2)
                      go_roundg (ns.length - (j + 1))
                      case measure => omega
                      case rel => exact ⟨j + 1, by omega, by omega, by go_num, HBZ.out⟩
                    · have hlt3' : ¬ (j : Int) < (ns.length : Int) := by omega
                      have HE := hid (below_on _ _ HB3.out (below_on _ _ HBX.out HBZ.out))
                      go_wp2
                      go_ret
                      exact ⟨rfl, HE.out⟩
    · have he : prE ns k = 2 := by
        unfold prE at hz ⊢
        rw [if_pos (by omega), if_neg (by omega)] at hz ⊢
        split at hz
        · exact absurd rfl hz
        · rename_i hno; rw [if_neg hno]
      have HP1 : Hid (∀ W, Below w.heap.size w W → Calls Try.prog 15 #[.slice po ns.length c, .int .i64 (k : Int)] W fun e w' => e = .returned (.tuple #[.slice none 0 0, .int .i64 2]) ∧ Below W.heap.size W w') := hid (fun W hb => (HPA.out W hb).mono fun e w' hq => by
        rcases hq with ⟨h1, _⟩ | ⟨_, h1, h2⟩
        · exact absurd h1 hz
        · rw [he] at h1; exact ⟨h1, h2⟩)
      clear HPA hP htx hls hrm hz he hls5 hn60
      unfold maxLen at hln
      go_enter Try.func6, Try.ntmps6
      go_wp2_with (first
        | (go_at_call 12; refine HAW.out.mono ?_; rintro e w1 ⟨rfl, hb1⟩; have HB := hid hb1; clear hb1)
        | (go_at_call 13; refine (HLG.out _ HB.out).mono ?_; rintro e w2 ⟨rfl, hw⟩; have hw2 := hw.symm; subst hw2)
        | (go_at_call 15; refine (HP1.out _ HB.out).mono ?_; rintro e w3 ⟨rfl, hb3⟩; have HB3 := hid (below_on _ _ HB.out hb3); clear hb3))
      go_ret
      exact ⟨rfl, HB3.out⟩
  · unfold maxLen at hln
    have hor : lgB ns 60 = true ∨ n < 1 ∨ 4 < n := by
      cases hg : lgB ns 60 with
      | true => exact .inl rfl
      | false => exact .inr (by
          by_cases h1 : n < 1
          · exact .inl h1
          · by_cases h4 : 4 < n
            · exact .inr h4
            · exact absurd ⟨hg, by omega, by omega⟩ hmain)
    clear hP htx hls hrm hmain
    generalize lgB ns 60 = r at *
    by_cases hq1 : n < 1
    · cases r
      all_goals
        go_enter Try.func6, Try.ntmps6
        go_wp2_with (first
          | (go_at_call 12; refine HAW.out.mono ?_; rintro e w1 ⟨rfl, hb1⟩; have HB := hid hb1; clear hb1)
          | (go_at_call 13; refine (HLG.out _ HB.out).mono ?_; rintro e w2 ⟨rfl, hw⟩; have hw2 := hw.symm; subst hw2))
        go_ret
        exact ⟨rfl, HB.out⟩
    · by_cases hq4 : 4 < n
      · cases r
        all_goals
          go_enter Try.func6, Try.ntmps6
          go_wp2_with (first
            | (go_at_call 12; refine HAW.out.mono ?_; rintro e w1 ⟨rfl, hb1⟩; have HB := hid hb1; clear hb1)
            | (go_at_call 13; refine (HLG.out _ HB.out).mono ?_; rintro e w2 ⟨rfl, hw⟩; have hw2 := hw.symm; subst hw2))
          go_ret
          exact ⟨rfl, HB.out⟩
      · have hr : r = true := by rcases hor with h | h; exact h; omega
        subst hr
        go_enter Try.func6, Try.ntmps6
        go_wp2_with (first
          | (go_at_call 12; refine HAW.out.mono ?_; rintro e w1 ⟨rfl, hb1⟩; have HB := hid hb1; clear hb1)
          | (go_at_call 13; refine (HLG.out _ HB.out).mono ?_; rintro e w2 ⟨rfl, hw⟩; have hw2 := hw.symm; subst hw2))
        go_ret
        exact ⟨rfl, HB.out⟩
end Go.Proofs.Ytkiojnledimihaa
