/- Texts laid into one: the remark ahead of each part says what is proved there. -/
import Derived.Test.YtklchjfkkbpipaaGreatDoorPaa
import Derived.Test.YtklchjfkkbpipaaGreatDoorPab
import Derived.Test.YtklchjfkkbpipaaGreatDoorPac
import Derived.Test.YtklchjfkkbpipaaGreatDoorPad
import Derived.Test.YtklchjfkkbpipaaGreatDoorPae
import Derived.Test.YtklchjfkkbpipaaGreatDoorPaf
import Derived.Test.YtklchjfkkbpipaaGreatDoorPag
import Derived.Test.YtklchjfkkbpipaaGreatDoorPah
import Derived.Test.YtklchjfkkbpipaaGreatDoorPai
import Derived.Test.YtklchjfkkbpipaaGreatDoorPaj
import Derived.Test.YtklchjfkkbpipaaGreatDoorPak
import Derived.Test.YtklchjfkkbpipaaGreatDoorPal
import Derived.Test.YtklchjfkkbpipaaGreatDoorPam
import Derived.Test.YtklchjfkkbpipaaGreatDoorPan
import Derived.Test.YtklchjfkkbpipaaGreatDoorPao
import Derived.Test.YtklchjfkkbpipaaGreatDoorSaa
import Derived.Test.YtklchjfkkbpipaaGreatDoorSad
/- FanAll: its walk. -/
namespace Go.Proofs.YtklchjfkkbpipaaGreatDoor
open Go Go.RowKit Go.Shelf

set_option maxHeartbeats 60000000 in
set_option maxRecDepth 100000 in
theorem fanAll_walk (a0 a1 a2 a3 : Value) (old l : List FilV) (aw fu : List Bool) (need : Int) (w : World) (hE : Erh w) (h0 : IsFs w a0 old) (h1 : IsFs w a1 l) (h2 : IsKs w a2 aw) (h3 : IsKs w a3 fu) :
    Calls Tryz.prog 5 #[a0, a1, a2, a3, .int .i64 need] w fun e w' => e = .returned (.bool true) ∧ Below w.heap.size w w' := by
  have HE := hid hE
  have HA := hid (fawake_any w hE)
  have H0 := hid h0
  have H1 := hid h1
  have H2 := hid h2
  have H3 := hid h3
  obtain ⟨p0, c0, rfl⟩ := h0.form
  obtain ⟨p1, c1, rfl⟩ := h1.form
  obtain ⟨p2, c2, rfl⟩ := h2.form
  obtain ⟨p3, c3, rfl⟩ := h3.form
  clear hE h0 h1 h2 h3
  go_enter Tryz.func5, Tryz.ntmps5
  go_upto_region 3 with (go_at_call 20; refine HA.out.mono ?_; rintro e w1 ⟨rfl, hb1⟩; have HB1 := hid hb1; clear hb1)
  by_cases q1 : l.length < 1
  · have q1' : (l.length : Int) < 1 := by omega
    go_wp2
    go_ret
    exact ⟨rfl, HB1.out⟩
  have q1' : ¬ (l.length : Int) < 1 := by omega
  by_cases q2 : l.length > 6
  · have q2' : (6 : Int) < (l.length : Int) := by omega
    go_wp2
    go_ret
    exact ⟨rfl, HB1.out⟩
  have q2' : ¬ (6 : Int) < (l.length : Int) := by omega
  by_cases q3 : old.length > 6
  · have q3' : (6 : Int) < (old.length : Int) := by omega
    go_wp2
    go_ret
    exact ⟨rfl, HB1.out⟩
  have q3' : ¬ (6 : Int) < (old.length : Int) := by omega
  by_cases q4 : need < 1
  · go_wp2
    go_ret
    exact ⟨rfl, HB1.out⟩
  by_cases q5 : (l.length : Int) < need
  · go_wp2
    go_ret
    exact ⟨rfl, HB1.out⟩
  have HS := hid (some_any2 w w1 HB1.out l.length 5000 (by omega) (by omega) (by omega))
  go_upto_region 8 with (go_at_call 21; refine HS.out.mono ?_; rintro e w2 ⟨lv, p, T2, rfl, hfa, hls, hb2, -⟩; have HG0 : Hid (G1 w w2 l.length p lv old l aw fu 0 (.slice none 0 0)) := hid ⟨T2, [], ⟨by rw [dG_zero]; exact hfa, hls, World.ownsRow_nil _ _ _ _, (fun _ e => by cases e), (fun _ _ _ e => by cases e), (fun _ h => absurd h (by simp))⟩, by simp, fun j hj => absurd hj (Nat.not_lt_zero _)⟩; have HLS := hid hls; clear hfa hls hb2)
  clear HS HA
  obtain ⟨bl, cl, hlv⟩ : ∃ bl cl, lv = .slice (some ⟨bl, 0, none⟩) l.length cl := by
    rcases HLS.out.ex with ⟨h, _⟩ | ⟨_, b, c, h, _⟩
    · omega
    · exact ⟨b, c, h⟩
  subst hlv
  clear HLS
  go_wp2
  go_loopw [15, 16, 17] (fun v q r wr => ∃ i : Nat, i ≤ l.length ∧ r = .int .i64 (i : Int) ∧ q = .int .i64 (cnd old l aw fu i : Int) ∧ G1 w wr l.length p (.slice (some ⟨bl, 0, none⟩) l.length cl) old l aw fu i v) (fun _ _ r _ => (1000 - intOf r).toNat)
  case atStart => exact ⟨0, Nat.zero_le _, rfl, rfl, HG0.out⟩
  case round =>
    clear HG0
    obtain ⟨i, hi, rfl, rfl, hG⟩ := hrel
    have HG := hid hG
    have hcl := cnd_le old l aw fu i
    clear hG
    by_cases hlt : i < l.length
    · as_aux_lemma =>
        have hlt' : (i : Int) < (l.length : Int) := by omega
        have hi2 : (i : Int) < 1000 := by omega
        obtain ⟨T, rows, hg, hr, hn⟩ := HG.out
        have HGA := hid hg
        have HRW := hid hr
        have HNL := hid hn
        have HBE := hid hg.fa.be
        clear hg hr hn HG
        obtain ⟨b1, o1, hp1, hc1, hok1⟩ := H1.out.cells hlt
        subst hp1
        have HC1 := hid hc1
        have HX := hid hok1
        obtain ⟨x0, x1, x2, x3⟩ := hc1 wr HBE.out
        have HXE : Hid (flF l i = (l[i]).fl) := hid (flF_in hlt)
        clear hc1 hok1
        generalize hxe : l[i] = x at *
        cases hlg : x.lg with
        | true =>
          go_wp2_with (go_at_call 22; refine (large_any x _).mono ?_; rintro e w3 ⟨rfl, hb3⟩; rw [hlg]; have HB3 := hid (below_on _ _ HBE.out hb3); clear hb3)
          go_ret
          exact ⟨rfl, HB3.out⟩
        | false => as_aux_lemma =>
            by_cases hlo : i < old.length
            · as_aux_lemma =>
                have hlo' : (i : Int) < (old.length : Int) := by omega
                have t1 : True := trivial
                obtain ⟨b0, o0, hp0, hc0, hok0⟩ := H0.out.cells hlo
                subst hp0
                have HC0 := hid hc0
                have HY := hid hok0
                have HYE : Hid (oldF old i = (old[i]).fl) := hid (oldF_in hlo)
                clear hc0 hok0
                generalize hye : old[i] = y at *
                cases hyg : y.lg with
                | true =>
                  go_wp2_with (first
                    | (go_at_call 22; have _t := t1; refine (large_any x _).mono ?_; rintro e w3 ⟨rfl, hb3⟩; rw [hlg]; have HB3 := hid (below_on _ _ HBE.out hb3); clear t1 hb3 x0 x1 x2 x3; have y0 := (HC0.out _ HB3.out).1; have y1 := (HC0.out _ HB3.out).2.1; have y2 := (HC0.out _ HB3.out).2.2.1; have y3 := (HC0.out _ HB3.out).2.2.2)
                    | (go_at_call 22; refine (large_any y _).mono ?_; rintro e w4 ⟨rfl, hb4⟩; rw [hyg]; have HB4 := hid (below_on _ _ HB3.out hb4); clear hb4))
                  go_ret
                  exact ⟨rfl, HB4.out⟩
                | false => as_aux_lemma =>
                    go_upto_region 16 with (first
                      | (go_at_call 22; have _t := t1; clear t1; refine (large_any x _).mono ?_; rintro e w3 ⟨rfl, hb3⟩; rw [hlg]; have HGA := hid (HGA.out.below hb3); clear hb3 x0 x1 x2 x3; have y0 := (HC0.out _ HGA.out.fa.be).1; have y1 := (HC0.out _ HGA.out.fa.be).2.1; have y2 := (HC0.out _ HGA.out.fa.be).2.2.1; have y3 := (HC0.out _ HGA.out.fa.be).2.2.2)
                      | (go_at_call 22; refine (large_any y _).mono ?_; rintro e w4 ⟨rfl, hb4⟩; rw [hyg]; have HGA := hid (HGA.out.below hb4); clear hb4 y0 y1 y2 y3; have y0 := (HC0.out _ HGA.out.fa.be).1; have y1 := (HC0.out _ HGA.out.fa.be).2.1; have y2 := (HC0.out _ HGA.out.fa.be).2.2.1; have y3 := (HC0.out _ HGA.out.fa.be).2.2.2))
                    go_wp2_with ((go_at_call 23; refine (flist2_any y _).mono ?_; intro e w5 hq; obtain ⟨ro, he5, hrl, -, hro, hg5⟩ := HGA.out.listed HY.out hyg hq; subst he5; have HGB := hid hg5; have HRF := hid hrl; have HRK := hid hro; clear hq hrl hro hg5 y0 y1 y2 y3 HGA))
                    obtain ⟨rp, rcc, rl⟩ := ro
                    dsimp only [RowV.v] at *
                    have hrl3 : rl.length ≤ 3 := by have := y.fls_le; rw [← HRF.out] at this; exact this
                    have HYF : Hid (rl.map FlV.fl = oldF old i) := hid (by rw [HYE.out]; unfold FilV.fl; rw [← HRF.out])
                    have HI0 : Hid (∃ T', GaB w w5 T' l.length p (.slice (some ⟨bl, 0, none⟩) l.length cl) (upd (dG old aw fu i) i (wrL ((rl.map FlV.fl).take 0) (fresh 5000))) u15 rows ∧ RowV.ok w5 (fun b => T' b ∨ u15.ownBlock = some b) ⟨rp, rcc, rl⟩ ∧ Bnd 0 0 (wrL ((rl.map FlV.fl).take 0) (fresh 5000))) := hid ⟨T, by
                      have e : upd (dG old aw fu i) i (wrL ((rl.map FlV.fl).take 0) (fresh 5000)) = dG old aw fu i := by
                        show upd (dG old aw fu i) i (fresh 5000) = _
                        rw [← dG_at old aw fu i, upd_id]
                      rw [e]; exact HGB.out, HRK.out, ⟨Nat.le_refl _, Nat.le_refl _⟩⟩
                    clear HGB HRK HRF
                    go_loopw [94] (fun v wk => ∃ k : Nat, k ≤ rl.length ∧ v = .int .i64 (k : Int) ∧ ∃ T', GaB w wk T' l.length p (.slice (some ⟨bl, 0, none⟩) l.length cl) (upd (dG old aw fu i) i (wrL ((rl.map FlV.fl).take k) (fresh 5000))) u15 rows ∧ RowV.ok wk (fun b => T' b ∨ u15.ownBlock = some b) ⟨rp, rcc, rl⟩ ∧ Bnd k k (wrL ((rl.map FlV.fl).take k) (fresh 5000))) (fun v _ => (1000 - intOf v).toNat)
                    case atStart => exact ⟨0, Nat.zero_le _, rfl, HI0.out⟩
                    case round =>
                      clear HI0
                      obtain ⟨k, hk, rfl, T', hgk, hrk, hbk⟩ := hrel
                      have HGK := hid hgk
                      have HRK := hid hrk
                      have HBK := hid hbk
                      clear hgk hrk hbk
                      by_cases hkt : k < rl.length
                      · as_aux_lemma =>
                          have hkt' : (k : Int) < (rl.length : Int) := by omega
                          have hk2 : (k : Int) < 1000 := by omega
                          obtain ⟨br, or_, hrp, z0, z1⟩ : ∃ b o, rp = some ⟨b, o, none⟩ ∧ wr.cell? ⟨b, o + k * 2, none⟩ = some (sv (rl.getD k default).nm) ∧ wr.cell? ⟨b, o + k * 2 + 1, none⟩ = some (rl.getD k default).bv := by
                            rcases HRK.out.at_ with h | ⟨b, o, h1, _, h3⟩
                            · rw [show rl = [] from h] at hkt; exact absurd hkt (Nat.not_lt_zero _)
                            · exact ⟨b, o, h1, h3 k hkt⟩
                          subst hrp
                          have HZM := hid (HRK.out.el (rl.getD k default) (by rw [getD_in _ k default hkt]; exact List.getElem_mem hkt))
                          have HWE : Hid (upd (upd (dG old aw fu i) i (wrL ((rl.map FlV.fl).take k) (fresh 5000))) i ((upd (dG old aw fu i) i (wrL ((rl.map FlV.fl).take k) (fresh 5000)) i).write none (rl.getD k default).nm (rl.getD k default).bs).2.1 = upd (dG old aw fu i) i (wrL ((rl.map FlV.fl).take (k + 1)) (fresh 5000)) ∧ Bnd (k + 1) (k + 1) (wrL ((rl.map FlV.fl).take (k + 1)) (fresh 5000))) := hid (by
                            have e : wrL ((rl.map FlV.fl).take (k + 1)) (fresh 5000) = ((wrL ((rl.map FlV.fl).take k) (fresh 5000)).write none (rl.getD k default).nm (rl.getD k default).bs).2.1 := by
                              rw [wrL_take _ k (by simpa using hkt), getD_in _ k default hkt]
                              simp [FlV.fl]
                            rw [upd_upd, upd_same, e]
                            exact ⟨rfl, bnd_write HBK.out none _ _⟩)
                          have HWT : Hid (∀ W', Below wr.heap.size wr W' → Calls Tryz.prog 24 #[ptr (p i), sv (rl.getD k default).nm, (rl.getD k default).bv] W' fun e W2 => (∃ r : Nat, e = .returned (.int .i64 (r : Int))) ∧ Only T' W' W2 ∧ ∃ T', GaB w W2 T' l.length p (.slice (some ⟨bl, 0, none⟩) l.length cl) (upd (dG old aw fu i) i (wrL ((rl.map FlV.fl).take (k + 1)) (fresh 5000))) u15 rows ∧ RowV.ok W2 (fun b => T' b ∨ u15.ownBlock = some b) ⟨some ⟨br, or_, none⟩, rcc, rl⟩ ∧ Bnd (k + 1) (k + 1) (wrL ((rl.map FlV.fl).take (k + 1)) (fresh 5000))) := hid (fun W' hb => by
                            refine ((HGK.out.below hb).write hlt (rl.getD k default) (HZM.out.keep (fun b hb' _ => hb.block b hb') (fun _ _ h => h)) (by rw [upd_same]; exact HBK.out.mono (by omega) (by omega))).mono ?_
                            rintro e W2 ⟨h1, T6, hg6, hk6, ho6⟩
                            rw [HWE.out.1] at hk6
                            exact ⟨h1, ho6, T6, hk6, (HRK.out.below hb).step hg6 ho6, HWE.out.2⟩)
                          clear HWE
                          have HCL : Hid (∀ W', Below wr.heap.size wr W' → W'.cell? ⟨bl, i, none⟩ = some (ptr (p i))) := hid (fun W' hb => (ls_nt (HGK.out.below hb).ls rfl).2.2.2 i hlt)
                          generalize hze : rl.getD k default = z at *
                          obtain ⟨znm, zpb, zcb, zbs⟩ := z
                          dsimp only [FlV.bv] at *
                          go_wp2_with fail
                          have HAL : Hid (∀ W', Below (wr.alloc (.cells #[sv znm, .slice zpb zbs.length zcb] 66)).heap.size (wr.alloc (.cells #[sv znm, .slice zpb zbs.length zcb] 66)) W' → Below wr.heap.size wr W') := hid (fun W' hb => below_on _ _ ((Below.refl _ _).alloc (Nat.le_refl _) _) hb)
                          have HCC : Hid (∀ W', Below (wr.alloc (.cells #[sv znm, .slice zpb zbs.length zcb] 66)).heap.size (wr.alloc (.cells #[sv znm, .slice zpb zbs.length zcb] 66)) W' → W'.cell? ⟨bl, i, none⟩ = some (ptr (p i)) ∧ W'.cell? ⟨wr.heap.size, 0, none⟩ = some (sv znm) ∧ W'.cell? ⟨wr.heap.size, 1, none⟩ = some (.slice zpb zbs.length zcb)) := hid (fun W' hb => ⟨HCL.out W' (HAL.out W' hb), ((CAt.made wr #[sv znm, .slice zpb zbs.length zcb] 66).below hb).cell 0, ((CAt.made wr #[sv znm, .slice zpb zbs.length zcb] 66).below hb).cell 1⟩)
                          have HWS := hid (fun W' hb => (HWT.out W' (HAL.out W' hb)).mono (fun e W2 (h : _ ∧ _ ∧ _) => (⟨h.1, (by
                            have hcc := HCC.out W' hb
                            have n1 : ¬ T' bl := (ls_nt HGK.out.ls rfl).2.1
                            have n2 : ¬ T' wr.heap.size := fun ht => by have := HGK.out.fa.lt _ ht; omega
                            have key : ∀ b o v, ¬ T' b → W'.cell? ⟨b, o, none⟩ = some v → W2.cell? ⟨b, o, none⟩ = some v := fun b o v hn hc => (World.cell?_of_block (a := ⟨b, o, none⟩) (h.2.1.block b (cell_lt2 hc) hn)).trans hc
                            exact (⟨key _ _ _ n1 hcc.1, key _ _ _ n2 hcc.2.1, key _ _ _ n2 hcc.2.2⟩ : W2.cell? ⟨bl, i, none⟩ = some (ptr (p i)) ∧ W2.cell? ⟨wr.heap.size, 0, none⟩ = some (sv znm) ∧ W2.cell? ⟨wr.heap.size, 1, none⟩ = some (.slice zpb zbs.length zcb))), h.2.2⟩ : _ ∧ (W2.cell? ⟨bl, i, none⟩ = some (ptr (p i)) ∧ W2.cell? ⟨wr.heap.size, 0, none⟩ = some (sv znm) ∧ W2.cell? ⟨wr.heap.size, 1, none⟩ = some (.slice zpb zbs.length zcb)) ∧ _)))
                          go_region_held3 (fun w' => w'.cell? ⟨bl, i, none⟩ = some (ptr (p i)) ∧ w'.cell? ⟨wr.heap.size, 0, none⟩ = some (sv znm) ∧ w'.cell? ⟨wr.heap.size, 1, none⟩ = some (.slice zpb zbs.length zcb)) (first | exact hc6 | exact HCC.out _ (Below.refl _ _) | exact HCC.out _ (below_drewN _ _)) ((go_at_call 24; (first | refine (HWS.out _ (below_drewN _ _)).mono ?_ | refine (HWS.out _ (Below.refl _ _)).mono ?_); rintro e w6 ⟨⟨rr, rfl⟩, hc6, hk6⟩; have HK6 := hid hk6; clear hk6))
                          go_wp2
                          go_roundw
                          case rel => exact ⟨k + 1, by omega, by go_num, HK6.out⟩
                          case measure => simp [intOf]; omega
                      · as_aux_lemma =>
                          have hkt' : ¬ (k : Int) < (rl.length : Int) := by omega
                          have ek : k = rl.length := by omega
                          have HGC : Hid (∃ T', GaB w wr T' l.length p (.slice (some ⟨bl, 0, none⟩) l.length cl) (upd (dG old aw fu i) i (wrL (oldF old i) (fresh 5000))) u15 rows) := hid ⟨T', by
                            have := HGK.out
                            rw [List.take_of_length_le (by simp [ek]), HYF.out] at this
                            exact this⟩
                          clear HGK HRK HBK
                          have t1 : True := trivial
                          obtain ⟨T7, hg7⟩ := HGC.out
                          have HG7 := hid hg7
                          clear hg7 HGC
                          have x0 := (HC1.out _ HG7.out.fa.be).1
                          have x1 := (HC1.out _ HG7.out.fa.be).2.1
                          have x2 := (HC1.out _ HG7.out.fa.be).2.2.1
                          have x3 := (HC1.out _ HG7.out.fa.be).2.2.2
                          have hrl0 : rows.length = i := by have := congrArg List.length HRW.out; simpa [Nat.min_eq_left hi] using this
                          go_upto_region 22 with (first
                            | (go_at_call 23; refine (flist2_any x _).mono ?_; intro e w8 hq; obtain ⟨r, he8, hrl, -, hro, hg8⟩ := HG7.out.listed HX.out hlg hq; subst he8; obtain ⟨v9, w9, hrun, hg9⟩ := hg8.push r hro (by omega); have HRUN := hid hrun; have HG9 := hid hg9; have HRL := hid hrl; clear hq hrl hro hg8 hrun hg9 x0 x1 x2 x3 HG7)
                            | (at_builtin; refine wpList_append_run _ _ 31 rfl rfl _ _ v9 rfl rfl HRUN.out ?_; clear HRUN))
                          obtain ⟨g9, c9, hv9, -⟩ := HG9.out.last (i := i) (by simp; omega)
                          subst hv9
                          have hln : (flF l i).length = r.l.length := by rw [HXE.out, HRL.out]; unfold FilV.fl; simp
                          have HCW := hid (canW_at old l aw fu i hln)
                          have HCS := hid (cnd_succ old l aw fu i)
                          have HNX : Hid (∀ W T', GaB w W T' l.length p (.slice (some ⟨bl, 0, none⟩) l.length cl) (upd (dG old aw fu i) i (dAt old aw fu i)) (.slice (some ⟨g9, 0, none⟩) (rows ++ [r]).length c9) (rows ++ [r]) → G1 w W l.length p (.slice (some ⟨bl, 0, none⟩) l.length cl) old l aw fu (i + 1) (.slice (some ⟨g9, 0, none⟩) (rows ++ [r]).length c9)) := hid (fun W T' h => h.over hlt HRW.out (by rw [hxe]; exact HRL.out) HNL.out (by rw [hxe]; exact hlg) (fun _ => by rw [hye]; exact hyg))
                          have HDA := hid (dAt_of old aw fu i (dG old aw fu i) (wrL (oldF old i) (fresh 5000)) rfl)
                          have HLC : Hid (∀ W T' d', GaB w W T' l.length p (.slice (some ⟨bl, 0, none⟩) l.length cl) d' (.slice (some ⟨g9, 0, none⟩) (rows ++ [r]).length c9) (rows ++ [r]) → W.cell? ⟨g9, i, none⟩ = some (.slice r.po r.l.length r.c) ∧ W.cell? ⟨bl, i, none⟩ = some (ptr (p i))) := hid (fun W T' d' h => ⟨by have := h.lastc (i := i) (by simp; omega); rw [getD_snoc _ _ hrl0] at this; exact this, (ls_nt h.ls rfl).2.2.2 i hlt⟩)
                          have hrn : r.l.length ≤ 3 := by rw [HRL.out]; exact x.fls_le
                          have hrl9 : (rows ++ [r]).length = i + 1 := by simp [hrl0]
                          have HAW : Hid (∀ W, Below w.heap.size w W → ∀ o, o = aw.getD i false → True) := hid (fun _ _ _ _ => trivial)
                          generalize hoff : aw.getD i false = off at *
                          generalize hful : fu.getD i false = ful at *
                          generalize hm9 : (rows ++ [r]).length = m9 at *
                          subst hrl9
                          generalize dAt old aw fu i = dA at *
                          clear HXE HRW HNL
                          by_cases hia : i < aw.length
                          · as_aux_lemma =>
                              have hia' : (i : Int) < (aw.length : Int) := by omega
                              obtain ⟨b2, o2, hp2, hc2⟩ := H2.out.cell hia
                              subst hp2
                              have ka := hc2 w9 HG9.out.fa.be
                              rw [hoff] at ka
                              clear hc2
                              go_upto_region 23 with fail
                              clear ka
                              by_cases hif : i < fu.length
                              · as_aux_lemma =>
                                  have hif' : (i : Int) < (fu.length : Int) := by omega
                                  obtain ⟨b3, o3, hp3, hc3⟩ := H3.out.cell hif
                                  subst hp3
                                  have kf := hc3 w9 HG9.out.fa.be
                                  rw [hful] at kf
                                  clear hc3
                                  go_upto_region 24 with fail
                                  clear kf
                                  have k9 := (HLC.out _ _ _ HG9.out).2
                                  go_upto_region 26 with (first
                                    | (go_at_call 25; refine (HG9.out.offline hlt off).mono ?_; rintro e w10 ⟨rfl, T10, hg10⟩; have HG10 := hid hg10; have k10 := (HLC.out _ _ _ hg10).2; clear hg10 k9)
                                    | (go_at_call 26; refine (HG10.out.full hlt ful).mono ?_; rintro e w11 ⟨rfl, T11, hg11⟩; rw [HDA.out] at hg11; have HN11 := hid (HNX.out _ _ hg11); have k11 := (HLC.out _ _ _ hg11).1; clear hg11 k10))
                                  by_cases hem : r.l.length = 0
                                  · have hem' : ((r.l.length : Int) == 0) = true := by rw [hem]; rfl
                                    go_wp2
                                    go_roundw
                                    case rel => exact ⟨i + 1, by omega, by go_num, by rw [HCS.out, HCW.out]; simp [hem], HN11.out⟩
                                    case measure => simp [intOf]; omega
                                  · as_aux_lemma =>
                                      have hem' : ((r.l.length : Int) == 0) = false := beq_eq_false_iff_ne.2 (by omega)
                                      cases off
                                      · cases ful
                                        · go_wp2
                                          go_roundw
                                          case rel => exact ⟨i + 1, by omega, by go_num, by rw [HCS.out, HCW.out]; simp [hem], HN11.out⟩
                                          case measure => simp [intOf]; omega
                                        · go_wp2
                                          go_roundw
                                          case rel => exact ⟨i + 1, by omega, by go_num, by rw [HCS.out, HCW.out]; simp [hem], HN11.out⟩
                                          case measure => simp [intOf]; omega
                                      · cases ful
                                        · go_wp2
                                          go_roundw
                                          case rel => exact ⟨i + 1, by omega, by go_num, by rw [HCS.out, HCW.out]; simp [hem], HN11.out⟩
                                          case measure => simp [intOf]; omega
                                        · go_wp2
                                          go_roundw
                                          case rel => exact ⟨i + 1, by omega, by go_num, by rw [HCS.out, HCW.out]; simp [hem], HN11.out⟩
                                          case measure => simp [intOf]; omega
                              · as_aux_lemma =>
                                  have hif' : ¬ (i : Int) < (fu.length : Int) := by omega
                                  have hfo : ful = false := by rw [← hful]; simp [List.getD]; rw [List.getElem?_eq_none (by omega)]; rfl
                                  subst hfo
                                  go_upto_region 24 with fail
                                  have k9 := (HLC.out _ _ _ HG9.out).2
                                  go_upto_region 26 with (first
                                    | (go_at_call 25; refine (HG9.out.offline hlt off).mono ?_; rintro e w10 ⟨rfl, T10, hg10⟩; have HG10 := hid hg10; have k10 := (HLC.out _ _ _ hg10).2; clear hg10 k9)
                                    | (go_at_call 26; refine (HG10.out.full hlt false).mono ?_; rintro e w11 ⟨rfl, T11, hg11⟩; rw [HDA.out] at hg11; have HN11 := hid (HNX.out _ _ hg11); have k11 := (HLC.out _ _ _ hg11).1; clear hg11 k10))
                                  by_cases hem : r.l.length = 0
                                  · have hem' : ((r.l.length : Int) == 0) = true := by rw [hem]; rfl
                                    go_wp2
                                    go_roundw
                                    case rel => exact ⟨i + 1, by omega, by go_num, by rw [HCS.out, HCW.out]; simp [hem], HN11.out⟩
                                    case measure => simp [intOf]; omega
                                  · as_aux_lemma =>
                                      have hem' : ((r.l.length : Int) == 0) = false := beq_eq_false_iff_ne.2 (by omega)
                                      cases off
                                      · go_wp2
                                        go_roundw
                                        case rel => exact ⟨i + 1, by omega, by go_num, by rw [HCS.out, HCW.out]; simp [hem], HN11.out⟩
                                        case measure => simp [intOf]; omega
                                      · go_wp2
                                        go_roundw
                                        case rel => exact ⟨i + 1, by omega, by go_num, by rw [HCS.out, HCW.out]; simp [hem], HN11.out⟩
                                        case measure => simp [intOf]; omega
                          · as_aux_lemma =>
                              have hia' : ¬ (i : Int) < (aw.length : Int) := by omega
                              have hoo : off = false := by rw [← hoff]; simp [List.getD]; rw [List.getElem?_eq_none (by omega)]; rfl
                              subst hoo
                              go_upto_region 23 with fail
                              by_cases hif : i < fu.length
                              · as_aux_lemma =>
                                  have hif' : (i : Int) < (fu.length : Int) := by omega
                                  obtain ⟨b3, o3, hp3, hc3⟩ := H3.out.cell hif
                                  subst hp3
                                  have kf := hc3 w9 HG9.out.fa.be
                                  rw [hful] at kf
                                  clear hc3
                                  go_upto_region 24 with fail
                                  clear kf
                                  have k9 := (HLC.out _ _ _ HG9.out).2
                                  go_upto_region 26 with (first
                                    | (go_at_call 25; refine (HG9.out.offline hlt false).mono ?_; rintro e w10 ⟨rfl, T10, hg10⟩; have HG10 := hid hg10; have k10 := (HLC.out _ _ _ hg10).2; clear hg10 k9)
                                    | (go_at_call 26; refine (HG10.out.full hlt ful).mono ?_; rintro e w11 ⟨rfl, T11, hg11⟩; rw [HDA.out] at hg11; have HN11 := hid (HNX.out _ _ hg11); have k11 := (HLC.out _ _ _ hg11).1; clear hg11 k10))
                                  by_cases hem : r.l.length = 0
                                  · have hem' : ((r.l.length : Int) == 0) = true := by rw [hem]; rfl
                                    go_wp2
                                    go_roundw
                                    case rel => exact ⟨i + 1, by omega, by go_num, by rw [HCS.out, HCW.out]; simp [hem], HN11.out⟩
                                    case measure => simp [intOf]; omega
                                  · as_aux_lemma =>
                                      have hem' : ((r.l.length : Int) == 0) = false := beq_eq_false_iff_ne.2 (by omega)
                                      cases ful
                                      · go_wp2
                                        go_roundw
                                        case rel => exact ⟨i + 1, by omega, by go_num, by rw [HCS.out, HCW.out]; simp [hem], HN11.out⟩
                                        case measure => simp [intOf]; omega
                                      · go_wp2
                                        go_roundw
                                        case rel => exact ⟨i + 1, by omega, by go_num, by rw [HCS.out, HCW.out]; simp [hem], HN11.out⟩
                                        case measure => simp [intOf]; omega
                              · as_aux_lemma =>
                                  have hif' : ¬ (i : Int) < (fu.length : Int) := by omega
                                  have hfo : ful = false := by rw [← hful]; simp [List.getD]; rw [List.getElem?_eq_none (by omega)]; rfl
                                  subst hfo
                                  go_upto_region 24 with fail
                                  have k9 := (HLC.out _ _ _ HG9.out).2
                                  go_upto_region 26 with (first
                                    | (go_at_call 25; refine (HG9.out.offline hlt false).mono ?_; rintro e w10 ⟨rfl, T10, hg10⟩; have HG10 := hid hg10; have k10 := (HLC.out _ _ _ hg10).2; clear hg10 k9)
                                    | (go_at_call 26; refine (HG10.out.full hlt false).mono ?_; rintro e w11 ⟨rfl, T11, hg11⟩; rw [HDA.out] at hg11; have HN11 := hid (HNX.out _ _ hg11); have k11 := (HLC.out _ _ _ hg11).1; clear hg11 k10))
                                  by_cases hem : r.l.length = 0
                                  · have hem' : ((r.l.length : Int) == 0) = true := by rw [hem]; rfl
                                    go_wp2
                                    go_roundw
                                    case rel => exact ⟨i + 1, by omega, by go_num, by rw [HCS.out, HCW.out]; simp [hem], HN11.out⟩
                                    case measure => simp [intOf]; omega
                                  · have hem' : ((r.l.length : Int) == 0) = false := beq_eq_false_iff_ne.2 (by omega)
                                    go_wp2
                                    go_roundw
                                    case rel => exact ⟨i + 1, by omega, by go_num, by rw [HCS.out, HCW.out]; simp [hem], HN11.out⟩
                                    case measure => simp [intOf]; omega
            · as_aux_lemma =>
                have hlo' : ¬ (i : Int) < (old.length : Int) := by omega
                have HGC : Hid (∃ T', GaB w wr T' l.length p (.slice (some ⟨bl, 0, none⟩) l.length cl) (upd (dG old aw fu i) i (wrL (oldF old i) (fresh 5000))) u15 rows) := hid ⟨T, by
                  rw [oldF_out hlo]
                  have e : upd (dG old aw fu i) i (wrL [] (fresh 5000)) = dG old aw fu i := by
                    show upd (dG old aw fu i) i (fresh 5000) = _
                    rw [← dG_at old aw fu i, upd_id]
                  rw [e]; exact HGA.out⟩
                clear HGA
                have t1 : True := trivial
                obtain ⟨T7, hg7⟩ := HGC.out
                have HG7 := hid hg7
                clear hg7 HGC
                have hrl0 : rows.length = i := by have := congrArg List.length HRW.out; simpa [Nat.min_eq_left hi] using this
                go_upto_region 22 with (first
                  | (go_at_call 22; have _t := t1; clear t1; refine (large_any x _).mono ?_; rintro e w3 ⟨rfl, hb3⟩; rw [hlg]; have HG7 := hid (HG7.out.below hb3); clear hb3 x0 x1 x2 x3; have x0 := (HC1.out _ HG7.out.fa.be).1; have x1 := (HC1.out _ HG7.out.fa.be).2.1; have x2 := (HC1.out _ HG7.out.fa.be).2.2.1; have x3 := (HC1.out _ HG7.out.fa.be).2.2.2)
                  | (go_at_call 23; refine (flist2_any x _).mono ?_; intro e w8 hq; obtain ⟨r, he8, hrl, -, hro, hg8⟩ := HG7.out.listed HX.out hlg hq; subst he8; obtain ⟨v9, w9, hrun, hg9⟩ := hg8.push r hro (by omega); have HRUN := hid hrun; have HG9 := hid hg9; have HRL := hid hrl; clear hq hrl hro hg8 hrun hg9 x0 x1 x2 x3 HG7)
                  | (at_builtin; refine wpList_append_run _ _ 31 rfl rfl _ _ v9 rfl rfl HRUN.out ?_; clear HRUN))
                obtain ⟨g9, c9, hv9, -⟩ := HG9.out.last (i := i) (by simp; omega)
                subst hv9
                have hln : (flF l i).length = r.l.length := by rw [HXE.out, HRL.out]; unfold FilV.fl; simp
                have HCW := hid (canW_at old l aw fu i hln)
                have HCS := hid (cnd_succ old l aw fu i)
                have HNX : Hid (∀ W T', GaB w W T' l.length p (.slice (some ⟨bl, 0, none⟩) l.length cl) (upd (dG old aw fu i) i (dAt old aw fu i)) (.slice (some ⟨g9, 0, none⟩) (rows ++ [r]).length c9) (rows ++ [r]) → G1 w W l.length p (.slice (some ⟨bl, 0, none⟩) l.length cl) old l aw fu (i + 1) (.slice (some ⟨g9, 0, none⟩) (rows ++ [r]).length c9)) := hid (fun W T' h => h.over hlt HRW.out (by rw [hxe]; exact HRL.out) HNL.out (by rw [hxe]; exact hlg) (fun h => absurd h hlo))
                have HDA := hid (dAt_of old aw fu i (dG old aw fu i) (wrL (oldF old i) (fresh 5000)) rfl)
                have HLC : Hid (∀ W T' d', GaB w W T' l.length p (.slice (some ⟨bl, 0, none⟩) l.length cl) d' (.slice (some ⟨g9, 0, none⟩) (rows ++ [r]).length c9) (rows ++ [r]) → W.cell? ⟨g9, i, none⟩ = some (.slice r.po r.l.length r.c) ∧ W.cell? ⟨bl, i, none⟩ = some (ptr (p i))) := hid (fun W T' d' h => ⟨by have := h.lastc (i := i) (by simp; omega); rw [getD_snoc _ _ hrl0] at this; exact this, (ls_nt h.ls rfl).2.2.2 i hlt⟩)
                have hrn : r.l.length ≤ 3 := by rw [HRL.out]; exact x.fls_le
                have hrl9 : (rows ++ [r]).length = i + 1 := by simp [hrl0]
                have HAW : Hid (∀ W, Below w.heap.size w W → ∀ o, o = aw.getD i false → True) := hid (fun _ _ _ _ => trivial)
                generalize hoff : aw.getD i false = off at *
                generalize hful : fu.getD i false = ful at *
                generalize hm9 : (rows ++ [r]).length = m9 at *
                subst hrl9
                generalize dAt old aw fu i = dA at *
                clear HXE HRW HNL
                by_cases hia : i < aw.length
                · as_aux_lemma =>
                    have hia' : (i : Int) < (aw.length : Int) := by omega
                    obtain ⟨b2, o2, hp2, hc2⟩ := H2.out.cell hia
                    subst hp2
                    have ka := hc2 w9 HG9.out.fa.be
                    rw [hoff] at ka
                    clear hc2
                    go_upto_region 23 with fail
                    clear ka
                    by_cases hif : i < fu.length
                    · as_aux_lemma =>
                        have hif' : (i : Int) < (fu.length : Int) := by omega
                        obtain ⟨b3, o3, hp3, hc3⟩ := H3.out.cell hif
                        subst hp3
                        have kf := hc3 w9 HG9.out.fa.be
                        rw [hful] at kf
                        clear hc3
                        go_upto_region 24 with fail
                        clear kf
                        have k9 := (HLC.out _ _ _ HG9.out).2
                        go_upto_region 26 with (first
                          | (go_at_call 25; refine (HG9.out.offline hlt off).mono ?_; rintro e w10 ⟨rfl, T10, hg10⟩; have HG10 := hid hg10; have k10 := (HLC.out _ _ _ hg10).2; clear hg10 k9)
                          | (go_at_call 26; refine (HG10.out.full hlt ful).mono ?_; rintro e w11 ⟨rfl, T11, hg11⟩; rw [HDA.out] at hg11; have HN11 := hid (HNX.out _ _ hg11); have k11 := (HLC.out _ _ _ hg11).1; clear hg11 k10))
                        by_cases hem : r.l.length = 0
                        · have hem' : ((r.l.length : Int) == 0) = true := by rw [hem]; rfl
                          go_wp2
                          go_roundw
                          case rel => exact ⟨i + 1, by omega, by go_num, by rw [HCS.out, HCW.out]; simp [hem], HN11.out⟩
                          case measure => simp [intOf]; omega
                        · as_aux_lemma =>
                            have hem' : ((r.l.length : Int) == 0) = false := beq_eq_false_iff_ne.2 (by omega)
                            cases off
                            · cases ful
                              · go_wp2
                                go_roundw
                                case rel => exact ⟨i + 1, by omega, by go_num, by rw [HCS.out, HCW.out]; simp [hem], HN11.out⟩
                                case measure => simp [intOf]; omega
                              · go_wp2
                                go_roundw
                                case rel => exact ⟨i + 1, by omega, by go_num, by rw [HCS.out, HCW.out]; simp [hem], HN11.out⟩
                                case measure => simp [intOf]; omega
                            · cases ful
                              · go_wp2
                                go_roundw
                                case rel => exact ⟨i + 1, by omega, by go_num, by rw [HCS.out, HCW.out]; simp [hem], HN11.out⟩
                                case measure => simp [intOf]; omega
                              · go_wp2
                                go_roundw
                                case rel => exact ⟨i + 1, by omega, by go_num, by rw [HCS.out, HCW.out]; simp [hem], HN11.out⟩
                                case measure => simp [intOf]; omega
                    · as_aux_lemma =>
                        have hif' : ¬ (i : Int) < (fu.length : Int) := by omega
                        have hfo : ful = false := by rw [← hful]; simp [List.getD]; rw [List.getElem?_eq_none (by omega)]; rfl
                        subst hfo
                        go_upto_region 24 with fail
                        have k9 := (HLC.out _ _ _ HG9.out).2
                        go_upto_region 26 with (first
                          | (go_at_call 25; refine (HG9.out.offline hlt off).mono ?_; rintro e w10 ⟨rfl, T10, hg10⟩; have HG10 := hid hg10; have k10 := (HLC.out _ _ _ hg10).2; clear hg10 k9)
                          | (go_at_call 26; refine (HG10.out.full hlt false).mono ?_; rintro e w11 ⟨rfl, T11, hg11⟩; rw [HDA.out] at hg11; have HN11 := hid (HNX.out _ _ hg11); have k11 := (HLC.out _ _ _ hg11).1; clear hg11 k10))
                        by_cases hem : r.l.length = 0
                        · have hem' : ((r.l.length : Int) == 0) = true := by rw [hem]; rfl
                          go_wp2
                          go_roundw
                          case rel => exact ⟨i + 1, by omega, by go_num, by rw [HCS.out, HCW.out]; simp [hem], HN11.out⟩
                          case measure => simp [intOf]; omega
                        · as_aux_lemma =>
                            have hem' : ((r.l.length : Int) == 0) = false := beq_eq_false_iff_ne.2 (by omega)
                            cases off
                            · go_wp2
                              go_roundw
                              case rel => exact ⟨i + 1, by omega, by go_num, by rw [HCS.out, HCW.out]; simp [hem], HN11.out⟩
                              case measure => simp [intOf]; omega
                            · go_wp2
                              go_roundw
                              case rel => exact ⟨i + 1, by omega, by go_num, by rw [HCS.out, HCW.out]; simp [hem], HN11.out⟩
                              case measure => simp [intOf]; omega
                · as_aux_lemma =>
                    have hia' : ¬ (i : Int) < (aw.length : Int) := by omega
                    have hoo : off = false := by rw [← hoff]; simp [List.getD]; rw [List.getElem?_eq_none (by omega)]; rfl
                    subst hoo
                    go_upto_region 23 with fail
                    by_cases hif : i < fu.length
                    · as_aux_lemma =>
                        have hif' : (i : Int) < (fu.length : Int) := by omega
                        obtain ⟨b3, o3, hp3, hc3⟩ := H3.out.cell hif
                        subst hp3
                        have kf := hc3 w9 HG9.out.fa.be
                        rw [hful] at kf
                        clear hc3
                        go_upto_region 24 with fail
                        clear kf
                        have k9 := (HLC.out _ _ _ HG9.out).2
                        go_upto_region 26 with (first
                          | (go_at_call 25; refine (HG9.out.offline hlt false).mono ?_; rintro e w10 ⟨rfl, T10, hg10⟩; have HG10 := hid hg10; have k10 := (HLC.out _ _ _ hg10).2; clear hg10 k9)
                          | (go_at_call 26; refine (HG10.out.full hlt ful).mono ?_; rintro e w11 ⟨rfl, T11, hg11⟩; rw [HDA.out] at hg11; have HN11 := hid (HNX.out _ _ hg11); have k11 := (HLC.out _ _ _ hg11).1; clear hg11 k10))
                        by_cases hem : r.l.length = 0
                        · have hem' : ((r.l.length : Int) == 0) = true := by rw [hem]; rfl
                          go_wp2
                          go_roundw
                          case rel => exact ⟨i + 1, by omega, by go_num, by rw [HCS.out, HCW.out]; simp [hem], HN11.out⟩
                          case measure => simp [intOf]; omega
                        · as_aux_lemma =>
                            have hem' : ((r.l.length : Int) == 0) = false := beq_eq_false_iff_ne.2 (by omega)
                            cases ful
                            · go_wp2
                              go_roundw
                              case rel => exact ⟨i + 1, by omega, by go_num, by rw [HCS.out, HCW.out]; simp [hem], HN11.out⟩
                              case measure => simp [intOf]; omega
                            · go_wp2
                              go_roundw
                              case rel => exact ⟨i + 1, by omega, by go_num, by rw [HCS.out, HCW.out]; simp [hem], HN11.out⟩
                              case measure => simp [intOf]; omega
                    · as_aux_lemma =>
                        have hif' : ¬ (i : Int) < (fu.length : Int) := by omega
                        have hfo : ful = false := by rw [← hful]; simp [List.getD]; rw [List.getElem?_eq_none (by omega)]; rfl
                        subst hfo
                        go_upto_region 24 with fail
                        have k9 := (HLC.out _ _ _ HG9.out).2
                        go_upto_region 26 with (first
                          | (go_at_call 25; refine (HG9.out.offline hlt false).mono ?_; rintro e w10 ⟨rfl, T10, hg10⟩; have HG10 := hid hg10; have k10 := (HLC.out _ _ _ hg10).2; clear hg10 k9)
                          | (go_at_call 26; refine (HG10.out.full hlt false).mono ?_; rintro e w11 ⟨rfl, T11, hg11⟩; rw [HDA.out] at hg11; have HN11 := hid (HNX.out _ _ hg11); have k11 := (HLC.out _ _ _ hg11).1; clear hg11 k10))
                        by_cases hem : r.l.length = 0
                        · have hem' : ((r.l.length : Int) == 0) = true := by rw [hem]; rfl
                          go_wp2
                          go_roundw
                          case rel => exact ⟨i + 1, by omega, by go_num, by rw [HCS.out, HCW.out]; simp [hem], HN11.out⟩
                          case measure => simp [intOf]; omega
                        · have hem' : ((r.l.length : Int) == 0) = false := beq_eq_false_iff_ne.2 (by omega)
                          go_wp2
                          go_roundw
                          case rel => exact ⟨i + 1, by omega, by go_num, by rw [HCS.out, HCW.out]; simp [hem], HN11.out⟩
                          case measure => simp [intOf]; omega
    · as_aux_lemma =>
        have hlt' : ¬ (i : Int) < (l.length : Int) := by omega
        have ei : i = l.length := by omega
        subst ei
        obtain ⟨T, rows, hg, hr, hn⟩ := HG.out
        rw [List.take_length] at hr
        have hrl0 : rows.length = l.length := by have := congrArg List.length hr; simpa using this
        obtain ⟨gf, cf, hvf, hfok⟩ := hg.done (by omega)
        rw [hrl0] at hvf
        subst hvf
        have HGZ := hid hg
        have HRZ := hid hr
        have HNZ := hid hn
        have HFO := hid hfok
        have HCE : Hid (cnd old l aw fu l.length = cntW (fun j => canW (dG old aw fu l.length j) (flF l j)) l.length) := hid (cntW_congr _ fun j hj => by simp [dG, hj])
        clear hg hr hn hfok HG
        generalize hcd : cnd old l aw fu l.length = cd at *
        have HDG : Hid (∀ j, j < l.length → dG old aw fu l.length j = dAt old aw fu j) := hid (fun j hj => by simp [dG, hj])
        have HLF : Hid (∀ j, j < l.length → (dG old aw fu l.length j).F.length < 1000000000000) := hid (fun j hj => by rw [HDG.out j hj]; have := len_dAt (aw := aw) (fu := fu) HNZ.out hj; omega)
        obtain ⟨Wz, hWz⟩ : ∃ Wz, Wz = wr := ⟨_, rfl⟩
        subst hWz
        have HC0 : Hid (CnB w Wz Wz (fun _ => False) (clD (dG old aw fu l.length)) 0 (fun _ => 0) (.slice none 0 0)) := hid ⟨FA.empty w Wz HGZ.out.fa.be _ _, World.ownsRow_nil _ _ _ _, fun _ e => (by cases e), fun _ h => h.elim, Below.refl _ _, HGZ.out.fa.be.size⟩
        go_wp2
        go_loopw [22, 23] (fun v r wk => ∃ (j : Nat) (U : Nat → Prop) (q : Nat → Nat), j ≤ l.length ∧ r = .int .i64 (j : Int) ∧ CnB w Wz wk U (clD (dG old aw fu l.length)) j q v) (fun _ r _ => (1000 - intOf r).toNat)
        case atStart => exact ⟨0, _, _, Nat.zero_le _, rfl, HC0.out⟩
        case round =>
          clear HC0
          obtain ⟨j, U, q, hj, rfl, hC⟩ := hrel
          have HC := hid hC
          clear hC
          by_cases hjt : j < l.length
          · as_aux_lemma =>
              have hjt' : (j : Int) < (l.length : Int) := by omega
              have hj2 : (j : Int) < 1000 := by omega
              have HFK := hid (HGZ.out.fa.below HC.out.be)
              have k1 := (ls_nt (HGZ.out.below HC.out.be).ls rfl).2.2.2 j hjt
              have HCL : Hid (Calls Tryz.prog 27 #[ptr (p j)] wr (CloAt wr (clD (dG old aw fu l.length) j))) := hid (by
                have := HFK.out.look hjt (fun fu' S m L hd hf => dclone_any hd hf (HLF.out j hjt))
                rw [fAt_zero] at this
                exact this)
              go_wp2_with (first
                | (go_at_call 27; refine HCL.out.mono ?_; rintro e w2 ⟨pc, rfl, hd2, hb2⟩; obtain ⟨v4, w4, hrun, U4, q4, hC4⟩ := HC.out.new hd2 hb2 (by omega); have HRUN := hid hrun; have HC4 := hid hC4; clear hd2 hb2 hrun hC4 k1)
                | (at_builtin; refine wpList_append_run _ _ 23 rfl rfl _ _ v4 rfl rfl HRUN.out ?_; clear HRUN))
              go_roundw
              case rel => exact ⟨j + 1, U4, q4, by omega, by go_num, HC4.out⟩
              case measure => simp [intOf]; omega
          · as_aux_lemma =>
              have hjt' : ¬ (j : Int) < (l.length : Int) := by omega
              have ej : j = l.length := by omega
              subst ej
              obtain ⟨gw, cw, hvw, hgw1, hgw2, hgw3, hgwc⟩ := HC.out.cells (by omega)
              subst hvw
              have HGW := hid (And.intro hgw1 (And.intro hgw2 (And.intro hgw3 hgwc)))
              clear hgw1 hgw2 hgw3 hgwc
              obtain ⟨W2, hW2⟩ : ∃ W2, W2 = wr := ⟨_, rfl⟩
              subst hW2
              have HZ2 := hid HC.out.be
              have HFK := hid (HGZ.out.fa.below HC.out.be)
              have HF2 := hid (HFO.out.keep (T' := T) (fun b hb _ => HZ2.out.block b hb) (fun _ _ h => h))
              have HCM := hid (commit_any (X0 := ⟨dG old aw fu l.length, none⟩) HFK.out ((HGZ.out.below HC.out.be).ls) (by omega) HE.out (fun j hj => by show Bnd _ _ (dG old aw fu l.length j); rw [HDG.out j hj]; exact (bnd_dAt HNZ.out hj).mono (by omega) (by omega)) ⟨some ⟨gf, 0, none⟩, cf, rows⟩ HF2.out (by show rows.length ≤ 1000; omega) (fun r hr => by
                obtain ⟨j, hj, rfl⟩ := List.mem_iff_getElem.1 hr
                have hj' : j < rows.length := hj
                have := (fls_at HRZ.out (j := j) (by omega)).2
                rw [getD_in _ _ _ hj] at this
                omega) need)
              rw [comR_fil HRZ.out (by omega) (by omega) (by omega) (by omega)] at HCM
              obtain ⟨wl, d', hcom, hper⟩ := com_calm (flF l) l.length need (dG old aw fu l.length) (fun j hj => by rw [HDG.out j hj]; exact lay_dAt HNZ.out hj)
              rw [hcom, ← HCE.out] at HCM
              rw [← HCE.out] at hper
              have HPR : Hid (∀ j, j < l.length → Flg (dAt old aw fu j) (d' j) ∧ (d' j).F = (if ¬ (cd : Int) < need ∧ canW (dAt old aw fu j) (flF l j) = true then (flF l j).foldl putF (dAt old aw fu j).F else (dAt old aw fu j).F) ∧ (¬ (cd : Int) < need → wl j = canW (dAt old aw fu j) (flF l j))) := hid (fun j hj => by have := hper j hj; rw [HDG.out j hj] at this; exact this)
              clear hcom hper HCE
              have hcd6 : (cd : Int) ≤ 6 := by omega
              have HFS : Hid ((⟨some ⟨gf, 0, none⟩, cf, rows⟩ : FsV).v = .slice (some ⟨gf, 0, none⟩) l.length cf) := hid (by show Value.slice _ rows.length cf = _; rw [hrl0])
              have HCMV := HCM.out
              rw [HFS.out] at HCMV
              have HCM := hid HCMV
              clear HCMV HFS
              -- both sets, once the Commit is over
              have HEN : Hid (∀ W3 T3, Grows W2 T T3 → FA w W3 T3 l.length p d' none 0 → Only T W2 W3 → EnB w W3 W3 T3 U T3 U l.length p q d' (clD (dG old aw fu l.length))) := hid (fun W3 T3 hg hf ho => ⟨hf, HC.out.fb.only ho (fun b hb ht => by have := HFK.out.ge b ht; omega) (fun b hu ht => by have := HC.out.ge b hu; have := HGZ.out.fa.lt b ht; omega), fun b ht hu => (hg.2 b ht).elim (fun ht => by have := HC.out.ge b hu; have := HGZ.out.fa.lt b ht; omega) (fun hl => by have := HC.out.fb.lt b hu; omega), Only.refl _ _, fun _ _ h => h, fun _ _ h => h⟩)
              have HTB : Hid (∀ W3 T3, Grows W2 T T3 → Only T W2 W3 → ∀ wr T' U' dd ee, EnB w W3 wr T' U' T3 U l.length p q dd ee → ∀ j, j < l.length → wr.cell? ⟨bl, j, none⟩ = some (ptr (p j)) ∧ wr.cell? ⟨gw, j, none⟩ = some (ptr (q j)) ∧ wr.cell? ⟨gf, j, none⟩ = some (.slice (rows.getD j default).po (rows.getD j default).l.length (rows.getD j default).c) ∧ (rows.getD j default).ok wr (fun b => T' b ∨ U' b)) := hid (fun W3 T3 hg ho wr T' U' dd ee h j hj => by
                have hz : ∀ b, b < Wz.heap.size → ¬ U b := fun b hb hu => by have := HC.out.ge b hu; omega
                have hT : ∀ b, b < W2.heap.size → T3 b → T b := fun b hb ht => (hg.2 b ht).elim id (fun hl => by omega)
                have hz2 := HZ2.out.size
                obtain ⟨l1, l2, _, l4⟩ := ls_nt HGZ.out.ls rfl
                have c1 : W3.cell? ⟨bl, j, none⟩ = some (ptr (p j)) := (World.cell?_of_block (a := ⟨bl, j, none⟩) ((ho.block bl (by omega) l2).trans (HZ2.out.block bl l1))).trans (l4 j hj)
                obtain ⟨g1, g2, g3, g4⟩ := HGW.out
                have g5 : ¬ T gw := fun ht => by have := HGZ.out.fa.lt gw ht; omega
                have c2 : W3.cell? ⟨gw, j, none⟩ = some (ptr (q j)) := (World.cell?_of_block (a := ⟨gw, j, none⟩) (ho.block gw g2 g5)).trans (g4 j hj)
                rcases HFO.out.at_ with h0 | ⟨b, o, e, f2, f3⟩
                · have h0' : rows = [] := h0
                  rw [h0'] at hrl0; simp at hrl0; omega
                · cases e
                  have f4 := f3 j (by show j < rows.length; omega)
                  rw [Nat.zero_add] at f4
                  have f5 := cell_lt2 f4
                  have c3 : W3.cell? ⟨gf, j, none⟩ = some (rows.getD j default).v := (World.cell?_of_block (a := ⟨gf, j, none⟩) ((ho.block gf (by omega) f2).trans (HZ2.out.block gf f5))).trans f4
                  have hrow : (rows.getD j default).ok W3 (fun b => T3 b ∨ U b) := (HFO.out.el (rows.getD j default) (by show rows.getD j default ∈ rows; rw [getD_in _ _ _ (by omega)]; exact List.getElem_mem _)).keep (fun b hb hn => (ho.block b (by omega) hn).trans (HZ2.out.block b hb)) (fun b hb ht => ht.elim (fun ht => hT b (by omega) ht) (fun hu => absurd hu (hz b hb)))
                  exact ⟨h.cell c1 (fun ht => l2 (hT bl (by omega) ht)) (hz bl l1), h.cell c2 (fun ht => g5 (hT gw g2 ht)) g3, h.cell c3 (fun ht => f2 (hT gf (by omega) ht)) (hz gf f5), h.row hrow⟩)
              have HUL := hid HC.out.fb.lt
              clear HGZ HFO HFK HF2 HC HGW
              by_cases hq : (cd : Int) < need
              · rw [if_pos hq] at HCM
                have hq' : ¬ need ≤ (cd : Int) := by omega
                go_upto_region 36 with (go_at_call 15; refine HCM.out.mono ?_; rintro e W3 ⟨cv, T3, rfl, hg3, hf3, ho3, hv3⟩; have hv4 : cv = .slice none 0 0 := (by rcases hv3 with h | h; exact h.2; exact absurd h.1 (by simp)); subst hv4; have HE3 := hid (HEN.out W3 T3 hg3 hf3 ho3); have HT3 := hid (HTB.out W3 T3 hg3 ho3); clear hg3 hf3 ho3 hv3)
                clear HEN HTB HCM
                go_wp2
                go_loopw [26] (fun v wk => ∃ (j : Nat) (T' U' : Nat → Prop), j ≤ l.length ∧ v = .int .i64 (j : Int) ∧ EnB w W3 wk T' U' T3 U l.length p q (offD d' j) (offD (clD (dG old aw fu l.length)) j)) (fun v _ => (1000 - intOf v).toNat)
                case atStart => exact ⟨0, T3, U, Nat.zero_le _, rfl, by rw [offD_zero, offD_zero]; exact HE3.out⟩
                case round =>
                  clear HE3
                  obtain ⟨j, T', U', hj, rfl, hEj⟩ := hrel
                  have HEj := hid hEj
                  clear hEj
                  by_cases hjt : j < l.length
                  · as_aux_lemma =>
                      have hjt' : (j : Int) < (l.length : Int) := by omega
                      have hj2 : (j : Int) < 1000 := by omega
                      have t1 : True := trivial
                      obtain ⟨a1, a2, a3, -⟩ := HT3.out _ _ _ _ _ HEj.out j hjt
                      have HCD : Hid (clD (dG old aw fu l.length) j = clD (dAt old aw fu) j) := hid (by unfold clD; rw [HDG.out j hjt])
                      have HPF := hid (HPR.out j hjt).1
                      go_upto_region 41 with (first
                        | (go_at_call 25; have _t := t1; clear t1; refine (HEj.out.offT hjt).mono ?_; rintro e w4 ⟨rfl, T4, hE4⟩; rw [offD_next] at hE4; have HE4 := hid hE4; clear a1 a2 a3; have a2 := (HT3.out _ _ _ _ _ hE4 j hjt).2.1; clear hE4)
                        | (go_at_call 25; refine (HE4.out.offU hjt).mono ?_; rintro e w5 ⟨rfl, U5, hE5⟩; rw [offD_next] at hE5; have HE5 := hid hE5; clear a2; have a1 := (HT3.out _ _ _ _ _ hE5 j hjt).1; have a2 := (HT3.out _ _ _ _ _ hE5 j hjt).2.1; have a3 := (HT3.out _ _ _ _ _ hE5 j hjt).2.2.1; clear hE5))
                      clear HEj HE4
                      have HFF : Hid ((d' j).F = if false = true then (flF l j).foldl putF (dAt old aw fu j).F else (dAt old aw fu j).F) := hid (by rw [(HPR.out j hjt).2.1, if_neg (fun h => by have := h.1; omega)]; rfl)
                      have HLN := hid (len_end HNZ.out hjt false HFF.out)
                      go_wp2_with fail
                      have HCC : Hid (∀ W', Below w5.heap.size w5 W' → W'.cell? ⟨gw, j, none⟩ = some (ptr (q j)) ∧ W'.cell? ⟨bl, j, none⟩ = some (ptr (p j))) := hid (fun W' hb => ⟨(HT3.out _ _ _ _ _ (HE5.out.below hb) j hjt).2.1, (HT3.out _ _ _ _ _ (HE5.out.below hb) j hjt).1⟩)
                      have HHO : Hid (∀ W', Below w5.heap.size w5 W' → Calls Tryz.prog 29 #[ptr (q j), ptr (p j), .slice none 0 0] W' fun en W6 => en = .returned (.bool true) ∧ (W6.cell? ⟨gw, j, none⟩ = some (ptr (q j)) ∧ W6.cell? ⟨bl, j, none⟩ = some (ptr (p j))) ∧ EnB w W3 W6 T4 U5 T3 U l.length p q (offD d' (j + 1)) (offD (clD (dG old aw fu l.length)) (j + 1))) := hid (fun W' hb => by
                        refine (HE5.out.hold hjt (by rw [offD_at]; exact Nat.lt_of_le_of_lt HLN.out (by decide)) (by rw [offD_at]; exact HLF.out j hjt) ⟨none, 0, []⟩ ⟨.inl rfl, fun y hy => absurd hy (by simp), Nat.le_refl _⟩ (by simp) ?_ hb).mono ?_
                        · rw [offD_at, offD_at, HCD.out]
                          exact hld_end HNZ.out hjt HPF.out false HFF.out
                        · rintro en W6 ⟨h1, h2⟩
                          exact ⟨h1, ⟨(HT3.out _ _ _ _ _ h2 j hjt).2.1, (HT3.out _ _ _ _ _ h2 j hjt).1⟩, h2⟩)
                      go_region_held3 (fun w' => w'.cell? ⟨gw, j, none⟩ = some (ptr (q j)) ∧ w'.cell? ⟨bl, j, none⟩ = some (ptr (p j))) (first | exact hc6 | exact HCC.out _ (Below.refl _ _) | exact HCC.out _ (below_drewN _ _)) ((go_at_call 29; (first | refine (HHO.out _ (below_drewN _ _)).mono ?_ | refine (HHO.out _ (Below.refl _ _)).mono ?_); rintro e w6 ⟨rfl, hc6, hE6⟩; have HE6 := hid hE6; clear hE6))
                      go_wp2
                      go_roundw
                      case rel => exact ⟨j + 1, T4, U5, by omega, by go_num, HE6.out⟩
                      case measure => simp [intOf]; omega
                  · have hjt' : ¬ (j : Int) < (l.length : Int) := by omega
                    have HFI := hid HEj.out.fa.be
                    go_wp2
                    go_ret
                    exact ⟨rfl, HFI.out⟩
              · rw [if_neg hq] at HCM
                have hq' : need ≤ (cd : Int) := by omega
                go_upto_region 36 with (go_at_call 15; refine HCM.out.mono ?_; rintro e W3 ⟨cv, T3, rfl, hg3, hf3, ho3, hv3⟩; obtain ⟨bw, hv4, hwl, hbw1, hbw2⟩ := (show ∃ bw, cv = .slice (some ⟨bw, 0, none⟩) l.length l.length ∧ WlAt W3 bw l.length wl ∧ W2.heap.size ≤ bw ∧ ¬ T3 bw from (by rcases hv3 with h | h; exact absurd rfl h.1; exact h.2)); subst hv4; have HE3 := hid (HEN.out W3 T3 hg3 hf3 ho3); have HT3 := hid (HTB.out W3 T3 hg3 ho3); have HWL := hid hwl; have HNB : Hid (¬ T3 bw ∧ ¬ U bw) := hid ⟨hbw2, fun hu => by have := HUL.out bw hu; omega⟩; clear hg3 hf3 ho3 hv3 hwl hbw1 hbw2)
                clear HEN HTB HCM
                go_wp2
                go_loopw [26] (fun v wk => ∃ (j : Nat) (T' U' : Nat → Prop), j ≤ l.length ∧ v = .int .i64 (j : Int) ∧ EnB w W3 wk T' U' T3 U l.length p q (offD d' j) (offD (clD (dG old aw fu l.length)) j)) (fun v _ => (1000 - intOf v).toNat)
                case atStart => exact ⟨0, T3, U, Nat.zero_le _, rfl, by rw [offD_zero, offD_zero]; exact HE3.out⟩
                case round =>
                  clear HE3
                  obtain ⟨j, T', U', hj, rfl, hEj⟩ := hrel
                  have HEj := hid hEj
                  clear hEj
                  by_cases hjt : j < l.length
                  · as_aux_lemma =>
                      have hjt' : (j : Int) < (l.length : Int) := by omega
                      have hj2 : (j : Int) < 1000 := by omega
                      have t1 : True := trivial
                      obtain ⟨a1, a2, a3, -⟩ := HT3.out _ _ _ _ _ HEj.out j hjt
                      have HCD : Hid (clD (dG old aw fu l.length) j = clD (dAt old aw fu) j) := hid (by unfold clD; rw [HDG.out j hjt])
                      have HPF := hid (HPR.out j hjt).1
                      go_upto_region 41 with (first
                        | (go_at_call 25; have _t := t1; clear t1; refine (HEj.out.offT hjt).mono ?_; rintro e w4 ⟨rfl, T4, hE4⟩; rw [offD_next] at hE4; have HE4 := hid hE4; clear a1 a2 a3; have a2 := (HT3.out _ _ _ _ _ hE4 j hjt).2.1; clear hE4)
                        | (go_at_call 25; refine (HE4.out.offU hjt).mono ?_; rintro e w5 ⟨rfl, U5, hE5⟩; rw [offD_next] at hE5; have HE5 := hid hE5; clear a2; have a1 := (HT3.out _ _ _ _ _ hE5 j hjt).1; have a2 := (HT3.out _ _ _ _ _ hE5 j hjt).2.1; have a3 := (HT3.out _ _ _ _ _ hE5 j hjt).2.2.1; clear hE5))
                      clear HEj HE4
                      have hf1 := (fls_at HRZ.out hjt).1
                      have hf2 := (fls_at HRZ.out hjt).2
                      have hf3 := (HT3.out _ _ _ _ _ HE5.out j hjt).2.2.2
                      generalize rows.getD j default = R at a3 hf1 hf2 hf3
                      obtain ⟨rpo, rcc, rll⟩ := R
                      dsimp only at a3 hf1 hf2 hf3
                      obtain ⟨m, hm⟩ : ∃ m, rll.length = m := ⟨_, rfl⟩
                      rw [hm] at a3
                      have hln : (flF l j).length = m := by rw [← hf1]; unfold RowV.fl; rw [List.length_map]; exact hm
                      have hrn : m ≤ 3 := by rw [← hm]; exact hf2
                      have HRF := hid hf1
                      have HRJ := hid hf3
                      clear hf1 hf2 hf3
                      have HM := hid hm
                      clear hm
                      have HCW := hid (canW_at old l aw fu j hln)
                      have HUP : Hid (Calls Tryz.prog 28 #[ptr (q j)] w5 fun en W' => en = .returned (.bool true) ∧ W' = w5) := hid (by have := HE5.out.upU hjt; rw [offD_at, HCD.out, up_cl HNZ.out hjt] at this; exact this)
                      have a4 := HE5.out.cell (HWL.out j hjt).1 HNB.out.1 HNB.out.2
                      clear hln
                      generalize hoff : aw.getD j false = off at *
                      generalize hful : fu.getD j false = ful at *
                      by_cases hem : m = 0
                      · as_aux_lemma =>
                          have hem' : ((m : Int) == 0) = true := by rw [hem]; rfl
                          have hcan : canW (dAt old aw fu j) (flF l j) = true := by rw [HCW.out, decide_eq_true hem]; rfl
                          subst hem
                          have hwl := (HPR.out j hjt).2.2 (by omega)
                          rw [hcan] at hwl
                          rw [hwl] at a4
                          have HFF : Hid ((d' j).F = if true = true then (flF l j).foldl putF (dAt old aw fu j).F else (dAt old aw fu j).F) := hid (by rw [(HPR.out j hjt).2.1, hcan]; rw [if_pos ⟨by omega, rfl⟩]; rfl)
                          have HLN := hid (len_end HNZ.out hjt true HFF.out)
                          clear hwl hcan
                          go_wp2_with (go_at_call 28; refine HUP.out.mono ?_; rintro e w7 ⟨rfl, hw7⟩; have hw8 := hw7.symm; subst hw8)
                          have HCC : Hid (∀ W', Below w5.heap.size w5 W' → W'.cell? ⟨gw, j, none⟩ = some (ptr (q j)) ∧ W'.cell? ⟨bl, j, none⟩ = some (ptr (p j))) := hid (fun W' hb => ⟨(HT3.out _ _ _ _ _ (HE5.out.below hb) j hjt).2.1, (HT3.out _ _ _ _ _ (HE5.out.below hb) j hjt).1⟩)
                          have HHO : Hid (∀ W', Below w5.heap.size w5 W' → Calls Tryz.prog 29 #[ptr (q j), ptr (p j), .slice rpo 0 rcc] W' fun en W6 => en = .returned (.bool true) ∧ (W6.cell? ⟨gw, j, none⟩ = some (ptr (q j)) ∧ W6.cell? ⟨bl, j, none⟩ = some (ptr (p j))) ∧ EnB w W3 W6 T4 U5 T3 U l.length p q (offD d' (j + 1)) (offD (clD (dG old aw fu l.length)) (j + 1))) := hid (fun W' hb => by
                            rw [← HM.out]
                            refine (HE5.out.hold hjt (by rw [offD_at]; exact Nat.lt_of_le_of_lt HLN.out (by decide)) (by rw [offD_at]; exact HLF.out j hjt) ⟨rpo, rcc, rll⟩ HRJ.out (by show rll.length ≤ 1000; rw [HM.out]; omega) ?_ hb).mono ?_
                            · rw [offD_at, offD_at, HCD.out]
                              rw [HRF.out]
                              exact hld_end HNZ.out hjt HPF.out true HFF.out
                            · rintro en W6 ⟨h1, h2⟩
                              exact ⟨h1, ⟨(HT3.out _ _ _ _ _ h2 j hjt).2.1, (HT3.out _ _ _ _ _ h2 j hjt).1⟩, h2⟩)
                          go_region_held3 (fun w' => w'.cell? ⟨gw, j, none⟩ = some (ptr (q j)) ∧ w'.cell? ⟨bl, j, none⟩ = some (ptr (p j))) (first | exact hc6 | exact HCC.out _ (Below.refl _ _) | exact HCC.out _ (below_drewN _ _)) ((go_at_call 29; (first | refine (HHO.out _ (below_drewN _ _)).mono ?_ | refine (HHO.out _ (Below.refl _ _)).mono ?_); rintro e w6 ⟨rfl, hc6, hE6⟩; have HE6 := hid hE6; clear hE6))
                          go_wp2
                          go_roundw
                          case rel => exact ⟨j + 1, T4, U5, by omega, by go_num, HE6.out⟩
                          case measure => simp [intOf]; omega
                      · as_aux_lemma =>
                          have hem' : ((m : Int) == 0) = false := beq_eq_false_iff_ne.2 (by omega)
                          by_cases hia : j < aw.length
                          · as_aux_lemma =>
                              have hia' : (j : Int) < (aw.length : Int) := by omega
                              obtain ⟨b2, o2, hp2, hc2⟩ := H2.out.cell hia
                              subst hp2
                              have ka := hc2 w5 HE5.out.fa.be
                              rw [hoff] at ka
                              clear hc2
                              cases off with
                              | true => as_aux_lemma =>
                                  have hcan : canW (dAt old aw fu j) (flF l j) = false := by rw [HCW.out, decide_eq_false hem]; rfl
                                  have hwl := (HPR.out j hjt).2.2 (by omega)
                                  rw [hcan] at hwl
                                  rw [hwl] at a4
                                  have HFF : Hid ((d' j).F = if false = true then (flF l j).foldl putF (dAt old aw fu j).F else (dAt old aw fu j).F) := hid (by rw [(HPR.out j hjt).2.1, hcan]; rw [if_neg (fun h => absurd h.2 (by simp))]; rfl)
                                  have HLN := hid (len_end HNZ.out hjt false HFF.out)
                                  clear hwl hcan
                                  go_wp2_with (go_at_call 28; refine HUP.out.mono ?_; rintro e w7 ⟨rfl, hw7⟩; have hw8 := hw7.symm; subst hw8)
                                  have HCC : Hid (∀ W', Below w5.heap.size w5 W' → W'.cell? ⟨gw, j, none⟩ = some (ptr (q j)) ∧ W'.cell? ⟨bl, j, none⟩ = some (ptr (p j))) := hid (fun W' hb => ⟨(HT3.out _ _ _ _ _ (HE5.out.below hb) j hjt).2.1, (HT3.out _ _ _ _ _ (HE5.out.below hb) j hjt).1⟩)
                                  have HHO : Hid (∀ W', Below w5.heap.size w5 W' → Calls Tryz.prog 29 #[ptr (q j), ptr (p j), .slice none 0 0] W' fun en W6 => en = .returned (.bool true) ∧ (W6.cell? ⟨gw, j, none⟩ = some (ptr (q j)) ∧ W6.cell? ⟨bl, j, none⟩ = some (ptr (p j))) ∧ EnB w W3 W6 T4 U5 T3 U l.length p q (offD d' (j + 1)) (offD (clD (dG old aw fu l.length)) (j + 1))) := hid (fun W' hb => by
                                    refine (HE5.out.hold hjt (by rw [offD_at]; exact Nat.lt_of_le_of_lt HLN.out (by decide)) (by rw [offD_at]; exact HLF.out j hjt) ⟨none, 0, []⟩ ⟨.inl rfl, fun y hy => absurd hy (by simp), Nat.le_refl _⟩ (by simp) ?_ hb).mono ?_
                                    · rw [offD_at, offD_at, HCD.out]
                                      exact hld_end HNZ.out hjt HPF.out false HFF.out
                                    · rintro en W6 ⟨h1, h2⟩
                                      exact ⟨h1, ⟨(HT3.out _ _ _ _ _ h2 j hjt).2.1, (HT3.out _ _ _ _ _ h2 j hjt).1⟩, h2⟩)
                                  go_region_held3 (fun w' => w'.cell? ⟨gw, j, none⟩ = some (ptr (q j)) ∧ w'.cell? ⟨bl, j, none⟩ = some (ptr (p j))) (first | exact hc6 | exact HCC.out _ (Below.refl _ _) | exact HCC.out _ (below_drewN _ _)) ((go_at_call 29; (first | refine (HHO.out _ (below_drewN _ _)).mono ?_ | refine (HHO.out _ (Below.refl _ _)).mono ?_); rintro e w6 ⟨rfl, hc6, hE6⟩; have HE6 := hid hE6; clear hE6))
                                  go_wp2
                                  go_roundw
                                  case rel => exact ⟨j + 1, T4, U5, by omega, by go_num, HE6.out⟩
                                  case measure => simp [intOf]; omega
                              | false => as_aux_lemma =>
                                  by_cases hif : j < fu.length
                                  · as_aux_lemma =>
                                      have hif' : (j : Int) < (fu.length : Int) := by omega
                                      obtain ⟨b3, o3, hp3, hc3⟩ := H3.out.cell hif
                                      subst hp3
                                      have kf := hc3 w5 HE5.out.fa.be
                                      rw [hful] at kf
                                      clear hc3
                                      cases ful with
                                      | true => as_aux_lemma =>
                                          have hcan : canW (dAt old aw fu j) (flF l j) = false := by rw [HCW.out, decide_eq_false hem]; rfl
                                          have hwl := (HPR.out j hjt).2.2 (by omega)
                                          rw [hcan] at hwl
                                          rw [hwl] at a4
                                          have HFF : Hid ((d' j).F = if false = true then (flF l j).foldl putF (dAt old aw fu j).F else (dAt old aw fu j).F) := hid (by rw [(HPR.out j hjt).2.1, hcan]; rw [if_neg (fun h => absurd h.2 (by simp))]; rfl)
                                          have HLN := hid (len_end HNZ.out hjt false HFF.out)
                                          clear hwl hcan
                                          go_wp2_with (go_at_call 28; refine HUP.out.mono ?_; rintro e w7 ⟨rfl, hw7⟩; have hw8 := hw7.symm; subst hw8)
                                          have HCC : Hid (∀ W', Below w5.heap.size w5 W' → W'.cell? ⟨gw, j, none⟩ = some (ptr (q j)) ∧ W'.cell? ⟨bl, j, none⟩ = some (ptr (p j))) := hid (fun W' hb => ⟨(HT3.out _ _ _ _ _ (HE5.out.below hb) j hjt).2.1, (HT3.out _ _ _ _ _ (HE5.out.below hb) j hjt).1⟩)
                                          have HHO : Hid (∀ W', Below w5.heap.size w5 W' → Calls Tryz.prog 29 #[ptr (q j), ptr (p j), .slice none 0 0] W' fun en W6 => en = .returned (.bool true) ∧ (W6.cell? ⟨gw, j, none⟩ = some (ptr (q j)) ∧ W6.cell? ⟨bl, j, none⟩ = some (ptr (p j))) ∧ EnB w W3 W6 T4 U5 T3 U l.length p q (offD d' (j + 1)) (offD (clD (dG old aw fu l.length)) (j + 1))) := hid (fun W' hb => by
                                            refine (HE5.out.hold hjt (by rw [offD_at]; exact Nat.lt_of_le_of_lt HLN.out (by decide)) (by rw [offD_at]; exact HLF.out j hjt) ⟨none, 0, []⟩ ⟨.inl rfl, fun y hy => absurd hy (by simp), Nat.le_refl _⟩ (by simp) ?_ hb).mono ?_
                                            · rw [offD_at, offD_at, HCD.out]
                                              exact hld_end HNZ.out hjt HPF.out false HFF.out
                                            · rintro en W6 ⟨h1, h2⟩
                                              exact ⟨h1, ⟨(HT3.out _ _ _ _ _ h2 j hjt).2.1, (HT3.out _ _ _ _ _ h2 j hjt).1⟩, h2⟩)
                                          go_region_held3 (fun w' => w'.cell? ⟨gw, j, none⟩ = some (ptr (q j)) ∧ w'.cell? ⟨bl, j, none⟩ = some (ptr (p j))) (first | exact hc6 | exact HCC.out _ (Below.refl _ _) | exact HCC.out _ (below_drewN _ _)) ((go_at_call 29; (first | refine (HHO.out _ (below_drewN _ _)).mono ?_ | refine (HHO.out _ (Below.refl _ _)).mono ?_); rintro e w6 ⟨rfl, hc6, hE6⟩; have HE6 := hid hE6; clear hE6))
                                          go_wp2
                                          go_roundw
                                          case rel => exact ⟨j + 1, T4, U5, by omega, by go_num, HE6.out⟩
                                          case measure => simp [intOf]; omega
                                      | false => as_aux_lemma =>
                                          have hcan : canW (dAt old aw fu j) (flF l j) = true := by rw [HCW.out, decide_eq_false hem]; rfl
                                          have hwl := (HPR.out j hjt).2.2 (by omega)
                                          rw [hcan] at hwl
                                          rw [hwl] at a4
                                          have HFF : Hid ((d' j).F = if true = true then (flF l j).foldl putF (dAt old aw fu j).F else (dAt old aw fu j).F) := hid (by rw [(HPR.out j hjt).2.1, hcan]; rw [if_pos ⟨by omega, rfl⟩]; rfl)
                                          have HLN := hid (len_end HNZ.out hjt true HFF.out)
                                          clear hwl hcan
                                          go_wp2_with (go_at_call 28; refine HUP.out.mono ?_; rintro e w7 ⟨rfl, hw7⟩; have hw8 := hw7.symm; subst hw8)
                                          have HCC : Hid (∀ W', Below w5.heap.size w5 W' → W'.cell? ⟨gw, j, none⟩ = some (ptr (q j)) ∧ W'.cell? ⟨bl, j, none⟩ = some (ptr (p j))) := hid (fun W' hb => ⟨(HT3.out _ _ _ _ _ (HE5.out.below hb) j hjt).2.1, (HT3.out _ _ _ _ _ (HE5.out.below hb) j hjt).1⟩)
                                          have HHO : Hid (∀ W', Below w5.heap.size w5 W' → Calls Tryz.prog 29 #[ptr (q j), ptr (p j), .slice rpo m rcc] W' fun en W6 => en = .returned (.bool true) ∧ (W6.cell? ⟨gw, j, none⟩ = some (ptr (q j)) ∧ W6.cell? ⟨bl, j, none⟩ = some (ptr (p j))) ∧ EnB w W3 W6 T4 U5 T3 U l.length p q (offD d' (j + 1)) (offD (clD (dG old aw fu l.length)) (j + 1))) := hid (fun W' hb => by
                                            rw [← HM.out]
                                            refine (HE5.out.hold hjt (by rw [offD_at]; exact Nat.lt_of_le_of_lt HLN.out (by decide)) (by rw [offD_at]; exact HLF.out j hjt) ⟨rpo, rcc, rll⟩ HRJ.out (by show rll.length ≤ 1000; rw [HM.out]; omega) ?_ hb).mono ?_
                                            · rw [offD_at, offD_at, HCD.out]
                                              rw [HRF.out]
                                              exact hld_end HNZ.out hjt HPF.out true HFF.out
                                            · rintro en W6 ⟨h1, h2⟩
                                              exact ⟨h1, ⟨(HT3.out _ _ _ _ _ h2 j hjt).2.1, (HT3.out _ _ _ _ _ h2 j hjt).1⟩, h2⟩)
                                          go_region_held3 (fun w' => w'.cell? ⟨gw, j, none⟩ = some (ptr (q j)) ∧ w'.cell? ⟨bl, j, none⟩ = some (ptr (p j))) (first | exact hc6 | exact HCC.out _ (Below.refl _ _) | exact HCC.out _ (below_drewN _ _)) ((go_at_call 29; (first | refine (HHO.out _ (below_drewN _ _)).mono ?_ | refine (HHO.out _ (Below.refl _ _)).mono ?_); rintro e w6 ⟨rfl, hc6, hE6⟩; have HE6 := hid hE6; clear hE6))
                                          go_wp2
                                          go_roundw
                                          case rel => exact ⟨j + 1, T4, U5, by omega, by go_num, HE6.out⟩
                                          case measure => simp [intOf]; omega
                                  · as_aux_lemma =>
                                      have hif' : ¬ (j : Int) < (fu.length : Int) := by omega
                                      have hfo : ful = false := by rw [← hful]; simp [List.getD]; rw [List.getElem?_eq_none (by omega)]; rfl
                                      subst hfo
                                      have hcan : canW (dAt old aw fu j) (flF l j) = true := by rw [HCW.out, decide_eq_false hem]; rfl
                                      have hwl := (HPR.out j hjt).2.2 (by omega)
                                      rw [hcan] at hwl
                                      rw [hwl] at a4
                                      have HFF : Hid ((d' j).F = if true = true then (flF l j).foldl putF (dAt old aw fu j).F else (dAt old aw fu j).F) := hid (by rw [(HPR.out j hjt).2.1, hcan]; rw [if_pos ⟨by omega, rfl⟩]; rfl)
                                      have HLN := hid (len_end HNZ.out hjt true HFF.out)
                                      clear hwl hcan
                                      go_wp2_with (go_at_call 28; refine HUP.out.mono ?_; rintro e w7 ⟨rfl, hw7⟩; have hw8 := hw7.symm; subst hw8)
                                      have HCC : Hid (∀ W', Below w5.heap.size w5 W' → W'.cell? ⟨gw, j, none⟩ = some (ptr (q j)) ∧ W'.cell? ⟨bl, j, none⟩ = some (ptr (p j))) := hid (fun W' hb => ⟨(HT3.out _ _ _ _ _ (HE5.out.below hb) j hjt).2.1, (HT3.out _ _ _ _ _ (HE5.out.below hb) j hjt).1⟩)
                                      have HHO : Hid (∀ W', Below w5.heap.size w5 W' → Calls Tryz.prog 29 #[ptr (q j), ptr (p j), .slice rpo m rcc] W' fun en W6 => en = .returned (.bool true) ∧ (W6.cell? ⟨gw, j, none⟩ = some (ptr (q j)) ∧ W6.cell? ⟨bl, j, none⟩ = some (ptr (p j))) ∧ EnB w W3 W6 T4 U5 T3 U l.length p q (offD d' (j + 1)) (offD (clD (dG old aw fu l.length)) (j + 1))) := hid (fun W' hb => by
                                        rw [← HM.out]
                                        refine (HE5.out.hold hjt (by rw [offD_at]; exact Nat.lt_of_le_of_lt HLN.out (by decide)) (by rw [offD_at]; exact HLF.out j hjt) ⟨rpo, rcc, rll⟩ HRJ.out (by show rll.length ≤ 1000; rw [HM.out]; omega) ?_ hb).mono ?_
                                        · rw [offD_at, offD_at, HCD.out]
                                          rw [HRF.out]
                                          exact hld_end HNZ.out hjt HPF.out true HFF.out
                                        · rintro en W6 ⟨h1, h2⟩
                                          exact ⟨h1, ⟨(HT3.out _ _ _ _ _ h2 j hjt).2.1, (HT3.out _ _ _ _ _ h2 j hjt).1⟩, h2⟩)
                                      go_region_held3 (fun w' => w'.cell? ⟨gw, j, none⟩ = some (ptr (q j)) ∧ w'.cell? ⟨bl, j, none⟩ = some (ptr (p j))) (first | exact hc6 | exact HCC.out _ (Below.refl _ _) | exact HCC.out _ (below_drewN _ _)) ((go_at_call 29; (first | refine (HHO.out _ (below_drewN _ _)).mono ?_ | refine (HHO.out _ (Below.refl _ _)).mono ?_); rintro e w6 ⟨rfl, hc6, hE6⟩; have HE6 := hid hE6; clear hE6))
                                      go_wp2
                                      go_roundw
                                      case rel => exact ⟨j + 1, T4, U5, by omega, by go_num, HE6.out⟩
                                      case measure => simp [intOf]; omega
                          · as_aux_lemma =>
                              have hia' : ¬ (j : Int) < (aw.length : Int) := by omega
                              have hoo : off = false := by rw [← hoff]; simp [List.getD]; rw [List.getElem?_eq_none (by omega)]; rfl
                              subst hoo
                              by_cases hif : j < fu.length
                              · as_aux_lemma =>
                                  have hif' : (j : Int) < (fu.length : Int) := by omega
                                  obtain ⟨b3, o3, hp3, hc3⟩ := H3.out.cell hif
                                  subst hp3
                                  have kf := hc3 w5 HE5.out.fa.be
                                  rw [hful] at kf
                                  clear hc3
                                  cases ful with
                                  | true => as_aux_lemma =>
                                      have hcan : canW (dAt old aw fu j) (flF l j) = false := by rw [HCW.out, decide_eq_false hem]; rfl
                                      have hwl := (HPR.out j hjt).2.2 (by omega)
                                      rw [hcan] at hwl
                                      rw [hwl] at a4
                                      have HFF : Hid ((d' j).F = if false = true then (flF l j).foldl putF (dAt old aw fu j).F else (dAt old aw fu j).F) := hid (by rw [(HPR.out j hjt).2.1, hcan]; rw [if_neg (fun h => absurd h.2 (by simp))]; rfl)
                                      have HLN := hid (len_end HNZ.out hjt false HFF.out)
                                      clear hwl hcan
                                      go_wp2_with (go_at_call 28; refine HUP.out.mono ?_; rintro e w7 ⟨rfl, hw7⟩; have hw8 := hw7.symm; subst hw8)
                                      have HCC : Hid (∀ W', Below w5.heap.size w5 W' → W'.cell? ⟨gw, j, none⟩ = some (ptr (q j)) ∧ W'.cell? ⟨bl, j, none⟩ = some (ptr (p j))) := hid (fun W' hb => ⟨(HT3.out _ _ _ _ _ (HE5.out.below hb) j hjt).2.1, (HT3.out _ _ _ _ _ (HE5.out.below hb) j hjt).1⟩)
                                      have HHO : Hid (∀ W', Below w5.heap.size w5 W' → Calls Tryz.prog 29 #[ptr (q j), ptr (p j), .slice none 0 0] W' fun en W6 => en = .returned (.bool true) ∧ (W6.cell? ⟨gw, j, none⟩ = some (ptr (q j)) ∧ W6.cell? ⟨bl, j, none⟩ = some (ptr (p j))) ∧ EnB w W3 W6 T4 U5 T3 U l.length p q (offD d' (j + 1)) (offD (clD (dG old aw fu l.length)) (j + 1))) := hid (fun W' hb => by
                                        refine (HE5.out.hold hjt (by rw [offD_at]; exact Nat.lt_of_le_of_lt HLN.out (by decide)) (by rw [offD_at]; exact HLF.out j hjt) ⟨none, 0, []⟩ ⟨.inl rfl, fun y hy => absurd hy (by simp), Nat.le_refl _⟩ (by simp) ?_ hb).mono ?_
                                        · rw [offD_at, offD_at, HCD.out]
                                          exact hld_end HNZ.out hjt HPF.out false HFF.out
                                        · rintro en W6 ⟨h1, h2⟩
                                          exact ⟨h1, ⟨(HT3.out _ _ _ _ _ h2 j hjt).2.1, (HT3.out _ _ _ _ _ h2 j hjt).1⟩, h2⟩)
                                      go_region_held3 (fun w' => w'.cell? ⟨gw, j, none⟩ = some (ptr (q j)) ∧ w'.cell? ⟨bl, j, none⟩ = some (ptr (p j))) (first | exact hc6 | exact HCC.out _ (Below.refl _ _) | exact HCC.out _ (below_drewN _ _)) ((go_at_call 29; (first | refine (HHO.out _ (below_drewN _ _)).mono ?_ | refine (HHO.out _ (Below.refl _ _)).mono ?_); rintro e w6 ⟨rfl, hc6, hE6⟩; have HE6 := hid hE6; clear hE6))
                                      go_wp2
                                      go_roundw
                                      case rel => exact ⟨j + 1, T4, U5, by omega, by go_num, HE6.out⟩
                                      case measure => simp [intOf]; omega
                                  | false => as_aux_lemma =>
                                      have hcan : canW (dAt old aw fu j) (flF l j) = true := by rw [HCW.out, decide_eq_false hem]; rfl
                                      have hwl := (HPR.out j hjt).2.2 (by omega)
                                      rw [hcan] at hwl
                                      rw [hwl] at a4
                                      have HFF : Hid ((d' j).F = if true = true then (flF l j).foldl putF (dAt old aw fu j).F else (dAt old aw fu j).F) := hid (by rw [(HPR.out j hjt).2.1, hcan]; rw [if_pos ⟨by omega, rfl⟩]; rfl)
                                      have HLN := hid (len_end HNZ.out hjt true HFF.out)
                                      clear hwl hcan
                                      go_wp2_with (go_at_call 28; refine HUP.out.mono ?_; rintro e w7 ⟨rfl, hw7⟩; have hw8 := hw7.symm; subst hw8)
                                      have HCC : Hid (∀ W', Below w5.heap.size w5 W' → W'.cell? ⟨gw, j, none⟩ = some (ptr (q j)) ∧ W'.cell? ⟨bl, j, none⟩ = some (ptr (p j))) := hid (fun W' hb => ⟨(HT3.out _ _ _ _ _ (HE5.out.below hb) j hjt).2.1, (HT3.out _ _ _ _ _ (HE5.out.below hb) j hjt).1⟩)
                                      have HHO : Hid (∀ W', Below w5.heap.size w5 W' → Calls Tryz.prog 29 #[ptr (q j), ptr (p j), .slice rpo m rcc] W' fun en W6 => en = .returned (.bool true) ∧ (W6.cell? ⟨gw, j, none⟩ = some (ptr (q j)) ∧ W6.cell? ⟨bl, j, none⟩ = some (ptr (p j))) ∧ EnB w W3 W6 T4 U5 T3 U l.length p q (offD d' (j + 1)) (offD (clD (dG old aw fu l.length)) (j + 1))) := hid (fun W' hb => by
                                        rw [← HM.out]
                                        refine (HE5.out.hold hjt (by rw [offD_at]; exact Nat.lt_of_le_of_lt HLN.out (by decide)) (by rw [offD_at]; exact HLF.out j hjt) ⟨rpo, rcc, rll⟩ HRJ.out (by show rll.length ≤ 1000; rw [HM.out]; omega) ?_ hb).mono ?_
                                        · rw [offD_at, offD_at, HCD.out]
                                          rw [HRF.out]
                                          exact hld_end HNZ.out hjt HPF.out true HFF.out
                                        · rintro en W6 ⟨h1, h2⟩
                                          exact ⟨h1, ⟨(HT3.out _ _ _ _ _ h2 j hjt).2.1, (HT3.out _ _ _ _ _ h2 j hjt).1⟩, h2⟩)
                                      go_region_held3 (fun w' => w'.cell? ⟨gw, j, none⟩ = some (ptr (q j)) ∧ w'.cell? ⟨bl, j, none⟩ = some (ptr (p j))) (first | exact hc6 | exact HCC.out _ (Below.refl _ _) | exact HCC.out _ (below_drewN _ _)) ((go_at_call 29; (first | refine (HHO.out _ (below_drewN _ _)).mono ?_ | refine (HHO.out _ (Below.refl _ _)).mono ?_); rintro e w6 ⟨rfl, hc6, hE6⟩; have HE6 := hid hE6; clear hE6))
                                      go_wp2
                                      go_roundw
                                      case rel => exact ⟨j + 1, T4, U5, by omega, by go_num, HE6.out⟩
                                      case measure => simp [intOf]; omega
                              · as_aux_lemma =>
                                  have hif' : ¬ (j : Int) < (fu.length : Int) := by omega
                                  have hfo : ful = false := by rw [← hful]; simp [List.getD]; rw [List.getElem?_eq_none (by omega)]; rfl
                                  subst hfo
                                  have hcan : canW (dAt old aw fu j) (flF l j) = true := by rw [HCW.out, decide_eq_false hem]; rfl
                                  have hwl := (HPR.out j hjt).2.2 (by omega)
                                  rw [hcan] at hwl
                                  rw [hwl] at a4
                                  have HFF : Hid ((d' j).F = if true = true then (flF l j).foldl putF (dAt old aw fu j).F else (dAt old aw fu j).F) := hid (by rw [(HPR.out j hjt).2.1, hcan]; rw [if_pos ⟨by omega, rfl⟩]; rfl)
                                  have HLN := hid (len_end HNZ.out hjt true HFF.out)
                                  clear hwl hcan
                                  go_wp2_with (go_at_call 28; refine HUP.out.mono ?_; rintro e w7 ⟨rfl, hw7⟩; have hw8 := hw7.symm; subst hw8)
                                  have HCC : Hid (∀ W', Below w5.heap.size w5 W' → W'.cell? ⟨gw, j, none⟩ = some (ptr (q j)) ∧ W'.cell? ⟨bl, j, none⟩ = some (ptr (p j))) := hid (fun W' hb => ⟨(HT3.out _ _ _ _ _ (HE5.out.below hb) j hjt).2.1, (HT3.out _ _ _ _ _ (HE5.out.below hb) j hjt).1⟩)
                                  have HHO : Hid (∀ W', Below w5.heap.size w5 W' → Calls Tryz.prog 29 #[ptr (q j), ptr (p j), .slice rpo m rcc] W' fun en W6 => en = .returned (.bool true) ∧ (W6.cell? ⟨gw, j, none⟩ = some (ptr (q j)) ∧ W6.cell? ⟨bl, j, none⟩ = some (ptr (p j))) ∧ EnB w W3 W6 T4 U5 T3 U l.length p q (offD d' (j + 1)) (offD (clD (dG old aw fu l.length)) (j + 1))) := hid (fun W' hb => by
                                    rw [← HM.out]
                                    refine (HE5.out.hold hjt (by rw [offD_at]; exact Nat.lt_of_le_of_lt HLN.out (by decide)) (by rw [offD_at]; exact HLF.out j hjt) ⟨rpo, rcc, rll⟩ HRJ.out (by show rll.length ≤ 1000; rw [HM.out]; omega) ?_ hb).mono ?_
                                    · rw [offD_at, offD_at, HCD.out]
                                      rw [HRF.out]
                                      exact hld_end HNZ.out hjt HPF.out true HFF.out
                                    · rintro en W6 ⟨h1, h2⟩
                                      exact ⟨h1, ⟨(HT3.out _ _ _ _ _ h2 j hjt).2.1, (HT3.out _ _ _ _ _ h2 j hjt).1⟩, h2⟩)
                                  go_region_held3 (fun w' => w'.cell? ⟨gw, j, none⟩ = some (ptr (q j)) ∧ w'.cell? ⟨bl, j, none⟩ = some (ptr (p j))) (first | exact hc6 | exact HCC.out _ (Below.refl _ _) | exact HCC.out _ (below_drewN _ _)) ((go_at_call 29; (first | refine (HHO.out _ (below_drewN _ _)).mono ?_ | refine (HHO.out _ (Below.refl _ _)).mono ?_); rintro e w6 ⟨rfl, hc6, hE6⟩; have HE6 := hid hE6; clear hE6))
                                  go_wp2
                                  go_roundw
                                  case rel => exact ⟨j + 1, T4, U5, by omega, by go_num, HE6.out⟩
                                  case measure => simp [intOf]; omega
                  · have hjt' : ¬ (j : Int) < (l.length : Int) := by omega
                    have HFI := hid HEj.out.fa.be
                    go_wp2
                    go_ret
                    exact ⟨rfl, HFI.out⟩
end Go.Proofs.YtklchjfkkbpipaaGreatDoor
