/- Texts laid into one: the remark ahead of each part says what is proved there. -/
import Derived.Test.YtklchjfkkbpipaaGreatDoorPaa
import Derived.Test.YtklchjfkkbpipaaGreatDoorPab
import Derived.Test.YtklchjfkkbpipaaGreatDoorPac
import Derived.Test.YtklchjfkkbpipaaGreatDoorPad
import Derived.Test.YtklchjfkkbpipaaGreatDoorPae
import Derived.Test.YtklchjfkkbpipaaGreatDoorPaf
import Derived.Test.YtklchjfkkbpipaaGreatDoorPag
import Derived.Test.YtklchjfkkbpipaaGreatDoorPah
import Derived.Test.YtklchjfkkbpipaaGreatDoorPai
import Derived.Test.YtklchjfkkbpipaaGreatDoorPaj
import Derived.Test.YtklchjfkkbpipaaGreatDoorPak
import Derived.Test.YtklchjfkkbpipaaGreatDoorPal
import Derived.Test.YtklchjfkkbpipaaGreatDoorPam
import Derived.Test.YtklchjfkkbpipaaGreatDoorPan
import Derived.Test.YtklchjfkkbpipaaGreatDoorPao
import Derived.Test.YtklchjfkkbpipaaGreatDoorUaa
import Derived.Test.YtklchjfkkbpipaaGreatDoorUaf
/- FanStops: its walk. -/
namespace Go.Proofs.YtklchjfkkbpipaaGreatDoor
open Go Go.RowKit Go.Shelf

set_option maxHeartbeats 60000000 in
set_option maxRecDepth 100000 in
theorem fanStops_walk (a0 a2 : Value) (l : List FilV) (ks : List Bool) (stop : Int) (w : World) (hE : Erh w) (h0 : IsFs w a0 l) (hs : (Lit.int .i64 stop).wf = true) (h2 : IsKs w a2 ks) :
    Calls Tryz.prog 6 #[a0, .int .i64 stop, a2] w fun e w' => e = .returned (.bool true) ∧ Below w.heap.size w w' := by
  have HE := hid hE
  have HA := hid (fawake_any w hE)
  have H0 := hid h0
  have H2 := hid h2
  have hwf := wf64 hs
  obtain ⟨p0, c0, rfl⟩ := h0.form
  obtain ⟨p2, c2, rfl⟩ := h2.form
  clear hE h0 h2 hs
  go_enter Tryz.func6, Tryz.ntmps6
  go_upto_region 3 with (go_at_call 20; refine HA.out.mono ?_; rintro e w1 ⟨rfl, hb1⟩; have HB1 := hid hb1; clear hb1)
  by_cases q1 : l.length < 1
  · have q1' : (l.length : Int) < 1 := by omega
    go_wp2
    go_ret
    exact ⟨rfl, HB1.out⟩
  have q1' : ¬ (l.length : Int) < 1 := by omega
  by_cases q2 : l.length > 5
  · have q2' : (5 : Int) < (l.length : Int) := by omega
    go_wp2
    go_ret
    exact ⟨rfl, HB1.out⟩
  have q2' : ¬ (5 : Int) < (l.length : Int) := by omega
  by_cases q3 : stop < 0
  · go_wp2
    go_ret
    exact ⟨rfl, HB1.out⟩
  by_cases q4 : ks.length > 50
  · have q4' : (50 : Int) < (ks.length : Int) := by omega
    go_wp2
    go_ret
    exact ⟨rfl, HB1.out⟩
  have q4' : ¬ (50 : Int) < (ks.length : Int) := by omega
  obtain ⟨s, hss⟩ : ∃ s : Nat, stop = (s : Int) := ⟨stop.toNat, by omega⟩
  subst hss
  have HSM := hid (some_any2 w w1 HB1.out l.length 5000 (by omega) (by omega) (by omega))
  go_upto_region 8 with (go_at_call 21; refine HSM.out.mono ?_; rintro e w2 ⟨lv, p, T2, rfl, hfa, hls, hb2, -⟩; have HG0 : Hid (GaB w w2 T2 l.length p lv (fun _ => fresh 5000) (.slice none 0 0) []) := hid ⟨hfa, hls, World.ownsRow_nil _ _ _ _, (fun _ e => by cases e), (fun _ _ _ e => by cases e), (fun _ h => absurd h (by simp))⟩; clear hfa hls hb2)
  clear HSM HA
  obtain ⟨bl, cl, hlv⟩ : ∃ bl cl, lv = .slice (some ⟨bl, 0, none⟩) l.length cl := by
    rcases HG0.out.ls.ex with ⟨h, _⟩ | ⟨_, b, c, h, _⟩
    · omega
    · exact ⟨b, c, h⟩
  subst hlv
  go_wp2
  go_loopw [11, 12] (fun v r wr => ∃ (i : Nat) (T : Nat → Prop) (rows : List RowV), i ≤ l.length ∧ r = .int .i64 (i : Int) ∧ GaB w wr T l.length p (.slice (some ⟨bl, 0, none⟩) l.length cl) (fun _ => fresh 5000) v rows ∧ rows.map RowV.l = (l.take i).map FilV.fls ∧ ∀ j (h : j < l.length), j < i → l[j].lg = false ∧ l[j].fls ≠ []) (fun _ r _ => (1000 - intOf r).toNat)
  case atStart => exact ⟨0, T2, [], Nat.zero_le _, rfl, HG0.out, by simp, fun j _ hj => absurd hj (Nat.not_lt_zero _)⟩
  case round =>
    clear HG0
    obtain ⟨i, T, rows, hi, rfl, hG, hr, hn⟩ := hrel
    have HGA := hid hG
    have HRW := hid hr
    have HNL := hid hn
    have hrl0 : rows.length = i := by have := congrArg List.length HRW.out; simpa [Nat.min_eq_left hi] using this
    clear hG hr hn
    by_cases hlt : i < l.length
    · as_aux_lemma =>
        have hlt' : (i : Int) < (l.length : Int) := by omega
        have hi2 : (i : Int) < 1000 := by omega
        obtain ⟨b0, o0, hp0, hc0, hok0⟩ := H0.out.cells hlt
        subst hp0
        have HC0 := hid hc0
        have HX := hid hok0
        obtain ⟨x0, x1, x2, x3⟩ := hc0 wr HGA.out.fa.be
        clear hc0 hok0
        generalize hxe : l[i] = x at *
        cases hlg : x.lg with
        | true => as_aux_lemma =>
            go_wp2_with (first
              | (go_at_call 23; refine (flist2_any x _).mono ?_; intro e w3 hq; obtain ⟨r, he3, hrl, hb3, -⟩ := hq; subst he3; obtain ⟨v4, w4, hrun, hb4⟩ := (HGA.out.below hb3).pushB r (by omega); have HRUN := hid hrun; have HB4 := hid hb4; clear hrl hb3 hrun hb4 x0 x1 x2 x3; have x0 := (HC0.out _ HB4.out).1; have x1 := (HC0.out _ HB4.out).2.1; have x2 := (HC0.out _ HB4.out).2.2.1; have x3 := (HC0.out _ HB4.out).2.2.2)
              | (at_builtin; refine wpList_append_run _ _ 31 rfl rfl _ _ v4 rfl rfl HRUN.out ?_; clear HRUN)
              | (go_at_call 22; refine (large_any x _).mono ?_; rintro e w5 ⟨rfl, hb5⟩; rw [hlg]; have HB5 := hid (below_on _ _ HB4.out hb5); clear hb5))
            go_ret
            exact ⟨rfl, HB5.out⟩
        | false => as_aux_lemma =>
            go_upto_region 13 with (first
              | (go_at_call 23; refine (flist2_any x _).mono ?_; intro e w3 hq; obtain ⟨r, he3, hrl, -, hro, hg3⟩ := HGA.out.listed HX.out hlg hq; subst he3; obtain ⟨v4, w4, hrun, hg4⟩ := hg3.push r hro (by omega); have HRUN := hid hrun; have HG4 := hid hg4; have HRL := hid hrl; clear hq hrl hro hg3 hrun hg4 x0 x1 x2 x3; have x0 := (HC0.out _ HG4.out.fa.be).1; have x1 := (HC0.out _ HG4.out.fa.be).2.1; have x2 := (HC0.out _ HG4.out.fa.be).2.2.1; have x3 := (HC0.out _ HG4.out.fa.be).2.2.2)
              | (at_builtin; refine wpList_append_run _ _ 31 rfl rfl _ _ v4 rfl rfl HRUN.out ?_; clear HRUN))
            obtain ⟨g9, c9, hv9, -⟩ := HG4.out.last (i := i) (by simp; omega)
            subst hv9
            have HLC : Hid (∀ W T' d', GaB w W T' l.length p (.slice (some ⟨bl, 0, none⟩) l.length cl) d' (.slice (some ⟨g9, 0, none⟩) (rows ++ [r]).length c9) (rows ++ [r]) → W.cell? ⟨g9, i, none⟩ = some (.slice r.po r.l.length r.c)) := hid (fun W T' d' h => by have := h.lastc (i := i) (by simp; omega); rw [getD_snoc _ _ hrl0] at this; exact this)
            have hrn : r.l.length ≤ 3 := by rw [HRL.out]; exact x.fls_le
            have hrl9 : (rows ++ [r]).length = i + 1 := by simp [hrl0]
            obtain ⟨m, hm⟩ : ∃ m, r.l.length = m := ⟨_, rfl⟩
            rw [hm] at HLC hrn
            have HM := hid hm
            clear hm
            generalize hm9 : (rows ++ [r]).length = m9 at *
            subst hrl9
            by_cases hem : m = 0
            · subst hem
              go_wp2_with (go_at_call 22; refine (large_any x _).mono ?_; rintro e w5 ⟨rfl, hb5⟩; rw [hlg]; have HG5 := hid (HG4.out.below hb5); have k5 := HLC.out _ _ _ HG5.out; clear hb5)
              go_ret
              exact ⟨rfl, HG5.out.fa.be⟩
            · as_aux_lemma =>
                have hem' : ((m : Int) == 0) = false := beq_eq_false_iff_ne.2 (by omega)
                go_wp2_with (go_at_call 22; refine (large_any x _).mono ?_; rintro e w5 ⟨rfl, hb5⟩; rw [hlg]; have HG5 := hid (HG4.out.below hb5); have k5 := HLC.out _ _ _ HG5.out; clear hb5)
                go_roundw
                case rel =>
                  refine ⟨i + 1, T, rows ++ [r], by omega, by go_num, HG5.out, ?_, fun j h hj => ?_⟩
                  · rw [List.map_append, HRW.out, List.take_succ_eq_append_getElem hlt, List.map_append]
                    simp [HRL.out, hxe]
                  · by_cases e : j = i
                    · subst e
                      rw [hxe]
                      refine ⟨hlg, fun e => hem ?_⟩
                      rw [← HM.out, HRL.out, e]; rfl
                    · exact HNL.out j h (by omega)
                case measure => simp [intOf]; omega
    · as_aux_lemma =>
        have hlt' : ¬ (i : Int) < (l.length : Int) := by omega
        have ei : i = l.length := by omega
        subst ei
        have hr := HRW.out
        rw [List.take_length] at hr
        have HRZ := hid hr
        obtain ⟨gf, cf, hvf, hfok⟩ := HGA.out.done (by omega)
        rw [hrl0] at hvf
        subst hvf
        have HST : Hid (StB w wr T l.length p (.slice (some ⟨bl, 0, none⟩) l.length cl) ⟨some ⟨gf, 0, none⟩, cf, rows⟩ (fun _ => fresh 5000) none 0) := hid ⟨HGA.out.fa, HGA.out.ls, hfok⟩
        have HLG : Hid (∀ j (h : j < l.length), l[j].lg = false ∧ l[j].fls ≠ []) := hid (fun j h => HNL.out j h h)
        have HFU : Hid (Calls Tryz.prog 30 #[(.slice (some ⟨bl, 0, none⟩) l.length cl), .int .i64 (s : Int)] wr fun en W' => en = .returned (.int .i64 0) ∧ ∃ T', StB w W' T' l.length p (.slice (some ⟨bl, 0, none⟩) l.length cl) ⟨some ⟨gf, 0, none⟩, cf, rows⟩ (fun _ => fresh 5000) (some (s, false)) 0) := hid (by
          refine (fuse_fa HST.out.fa HST.out.ls (by omega) s (by omega)).mono ?_
          rintro en W' ⟨rfl, T', hg, hf, ho, _⟩
          exact ⟨rfl, T', HST.out.step hg hf ho⟩)
        obtain ⟨e, wl, d', f, ph, hcom, hee, hep, hAf⟩ := aft_com (fun j h => (HLG.out j h).1) s
        have HAF := hid hAf
        have HCM : Hid (∀ W T', StB w W T' l.length p (.slice (some ⟨bl, 0, none⟩) l.length cl) ⟨some ⟨gf, 0, none⟩, cf, rows⟩ (fun _ => fresh 5000) (some (s, false)) 0 → Calls Tryz.prog 15 #[(.slice (some ⟨bl, 0, none⟩) l.length cl), .slice (some ⟨gf, 0, none⟩) l.length cf, .int .i64 (l.length : Int)] W fun en W' => (∃ cv, en = .returned (.tuple #[cv, .int .i64 (e : Int)])) ∧ ∃ T'', StB w W' T'' l.length p (.slice (some ⟨bl, 0, none⟩) l.length cl) ⟨some ⟨gf, 0, none⟩, cf, rows⟩ d' f 0) := hid (fun W T' h => by
          have hfs : (⟨some ⟨gf, 0, none⟩, cf, rows⟩ : FsV).v = .slice (some ⟨gf, 0, none⟩) l.length cf := by show Value.slice _ rows.length cf = _; rw [hrl0]
          have hc := commit_any (X0 := ⟨fun _ => fresh 5000, some (s, false)⟩) h.fa h.ls (by omega) HE.out (fun j hj => ⟨Nat.zero_le _, Nat.zero_le _⟩) ⟨some ⟨gf, 0, none⟩, cf, rows⟩ h.fo (by show rows.length ≤ 1000; omega) (fun r hr => by
            obtain ⟨j, hj, rfl⟩ := List.mem_iff_getElem.1 hr
            have hj' : j < rows.length := hj
            have := (fls_at HRZ.out (j := j) (by omega)).2
            rw [getD_in _ _ _ hj] at this
            omega) (l.length : Int)
          rw [comR_fil HRZ.out (by omega) (by omega) (by omega) (by omega), hcom, hfs] at hc
          refine hc.mono ?_
          rintro en W' ⟨cv, T3, rfl, hg, hf, ho, _⟩
          exact ⟨⟨cv, rfl⟩, T3, h.step hg hf ho⟩)
        clear HGA HRW HNL hfok hr hcom hAf HST
        go_upto_region 18 with (first
          | (go_at_call 30; refine HFU.out.mono ?_; rintro en w3 ⟨rfl, T3, hs3⟩; have HS3 := hid hs3; clear hs3)
          | (go_at_call 15; refine (HCM.out _ _ HS3.out).mono ?_; rintro en w4 ⟨⟨cv, rfl⟩, T4, hs4⟩; have HS4 := hid hs4; clear hs4))
        clear HFU HCM HS3
        rcases hee with hee | hee
        · subst hee
          go_wp2
          go_loopw [15, 16] (fun v r wk => ∃ (j : Nat) (b : Bool) (T' : Nat → Prop), j ≤ l.length ∧ r = .int .i64 (j : Int) ∧ v = .bool b ∧ StB w wk T' l.length p (.slice (some ⟨bl, 0, none⟩) l.length cl) ⟨some ⟨gf, 0, none⟩, cf, rows⟩ (crD d' ks j) f j ∧ (ph = false → b = false)) (fun _ r _ => (1000 - intOf r).toNat)
          case atStart => exact ⟨0, false, T4, Nat.zero_le _, rfl, rfl, by rw [crD_zero]; exact HS4.out, fun _ => rfl⟩
          case round =>
            clear HS4
            obtain ⟨j, b, T5, hj, rfl, rfl, hS, hb1⟩ := hrel
            have HS := hid hS
            clear hS
            by_cases hjt : j < l.length
            · as_aux_lemma =>
                have hjt' : (j : Int) < (l.length : Int) := by omega
                have hj2 : (j : Int) < 1000 := by omega
                have a1 := (HS.out.cells hrl0 hjt).1
                have HCR : Hid (Calls Tryz.prog 31 #[ptr (p j), .slice p2 ks.length c2] wr fun en W' => en = .returned (.int .i64 0) ∧ ∃ T', StB w W' T' l.length p (.slice (some ⟨bl, 0, none⟩) l.length cl) ⟨some ⟨gf, 0, none⟩, cf, rows⟩ (crD d' ks (j + 1)) f (j + 1)) := hid (by
                  have := HS.out.crash hjt p2 c2 ks (H2.out.kat HS.out.fa.be (fun b hb => HS.out.fa.ge b hb)) (by omega) (by rw [crD_at]; exact Nat.lt_of_le_of_lt (HAF.out.nw j hjt).2.1 (by decide))
                  rw [crD_next] at this
                  exact this)
                go_wp2_with (go_at_call 31; refine HCR.out.mono ?_; rintro en w5 ⟨rfl, T6, hS5⟩; have HS5 := hid hS5; clear hS5 a1)
                clear HS HCR
                have hf1 := (fls_at HRZ.out hjt).1
                have hf2 := (fls_at HRZ.out hjt).2
                have HCE : Hid (∀ W, StB w W T6 l.length p (.slice (some ⟨bl, 0, none⟩) l.length cl) ⟨some ⟨gf, 0, none⟩, cf, rows⟩ (crD d' ks (j + 1)) f (j + 1) → W.cell? ⟨bl, j, none⟩ = some (ptr (p j)) ∧ W.cell? ⟨gf, j, none⟩ = some (.slice (rows.getD j default).po (rows.getD j default).l.length (rows.getD j default).c) ∧ (rows.getD j default).ok W T6) := hid (fun W h => h.cells hrl0 hjt)
                have hfn : flF l j ≠ [] := by rw [flF_in hjt]; unfold FilV.fl; simp; exact (HLG.out j hjt).2
                have HNM : Hid (∀ x ∈ flF l j, x.1 = [97] ∨ x.1 = [98] ∨ x.1 = [99]) := hid (fun x hx => by rw [flF_in hjt] at hx; exact FilV.fl_nm hx)
                generalize rows.getD j default = R at hf1 hf2 HCE
                obtain ⟨rpo, rcc, rll⟩ := R
                dsimp only at hf1 hf2 HCE
                have hfl : rll.map FlV.fl = flF l j := hf1
                obtain ⟨m, hm⟩ : ∃ m, rll.length = m := ⟨_, rfl⟩
                rw [hm] at HCE hf2
                have hm0 : 0 < m := by rw [← hm]; rcases Nat.eq_zero_or_pos rll.length with h | h; exact absurd (by rw [← hfl, List.eq_nil_of_length_eq_zero h]; rfl) hfn; exact h
                have HM := hid hm
                have HFL := hid hfl
                have HMX : Hid (∀ k, k < m → (rll.getD k default).nm.length ≤ maxLen ∧ (ph = false → ((d' j).crash ks).readE none (rll.getD k default).nm = 6)) := hid (fun k hk => by
                  have hk' : k < rll.length := by rw [HM.out]; exact hk
                  have hx : (rll.getD k default).fl ∈ flF l j := by rw [← HFL.out, getD_in _ _ _ hk']; exact List.mem_map.2 ⟨_, List.getElem_mem hk', rfl⟩
                  have hnm := HNM.out _ hx
                  have hc := HAF.out.crash ks
                  refine ⟨?_, fun hp => read_no (hc.nw j hjt).1 (hc.pa hp j hjt) hnm⟩
                  have h1 := (nm_ok hnm).2.2
                  have h2 : (rll.getD k default).nm.length = 1 := h1
                  unfold maxLen; omega)
                have HLN : Hid ((crD d' ks (j + 1) j).F.length < 1000000000000) := hid (by rw [crD_done _ _ (by omega)]; exact Nat.lt_of_le_of_lt ((HAF.out.crash ks).nw j hjt).2.1 (by decide))
                clear hf1 hfl hm hfn HFL
                go_loopw [15, 17] (fun v r wk => ∃ (k : Nat) (b : Bool), k ≤ m ∧ r = .int .i64 (k : Int) ∧ v = .bool b ∧ StB w wk T6 l.length p (.slice (some ⟨bl, 0, none⟩) l.length cl) ⟨some ⟨gf, 0, none⟩, cf, rows⟩ (crD d' ks (j + 1)) f (j + 1) ∧ (ph = false → b = false)) (fun _ r _ => (1000 - intOf r).toNat)
                case atStart => exact ⟨0, b, Nat.zero_le _, rfl, rfl, HS5.out, hb1⟩
                case round =>
                  clear HS5 hb1
                  obtain ⟨k, b', hk, rfl, rfl, hSk, hb1⟩ := hrel
                  have HSk := hid hSk
                  clear hSk
                  have a2 := (HCE.out _ HSk.out).2.1
                  by_cases hkt : k < m
                  · as_aux_lemma =>
                      have hkt' : (k : Int) < (m : Int) := by omega
                      have hk2 : (k : Int) < 1000 := by omega
                      obtain ⟨br, or_, hrp, -⟩ := (HCE.out _ HSk.out).2.2.cell (k := k) (by rw [HM.out]; exact hkt)
                      subst hrp
                      have HCC : Hid (∀ W', Below wr.heap.size wr W' → W'.cell? ⟨bl, j, none⟩ = some (ptr (p j)) ∧ W'.cell? ⟨gf, j, none⟩ = some (.slice (some ⟨br, or_, none⟩) m rcc) ∧ W'.cell? ⟨br, or_ + k * 2, none⟩ = some (sv (rll.getD k default).nm)) := hid (fun W' hb => by
                        have hS' := HSk.out.below hb
                        obtain ⟨g1, g2, g3⟩ := HCE.out _ hS'
                        obtain ⟨b9, o9, e9, g4⟩ := g3.cell (k := k) (by rw [HM.out]; exact hkt)
                        cases e9
                        exact ⟨g1, g2, g4⟩)
                      obtain ⟨hml, hm6⟩ := HMX.out k hkt
                      have HRD : Hid (∀ W', Below wr.heap.size wr W' → Calls Tryz.prog 32 #[ptr (p j), sv (rll.getD k default).nm] W' fun en W2 => (∃ po n c, en = .returned (.tuple #[.slice po n c, .int .i64 ((((d' j).crash ks).readE none (rll.getD k default).nm : Nat) : Int)])) ∧ (W2.cell? ⟨bl, j, none⟩ = some (ptr (p j)) ∧ W2.cell? ⟨gf, j, none⟩ = some (.slice (some ⟨br, or_, none⟩) m rcc) ∧ W2.cell? ⟨br, or_ + k * 2, none⟩ = some (sv (rll.getD k default).nm)) ∧ Below wr.heap.size wr W2) := hid (fun W' hb => by
                        have hs := (HSk.out.fa.see hjt HLN.out).rd W' hb (rll.getD k default).nm hml
                        rw [crD_done _ _ (by omega), show fAt (j + 1) f j = none from by unfold fAt; rw [if_pos (by omega)]] at hs
                        refine hs.mono ?_
                        rintro en W2 ⟨po, c, rfl, _, hb2⟩
                        have hb3 := below_on _ _ hb hb2
                        exact ⟨⟨po, _, c, rfl⟩, HCC.out _ hb3, hb3⟩)
                      generalize (rll.getD k default).nm = nm at *
                      generalize ((d' j).crash ks).readE none nm = er at *
                      have her : er ≤ 1000000 ∨ True := .inr trivial
                      go_wp2_with fail
                      go_region_held3 (fun w' => w'.cell? ⟨bl, j, none⟩ = some (ptr (p j)) ∧ w'.cell? ⟨gf, j, none⟩ = some (.slice (some ⟨br, or_, none⟩) m rcc) ∧ w'.cell? ⟨br, or_ + k * 2, none⟩ = some (sv nm)) (first | exact hc6 | exact HCC.out _ (Below.refl _ _) | exact HCC.out _ (below_drewN _ _)) ((go_at_call 32; (first | refine (HRD.out _ (below_drewN _ _)).mono ?_ | refine (HRD.out _ (Below.refl _ _)).mono ?_); rintro en w6 ⟨⟨po6, n6, cc6, rfl⟩, hc6, hb6⟩; have HS6 := hid (HSk.out.below hb6); clear hb6))
                      clear her
                      cases b' with
                      | true =>
                        go_wp2
                        go_roundw
                        case rel => exact ⟨k + 1, true, by omega, by go_num, rfl, HS6.out, hb1⟩
                        case measure => simp [intOf]; omega
                      | false => as_aux_lemma =>
                          by_cases her : er = 0
                          · subst her
                            go_wp2
                            go_roundw
                            case rel => exact ⟨k + 1, true, by omega, by go_num, rfl, HS6.out, fun hp => absurd (hm6 hp) (by decide)⟩
                            case measure => simp [intOf]; omega
                          · have her' : ((er : Int) == 0) = false := beq_eq_false_iff_ne.2 (by omega)
                            go_wp2
                            go_roundw
                            case rel => exact ⟨k + 1, false, by omega, by go_num, rfl, HS6.out, fun _ => rfl⟩
                            case measure => simp [intOf]; omega
                  · as_aux_lemma =>
                      have hkt' : ¬ (k : Int) < (m : Int) := by omega
                      cases b' with
                      | true =>
                        go_wp2
                        go_roundw
                        case rel => exact ⟨j + 1, by omega, by go_num, ⟨T6, HSk.out⟩, by cases ph; exact absurd (hb1 rfl) (by simp); rfl⟩
                        case measure => simp [intOf]; omega
                      | false =>
                        go_wp2
                        go_roundw
                        case rel => exact ⟨j + 1, by omega, by go_num, T6, HSk.out⟩
                        case measure => simp [intOf]; omega
            · as_aux_lemma =>
                have hjt' : ¬ (j : Int) < (l.length : Int) := by omega
                have ej : j = l.length := by omega
                subst ej
                have HS0 : Hid (StB w wr T5 l.length p (.slice (some ⟨bl, 0, none⟩) l.length cl) ⟨some ⟨gf, 0, none⟩, cf, rows⟩ (crD d' ks l.length) none 0) := hid ⟨HS.out.fa.calm, HS.out.ls, HS.out.fo⟩
                clear HS
                cases b with
                | false =>
                  go_wp2
                  go_ret
                  exact ⟨rfl, HS0.out.fa.be⟩
                | true => as_aux_lemma =>
                    have hph : ph = true := by cases ph; exact absurd (hb1 rfl) (by simp); rfl
                    have HMI : Hid (∀ i, i < l.length → Mid2 (flF l i) ((d' i).crash ks).F ∧ Nw 5000 ((d' i).crash ks) ∧ Bnd 1000 1000 ((d' i).crash ks)) := hid (fun i hi => ⟨(HAF.out.crash ks).pm hph i hi, (HAF.out.crash ks).nw i hi⟩)
                    clear hb1
                    go_wp2
                    go_loopw [20] (fun v wk => ∃ (j : Nat) (T' : Nat → Prop) (dd : Nat → Pd), j ≤ l.length ∧ v = .int .i64 (j : Int) ∧ StB w wk T' l.length p (.slice (some ⟨bl, 0, none⟩) l.length cl) ⟨some ⟨gf, 0, none⟩, cf, rows⟩ dd none 0 ∧ ∀ i, j ≤ i → i < l.length → dd i = (d' i).crash ks) (fun v _ => (1000 - intOf v).toNat)
                    case atStart => exact ⟨0, T5, _, Nat.zero_le _, rfl, HS0.out, fun i _ hi => crD_done _ _ hi⟩
                    case round =>
                      clear HS0
                      obtain ⟨j, T', dd, hj, rfl, hS, hdd⟩ := hrel
                      have HS := hid hS
                      have HDD := hid hdd
                      clear hS hdd
                      by_cases hjt : j < l.length
                      · as_aux_lemma =>
                          have hjt' : (j : Int) < (l.length : Int) := by omega
                          have hj2 : (j : Int) < 1000 := by omega
                          obtain ⟨Wj, hWj⟩ : ∃ Wj, Wj = wr := ⟨_, rfl⟩
                          subst hWj
                          have hf1 := (fls_at HRZ.out hjt).1
                          have hf2 := (fls_at HRZ.out hjt).2
                          have HCE : Hid (∀ W T8 d8, StB w W T8 l.length p (.slice (some ⟨bl, 0, none⟩) l.length cl) ⟨some ⟨gf, 0, none⟩, cf, rows⟩ d8 none 0 → W.cell? ⟨bl, j, none⟩ = some (ptr (p j)) ∧ W.cell? ⟨gf, j, none⟩ = some (.slice (rows.getD j default).po (rows.getD j default).l.length (rows.getD j default).c) ∧ (rows.getD j default).ok W T8) := hid (fun W T8 d8 h => h.cells hrl0 hjt)
                          generalize rows.getD j default = R at hf1 hf2 HCE
                          obtain ⟨rpo, rcc, rll⟩ := R
                          dsimp only at hf1 hf2 HCE
                          have hfl : rll.map FlV.fl = flF l j := hf1
                          obtain ⟨m, hm⟩ : ∃ m, rll.length = m := ⟨_, rfl⟩
                          rw [hm] at HCE hf2
                          have HM := hid hm
                          have HFL := hid hfl
                          have HNS : Hid (rll.map FlV.nm = (flF l j).map (·.1)) := hid (by rw [← HFL.out, List.map_map]; rfl)
                          clear hf1 hfl hm
                          have HN0 : Hid (NaB Wj Wj (.slice none 0 0) ((rll.map FlV.nm).take 0)) := hid ⟨World.ownsRow_nil _ _ _ _, Below.refl _ _⟩
                          go_wp2
                          go_loopw [21, 22] (fun v r wk => ∃ (k : Nat), k ≤ m ∧ r = .int .i64 (k : Int) ∧ NaB Wj wk v ((rll.map FlV.nm).take k)) (fun _ r _ => (1000 - intOf r).toNat)
                          case atStart => exact ⟨0, Nat.zero_le _, rfl, HN0.out⟩
                          case round =>
                            clear HN0
                            obtain ⟨k, hk, rfl, hNk⟩ := hrel
                            have HNk := hid hNk
                            clear hNk
                            have hS' := HS.out.below HNk.out.be
                            have a2 := (HCE.out _ _ _ hS').2.1
                            by_cases hkt : k < m
                            · as_aux_lemma =>
                                have hkt' : (k : Int) < (m : Int) := by omega
                                have hk2 : (k : Int) < 1000 := by omega
                                obtain ⟨br, or_, hrp, z0⟩ := (HCE.out _ _ _ hS').2.2.cell (k := k) (by rw [HM.out]; exact hkt)
                                subst hrp
                                obtain ⟨v7, w7, hrun, hN7⟩ := HNk.out.push (by simp; omega) (rll.getD k default).nm
                                have hnx : (rll.map FlV.nm).take k ++ [(rll.getD k default).nm] = (rll.map FlV.nm).take (k + 1) := by
                                  have hk' : k < (rll.map FlV.nm).length := by rw [List.length_map, HM.out]; exact hkt
                                  rw [List.take_succ_eq_append_getElem hk', getD_in _ _ _ (by simpa using hk')]
                                  simp
                                rw [hnx] at hN7
                                have HRUN := hid hrun
                                have HN7 := hid hN7
                                clear hrun hN7 hnx hS'
                                generalize (rll.getD k default).nm = nm at *
                                go_wp2_with (at_builtin; refine wpList_append_run _ _ 32 rfl rfl _ _ v7 rfl rfl HRUN.out ?_; clear HRUN)
                                go_roundw
                                case rel => exact ⟨k + 1, by omega, by go_num, HN7.out⟩
                                case measure => simp [intOf]; omega
                            · as_aux_lemma =>
                                have hkt' : ¬ (k : Int) < (m : Int) := by omega
                                have HN8 : Hid (NaB Wj wr _ ((flF l j).map (·.1))) := hid (by have := HNk.out; rw [List.take_of_length_le (by rw [List.length_map, HM.out]; omega), HNS.out] at this; exact this)
                                have HS8 := hid hS'
                                obtain ⟨po, cc, hv⟩ := own_form HN8.out.tx
                                subst hv
                                have a1 := (HCE.out _ _ _ hS').1
                                obtain ⟨h1, h2, h3⟩ := HMI.out j hjt
                                have hdj := HDD.out j (Nat.le_refl _) hjt
                                obtain ⟨o9, hfin⟩ := finR_mid h2 (by rw [flF_in hjt]; exact ly_fil (HLG.out j hjt).1) h1 (by rw [flF_in hjt]; exact ckN_fil _)
                                have HFI : Hid (Calls Tryz.prog 19 #[ptr (p j), .slice po ((flF l j).map (·.1)).length cc] wr fun en W' => en = .returned (.int .i64 0) ∧ ∃ T9, StB w W' T9 l.length p (.slice (some ⟨bl, 0, none⟩) l.length cl) ⟨some ⟨gf, 0, none⟩, cf, rows⟩ (upd dd j ⟨((d' j).crash ks).size, o9, ((d' j).crash ks).offl, ((d' j).crash ks).full, ((d' j).crash ks).out, (flF l j).foldl putF []⟩) none 0) := hid (by
                                  have := ffinish_any (X0 := ⟨dd, none⟩) HS8.out.fa hjt (by show Bnd _ _ (dd j); rw [hdj]; exact h3.mono (by omega) (by omega)) po cc ((flF l j).map (·.1)) HN8.out.tx.at (fun b hb ht => by have := (own_ge HN8.out.tx b hb).1; have := HS.out.fa.lt b ht; omega) (fun s hs => by
                                    obtain ⟨y, hy, rfl⟩ := List.mem_map.1 hs
                                    rw [flF_in hjt] at hy
                                    have h1 := (nm_ok (FilV.fl_nm hy)).2.2
                                    unfold maxLen; omega) (by rw [List.length_map, flF_in hjt]; have := (l[j]).fl_len; omega)
                                  dsimp only at this
                                  rw [hdj, hfin] at this
                                  refine this.mono ?_
                                  rintro en W' ⟨h1, ⟨T9, hg, hf⟩, ho⟩
                                  exact ⟨h1, T9, HS8.out.step hg hf ho⟩)
                                have HNW := hid (fun W => new_ok 5000 (by omega) (by omega) W)
                                generalize hcn : ((flF l j).map (·.1)).length = cn at *
                                go_wp2_with (first
                                  | (go_at_call 19; refine HFI.out.mono ?_; rintro en w9 ⟨rfl, T9, hS9⟩; have HS9 := hid hS9; clear hS9)
                                  | (go_at_call 13; refine (HNW.out _).mono ?_; rintro en w10 ⟨q10, rfl, hd10, hb10⟩; have HS10 := hid (HS9.out.below hb10); have HD10 := hid hd10; clear hd10 hb10))
                                have HCC : Hid (∀ W', Below w10.heap.size w10 W' → W'.cell? ⟨bl, j, none⟩ = some (ptr (p j)) ∧ W'.cell? ⟨gf, j, none⟩ = some (.slice rpo m rcc)) := hid (fun W' hb => ⟨(HCE.out _ _ _ (HS10.out.below hb)).1, (HCE.out _ _ _ (HS10.out.below hb)).2.1⟩)
                                have HHO : Hid (∀ W', Below w10.heap.size w10 W' → Calls Tryz.prog 29 #[ptr q10, ptr (p j), .slice rpo m rcc] W' fun en W2 => en = .returned (.bool true) ∧ (W2.cell? ⟨bl, j, none⟩ = some (ptr (p j)) ∧ W2.cell? ⟨gf, j, none⟩ = some (.slice rpo m rcc)) ∧ Below w10.heap.size w10 W2) := hid (fun W' hb => by
                                  obtain ⟨mm, LL, hD⟩ := HD10.out
                                  have s1 : See W' q10 (fresh 5000) none := see_new ⟨mm, LL, hD.below hb⟩
                                  have s2 := (HS10.out.fa.below hb).see hjt (by rw [upd_same]; show ((flF l j).foldl putF []).length < _; have := putF_len3 (flF l j) [] (by rw [flF_in hjt]; exact FilV.fl_pw _); have h3 : (flF l j).length ≤ 3 := (by rw [flF_in hjt]; exact FilV.fl_len _); simp at this; omega)
                                  rw [fAt_zero, upd_same] at s2
                                  have hh := holds_any s1 s2 ⟨rpo, rcc, rll⟩ (((HCE.out _ _ _ (HS10.out.below hb)).2.2).keep (fun _ _ _ => rfl) (fun _ _ h => h.elim)) (by show rll.length ≤ 1000; rw [HM.out]; omega) (by show Hld _ _ _ _ (rll.map FlV.fl); rw [HFL.out, flF_in hjt]; exact hld_fin h2 o9)
                                  rw [show RowV.v ⟨rpo, rcc, rll⟩ = .slice rpo m rcc from by show Value.slice rpo rll.length rcc = _; rw [HM.out]] at hh
                                  refine hh.mono ?_
                                  rintro en W2 ⟨g1, g2⟩
                                  have hb3 := below_on _ _ hb g2
                                  exact ⟨g1, HCC.out _ hb3, hb3⟩)
                                go_region_held3 (fun w' => w'.cell? ⟨bl, j, none⟩ = some (ptr (p j)) ∧ w'.cell? ⟨gf, j, none⟩ = some (.slice rpo m rcc)) (first | exact hc6 | exact HCC.out _ (Below.refl _ _) | exact HCC.out _ (below_drewN _ _)) ((go_at_call 29; (first | refine (HHO.out _ (below_drewN _ _)).mono ?_ | refine (HHO.out _ (Below.refl _ _)).mono ?_); rintro en w11 ⟨rfl, hc6, hb6⟩; have HS11 := hid (HS10.out.below hb6); clear hb6))
                                go_wp2
                                go_roundw
                                case rel => exact ⟨j + 1, T9, _, by omega, by go_num, HS11.out, fun i hi hi2 => by rw [upd_ne _ _ (by omega)]; exact HDD.out i (by omega) hi2⟩
                                case measure => simp [intOf]; omega
                      · have hjt' : ¬ (j : Int) < (l.length : Int) := by omega
                        have HFB := hid HS.out.fa.be
                        go_wp2
                        go_ret
                        exact ⟨rfl, HFB.out⟩
        · subst hee
          go_wp2
          go_loopw [15, 16] (fun v r wk => ∃ (j : Nat) (b : Bool) (T' : Nat → Prop), j ≤ l.length ∧ r = .int .i64 (j : Int) ∧ v = .bool b ∧ StB w wk T' l.length p (.slice (some ⟨bl, 0, none⟩) l.length cl) ⟨some ⟨gf, 0, none⟩, cf, rows⟩ (crD d' ks j) f j ∧ (ph = false → b = false) ∧ (0 < j → b = true)) (fun _ r _ => (1000 - intOf r).toNat)
          case atStart => exact ⟨0, false, T4, Nat.zero_le _, rfl, rfl, by rw [crD_zero]; exact HS4.out, fun _ => rfl, fun h => absurd h (Nat.lt_irrefl _)⟩
          case round =>
            clear HS4
            obtain ⟨j, b, T5, hj, rfl, rfl, hS, hb1, hb2⟩ := hrel
            have HS := hid hS
            clear hS
            by_cases hjt : j < l.length
            · as_aux_lemma =>
                have hjt' : (j : Int) < (l.length : Int) := by omega
                have hj2 : (j : Int) < 1000 := by omega
                have a1 := (HS.out.cells hrl0 hjt).1
                have HCR : Hid (Calls Tryz.prog 31 #[ptr (p j), .slice p2 ks.length c2] wr fun en W' => en = .returned (.int .i64 0) ∧ ∃ T', StB w W' T' l.length p (.slice (some ⟨bl, 0, none⟩) l.length cl) ⟨some ⟨gf, 0, none⟩, cf, rows⟩ (crD d' ks (j + 1)) f (j + 1)) := hid (by
                  have := HS.out.crash hjt p2 c2 ks (H2.out.kat HS.out.fa.be (fun b hb => HS.out.fa.ge b hb)) (by omega) (by rw [crD_at]; exact Nat.lt_of_le_of_lt (HAF.out.nw j hjt).2.1 (by decide))
                  rw [crD_next] at this
                  exact this)
                go_wp2_with (go_at_call 31; refine HCR.out.mono ?_; rintro en w5 ⟨rfl, T6, hS5⟩; have HS5 := hid hS5; clear hS5 a1)
                clear HS HCR
                have hf1 := (fls_at HRZ.out hjt).1
                have hf2 := (fls_at HRZ.out hjt).2
                have HCE : Hid (∀ W, StB w W T6 l.length p (.slice (some ⟨bl, 0, none⟩) l.length cl) ⟨some ⟨gf, 0, none⟩, cf, rows⟩ (crD d' ks (j + 1)) f (j + 1) → W.cell? ⟨bl, j, none⟩ = some (ptr (p j)) ∧ W.cell? ⟨gf, j, none⟩ = some (.slice (rows.getD j default).po (rows.getD j default).l.length (rows.getD j default).c) ∧ (rows.getD j default).ok W T6) := hid (fun W h => h.cells hrl0 hjt)
                have hfn : flF l j ≠ [] := by rw [flF_in hjt]; unfold FilV.fl; simp; exact (HLG.out j hjt).2
                have HNM : Hid (∀ x ∈ flF l j, x.1 = [97] ∨ x.1 = [98] ∨ x.1 = [99]) := hid (fun x hx => by rw [flF_in hjt] at hx; exact FilV.fl_nm hx)
                generalize rows.getD j default = R at hf1 hf2 HCE
                obtain ⟨rpo, rcc, rll⟩ := R
                dsimp only at hf1 hf2 HCE
                have hfl : rll.map FlV.fl = flF l j := hf1
                obtain ⟨m, hm⟩ : ∃ m, rll.length = m := ⟨_, rfl⟩
                rw [hm] at HCE hf2
                have hm0 : 0 < m := by rw [← hm]; rcases Nat.eq_zero_or_pos rll.length with h | h; exact absurd (by rw [← hfl, List.eq_nil_of_length_eq_zero h]; rfl) hfn; exact h
                have HM := hid hm
                have HFL := hid hfl
                have HMX : Hid (∀ k, k < m → (rll.getD k default).nm.length ≤ maxLen ∧ (ph = false → ((d' j).crash ks).readE none (rll.getD k default).nm = 6) ∧ ((d' j).crash ks).readE none (rll.getD k default).nm = 0) := hid (fun k hk => by
                  have hk' : k < rll.length := by rw [HM.out]; exact hk
                  have hx : (rll.getD k default).fl ∈ flF l j := by rw [← HFL.out, getD_in _ _ _ hk']; exact List.mem_map.2 ⟨_, List.getElem_mem hk', rfl⟩
                  have hnm := HNM.out _ hx
                  have hc := HAF.out.crash ks
                  refine ⟨?_, fun hp => read_no (hc.nw j hjt).1 (hc.pa hp j hjt) hnm, read_yes (hc.nw j hjt).1 (by rw [flF_in hjt]; exact ly_fil (HLG.out j hjt).1) (hc.pc rfl j hjt) hx⟩
                  have h1 := (nm_ok hnm).2.2
                  have h2 : (rll.getD k default).nm.length = 1 := h1
                  unfold maxLen; omega)
                have HLN : Hid ((crD d' ks (j + 1) j).F.length < 1000000000000) := hid (by rw [crD_done _ _ (by omega)]; exact Nat.lt_of_le_of_lt ((HAF.out.crash ks).nw j hjt).2.1 (by decide))
                clear hf1 hfl hm hfn HFL
                go_loopw [15, 17] (fun v r wk => ∃ (k : Nat) (b : Bool), k ≤ m ∧ r = .int .i64 (k : Int) ∧ v = .bool b ∧ StB w wk T6 l.length p (.slice (some ⟨bl, 0, none⟩) l.length cl) ⟨some ⟨gf, 0, none⟩, cf, rows⟩ (crD d' ks (j + 1)) f (j + 1) ∧ (ph = false → b = false) ∧ (0 < j ∨ 0 < k → b = true)) (fun _ r _ => (1000 - intOf r).toNat)
                case atStart => exact ⟨0, b, Nat.zero_le _, rfl, rfl, HS5.out, hb1, fun h => hb2 (h.elim id (fun h => absurd h (Nat.lt_irrefl _)))⟩
                case round =>
                  clear HS5 hb1 hb2
                  obtain ⟨k, b', hk, rfl, rfl, hSk, hb1, hb2⟩ := hrel
                  have HSk := hid hSk
                  clear hSk
                  have a2 := (HCE.out _ HSk.out).2.1
                  by_cases hkt : k < m
                  · as_aux_lemma =>
                      have hkt' : (k : Int) < (m : Int) := by omega
                      have hk2 : (k : Int) < 1000 := by omega
                      obtain ⟨br, or_, hrp, -⟩ := (HCE.out _ HSk.out).2.2.cell (k := k) (by rw [HM.out]; exact hkt)
                      subst hrp
                      have HCC : Hid (∀ W', Below wr.heap.size wr W' → W'.cell? ⟨bl, j, none⟩ = some (ptr (p j)) ∧ W'.cell? ⟨gf, j, none⟩ = some (.slice (some ⟨br, or_, none⟩) m rcc) ∧ W'.cell? ⟨br, or_ + k * 2, none⟩ = some (sv (rll.getD k default).nm)) := hid (fun W' hb => by
                        have hS' := HSk.out.below hb
                        obtain ⟨g1, g2, g3⟩ := HCE.out _ hS'
                        obtain ⟨b9, o9, e9, g4⟩ := g3.cell (k := k) (by rw [HM.out]; exact hkt)
                        cases e9
                        exact ⟨g1, g2, g4⟩)
                      obtain ⟨hml, hm6, hm00⟩ := HMX.out k hkt
                      have HRD : Hid (∀ W', Below wr.heap.size wr W' → Calls Tryz.prog 32 #[ptr (p j), sv (rll.getD k default).nm] W' fun en W2 => (∃ po n c, en = .returned (.tuple #[.slice po n c, .int .i64 ((((d' j).crash ks).readE none (rll.getD k default).nm : Nat) : Int)])) ∧ (W2.cell? ⟨bl, j, none⟩ = some (ptr (p j)) ∧ W2.cell? ⟨gf, j, none⟩ = some (.slice (some ⟨br, or_, none⟩) m rcc) ∧ W2.cell? ⟨br, or_ + k * 2, none⟩ = some (sv (rll.getD k default).nm)) ∧ Below wr.heap.size wr W2) := hid (fun W' hb => by
                        have hs := (HSk.out.fa.see hjt HLN.out).rd W' hb (rll.getD k default).nm hml
                        rw [crD_done _ _ (by omega), show fAt (j + 1) f j = none from by unfold fAt; rw [if_pos (by omega)]] at hs
                        refine hs.mono ?_
                        rintro en W2 ⟨po, c, rfl, _, hb2⟩
                        have hb3 := below_on _ _ hb hb2
                        exact ⟨⟨po, _, c, rfl⟩, HCC.out _ hb3, hb3⟩)
                      generalize (rll.getD k default).nm = nm at *
                      generalize ((d' j).crash ks).readE none nm = er at *
                      have her : er ≤ 1000000 ∨ True := .inr trivial
                      go_wp2_with fail
                      go_region_held3 (fun w' => w'.cell? ⟨bl, j, none⟩ = some (ptr (p j)) ∧ w'.cell? ⟨gf, j, none⟩ = some (.slice (some ⟨br, or_, none⟩) m rcc) ∧ w'.cell? ⟨br, or_ + k * 2, none⟩ = some (sv nm)) (first | exact hc6 | exact HCC.out _ (Below.refl _ _) | exact HCC.out _ (below_drewN _ _)) ((go_at_call 32; (first | refine (HRD.out _ (below_drewN _ _)).mono ?_ | refine (HRD.out _ (Below.refl _ _)).mono ?_); rintro en w6 ⟨⟨po6, n6, cc6, rfl⟩, hc6, hb6⟩; have HS6 := hid (HSk.out.below hb6); clear hb6))
                      clear her
                      subst hm00
                      cases b' with
                      | true =>
                        go_wp2
                        go_roundw
                        case rel => exact ⟨k + 1, true, by omega, by go_num, rfl, HS6.out, hb1, fun _ => rfl⟩
                        case measure => simp [intOf]; omega
                      | false =>
                        go_wp2
                        go_roundw
                        case rel => exact ⟨k + 1, true, by omega, by go_num, rfl, HS6.out, fun hp => absurd (hm6 hp) (by decide), fun _ => rfl⟩
                        case measure => simp [intOf]; omega
                  · as_aux_lemma =>
                      have hkt' : ¬ (k : Int) < (m : Int) := by omega
                      cases b' with
                      | true =>
                        go_wp2
                        go_roundw
                        case rel => exact ⟨j + 1, true, T6, by omega, by go_num, rfl, HSk.out, hb1, fun _ => hb2 (.inr (by omega))⟩
                        case measure => simp [intOf]; omega
                      | false =>
                        go_wp2
                        go_roundw
                        case rel => exact ⟨j + 1, false, T6, by omega, by go_num, rfl, HSk.out, hb1, fun _ => hb2 (.inr (by omega))⟩
                        case measure => simp [intOf]; omega
            · as_aux_lemma =>
                have hjt' : ¬ (j : Int) < (l.length : Int) := by omega
                have ej : j = l.length := by omega
                subst ej
                have HS0 : Hid (StB w wr T5 l.length p (.slice (some ⟨bl, 0, none⟩) l.length cl) ⟨some ⟨gf, 0, none⟩, cf, rows⟩ (crD d' ks l.length) none 0) := hid ⟨HS.out.fa.calm, HS.out.ls, HS.out.fo⟩
                clear HS
                have hbt : b = true := hb2 (by omega)
                subst hbt
                have hph : ph = true := by cases ph; exact absurd (hb1 rfl) (by simp); rfl
                have HMI : Hid (∀ i, i < l.length → Mid2 (flF l i) ((d' i).crash ks).F ∧ Nw 5000 ((d' i).crash ks) ∧ Bnd 1000 1000 ((d' i).crash ks)) := hid (fun i hi => ⟨(HAF.out.crash ks).pm hph i hi, (HAF.out.crash ks).nw i hi⟩)
                clear hb1
                go_wp2
                go_loopw [20] (fun v wk => ∃ (j : Nat) (T' : Nat → Prop) (dd : Nat → Pd), j ≤ l.length ∧ v = .int .i64 (j : Int) ∧ StB w wk T' l.length p (.slice (some ⟨bl, 0, none⟩) l.length cl) ⟨some ⟨gf, 0, none⟩, cf, rows⟩ dd none 0 ∧ ∀ i, j ≤ i → i < l.length → dd i = (d' i).crash ks) (fun v _ => (1000 - intOf v).toNat)
                case atStart => exact ⟨0, T5, _, Nat.zero_le _, rfl, HS0.out, fun i _ hi => crD_done _ _ hi⟩
                case round =>
                  clear HS0
                  obtain ⟨j, T', dd, hj, rfl, hS, hdd⟩ := hrel
                  have HS := hid hS
                  have HDD := hid hdd
                  clear hS hdd
                  by_cases hjt : j < l.length
                  · as_aux_lemma =>
                      have hjt' : (j : Int) < (l.length : Int) := by omega
                      have hj2 : (j : Int) < 1000 := by omega
                      obtain ⟨Wj, hWj⟩ : ∃ Wj, Wj = wr := ⟨_, rfl⟩
                      subst hWj
                      have hf1 := (fls_at HRZ.out hjt).1
                      have hf2 := (fls_at HRZ.out hjt).2
                      have HCE : Hid (∀ W T8 d8, StB w W T8 l.length p (.slice (some ⟨bl, 0, none⟩) l.length cl) ⟨some ⟨gf, 0, none⟩, cf, rows⟩ d8 none 0 → W.cell? ⟨bl, j, none⟩ = some (ptr (p j)) ∧ W.cell? ⟨gf, j, none⟩ = some (.slice (rows.getD j default).po (rows.getD j default).l.length (rows.getD j default).c) ∧ (rows.getD j default).ok W T8) := hid (fun W T8 d8 h => h.cells hrl0 hjt)
                      generalize rows.getD j default = R at hf1 hf2 HCE
                      obtain ⟨rpo, rcc, rll⟩ := R
                      dsimp only at hf1 hf2 HCE
                      have hfl : rll.map FlV.fl = flF l j := hf1
                      obtain ⟨m, hm⟩ : ∃ m, rll.length = m := ⟨_, rfl⟩
                      rw [hm] at HCE hf2
                      have HM := hid hm
                      have HFL := hid hfl
                      have HNS : Hid (rll.map FlV.nm = (flF l j).map (·.1)) := hid (by rw [← HFL.out, List.map_map]; rfl)
                      clear hf1 hfl hm
                      have HN0 : Hid (NaB Wj Wj (.slice none 0 0) ((rll.map FlV.nm).take 0)) := hid ⟨World.ownsRow_nil _ _ _ _, Below.refl _ _⟩
                      go_wp2
                      go_loopw [21, 22] (fun v r wk => ∃ (k : Nat), k ≤ m ∧ r = .int .i64 (k : Int) ∧ NaB Wj wk v ((rll.map FlV.nm).take k)) (fun _ r _ => (1000 - intOf r).toNat)
                      case atStart => exact ⟨0, Nat.zero_le _, rfl, HN0.out⟩
                      case round =>
                        clear HN0
                        obtain ⟨k, hk, rfl, hNk⟩ := hrel
                        have HNk := hid hNk
                        clear hNk
                        have hS' := HS.out.below HNk.out.be
                        have a2 := (HCE.out _ _ _ hS').2.1
                        by_cases hkt : k < m
                        · as_aux_lemma =>
                            have hkt' : (k : Int) < (m : Int) := by omega
                            have hk2 : (k : Int) < 1000 := by omega
                            obtain ⟨br, or_, hrp, z0⟩ := (HCE.out _ _ _ hS').2.2.cell (k := k) (by rw [HM.out]; exact hkt)
                            subst hrp
                            obtain ⟨v7, w7, hrun, hN7⟩ := HNk.out.push (by simp; omega) (rll.getD k default).nm
                            have hnx : (rll.map FlV.nm).take k ++ [(rll.getD k default).nm] = (rll.map FlV.nm).take (k + 1) := by
                              have hk' : k < (rll.map FlV.nm).length := by rw [List.length_map, HM.out]; exact hkt
                              rw [List.take_succ_eq_append_getElem hk', getD_in _ _ _ (by simpa using hk')]
                              simp
                            rw [hnx] at hN7
                            have HRUN := hid hrun
                            have HN7 := hid hN7
                            clear hrun hN7 hnx hS'
                            generalize (rll.getD k default).nm = nm at *
                            go_wp2_with (at_builtin; refine wpList_append_run _ _ 32 rfl rfl _ _ v7 rfl rfl HRUN.out ?_; clear HRUN)
                            go_roundw
                            case rel => exact ⟨k + 1, by omega, by go_num, HN7.out⟩
                            case measure => simp [intOf]; omega
                        · as_aux_lemma =>
                            have hkt' : ¬ (k : Int) < (m : Int) := by omega
                            have HN8 : Hid (NaB Wj wr _ ((flF l j).map (·.1))) := hid (by have := HNk.out; rw [List.take_of_length_le (by rw [List.length_map, HM.out]; omega), HNS.out] at this; exact this)
                            have HS8 := hid hS'
                            obtain ⟨po, cc, hv⟩ := own_form HN8.out.tx
                            subst hv
                            have a1 := (HCE.out _ _ _ hS').1
                            obtain ⟨h1, h2, h3⟩ := HMI.out j hjt
                            have hdj := HDD.out j (Nat.le_refl _) hjt
                            obtain ⟨o9, hfin⟩ := finR_mid h2 (by rw [flF_in hjt]; exact ly_fil (HLG.out j hjt).1) h1 (by rw [flF_in hjt]; exact ckN_fil _)
                            have HFI : Hid (Calls Tryz.prog 19 #[ptr (p j), .slice po ((flF l j).map (·.1)).length cc] wr fun en W' => en = .returned (.int .i64 0) ∧ ∃ T9, StB w W' T9 l.length p (.slice (some ⟨bl, 0, none⟩) l.length cl) ⟨some ⟨gf, 0, none⟩, cf, rows⟩ (upd dd j ⟨((d' j).crash ks).size, o9, ((d' j).crash ks).offl, ((d' j).crash ks).full, ((d' j).crash ks).out, (flF l j).foldl putF []⟩) none 0) := hid (by
                              have := ffinish_any (X0 := ⟨dd, none⟩) HS8.out.fa hjt (by show Bnd _ _ (dd j); rw [hdj]; exact h3.mono (by omega) (by omega)) po cc ((flF l j).map (·.1)) HN8.out.tx.at (fun b hb ht => by have := (own_ge HN8.out.tx b hb).1; have := HS.out.fa.lt b ht; omega) (fun s hs => by
                                obtain ⟨y, hy, rfl⟩ := List.mem_map.1 hs
                                rw [flF_in hjt] at hy
                                have h1 := (nm_ok (FilV.fl_nm hy)).2.2
                                unfold maxLen; omega) (by rw [List.length_map, flF_in hjt]; have := (l[j]).fl_len; omega)
                              dsimp only at this
                              rw [hdj, hfin] at this
                              refine this.mono ?_
                              rintro en W' ⟨h1, ⟨T9, hg, hf⟩, ho⟩
                              exact ⟨h1, T9, HS8.out.step hg hf ho⟩)
                            have HNW := hid (fun W => new_ok 5000 (by omega) (by omega) W)
                            generalize hcn : ((flF l j).map (·.1)).length = cn at *
                            go_wp2_with (first
                              | (go_at_call 19; refine HFI.out.mono ?_; rintro en w9 ⟨rfl, T9, hS9⟩; have HS9 := hid hS9; clear hS9)
                              | (go_at_call 13; refine (HNW.out _).mono ?_; rintro en w10 ⟨q10, rfl, hd10, hb10⟩; have HS10 := hid (HS9.out.below hb10); have HD10 := hid hd10; clear hd10 hb10))
                            have HCC : Hid (∀ W', Below w10.heap.size w10 W' → W'.cell? ⟨bl, j, none⟩ = some (ptr (p j)) ∧ W'.cell? ⟨gf, j, none⟩ = some (.slice rpo m rcc)) := hid (fun W' hb => ⟨(HCE.out _ _ _ (HS10.out.below hb)).1, (HCE.out _ _ _ (HS10.out.below hb)).2.1⟩)
                            have HHO : Hid (∀ W', Below w10.heap.size w10 W' → Calls Tryz.prog 29 #[ptr q10, ptr (p j), .slice rpo m rcc] W' fun en W2 => en = .returned (.bool true) ∧ (W2.cell? ⟨bl, j, none⟩ = some (ptr (p j)) ∧ W2.cell? ⟨gf, j, none⟩ = some (.slice rpo m rcc)) ∧ Below w10.heap.size w10 W2) := hid (fun W' hb => by
                              obtain ⟨mm, LL, hD⟩ := HD10.out
                              have s1 : See W' q10 (fresh 5000) none := see_new ⟨mm, LL, hD.below hb⟩
                              have s2 := (HS10.out.fa.below hb).see hjt (by rw [upd_same]; show ((flF l j).foldl putF []).length < _; have := putF_len3 (flF l j) [] (by rw [flF_in hjt]; exact FilV.fl_pw _); have h3 : (flF l j).length ≤ 3 := (by rw [flF_in hjt]; exact FilV.fl_len _); simp at this; omega)
                              rw [fAt_zero, upd_same] at s2
                              have hh := holds_any s1 s2 ⟨rpo, rcc, rll⟩ (((HCE.out _ _ _ (HS10.out.below hb)).2.2).keep (fun _ _ _ => rfl) (fun _ _ h => h.elim)) (by show rll.length ≤ 1000; rw [HM.out]; omega) (by show Hld _ _ _ _ (rll.map FlV.fl); rw [HFL.out, flF_in hjt]; exact hld_fin h2 o9)
                              rw [show RowV.v ⟨rpo, rcc, rll⟩ = .slice rpo m rcc from by show Value.slice rpo rll.length rcc = _; rw [HM.out]] at hh
                              refine hh.mono ?_
                              rintro en W2 ⟨g1, g2⟩
                              have hb3 := below_on _ _ hb g2
                              exact ⟨g1, HCC.out _ hb3, hb3⟩)
                            go_region_held3 (fun w' => w'.cell? ⟨bl, j, none⟩ = some (ptr (p j)) ∧ w'.cell? ⟨gf, j, none⟩ = some (.slice rpo m rcc)) (first | exact hc6 | exact HCC.out _ (Below.refl _ _) | exact HCC.out _ (below_drewN _ _)) ((go_at_call 29; (first | refine (HHO.out _ (below_drewN _ _)).mono ?_ | refine (HHO.out _ (Below.refl _ _)).mono ?_); rintro en w11 ⟨rfl, hc6, hb6⟩; have HS11 := hid (HS10.out.below hb6); clear hb6))
                            go_wp2
                            go_roundw
                            case rel => exact ⟨j + 1, T9, _, by omega, by go_num, HS11.out, fun i hi hi2 => by rw [upd_ne _ _ (by omega)]; exact HDD.out i (by omega) hi2⟩
                            case measure => simp [intOf]; omega
                  · have hjt' : ¬ (j : Int) < (l.length : Int) := by omega
                    have HFB := hid HS.out.fa.be
                    go_wp2
                    go_ret
                    exact ⟨rfl, HFB.out⟩
end Go.Proofs.YtklchjfkkbpipaaGreatDoor
