/- Texts laid into one: the remark ahead of each part says what is proved there. -/
import Derived.Test.YtelkijiphhoacaaDoorLaa
import Derived.Test.YtelkijiphhoacaaDoorLab
import Derived.Test.YtelkijiphhoacaaDoorLac
import Derived.Test.YtelkijiphhoacaaDoorLad
import Derived.Test.YtelkijiphhoacaaDoorLae
import Derived.Test.YtelkijiphhoacaaDoorLaf
import Derived.Test.YtelkijiphhoacaaDoorLag
import Derived.Test.YtelkijiphhoacaaDoorLah
import Derived.Test.YtelkijiphhoacaaDoorLai
import Derived.Test.YtelkijiphhoacaaDoorLaj
import Derived.Test.YtelkijiphhoacaaDoorLak
import Derived.Test.YtelkijiphhoacaaDoorLal
import Derived.Test.YtelkijiphhoacaaDoorLam
import Derived.Test.YtelkijiphhoacaaDoorLan
import Derived.Test.YtelkijiphhoacaaDoorLao
import Derived.Test.YtelkijiphhoacaaDoorLap
import Derived.Test.YtelkijiphhoacaaDoorLaq
import Derived.Test.YtelkijiphhoacaaDoorLar
import Derived.Test.YtelkijiphhoacaaDoorLas
import Derived.Test.YtelkijiphhoacaaDoorLat
import Derived.Test.YtelkijiphhoacaaDoorLau
import Derived.Test.YtelkijiphhoacaaDoorLav
import Derived.Test.YtelkijiphhoacaaDoorRaa
import Derived.Test.YtelkijiphhoacaaDoorRaf
import Derived.BigQuiet
/- TallyCounts: the walk. -/
namespace Go.Proofs.YtelkijiphhoacaaDoor
open Go Go.RowKit

theorem CvOk.below {w w' : World} {x : Cv} (h : CvOk w x) (hb : Below w.heap.size w w') : CvOk w' x := h.keep fun a ha => World.cell?_of_block (hb.block a.block (cell_lt' ha))
set_option maxRecDepth 100000 in
set_option maxHeartbeats 16000000 in
theorem counts9_any (a0 a1 : Addr) (s : Int) (vj : Value) (jl : List Rp) (k : Int) (v : Value) (l : List Cv) (vp : Value) (xs : List Int) (w : World) (he : Ers w a0 a1) (hj : IsJ9 w vj jl) (hl : IsC w v l) (hp : IsIs w vp xs) : Calls Tryd.prog 3 #[.agg (jC s vj), i64 k, v, vp] w fun e w' => e = .returned (.bool true) ∧ Below w.heap.size w w' := by
  have HAW := hid (fun W (hW : Below w.heap.size w W) => awake9_any a0 a1 W (he.below hW))
  have HIC := hid hl
  have HIJ := hid hj
  have HIP := hid hp
  have HER := hid (fun W (hW : Below w.heap.size w W) => he.below hW)
  have HLG := hid (fun W (hW : Below w.heap.size w W) => large9_any v l W (hl.below hW))
  obtain ⟨po, c, hv, hc1, hcm, -⟩ := hl
  obtain ⟨n, hN⟩ : ∃ n, l.length = n := ⟨_, rfl⟩
  have HN := hid hN
  rw [hN] at hv hc1
  subst hv
  have hlm : (n : Int) ≤ 9223372036854775807 := by have : n ≤ maxLen := Nat.le_trans hc1 hcm; unfold maxLen at this; omega
  obtain ⟨⟨pj, cj, hvj, hcj, hcmj, -⟩, -⟩ := hj
  obtain ⟨nj, hNJ⟩ : ∃ n, jl.length = n := ⟨_, rfl⟩
  have HNJ := hid hNJ
  rw [hNJ] at hvj hcj
  subst hvj
  have hljm : (nj : Int) ≤ 9223372036854775807 := by have : nj ≤ maxLen := Nat.le_trans hcj hcmj; unfold maxLen at this; omega
  obtain ⟨pp, cp, hvp, hcp, hcmp, -⟩ := hp
  obtain ⟨np, hNP⟩ : ∃ n, xs.length = n := ⟨_, rfl⟩
  have HNP := hid hNP
  rw [hNP] at hvp hcp
  subst hvp
  have hlpm : (np : Int) ≤ 9223372036854775807 := by have : np ≤ maxLen := Nat.le_trans hcp hcmp; unfold maxLen at this; omega
  clear hc1 hcm hN hcj hcmj hNJ hcp hcmp hNP he
  by_cases h70 : (70 : Int) < (nj : Int)
  ·
    go_enter Tryd.func3, Tryd.ntmps3
    go_wp2_with (first
      | ((with_reducible refine wpList_boxT 24 rfl _ rfl (jC s (.slice pj nj cj)) ?_ ?_); exact rfl; intro w0 g0 hc0 hb0 hg0; have q0 := hc0.j0; have q1 := hc0.j1; have HC0 := hid hc0; have HB0 := hid hb0; have HG0 := hid hg0; clear hb0 hc0 hg0)
      | (go_at_call 6; refine (HAW.out _ HB0.out).mono ?_; rintro e w1 ⟨rfl, hb1⟩; have HB1 := hid (below_on HB0.out hb1); have HC1 := hid (HC0.out.below hb1); have r1 := HC1.out.j1; clear hb1 q0 q1)
      | (go_at_call 7; refine (HLG.out _ HB1.out).mono ?_; rintro e w2 ⟨rfl, hw⟩; have h2 := hw.symm; subst h2))
    go_ret
    exact ⟨rfl, HB1.out⟩
  by_cases h15 : (15 : Int) < (n : Int)
  ·
    go_enter Tryd.func3, Tryd.ntmps3
    go_wp2_with (first
      | ((with_reducible refine wpList_boxT 24 rfl _ rfl (jC s (.slice pj nj cj)) ?_ ?_); exact rfl; intro w0 g0 hc0 hb0 hg0; have q0 := hc0.j0; have q1 := hc0.j1; have HC0 := hid hc0; have HB0 := hid hb0; have HG0 := hid hg0; clear hb0 hc0 hg0)
      | (go_at_call 6; refine (HAW.out _ HB0.out).mono ?_; rintro e w1 ⟨rfl, hb1⟩; have HB1 := hid (below_on HB0.out hb1); have HC1 := hid (HC0.out.below hb1); have r1 := HC1.out.j1; clear hb1 q0 q1)
      | (go_at_call 7; refine (HLG.out _ HB1.out).mono ?_; rintro e w2 ⟨rfl, hw⟩; have h2 := hw.symm; subst h2))
    go_ret
    exact ⟨rfl, HB1.out⟩
  cases hb : bigC l with
  | true =>
    rw [hb] at HLG
    go_enter Tryd.func3, Tryd.ntmps3
    go_wp2_with (first
      | ((with_reducible refine wpList_boxT 24 rfl _ rfl (jC s (.slice pj nj cj)) ?_ ?_); exact rfl; intro w0 g0 hc0 hb0 hg0; have q0 := hc0.j0; have q1 := hc0.j1; have HC0 := hid hc0; have HB0 := hid hb0; have HG0 := hid hg0; clear hb0 hc0 hg0)
      | (go_at_call 6; refine (HAW.out _ HB0.out).mono ?_; rintro e w1 ⟨rfl, hb1⟩; have HB1 := hid (below_on HB0.out hb1); have HC1 := hid (HC0.out.below hb1); have r1 := HC1.out.j1; clear hb1 q0 q1)
      | (go_at_call 7; refine (HLG.out _ HB1.out).mono ?_; rintro e w2 ⟨rfl, hw⟩; have h2 := hw.symm; subst h2))
    go_ret
    exact ⟨rfl, HB1.out⟩
  | false =>
  rw [hb] at HLG
  obtain ⟨hcl, -, -⟩ := HIC.out.cl hb
  have HL := hid hcl
  clear hcl hb
  by_cases hk1 : k < 1
  ·
    go_enter Tryd.func3, Tryd.ntmps3
    go_wp2_with (first
      | ((with_reducible refine wpList_boxT 24 rfl _ rfl (jC s (.slice pj nj cj)) ?_ ?_); exact rfl; intro w0 g0 hc0 hb0 hg0; have q0 := hc0.j0; have q1 := hc0.j1; have HC0 := hid hc0; have HB0 := hid hb0; have HG0 := hid hg0; clear hb0 hc0 hg0)
      | (go_at_call 6; refine (HAW.out _ HB0.out).mono ?_; rintro e w1 ⟨rfl, hb1⟩; have HB1 := hid (below_on HB0.out hb1); have HC1 := hid (HC0.out.below hb1); have r1 := HC1.out.j1; clear hb1 q0 q1)
      | (go_at_call 7; refine (HLG.out _ HB1.out).mono ?_; rintro e w2 ⟨rfl, hw⟩; have h2 := hw.symm; subst h2))
    go_ret
    exact ⟨rfl, HB1.out⟩
  by_cases hkn : 16 - (n : Int) < k
  ·
    go_enter Tryd.func3, Tryd.ntmps3
    go_wp2_with (first
      | ((with_reducible refine wpList_boxT 24 rfl _ rfl (jC s (.slice pj nj cj)) ?_ ?_); exact rfl; intro w0 g0 hc0 hb0 hg0; have q0 := hc0.j0; have q1 := hc0.j1; have HC0 := hid hc0; have HB0 := hid hb0; have HG0 := hid hg0; clear hb0 hc0 hg0)
      | (go_at_call 6; refine (HAW.out _ HB0.out).mono ?_; rintro e w1 ⟨rfl, hb1⟩; have HB1 := hid (below_on HB0.out hb1); have HC1 := hid (HC0.out.below hb1); have r1 := HC1.out.j1; clear hb1 q0 q1)
      | (go_at_call 7; refine (HLG.out _ HB1.out).mono ?_; rintro e w2 ⟨rfl, hw⟩; have h2 := hw.symm; subst h2))
    go_ret
    exact ⟨rfl, HB1.out⟩
  cases hok : okJ ⟨s, rcs jl⟩ with
  | false =>
    have HJB := hid (fun W (hW : Below w.heap.size w W) => jbytes9_bad s _ jl W (HIJ.out.below hW) hok)
    clear hok
    go_enter Tryd.func3, Tryd.ntmps3
    go_wp2_with (first
      | ((with_reducible refine wpList_boxT 24 rfl _ rfl (jC s (.slice pj nj cj)) ?_ ?_); exact rfl; intro w0 g0 hc0 hb0 hg0; have q0 := hc0.j0; have q1 := hc0.j1; have HC0 := hid hc0; have HB0 := hid hb0; have HG0 := hid hg0; clear hb0 hc0 hg0)
      | (go_at_call 6; refine (HAW.out _ HB0.out).mono ?_; rintro e w1 ⟨rfl, hb1⟩; have HB1 := hid (below_on HB0.out hb1); have HC1 := hid (HC0.out.below hb1); have r1 := HC1.out.j1; clear hb1 q0 q1)
      | (go_at_call 7; refine (HLG.out _ HB1.out).mono ?_; rintro e w2 ⟨rfl, hw⟩; have h2 := hw.symm; subst h2)
      | ((with_reducible refine wpList_load_at 24 _ rfl ?_ g0 0 ?_ (jC s (.slice pj nj cj)) (.struct (Tryd.prog.fieldsOf 24)) ?_ underJrn rfl ?_ ?_); exact rfl; exact rfl; exact HC1.out.wholeJ; exact sizeJ)
      | (go_at_call 8; refine (HJB.out _ HB1.out).mono ?_; rintro e w3 ⟨rfl, hb3⟩; have HB3 := hid (below_on HB1.out hb3); clear hb3 r1))
    go_ret
    exact ⟨rfl, HB3.out⟩
  | true =>
  have HOK := hid hok
  have HJB := hid (fun W (hW : Below w.heap.size w W) => jbytes_ok s _ jl W ((HIJ.out.below hW).rl hok) hok)
  have hbl := jB_len9 HIJ.out hok
  have hb8 : ∀ z ∈ jB dig ⟨s, rcs jl⟩, z < 256 := jB_byte9 (HIJ.out.rl hok)
  obtain ⟨BS, hBS⟩ : ∃ BS, jB dig ⟨s, rcs jl⟩ = BS := ⟨_, rfl⟩
  rw [hBS] at HJB hbl hb8
  have HBS := hid hBS
  have HBL := hid hbl
  have HB8 := hid hb8
  have HCP := hid (fun W (hW : Below w.heap.size w W) => copies9_any _ l W (HL.out.below hW))
  obtain ⟨K, hK⟩ : ∃ K : Nat, k = (K : Int) := ⟨k.toNat, by omega⟩
  subst hK
  have hK1 : 1 ≤ K := by omega
  have hKn : n + K ≤ 16 := by omega
  clear hok hBS hbl hb8
  go_enter Tryd.func3, Tryd.ntmps3
  go_wp2_with (first
    | ((with_reducible refine wpList_boxT 24 rfl _ rfl (jC s (.slice pj nj cj)) ?_ ?_); exact rfl; intro w0 g0 hc0 hb0 hg0; have q0 := hc0.j0; have q1 := hc0.j1; have HC0 := hid hc0; have HB0 := hid hb0; have HG0 := hid hg0; clear hb0 hc0 hg0)
    | (go_at_call 6; refine (HAW.out _ HB0.out).mono ?_; rintro e w1 ⟨rfl, hb1⟩; have HB1 := hid (below_on HB0.out hb1); have HC1 := hid (HC0.out.below hb1); have r1 := HC1.out.j1; clear hb1 q0 q1)
    | (go_at_call 7; refine (HLG.out _ HB1.out).mono ?_; rintro e w2 ⟨rfl, hw⟩; have h2 := hw.symm; subst h2)
    | ((with_reducible refine wpList_load_at 24 _ rfl ?_ g0 0 ?_ (jC s (.slice pj nj cj)) (.struct (Tryd.prog.fieldsOf 24)) ?_ underJrn rfl ?_ ?_); exact rfl; exact rfl; exact HC1.out.wholeJ; exact sizeJ)
    | (go_at_call 8; refine (HJB.out _ HB1.out).mono ?_; rintro e w3 ⟨bv, rfl, hbuf, hb3⟩; have HB3 := hid (below_on HB1.out hb3); have HC3 := hid (HC1.out.below hb3); obtain ⟨pb, cb, hfb⟩ := hbuf.form; obtain ⟨nb, hnb⟩ : ∃ q, BS.length = q := ⟨_, rfl⟩; rw [hnb] at hfb; subst hfb; have HCV := hid (hbuf.cv hnb.symm HBL.out HB8.out 0); clear hb3 r1 hbuf hnb)
    | (go_at_call 9; (refine (HCP.out _ HB3.out).mono ?_; rintro e w4 ⟨v4, L4, rfl, hci, hcp4, hb4⟩; have hl4 : L4.length = n := (by have h9 := congrArg List.length hcp4; rw [cps_len, cps_len, HN.out] at h9; exact h9); have HCL4 := hid (hci.cl (by omega)); obtain ⟨p4, c4, hf4, -⟩ := HCL4.out; rw [hl4] at hf4; subst hf4; have HB4 := hid hb4; have HL4 := hid hl4; clear hci hcp4 hb4 hl4)))
  go_loopg [12, 13] K (fun gg s12 s13 wr => ∃ (kk : Nat) (p4 : Option Addr) (c4 : Nat) (L : List Cv), kk ≤ K ∧ K - kk ≤ gg ∧ s12 = .slice p4 (n + kk) c4 ∧ s13 = i64 kk ∧ Hid (L.length = n + kk) ∧ Hid (CL wr (.slice p4 (n + kk) c4) L) ∧ Hid (kk ≤ votC (cps L) BS) ∧ Hid (Below w3.heap.size w3 wr))
  case atStart => exact ⟨0, p4, c4, L4, Nat.zero_le _, by omega, rfl, rfl, HL4, HCL4, hid (Nat.zero_le _), HB4⟩
  case round =>
    obtain ⟨kk, p4, c4, L, hkk, hg, rfl, rfl, HLL, HCW, HVT, BW⟩ := hrel
    by_cases hlt : kk < K
    · have hltz : (kk : Int) < (K : Int) := by omega
      obtain ⟨M, hM⟩ : ∃ M, n + kk = M := ⟨_, rfl⟩
      rw [hM] at HLL HCW ⊢
      have hM16 : M ≤ 15 := by omega
      have hML : L.length = M := HLL.out
      have HOX : Hid (∀ x ∈ [(⟨0, .slice pb nb cb, BS⟩ : Cv)], x.v.oneCell' = true) := hid fun x hx => by rcases List.mem_singleton.1 hx with rfl; rfl
      have hone : ∀ x ∈ L, x.v.oneCell' = true := fun x hx => (HCW.out.each x hx).one9
      by_cases hnp : (kk : Int) < (np : Int)
      · obtain ⟨x, hx⟩ : ∃ x, xs[kk]? = some x := ⟨_, List.getElem?_eq_getElem (by have := HNP.out; omega)⟩
        obtain ⟨b, o, hpo, hcell⟩ : ∃ b o, pp = some ⟨b, o, none⟩ ∧ wr.cell? ⟨b, o + kk, none⟩ = some (i64 x) := by
          obtain ⟨p', c', e1, _, _, h4⟩ := HIP.out.below (below_on HB3.out BW.out)
          rcases h4 with h4 | ⟨b, o, e, h4⟩
          · rw [h4] at hx; simp at hx
          · rw [e] at e1
            cases e1
            exact ⟨b, o, rfl, h4 kk x hx⟩
        subst hpo
        have hpk := pk9_lt x (M + 1) (by omega)
        have HPK := hid (fun W => pick9_any x (M + 1) W (by omega) (by omega))
        obtain ⟨AT, hAT⟩ : ∃ AT, pk9 x (M + 1) = AT := ⟨_, rfl⟩
        rw [hAT] at HPK hpk
        rw [show ((M + 1 : Nat) : Int) = (M : Int) + 1 by omega] at HPK
        have hATL : AT ≤ L.length := by omega
        obtain ⟨hs1, hrw1⟩ := HCW.out.head9 AT hATL
        obtain ⟨p2, hs2, hrw2⟩ := HCW.out.from9 AT hATL
        have HRW1 := hid hrw1
        have HRW2 := hid hrw2
        have HO1 : Hid (∀ x ∈ L.take AT, x.v.oneCell' = true) := hid fun y hy => hone y (List.mem_of_mem_take hy)
        have HO2 : Hid (∀ x ∈ L.drop AT, x.v.oneCell' = true) := hid fun y hy => hone y (List.mem_of_mem_drop hy)
        have HN1 : Hid (([] : List Cv).length + (L.take AT).length ≤ 1000) := hid (by rw [List.length_take]; simp; omega)
        have HN2 : Hid ((([] : List Cv) ++ L.take AT).length + [(⟨0, .slice pb nb cb, BS⟩ : Cv)].length ≤ 1000) := hid (by simp; omega)
        have HN3 : Hid ((([] : List Cv) ++ L.take AT ++ [(⟨0, .slice pb nb cb, BS⟩ : Cv)]).length + (L.drop AT).length ≤ 1000) := hid (by simp; omega)
        clear hrw1 hrw2 hAT hx hone
        go_wp2_with (first
          | (go_at_call 10; refine (HPK.out _).mono ?_; rintro e w6 ⟨rfl, hw6⟩; have hw7 := hw6.symm; subst hw7)
          | ((with_reducible refine wpList_build0C rfl rfl ?_); intro wa ga hxa hba; obtain ⟨vb, wb, hrb, hxb, hbb⟩ := hxa.appC9 (HRW1.out.below hba) HO1.out HN1.out (by have := hba.size; omega) 25; have HRUN1 := hid hrb; have HXB := hid hxb; have HBB := hid (below_tr hba hbb); clear hxa hba hrb hxb hbb)
          | (at_builtin; refine wpList_append_run _ _ 25 25 rfl rfl _ _ _ rfl rfl HRUN1.out ?_)
          | ((with_reducible refine wpList_build_want 36 _ rfl ?_ (cC 0 (.slice pb nb cb)) ?_ ?_); exact rfl; exact builtC1 _ _ _)
          | ((with_reducible refine wpList_buildX (T := 25) Tryd.underlying25 Tryd.infoCp (by decide) (by decide) rfl _ rfl (cC 0 (.slice pb nb cb)) rfl ?_ ?_); exact rfl; intro wc gc hcc hbc hgc; obtain ⟨vd, wd, hrd, hxd, hbd⟩ := (HXB.out.below hbc).appC9 (rw_one9 hcc) HOX.out HN2.out (by have := hbc.size; have := HBB.out.size; omega) 25; have hbw := below_tr HBB.out (below_less hbc HBB.out.size); obtain ⟨vf, wf, hrf, hxf, hbf⟩ := hxd.appC9 (HRW2.out.below (below_tr hbw hbd)) HO2.out HN3.out (by have := (below_tr hbw hbd).size; omega) 25; have HRUN2 := hid hrd; have HRUN3 := hid hrf; have HXF := hid hxf; have HBF := hid (below_tr (below_tr hbw hbd) hbf); clear hcc hbc hgc hrd hxd hbd hbw hrf hxf hbf)
          | (at_builtin; refine wpList_append_run _ _ 25 25 rfl rfl _ _ _ rfl rfl HRUN2.out ?_)
          | (at_builtin; refine wpList_append_run _ _ 25 25 rfl rfl _ _ _ rfl rfl HRUN3.out ?_))
        have HNX := hid (HXF.out.cl9 (fun y hy => by
          have hy2 : y ∈ insC L AT ⟨0, .slice pb nb cb, BS⟩ := by rw [List.nil_append] at hy; exact hy
          rcases ins_mem hy2 with rfl | hy2
          · exact HCV.out.below (below_on BW.out HBF.out)
          · exact (HCW.out.each y hy2).below HBF.out) (by rw [List.nil_append]; exact Nat.le_trans (Nat.le_of_eq (ins_len (x := ⟨0, .slice pb nb cb, BS⟩) hATL)) (by omega)))
        rw [List.nil_append] at HNX
        obtain ⟨p5, c5, hf5, -⟩ := HNX.out
        have hlen5 : (insC L AT ⟨0, .slice pb nb cb, BS⟩).length = n + (kk + 1) := by rw [ins_len hATL]; omega
        have hf6 : vf = .slice p5 (n + (kk + 1)) c5 := by rw [← hlen5]; exact hf5
        have HF6 := hid hf6
        have HL5 := hid hlen5
        clear hf5 hlen5 hf6
        go_roundg (K - (kk + 1))
        case measure => omega
        case rel =>
          have hcl5 : CL wf (.slice p5 (n + (kk + 1)) c5) (insC L AT ⟨0, .slice pb nb cb, BS⟩) := by rw [← HF6.out]; exact HNX.out
          refine ⟨kk + 1, p5, c5, insC L AT ⟨0, .slice pb nb cb, BS⟩, by omega, by omega, HF6.out, by go_num, HL5, hid hcl5, hid ?_, hid (below_on BW.out HBF.out)⟩
          have hv1 := ins_vot (L := L) (k := AT) (x := ⟨0, .slice pb nb cb, BS⟩) (b := BS) (by unfold hasC Cv.cp; simp)
          have := HVT.out
          omega
      · have hATL : 0 ≤ L.length := Nat.zero_le _
        obtain ⟨AT, hAT⟩ : ∃ AT : Nat, AT = 0 := ⟨_, rfl⟩
        subst hAT
        obtain ⟨hs1', hrw1⟩ := HCW.out.head9 0 hATL
        obtain ⟨p2, hs2', hrw2⟩ := HCW.out.from9 0 hATL
        have hs1 : ∀ W, (Instr.slice 25 (.slice p4 M c4) none (some (.int .i64 0)) none).run Tryd.prog W = .ok (.slice p4 0 c4) W := hs1'
        have hs2 : ∀ W, (Instr.slice 25 (.slice p4 M c4) (some (.int .i64 0)) none none).run Tryd.prog W = .ok (.slice p2 (M - 0) (c4 - 0)) W := hs2'
        have HRW1 := hid hrw1
        have HRW2 := hid hrw2
        have HO1 : Hid (∀ x ∈ L.take 0, x.v.oneCell' = true) := hid fun y hy => hone y (List.mem_of_mem_take hy)
        have HO2 : Hid (∀ x ∈ L.drop 0, x.v.oneCell' = true) := hid fun y hy => hone y (List.mem_of_mem_drop hy)
        have HN1 : Hid (([] : List Cv).length + (L.take 0).length ≤ 1000) := hid (by rw [List.length_take]; simp)
        have HN2 : Hid ((([] : List Cv) ++ L.take 0).length + [(⟨0, .slice pb nb cb, BS⟩ : Cv)].length ≤ 1000) := hid (by simp)
        have HN3 : Hid ((([] : List Cv) ++ L.take 0 ++ [(⟨0, .slice pb nb cb, BS⟩ : Cv)]).length + (L.drop 0).length ≤ 1000) := hid (by simp; omega)
        clear hrw1 hrw2 hone hs1' hs2'
        go_wp2_with (first
          | ((with_reducible refine wpList_build0C rfl rfl ?_); intro wa ga hxa hba; obtain ⟨vb, wb, hrb, hxb, hbb⟩ := hxa.appC9 (HRW1.out.below hba) HO1.out HN1.out (by have := hba.size; omega) 25; have HRUN1 := hid hrb; have HXB := hid hxb; have HBB := hid (below_tr hba hbb); clear hxa hba hrb hxb hbb)
          | (at_builtin; refine wpList_append_run _ _ 25 25 rfl rfl _ _ _ rfl rfl HRUN1.out ?_)
          | ((with_reducible refine wpList_build_want 36 _ rfl ?_ (cC 0 (.slice pb nb cb)) ?_ ?_); exact rfl; exact builtC1 _ _ _)
          | ((with_reducible refine wpList_buildX (T := 25) Tryd.underlying25 Tryd.infoCp (by decide) (by decide) rfl _ rfl (cC 0 (.slice pb nb cb)) rfl ?_ ?_); exact rfl; intro wc gc hcc hbc hgc; obtain ⟨vd, wd, hrd, hxd, hbd⟩ := (HXB.out.below hbc).appC9 (rw_one9 hcc) HOX.out HN2.out (by have := hbc.size; have := HBB.out.size; omega) 25; have hbw := below_tr HBB.out (below_less hbc HBB.out.size); obtain ⟨vf, wf, hrf, hxf, hbf⟩ := hxd.appC9 (HRW2.out.below (below_tr hbw hbd)) HO2.out HN3.out (by have := (below_tr hbw hbd).size; omega) 25; have HRUN2 := hid hrd; have HRUN3 := hid hrf; have HXF := hid hxf; have HBF := hid (below_tr (below_tr hbw hbd) hbf); clear hcc hbc hgc hrd hxd hbd hbw hrf hxf hbf)
          | (at_builtin; refine wpList_append_run _ _ 25 25 rfl rfl _ _ _ rfl rfl HRUN2.out ?_)
          | (at_builtin; refine wpList_append_run _ _ 25 25 rfl rfl _ _ _ rfl rfl HRUN3.out ?_))
        have HNX := hid (HXF.out.cl9 (fun y hy => by
          have hy2 : y ∈ insC L 0 ⟨0, .slice pb nb cb, BS⟩ := by rw [List.nil_append] at hy; exact hy
          rcases ins_mem hy2 with rfl | hy2
          · exact HCV.out.below (below_on BW.out HBF.out)
          · exact (HCW.out.each y hy2).below HBF.out) (by rw [List.nil_append]; exact Nat.le_trans (Nat.le_of_eq (ins_len (x := ⟨0, .slice pb nb cb, BS⟩) hATL)) (by omega)))
        rw [List.nil_append] at HNX
        obtain ⟨p5, c5, hf5, -⟩ := HNX.out
        have hlen5 : (insC L 0 ⟨0, .slice pb nb cb, BS⟩).length = n + (kk + 1) := by rw [ins_len hATL]; omega
        have hf6 : vf = .slice p5 (n + (kk + 1)) c5 := by rw [← hlen5]; exact hf5
        have HF6 := hid hf6
        have HL5 := hid hlen5
        clear hf5 hlen5 hf6
        go_roundg (K - (kk + 1))
        case measure => omega
        case rel =>
          have hcl5 : CL wf (.slice p5 (n + (kk + 1)) c5) (insC L 0 ⟨0, .slice pb nb cb, BS⟩) := by rw [← HF6.out]; exact HNX.out
          refine ⟨kk + 1, p5, c5, insC L 0 ⟨0, .slice pb nb cb, BS⟩, by omega, by omega, HF6.out, by go_num, HL5, hid hcl5, hid ?_, hid (below_on BW.out HBF.out)⟩
          have hv1 := ins_vot (L := L) (k := 0) (x := ⟨0, .slice pb nb cb, BS⟩) (b := BS) (by unfold hasC Cv.cp; simp)
          have := HVT.out
          omega
    · have hltz : ¬ (kk : Int) < (K : Int) := by omega
      have hKK : K = kk := by omega
      subst hKK
      clear hlt
      obtain ⟨M, hM⟩ : ∃ M, n + K = M := ⟨_, rfl⟩
      rw [hM] at HLL HCW ⊢
      have hM16 : M ≤ 16 := by omega
      have hKM : K ≤ M := by omega
      have hq0 := (HC3.out.below BW.out).j0
      have HLD := hid (leads9_any a0 a1 (.slice p4 M c4) (.slice pb nb cb) L BS s wr (HER.out _ (below_on HB3.out BW.out)) HCW.out (HCV.out.below BW.out).slv HB8.out)
      cases hR : leadB (cps L) BS s with
      | false =>
        rw [hR] at HLD
        go_wp2_with (go_at_call 11; refine HLD.out.mono ?_; rintro e w5 ⟨rfl, hb5⟩; have HB5 := hid (below_on BW.out hb5); clear hb5 hq0)
        go_ret
        exact ⟨rfl, below_on HB3.out HB5.out⟩
      | true =>
        rw [hR] at HLD
        have hch := counts_ch (l := cps L) (J := ⟨s, rcs jl⟩) HOK.out (by rw [HBS.out]; have := HVT.out; omega) (by rw [HBS.out]; exact leadB_of hR)
        rw [HBS.out] at hch
        obtain ⟨VO, hVO⟩ : ∃ q, votC (cps L) BS = q := ⟨_, rfl⟩
        obtain ⟨AN, hAN⟩ : ∃ q, ansN (cps L) = q := ⟨_, rfl⟩
        obtain ⟨HS, hHS⟩ : ∃ q, (cps L).map (hasC BS) = q := ⟨_, rfl⟩
        have hKV : K ≤ VO := by rw [← hVO]; exact HVT.out
        have hVA : VO ≤ AN := by rw [← hVO, ← hAN]; exact vot_ans _ _
        have hlenc : (cps L).length = M := by rw [cps_len]; exact HLL.out
        have hHL : HS.length = M := by rw [← hHS, List.length_map, hlenc]
        have HEL := hid (fun W (hW : Below w.heap.size w W) (hC : CL W (.slice p4 M c4) L) => elect_any (.slice p4 M c4) L (K : Int) W a0 a1 (HER.out _ hW) hC)
        have hcond : ¬ (16 < (cps L).length ∨ (K : Int) < 1 ∨ ((cps L).length : Int) < (K : Int)) := by rw [hlenc]; rintro (e | e | e) <;> omega
        have hcon2 : ¬ ((ansN (cps L) : Nat) : Int) < (K : Int) := by rw [hAN]; omega
        unfold elE at HEL
        rw [if_neg hcond, if_neg hcon2, hch, hVO, hAN, hHS] at HEL
        have HHS := hid hHS
        have HHL := hid hHL
        have HLC := hid hlenc
        have hlenb : ¬ (16 < (cps L).length ∨ HS.length ≠ (cps L).length) := by rw [hlenc, hHL]; omega
        have hbe0 : (behE (cps L) true HS).1 = 0 ∧ (behE (cps L) true HS).2.length = M := by
          unfold behE
          rw [if_neg hlenb]
          exact ⟨rfl, by simp [hlenc]⟩
        obtain ⟨BH, hBH⟩ : ∃ q, behE (cps L) true HS = q := ⟨_, rfl⟩
        rw [hBH] at hbe0
        obtain ⟨BE, BB⟩ := BH
        obtain ⟨hbe1, hbe2⟩ := hbe0
        simp only at hbe1 hbe2
        subst hbe1
        have HBN := hid hbe2
        have HBH := hid hBH
        have HLB := hid hlenb
        have HSM : Hid (∀ W (m6 : List Rp) (v6 : Value), RL W v6 m6 → Below w3.heap.size w3 W → (⟨s, rcs m6⟩ : Jr) = ⟨s, rcs jl⟩ → Calls Tryd.prog 13 #[.agg (jC s v6), .agg (jC s (.slice pj nj cj))] W fun e w' => e = .returned (.bool true) ∧ Below W.heap.size W w') := hid <| fun W m6 v6 h1 h2 h3 => by
          have := jsame_any s s v6 (.slice pj nj cj) m6 jl W h1 ((HIJ.out.below (below_on HB3.out h2)).rl HOK.out)
          rw [decide_eq_true h3] at this
          exact this
        have HSB9 : Hid (∀ W (p6 : Option Addr) (n6 c6 : Nat), SL W (.slice p6 n6 c6) BS → Below w3.heap.size w3 W → Calls Tryd.prog 14 #[.slice p6 n6 c6, .slice pb nb cb] W fun e w' => e = .returned (.bool true) ∧ w' = W) := hid <| fun W p6 n6 c6 h1 h2 => by
          have := sameB_any h1 (HCV.out.below h2).slv HB8.out HB8.out
          rw [decide_eq_true rfl] at this
          exact this
        have HBE : Hid (∀ W (s : Int) (v6 : Value) (p6 : Option Addr) (n6 c6 : Nat) (ph : Option Addr) (chh : Nat), BoL W (.slice ph M chh) HS → Below w3.heap.size w3 W → CL W (.slice p4 M c4) L → Calls Tryd.prog 15 #[.slice p4 M c4, .agg (eC true s v6 (.slice p6 n6 c6) (.slice ph M chh) AN VO)] W (BeS W (0, BB))) := hid <| fun W s v6 p6 n6 c6 ph chh h1 h2 h3 => by
          have := behind_any (.slice p4 M c4) L true s v6 (.slice p6 n6 c6) (.slice ph M chh) AN VO HS W h3 h1 (by rw [HHL.out]; omega)
          rw [HBH.out] at this
          exact this
        have hVK : ¬ (VO : Int) < (K : Int) := by omega
        have hMM : ((M : Int) != (M : Int)) = false := by simp
        clear hch hVO hAN hHS hHL hcond hcon2 hlenc hR hlenb hBH hbe2
        go_wp2_with (first
          | (go_at_call 11; refine HLD.out.mono ?_; rintro e w5 ⟨rfl, hb5⟩; have HB5 := hid (below_on BW.out hb5); have HB5b := hid hb5; clear hb5 hq0)
          | (go_at_call 12; (refine (HEL.out _ (below_on HB3.out HB5.out) (HCW.out.below HB5b.out)).mono ?_; rintro e w6 ⟨s6, v6, b6, h6, m6, rfl, hr, hj, hm6, hsl, -, hbo, hw⟩; have hs6 : s = s6 := (congrArg Jr.seq hj).symm; subst hs6; have hv6 := hr.one; obtain ⟨p6, c6, hf6, -⟩ := hsl.formS; obtain ⟨n6, hn6⟩ : ∃ q, BS.length = q := ⟨_, rfl⟩; rw [hn6] at hf6; subst hf6; obtain ⟨ph, chh, hfh, -⟩ := hbo.formL; rw [HHL.out] at hfh; subst hfh; have HRS := hid (hr.rl hm6); have HJ6 := hid (show (⟨s, rcs m6⟩ : Jr) = ⟨s, rcs jl⟩ from hj); have HSL := hid hsl; have HBO := hid hbo; have HB6 := hid (below_on HB5.out hw); have HX6 := hid (below_on HB5b.out hw); clear hr hj hm6 hsl hbo hw hn6))
          | ((with_reducible refine wpList_allocX 40 _ zeroCh rfl rfl ?_); intro w7 g7 hz7 hb7 hg7; have HZ7 := hid hz7; have HB7 := hid hb7; have HG7 := hid hg7; clear hz7 hb7 hg7)
          | ((with_reducible refine wpList_storeX 40 7 sizeCh rfl rfl _ _ rfl g7 ?_ (D := (eC true s v6 (.slice p6 n6 c6) (.slice ph M chh) AN VO)) ?_ ?_ ?_ ?_ HZ7.out ?_); exact rfl; exact rfl; exact rfl; exact rfl; exact eC_one _ _ hv6 rfl rfl _ _; intro w8 h8 o8; have hb8 := ownX HB7.out HG7.out o8; have HE8 := hid h8; have HB8w := hid (below_on HB6.out hb8); have HX8 := hid (below_on HX6.out hb8); replace HRS := hid (HRS.out.below hb8); replace HSL := hid (HSL.out.below hb8); replace HBO := hid (HBO.out.below hb8); have HC8 := hid (HC3.out.below HB8w.out); have k0 : w8.cell? ⟨g7, 0, none⟩ = some (.bool true) := h8.cell 0; clear h8 o8 HZ7 HB7 HG7 hb8)
          | ((with_reducible refine wpList_load_at 24 _ rfl ?_ g7 1 ?_ (jC s v6) _ ?_ underJrn rfl ?_ ?_); exact rfl; exact rfl; exact HE8.out.e129; exact sizeJ)
          | ((with_reducible refine wpList_load_at 24 _ rfl ?_ g0 0 ?_ (jC s (.slice pj nj cj)) (.struct (Tryd.prog.fieldsOf 24)) ?_ underJrn rfl ?_ ?_); exact rfl; exact rfl; exact HC8.out.wholeJ; exact sizeJ)
          | (go_at_call 13; refine (HSM.out w8 m6 v6 HRS.out HB8w.out HJ6.out).mono ?_; rintro e w9 ⟨rfl, hb9⟩; replace HSL := hid (HSL.out.below hb9); replace HBO := hid (HBO.out.below hb9); have HE9 := hid (HE8.out.below hb9); have HB9 := hid (below_on HB8w.out hb9); have HB9x := hid (below_on HX8.out hb9); clear k0 hb9; have k3 : w9.cell? ⟨g7, 3, none⟩ = some (.slice p6 n6 c6) := HE9.out.cell 3; have k4 : w9.cell? ⟨g7, 4, none⟩ = some (.slice ph M chh) := HE9.out.cell 4; have k6 : w9.cell? ⟨g7, 6, none⟩ = some (i64 VO) := HE9.out.cell 6)
          | (go_at_call 14; refine (HSB9.out w9 p6 n6 c6 HSL.out HB9.out).mono ?_; rintro e w10 ⟨rfl, hw⟩; have hw5 := hw.symm; subst hw5)
          | ((with_reducible refine wpList_load_at 40 _ rfl ?_ g7 0 ?_ (eC true s v6 (.slice p6 n6 c6) (.slice ph M chh) AN VO) (.struct (Tryd.prog.fieldsOf 40)) ?_ underCh rfl ?_ ?_); exact rfl; exact rfl; exact HE9.out.wholeE9; exact sizeCh)
          | (go_at_call 15; refine (HBE.out w9 s v6 p6 n6 c6 ph chh HBO.out HB9.out (HCW.out.below (HB9x.out))).mono ?_; rintro e wb ⟨vb, rfl, hvb, hbb⟩; obtain ⟨pv, cv, hfv, -⟩ := hvb.formL; rw [HBN.out] at hfv; subst hfv; have HVB := hid hvb; replace HBO := hid (HBO.out.below hbb); have HEb := hid (HE9.out.below hbb); have HBb := hid (below_on HB9.out hbb); have HBx := hid (below_on HB9x.out hbb); clear hvb hbb k3 k4 k6))
        go_loopg [20] M (fun gg s20 wr => ∃ kk : Nat, kk ≤ M ∧ M - kk ≤ gg ∧ s20 = i64 kk ∧ Hid (Below wb.heap.size wb wr))
        case atStart => exact ⟨0, Nat.zero_le _, by omega, rfl, hid (Below.refl _ _)⟩
        case round =>
          obtain ⟨kk, hkk, hg2, rfl, BW2⟩ := hrel
          by_cases hlt2 : kk < M
          · have hltz2 : (kk : Int) < (M : Int) := by omega
            obtain ⟨x, hx⟩ : ∃ x, L[kk]? = some x := ⟨_, List.getElem?_eq_getElem (by have := HLL.out; omega)⟩
            have hxc : (cps L)[kk]? = some x.cp := by rw [cps_get, hx]; rfl
            have hhx : HS[kk]? = some (hasC BS x.cp) := by rw [← HHS.out, List.getElem?_map, hxc]; rfl
            have hbx : BB[kk]? = some (ansC x.cp && !hasC BS x.cp) := by have h9 := (beh_get HS hxc hhx HLB.out).2.2; rw [HBH.out] at h9; exact h9
            obtain ⟨b, o, c', e, -⟩ := HCW.out.where hx
            rw [HLL.out] at e
            cases e
            obtain ⟨ke, kb, hokx⟩ := HCW.out.at (below_on HBx.out BW2.out) hx
            obtain ⟨p1, c1, hxv, -⟩ := hokx.sl
            rw [hxv] at kb
            have HSX := hid hokx.slv
            rw [hxv] at HSX
            obtain ⟨m1, hm1⟩ : ∃ m, x.bs.length = m := ⟨_, rfl⟩
            rw [hm1] at kb HSX
            have HSBX := hid (sameB_any HSX.out (HCV.out.below (below_on HBb.out BW2.out)).slv hokx.byte HB8.out)
            obtain ⟨b1, o1, cz1, e1⟩ := HBO.out.some (by have := HHL.out; omega)
            obtain ⟨b2, o2, cz2, e2⟩ := HVB.out.some (by have := HBN.out; omega)
            rw [HHL.out] at e1
            rw [HBN.out] at e2
            cases e1
            cases e2
            have i1 := HBO.out.at BW2.out hhx
            have i2 := HVB.out.at BW2.out hbx
            have kh : wr.cell? ⟨g7, 4, none⟩ = some (.slice (some ⟨b1, o1, none⟩) M _) := (HEb.out.below BW2.out).cell 4
            clear hx hxc hhx hbx hokx hxv hm1
            by_cases hE : x.err = 0
            · have hA : ansC x.cp = true := by unfold ansC; rw [decide_eq_true (show x.cp.err = 0 from hE)]; rfl
              have hH : hasC BS x.cp = decide (x.bs = BS) := by unfold hasC; rw [decide_eq_true (show x.cp.err = 0 from hE)]; rfl
              rw [hA, hH] at i2
              rw [hH] at i1
              rw [hE] at ke
              clear hA hH hE
              cases hd : decide (x.bs = BS) with
              | true =>
                rw [hd] at i1 i2 HSBX
                simp only [Bool.true_and, Bool.not_true] at i2
                clear hd
                go_wp2_with (go_at_call 14; refine HSBX.out.mono ?_; rintro e w14 ⟨rfl, hw14⟩; have hw15 := hw14.symm; subst hw15)
                go_quiet (fail)
                go_wp2
                go_roundg (M - (kk + 1))
                case measure => omega
                case rel => exact ⟨kk + 1, by omega, by omega, by go_num, hid (below_on BW2.out (below_drewN _ _))⟩
              | false =>
                rw [hd] at i1 i2 HSBX
                simp only [Bool.true_and, Bool.not_false] at i2
                clear hd
                go_wp2_with (go_at_call 14; refine HSBX.out.mono ?_; rintro e w14 ⟨rfl, hw14⟩; have hw15 := hw14.symm; subst hw15)
                go_quiet (fail)
                go_wp2
                go_roundg (M - (kk + 1))
                case measure => omega
                case rel => exact ⟨kk + 1, by omega, by omega, by go_num, hid (below_on BW2.out (below_drewN _ _))⟩
            · have hH : hasC BS x.cp = false := by unfold hasC; rw [decide_eq_false (show ¬ x.cp.err = 0 from hE)]; rfl
              rw [hH] at i1 i2
              have hz : (x.err == 0) = false := by simpa using hE
              by_cases hE6 : x.err = 6
              · have hA : ansC x.cp = true := by unfold ansC; rw [decide_eq_true (show x.cp.err = 6 from hE6)]; simp
                rw [hA] at i2
                simp only [Bool.true_and, Bool.not_false] at i2
                rw [hE6] at ke
                clear hA hH hE hE6 hz
                go_wp2_with (go_at_call 14; refine HSBX.out.mono ?_; rintro e w14 ⟨rfl, hw14⟩; have hw15 := hw14.symm; subst hw15)
                go_quiet (fail)
                go_wp2
                go_roundg (M - (kk + 1))
                case measure => omega
                case rel => exact ⟨kk + 1, by omega, by omega, by go_num, hid (below_on BW2.out (below_drewN _ _))⟩
              · have hz6 : (x.err == 6) = false := by simpa using hE6
                have hA : ansC x.cp = false := by unfold ansC; rw [decide_eq_false (show ¬ x.cp.err = 0 from hE), decide_eq_false (show ¬ x.cp.err = 6 from hE6)]; rfl
                rw [hA] at i2
                simp only [Bool.false_and] at i2
                clear hA hH hE hE6
                generalize x.err = E at ke hz hz6
                go_wp2_with (go_at_call 14; refine HSBX.out.mono ?_; rintro e w14 ⟨rfl, hw14⟩; have hw15 := hw14.symm; subst hw15)
                go_quiet (fail)
                go_wp2
                go_roundg (M - (kk + 1))
                case measure => omega
                case rel => exact ⟨kk + 1, by omega, by omega, by go_num, hid (below_on BW2.out (below_drewN _ _))⟩
          · have hltz2 : ¬ (kk : Int) < (M : Int) := by omega
            go_wp2
            go_ret
            exact ⟨rfl, below_on HB3.out (below_on HBb.out BW2.out)⟩
end Go.Proofs.YtelkijiphhoacaaDoor
