/- Texts laid into one, cut to what is needed: the remark ahead of each part says what is proved there. -/
import Derived.Test.YtopibkoklagceaaGreatQbk
/- The document's Read of shard: a version's bytes, or the error's number, as the program's contract says. -/
namespace Go.Proofs.YtopibkoklagceaaGreat
open Go Go.RowKit

def RdU (w : World) (E : Int) (B : List Nat) (e : Ending) (w' : World) : Prop := ∃ po c, e = .returned (.tuple #[.slice po B.length c, .int .i64 E]) ∧ BL w' po B ∧ B.length ≤ c ∧ (po = none → c = 0) ∧ Below w.heap.size w w'
theorem RdU.bad {w w' : World} (E : Int) (hb : Below w.heap.size w w') : RdU w E [] (.returned (.tuple #[.slice none 0 0, .int .i64 E])) w' := ⟨none, 0, rfl, BL.nil _ _, Nat.le_refl _, fun _ => rfl, hb⟩
theorem rjoin_cps {gs gh N k m s : Nat} {l : List Cp} {W : World} {A : Nat → Option Addr} {C : Nat → Nat} (hN : N = k + m) (hl : l.length = N) (h0 : 1 ≤ k) (h1 : 1 ≤ m) (h : k + m ≤ 16) (hs : s ≤ 65536) (hc : k ≤ csN (U.lgt s k) l l.length)
  (hm : U.MatAt W (some ⟨gs, 0, none⟩) N A (fun j => if hvB (U.lgt s k) k l j = true then U.lgt s k else 0) C (fun i => kx (rdS (U.lgt s k) l i))) (hb : U.BoolsAt W (some ⟨gh, 0, none⟩) N (hvB (U.lgt s k) k l)) :
  Calls Tryz.prog 41 #[.slice (some ⟨gs, 0, none⟩) N N, .slice (some ⟨gh, 0, none⟩) N N, .int .i64 (k : Int), .int .i64 (m : Int), .int .i64 (s : Int)] W (RdU W 0 (jnB k m s l)) := by
 subst hN
 have hE : U.errMt (k + m) (k + m) (k + m) (hvB (U.lgt s k) k l) (fun j => if hvB (U.lgt s k) k l j = true then U.lgt s k else 0) ((U.lgt s k : Nat) : Int) = 0 := U.errMt_ok (U.lgt_le s k hs h0) (.inr rfl) (fun i _ q => by simp only [q, if_true])
 have hcn := cn_hv (U.lgt s k) k l (k + m)
 refine (U.rjoin_any _ _ _ _ _ _ k m s _ _ _ _ _ W hm hb h0 h1 h hs).mono ?_
 rintro e w' ⟨hb', hq⟩
 have hok := U.errMd_ok hE (by rw [hcn, ← hl]; omega)
 rcases hq with ⟨hq, _⟩ | ⟨_, p, c, he, hstr, hle, hnn⟩
 ·exact absurd hok hq
 ·refine ⟨p, c, by rw [jnB_len]; exact he, ?_, by rw [jnB_len]; exact hle, hnn, hb'⟩
  rcases hstr with q | ⟨b, o, q1, q2⟩
  ·left; exact List.length_eq_zero_iff.1 (by rw [jnB_len]; exact q)
  ·right
   refine ⟨b, o, q1, fun i hi => ?_⟩
   rw [jnB_len] at hi
   rw [q2 i hi]
   unfold jnB
   rw [range_getD _ _ _ hi]; rfl
def RLoop (w2 : World) (gs gh N n k : Nat) (l : List Cp) (a q : Value) (wr : World) : Prop := ∃ i : Nat, i ≤ N ∧ q = .int .i64 (i : Int) ∧ a = .int .i64 ((csN n l i : Nat) : Int) ∧ Hid (csN n l i ≤ k) ∧ Hid (RJ w2 gs gh N n k l i wr)
set_option maxRecDepth 100000 in
set_option maxHeartbeats 4000000 in
theorem rread_yes (r : Rv) (hr : r.ok) (ps : Ps) (v : Value) (l : List Cv) (w : World) (k m s : Nat) (hp : PL w r.pv ps) (hl : CL w v l) (hq : mayB r ps l.length = true) (hk : r.k = k) (hm : r.m = m) (hs : r.size = s) (h0 : 1 ≤ k) (h1 : 1 ≤ m) (h : k + m ≤ 16) (hs' : s ≤ 65536) (hn : l.length = k + m) :
  Calls Tryz.prog 18 #[v, .agg r.cs] w (RdU w (whE k m s r.sum (cps l)) (whB k m s r.sum (cps l))) := by
 have HMY := hid (fun (w' : World) (hb : Below w.heap.size w w') (po : Option Addr) (c : Nat) => rmay11_any r hr ps po l.length c w' (hp.below hb))
 rw [hq] at HMY
 have HR := hid hr
 have HL := hid hl
 obtain ⟨po, c, rfl, _⟩ := hl
 obtain ⟨N, hN⟩ : ∃ N, N = k + m := ⟨_, rfl⟩
 have hn2 : l.length = N := by omega
 have HN := hid hN
 have HN2 := hid hn2
 rw [hn2] at HL HMY ⊢
 have hN16 : N ≤ 16 := by omega
 have HMB := run_makeB N (by omega)
 have HMH := run_makeH N (by omega)
 have HK := hid hk
 have HM := hid hm
 have HS := hid hs
 have HH := hid (And.intro h0 (And.intro h1 (And.intro h hs')))
 have HLE := hid (fun w => U.rlength_ok s k w hs' h0 (by omega))
 obtain ⟨n, hnl⟩ : ∃ n, n = U.lgt s k := ⟨_, rfl⟩
 have HNL := hid hnl
 rw [← hnl] at HLE
 have hk16 : k ≤ 16 := by omega
 clear hn hn2 hk hm hs hr hN hnl h h1 hs' hp hq
 go_enter Tryz.func18, Tryz.ntmps18
 go_wp2_with (first
  | ((with_reducible refine wpList_boxR rfl _ rfl r.cs ?_ ?_); exact rfl; intro w1 g1 hc1 hb1 hg1; have HA := hid (RBox.mk' HR.out hc1); have HB := hid hb1; clear hc1 hb1)
  | ((with_reducible refine wpList_load_at 40 _ rfl ?_ g1 0 ?_ r.cs (.struct (Tryz.prog.fieldsOf 40)) ?_ underRec rfl ?_ ?_); exact rfl; exact rfl; exact HA.out.whole; (rw [HR.out.size]; exact sizeR))
  | (go_at_call 38; refine (HMY.out _ HB.out _ _).mono ?_; rintro e w2 ⟨rfl, hb2⟩; replace HA := hid (HA.out.below HR.out hb2); replace HB := hid (below_on HB.out hb2); have c3 := HA.out.c3; have c5 := HA.out.c5; rw [HS.out] at c3; rw [HK.out] at c5; clear hb2)
  | (go_at_call 39; refine (HLE.out _).mono ?_; rintro e w' ⟨rfl, hw⟩; have h3 := hw.symm; subst h3))
 have hb3 := below_on (below_al w2 (.cells (madeCells #[.slice none 0 0] N) 22)) (below_al (w2.alloc (.cells (madeCells #[.slice none 0 0] N) 22)) (.cells (madeCells #[.bool false] N) 4))
 have hgs := (CAt.made w2 (madeCells #[.slice none 0 0] N) 22).below (below_al (w2.alloc (.cells (madeCells #[.slice none 0 0] N) 22)) (.cells (madeCells #[.bool false] N) 4))
 have hgh := CAt.made (w2.alloc (.cells (madeCells #[.slice none 0 0] N) 22)) (madeCells #[.bool false] N) 4
 rw [size_al] at hgh
 have HJ0 := hid (RJ.start (n := n) (k := k) (l := cps l) hb3 hgs hgh)
 clear hb3 hgs hgh HMB HMH HLE HMY
 go_loopw [10, 11] (fun a q wr => RLoop w2 w2.heap.size (w2.heap.size + 1) N n k (cps l) a q wr) (fun _ q _ => (1000000 - intOf q).toNat)
 case atStart => exact ⟨0, Nat.zero_le _, rfl, rfl, Nat.zero_le _, HJ0⟩
 case round =>
  obtain ⟨i, hi, rfl, rfl, HC, HJ⟩ := hrel
  have hrb := HA.out.below HR.out HJ.out.be
  have x5 := hrb.c5
  rw [HK.out] at x5
  obtain ⟨S, hS⟩ : ∃ S, csN n (cps l) i = S := ⟨_, rfl⟩
  have HSS := hid hS
  rw [hS] at HC ⊢
  have hSk := HC.out
  clear hS
  by_cases hlt : i < N ∧ S < k
  ·obtain ⟨hlt, hSl⟩ := hlt
   have hlw := HL.out.below (below_on HB.out HJ.out.be)
   obtain ⟨⟨er, xv, bs⟩, hx⟩ : ∃ x, l[i]? = some x := ⟨_, List.getElem?_eq_getElem (by rw [HN2.out]; exact hlt)⟩
   obtain ⟨b, o, c', e1, _, hcc, hok⟩ := hlw.where hx
   rw [HN2.out] at e1
   cases e1
   obtain ⟨⟨px, cx, hxv, hbl, hlc, hnc⟩, hxs, hx8⟩ := hok
   obtain ⟨q1, q2⟩ := hcc i _ hx
   simp only at hxv hbl hlc hxs hx8 q1 q2
   subst hxv
   have hcp : (cps l)[i]? = some (Cv.cp ⟨er, .slice px bs.length cx, bs⟩) := by rw [cps_get, hx]; rfl
   have hi' : (i : Int) < (N : Int) := by omega
   have hS' : (S : Int) < (k : Int) := by omega
   have hw : IntKind.i64.wrap ((i : Int) + 1) = (i : Int) + 1 := IntWalk.i64_in _ ⟨by omega, by omega⟩
   have hw2 : IntKind.i64.wrap ((S : Int) + 1) = ((S + 1 : Nat) : Int) := by rw [IntWalk.i64_in _ ⟨by omega, by omega⟩]; omega
   have HE := hid (sd_parts (n := n) (x := ⟨er, .slice px bs.length cx, bs⟩))
   have HCP := hid hcp
   have HRR := hid (rbread_any px cx bs n wr hbl hx8 hlc hnc)
   obtain ⟨S1, hS1⟩ : ∃ S1, S1 = S + 1 := ⟨_, rfl⟩
   rw [← hS1] at hw2
   have HS1 := hid hS1
   clear hlw hcc hbl hlc hnc hxs hx8 hx hcp hrb hS1
   by_cases he : er = 0
   ·subst he
    by_cases hrd : rdE bs n = 0
    ·have HSD := hid (show sdB n (Cv.cp ⟨0, .slice px bs.length cx, bs⟩) = true by rw [HE.out, hrd]; rfl)
     rw [hrd] at HRR
     have HRL := hid (rdB_len hrd)
     have HCN := hid (show csN n (cps l) (i + 1) = S1 by rw [cs_step HCP.out, HSD.out, HSS.out, HS1.out]; rfl)
     have HCL := hid (show csN n (cps l) i < k by rw [HSS.out]; exact hSl)
     have HC1 := hid (show S1 ≤ k by have := HS1.out; omega)
     clear hrd
     go_upto_region 13 with (go_at_call 40; refine HRR.out.mono ?_; rintro e w5 ⟨v5, rfl, hv5, hb5⟩; obtain ⟨p5, c5', e5⟩ := Buf.form hv5; subst e5; have HV5 := hid hv5; have HJ5 := hid (HJ.out.below hb5); have HBW := hid (below_on HJ.out.be hb5); clear hv5 hb5)
     obtain ⟨V, hV1, _⟩ := HJ5.out.ex
     have d0 : ∃ u, w5.cell? ⟨w2.heap.size, i, none⟩ = some u := ⟨_, by rw [hV1.cell, rowV, rowF_get hlt]⟩
     obtain ⟨u0, d0⟩ := d0
     have f0 := hV1.free i
     have d1 : ∃ u, w5.cell? ⟨w2.heap.size + 1, i, none⟩ = some u := ⟨_, by rw [HJ5.out.hv.cell, rowH, rowF_get hlt]⟩
     obtain ⟨u1, d1⟩ := d1
     have f1 := HJ5.out.hv.free i
     have HP := hid (HJ5.out.put HCP.out HSD.out HCL.out (own_base HV5.out HJ.out.be.size) (Nat.le_refl _) (Nat.le_succ _))
     clear hV1 q1 q2 c3 c5 x5
     go_upto_region 9 with fail
     generalize (w5.setCell ⟨w2.heap.size, i, none⟩ (.slice p5 (rdB bs n).length c5')).setCell ⟨w2.heap.size + 1, i, none⟩ (.bool true) = w6 at HP ⊢
     clear d0 d1 f0 f1 hi' hS' hw2
     go_wp2_with fail
     exact ⟨⟨i + 1, hlt, by congr 1, by rw [HCN.out], by rw [HCN.out]; exact HC1, HP⟩, by simp only [intOf]; omega⟩
    ·have HSD := hid (show sdB n (Cv.cp ⟨0, .slice px bs.length cx, bs⟩) = false by rw [HE.out]; simp [hrd])
     have HF := hid (HJ.out.skip HCP.out HSD.out)
     have HCN := hid (show csN n (cps l) (i + 1) = S by rw [cs_step HCP.out, HSD.out, HSS.out]; rfl)
     generalize rdE bs n = E at HRR hrd
     have hE : (E == 0) = false := by simpa using hrd
     clear hrd
     go_upto_region 9 with (go_at_call 40; refine HRR.out.mono ?_; rintro e w5 ⟨v5, rfl, hv5, hb5⟩; obtain ⟨p5, c5', e5⟩ := Buf.form hv5; subst e5; have HF5 := hid (HF.out.below hb5); clear hv5 hb5)
     clear hE q1 q2 c3 c5 x5 hi' hS' hw2
     go_wp2_with fail
     exact ⟨⟨i + 1, hlt, by congr 1, by rw [HCN.out], by rw [HCN.out]; exact HC, HF5⟩, by simp only [intOf]; omega⟩
   ·have HSD := hid (show sdB n (Cv.cp ⟨er, .slice px bs.length cx, bs⟩) = false by rw [HE.out]; simp [he])
    have HF := hid (HJ.out.skip HCP.out HSD.out)
    have HCN := hid (show csN n (cps l) (i + 1) = S by rw [cs_step HCP.out, HSD.out, HSS.out]; rfl)
    have he' : (er != 0) = true := by simpa using he
    clear he HRR
    go_upto_region 9 with fail
    clear he' q1 q2 c3 c5 x5 hi' hS' hw2
    go_wp2_with fail
    exact ⟨⟨i + 1, hlt, by congr 1, by rw [HCN.out], by rw [HCN.out]; exact HC, HF⟩, by simp only [intOf]; omega⟩
  ·by_cases hfew : S < k
   ·have hiN : i = N := by omega
    have hq : ¬ (i : Int) < (N : Int) := by omega
    have hS' : (S : Int) < (k : Int) := by omega
    have hcN : csN n (cps l) (cps l).length < k := by rw [cps_len, HN2.out, ← hiN, HSS.out]; exact hfew
    have e1 : whE k m s r.sum (cps l) = 10 := by unfold whE; rw [if_pos (by rw [← HNL.out]; exact hcN)]
    have e2 : whB k m s r.sum (cps l) = [] := by unfold whB; rw [e1, if_neg (by decide)]
    have HX1 := hid e1
    have HX2 := hid e2
    have HBW := hid (below_on HB.out HJ.out.be)
    clear hcN e1 e2 hrb
    go_wp2
    go_ret2
    rw [HX1.out, HX2.out]
    exact RdU.bad 10 HBW.out
   ·have hSk2 : S = k := by omega
    by_cases hiN : i < N
    ·have hi' : (i : Int) < (N : Int) := by omega
     have hb16 : ¬ (S : Int) < (k : Int) := by omega
     have x6 := hrb.c6
     have x3 := hrb.c3
     rw [HM.out] at x6
     rw [HS.out] at x3
     obtain ⟨⟨AS, CS, hmat⟩, hbo⟩ := HJ.out.mat hi (by first | exact .inr (by rw [HSS.out]; omega) | exact .inl (by omega)) (fun c hc z hz => by obtain ⟨x, hx, rfl⟩ := List.mem_map.1 hc; exact (HL.out.each x hx).byte z hz)
     have hcN : k ≤ csN n (cps l) (cps l).length := by rw [cps_len, HN2.out]; have h5 := cs_mono n (cps l) i (N - i); rw [show i + (N - i) = N by omega, HSS.out] at h5; omega
     have HJN := hid (rjoin_cps (l := cps l) HN.out (by rw [cps_len, HN2.out]) HH.out.1 HH.out.2.1 HH.out.2.2.1 HH.out.2.2.2 (by rw [← HNL.out]; exact hcN) (by rw [← HNL.out]; exact hmat) (by rw [← HNL.out]; exact hbo))
     have HBW := hid (below_on HB.out HJ.out.be)
     have HRB := hid hrb
     obtain ⟨B, hB⟩ : ∃ B, jnB k m s (cps l) = B := ⟨_, rfl⟩
     have HBL := hid (show B.length = s by rw [← hB]; exact jnB_len _ _ _ _)
     have HB8 := hid (show ∀ z ∈ B, z < 256 by rw [← hB]; exact jnB_lt _ _ _ _)
     have e1 : whE k m s r.sum (cps l) = if dig B = r.sum then 0 else 14 := by unfold whE; rw [if_neg (by rw [← HNL.out]; omega), hB]
     have e2 : whB k m s r.sum (cps l) = if dig B = r.sum then B else [] := by
      unfold whB; rw [e1]
      by_cases q : dig B = r.sum
      ·rw [if_pos q, if_pos q, if_pos rfl, hB]
      ·rw [if_neg q, if_neg q, if_neg (by decide)]
     unfold RdU at HJN
     rw [hB, HBL.out] at HJN
     have hneq := neqSum11 (dig_len B) HR.out.sl
     obtain ⟨bq, hbq⟩ : ∃ bq : Bool, decide (dig B = r.sum) = bq := ⟨_, rfl⟩
     rw [hbq] at hneq
     have hbb : bq = true ↔ dig B = r.sum := by rw [← hbq]; simp
     obtain ⟨E, hE⟩ : ∃ E : Int, (if dig B = r.sum then 0 else 14 : Int) = E := ⟨_, rfl⟩
     obtain ⟨L, hL⟩ : ∃ L : List Nat, (if dig B = r.sum then B else []) = L := ⟨_, rfl⟩
     have HX1 := hid (e1.trans hE)
     have HX2 := hid (e2.trans hL)
     have HDG := hid (show (sumC (dig B)) = ((dig B).map u8).toArray from rfl)
     have HHB := hid hbb
     have HHE := hid hE
     have HHL := hid hL
     have HNQ := hid hneq
     clear hmat hbo hcN hB e1 e2 hbq hrb hbb hE hL hneq c3 c5
     go_wp2_with (go_at_call 41; refine HJN.out.mono ?_; rintro e w9 ⟨pj, cj, rfl, hblj, hlej, hnnj, hb9⟩; have HBJ := hid hblj; have HLJ := hid hlej; have HNJ := hid hnnj; have HB9 := hid (below_on HBW.out hb9); have HR9 := hid (HRB.out.below HR.out hb9); clear hblj hlej hnnj hb9)
     have HSM := hid (fun (W : World) (h : Below w9.heap.size w9 W) => run_sumAt HR.out (HR9.out.below HR.out h))
     have hds := fun (W : World) (h : Below w9.heap.size w9 W) => rdsum_any pj cj B W (by rw [HBL.out]; have := HH.out.2.2.2; omega) HNJ.out (HBJ.out.below h) HB8.out
     rw [HBL.out] at hds
     have HDS := hid hds
     clear hds
     refine wp_region_held_drew (S := (fun W : World => (Instr.loadAt 37 (.pointer (some ⟨g1, 8, none⟩))).run Tryz.prog W = .ok (.agg (sumC r.sum)) W)) (by kernel_rfl) (HSM.out _ (below_drew w9)) ?_
     have HBD := hid (below_drew w9)
     generalize w9.drew = wd at HBD ⊢
     intro hHeld
     refine wpAnyH_take (i := 0) (oi := ⟨some 89, .move (.tmp 14), _, _, _, none⟩) (v := .slice pj s cj) rfl (by kernel_rfl) (by kernel_rfl) (by kernel_rfl) (fun _ _ _ h => h) (Or.inl ⟨by kernel_rfl, by intro W hW; go_simp⟩) hHeld ?_
     refine wpAnyH_take (i := 2) (oi := ⟨some 91, .fieldAddr 40 (.tmp 3) 8, _, _, _, none⟩) (v := .pointer (some ⟨g1, 8, none⟩)) rfl (by kernel_rfl) (by kernel_rfl) (by kernel_rfl) (fun _ _ _ h => h) (Or.inl ⟨by kernel_rfl, by intro W hW; go_simp⟩) hHeld ?_
     refine wpAnyH_take (i := 3) (oi := ⟨some 92, .load 37 (.tmp 91), _, _, _, none⟩) (v := .agg (sumC r.sum)) rfl (by kernel_rfl) (by kernel_rfl) (by kernel_rfl) (fun _ _ _ h => h) (Or.inl ⟨by kernel_rfl, fun W hW => exec_load rfl (by kernel_rfl) hW⟩) hHeld ?_
     refine wpAnyH_ready (rs := [1]) (by kernel_rfl) (by simp) ?_
     refine AllReadyH.cons (o := ⟨some 90, .call { callee := .value (.func 42), args := #[.tmp 89], argTypes := #[22] }, _, _, _, none⟩) rfl (fun K hK => ?_) AllReadyH.nil
     refine step_call rfl 42 #[.slice pj s cj] (by kernel_rfl) ((HDS.out wd HBD.out).mono ?_)
     rintro e wf ⟨rfl, hbf⟩
     refine ⟨_, rfl, hK.out _ _ (HSM.out _ (below_on HBD.out hbf)) (fun hHeld => ?_)⟩
     clear hK K
     have HBF := hid (below_on HBD.out hbf)
     clear hbf
     rw [← HDG.out]
     refine wpAnyH_take (i := 4) (oi := ⟨some 93, .binOp .neq 37 (.tmp 90) (.tmp 92) 37, _, _, _, none⟩) (v := .bool (!bq)) rfl (by kernel_rfl) (by kernel_rfl) (by kernel_rfl) (fun _ _ _ h => h) (Or.inl ⟨by kernel_rfl, fun W _ => exec_bin rfl (by kernel_rfl) (by kernel_rfl) (by simp [eqGuard]) (HNQ.out W)⟩) hHeld ?_
     refine wpAnyH_done (by kernel_rfl) ?_ _
     simp only [Act.put, List.setIfInBounds_toArray, List.set_cons_zero, List.set_cons_succ]
     cases bq
     ·have e1 : E = 14 := by rw [← HHE.out, if_neg (fun h => by have := HHB.out.2 h; cases this)]
      have e2 : L = [] := by rw [← HHL.out, if_neg (fun h => by have := HHB.out.2 h; cases this)]
      subst e1 e2
      clear x3 x5 x6
      go_wp2
      go_ret2
      rw [HX1.out, HX2.out]
      exact RdU.bad 14 (below_on HB9.out HBF.out)
     ·have hq := HHB.out.1 rfl
      have e1 : E = 0 := by rw [← HHE.out, if_pos hq]
      have e2 : L = B := by rw [← HHL.out, if_pos hq]
      subst e1 e2
      clear x3 x5 x6 hq
      go_wp2
      go_ret2
      rw [HX1.out, HX2.out]
      exact ⟨pj, cj, by rw [HBL.out]; rfl, HBJ.out.below HBF.out, by rw [HBL.out]; exact HLJ.out, HNJ.out, below_on HB9.out HBF.out⟩
    ·have hi' : ¬ (i : Int) < (N : Int) := by omega
     have hb16 : ¬ (S : Int) < (k : Int) := by omega
     have x6 := hrb.c6
     have x3 := hrb.c3
     rw [HM.out] at x6
     rw [HS.out] at x3
     obtain ⟨⟨AS, CS, hmat⟩, hbo⟩ := HJ.out.mat hi (by first | exact .inr (by rw [HSS.out]; omega) | exact .inl (by omega)) (fun c hc z hz => by obtain ⟨x, hx, rfl⟩ := List.mem_map.1 hc; exact (HL.out.each x hx).byte z hz)
     have hcN : k ≤ csN n (cps l) (cps l).length := by rw [cps_len, HN2.out]; have h5 := cs_mono n (cps l) i (N - i); rw [show i + (N - i) = N by omega, HSS.out] at h5; omega
     have HJN := hid (rjoin_cps (l := cps l) HN.out (by rw [cps_len, HN2.out]) HH.out.1 HH.out.2.1 HH.out.2.2.1 HH.out.2.2.2 (by rw [← HNL.out]; exact hcN) (by rw [← HNL.out]; exact hmat) (by rw [← HNL.out]; exact hbo))
     have HBW := hid (below_on HB.out HJ.out.be)
     have HRB := hid hrb
     obtain ⟨B, hB⟩ : ∃ B, jnB k m s (cps l) = B := ⟨_, rfl⟩
     have HBL := hid (show B.length = s by rw [← hB]; exact jnB_len _ _ _ _)
     have HB8 := hid (show ∀ z ∈ B, z < 256 by rw [← hB]; exact jnB_lt _ _ _ _)
     have e1 : whE k m s r.sum (cps l) = if dig B = r.sum then 0 else 14 := by unfold whE; rw [if_neg (by rw [← HNL.out]; omega), hB]
     have e2 : whB k m s r.sum (cps l) = if dig B = r.sum then B else [] := by
      unfold whB; rw [e1]
      by_cases q : dig B = r.sum
      ·rw [if_pos q, if_pos q, if_pos rfl, hB]
      ·rw [if_neg q, if_neg q, if_neg (by decide)]
     unfold RdU at HJN
     rw [hB, HBL.out] at HJN
     have hneq := neqSum11 (dig_len B) HR.out.sl
     obtain ⟨bq, hbq⟩ : ∃ bq : Bool, decide (dig B = r.sum) = bq := ⟨_, rfl⟩
     rw [hbq] at hneq
     have hbb : bq = true ↔ dig B = r.sum := by rw [← hbq]; simp
     obtain ⟨E, hE⟩ : ∃ E : Int, (if dig B = r.sum then 0 else 14 : Int) = E := ⟨_, rfl⟩
     obtain ⟨L, hL⟩ : ∃ L : List Nat, (if dig B = r.sum then B else []) = L := ⟨_, rfl⟩
     have HX1 := hid (e1.trans hE)
     have HX2 := hid (e2.trans hL)
     have HDG := hid (show (sumC (dig B)) = ((dig B).map u8).toArray from rfl)
     have HHB := hid hbb
     have HHE := hid hE
     have HHL := hid hL
     have HNQ := hid hneq
     clear hmat hbo hcN hB e1 e2 hbq hrb hbb hE hL hneq c3 c5
     go_wp2_with (go_at_call 41; refine HJN.out.mono ?_; rintro e w9 ⟨pj, cj, rfl, hblj, hlej, hnnj, hb9⟩; have HBJ := hid hblj; have HLJ := hid hlej; have HNJ := hid hnnj; have HB9 := hid (below_on HBW.out hb9); have HR9 := hid (HRB.out.below HR.out hb9); clear hblj hlej hnnj hb9)
     have HSM := hid (fun (W : World) (h : Below w9.heap.size w9 W) => run_sumAt HR.out (HR9.out.below HR.out h))
     have hds := fun (W : World) (h : Below w9.heap.size w9 W) => rdsum_any pj cj B W (by rw [HBL.out]; have := HH.out.2.2.2; omega) HNJ.out (HBJ.out.below h) HB8.out
     rw [HBL.out] at hds
     have HDS := hid hds
     clear hds
     refine wp_region_held_drew (S := (fun W : World => (Instr.loadAt 37 (.pointer (some ⟨g1, 8, none⟩))).run Tryz.prog W = .ok (.agg (sumC r.sum)) W)) (by kernel_rfl) (HSM.out _ (below_drew w9)) ?_
     have HBD := hid (below_drew w9)
     generalize w9.drew = wd at HBD ⊢
     intro hHeld
     refine wpAnyH_take (i := 0) (oi := ⟨some 89, .move (.tmp 14), _, _, _, none⟩) (v := .slice pj s cj) rfl (by kernel_rfl) (by kernel_rfl) (by kernel_rfl) (fun _ _ _ h => h) (Or.inl ⟨by kernel_rfl, by intro W hW; go_simp⟩) hHeld ?_
     refine wpAnyH_take (i := 2) (oi := ⟨some 91, .fieldAddr 40 (.tmp 3) 8, _, _, _, none⟩) (v := .pointer (some ⟨g1, 8, none⟩)) rfl (by kernel_rfl) (by kernel_rfl) (by kernel_rfl) (fun _ _ _ h => h) (Or.inl ⟨by kernel_rfl, by intro W hW; go_simp⟩) hHeld ?_
     refine wpAnyH_take (i := 3) (oi := ⟨some 92, .load 37 (.tmp 91), _, _, _, none⟩) (v := .agg (sumC r.sum)) rfl (by kernel_rfl) (by kernel_rfl) (by kernel_rfl) (fun _ _ _ h => h) (Or.inl ⟨by kernel_rfl, fun W hW => exec_load rfl (by kernel_rfl) hW⟩) hHeld ?_
     refine wpAnyH_ready (rs := [1]) (by kernel_rfl) (by simp) ?_
     refine AllReadyH.cons (o := ⟨some 90, .call { callee := .value (.func 42), args := #[.tmp 89], argTypes := #[22] }, _, _, _, none⟩) rfl (fun K hK => ?_) AllReadyH.nil
     refine step_call rfl 42 #[.slice pj s cj] (by kernel_rfl) ((HDS.out wd HBD.out).mono ?_)
     rintro e wf ⟨rfl, hbf⟩
     refine ⟨_, rfl, hK.out _ _ (HSM.out _ (below_on HBD.out hbf)) (fun hHeld => ?_)⟩
     clear hK K
     have HBF := hid (below_on HBD.out hbf)
     clear hbf
     rw [← HDG.out]
     refine wpAnyH_take (i := 4) (oi := ⟨some 93, .binOp .neq 37 (.tmp 90) (.tmp 92) 37, _, _, _, none⟩) (v := .bool (!bq)) rfl (by kernel_rfl) (by kernel_rfl) (by kernel_rfl) (fun _ _ _ h => h) (Or.inl ⟨by kernel_rfl, fun W _ => exec_bin rfl (by kernel_rfl) (by kernel_rfl) (by simp [eqGuard]) (HNQ.out W)⟩) hHeld ?_
     refine wpAnyH_done (by kernel_rfl) ?_ _
     simp only [Act.put, List.setIfInBounds_toArray, List.set_cons_zero, List.set_cons_succ]
     cases bq
     ·have e1 : E = 14 := by rw [← HHE.out, if_neg (fun h => by have := HHB.out.2 h; cases this)]
      have e2 : L = [] := by rw [← HHL.out, if_neg (fun h => by have := HHB.out.2 h; cases this)]
      subst e1 e2
      clear x3 x5 x6
      go_wp2
      go_ret2
      rw [HX1.out, HX2.out]
      exact RdU.bad 14 (below_on HB9.out HBF.out)
     ·have hq := HHB.out.1 rfl
      have e1 : E = 0 := by rw [← HHE.out, if_pos hq]
      have e2 : L = B := by rw [← HHL.out, if_pos hq]
      subst e1 e2
      clear x3 x5 x6 hq
      go_wp2
      go_ret2
      rw [HX1.out, HX2.out]
      exact ⟨pj, cj, by rw [HBL.out]; rfl, HBJ.out.below HBF.out, by rw [HBL.out]; exact HLJ.out, HNJ.out, below_on HB9.out HBF.out⟩
theorem rread_no (r : Rv) (hr : r.ok) (ps : Ps) (v : Value) (l : List Cv) (w : World) (hp : PL w r.pv ps) (hl : CL w v l) (hq : mayB r ps l.length = false) : Calls Tryz.prog 18 #[v, .agg r.cs] w (RdU w 2 []) := by
 have HMY := hid (fun (w' : World) (hb : Below w.heap.size w w') (po : Option Addr) (c : Nat) => rmay11_any r hr ps po l.length c w' (hp.below hb))
 rw [hq] at HMY
 have HR := hid hr
 obtain ⟨po, c, rfl, _⟩ := hl
 clear hr hp hq
 go_enter Tryz.func18, Tryz.ntmps18
 go_wp2_with (first
  | ((with_reducible refine wpList_boxR rfl _ rfl r.cs ?_ ?_); exact rfl; intro w1 g1 hc1 hb1 hg1; have HA := hid (RBox.mk' HR.out hc1); have HB := hid hb1; clear hc1 hb1)
  | ((with_reducible refine wpList_load_at 40 _ rfl ?_ g1 0 ?_ r.cs (.struct (Tryz.prog.fieldsOf 40)) ?_ underRec rfl ?_ ?_); exact rfl; exact rfl; exact HA.out.whole; (rw [HR.out.size]; exact sizeR))
  | (go_at_call 38; refine (HMY.out _ HB.out _ _).mono ?_; rintro e w2 ⟨rfl, hb2⟩; replace HB := hid (below_on HB.out hb2); clear hb2))
 go_ret2
 exact RdU.bad 2 HB.out
theorem rread11_any (r : Rv) (hr : r.ok) (ps : Ps) (v : Value) (l : List Cv) (w : World) (hp : PL w r.pv ps) (hl : CL w v l) : Calls Tryz.prog 18 #[v, .agg r.cs] w (RdU w (rdrE r ps (cps l)) (rdrB r ps (cps l))) := by
 unfold rdrE rdrB
 rw [cps_len]
 cases hq : mayB r ps l.length
 ·simp only [if_neg (show ¬ (false = true) by decide)]
  exact rread_no r hr ps v l w hp hl hq
 ·simp only [if_true]
  obtain ⟨k, m, s, hk, hm, hs, h0, h1, h, hs', hn⟩ := mayB_parts hq
  rw [hk, hm, hs]
  simp only [Int.toNat_natCast]
  exact rread_yes r hr ps v l w k m s hp hl hq hk hm hs h0 h1 h hs' hn
end Go.Proofs.YtopibkoklagceaaGreat
