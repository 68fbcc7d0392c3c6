/- Texts laid into one: the remark ahead of each part says what is proved there. -/
import Derived.Test.YtcbmimjjpkkoeaaDoorNau
import Derived.Test.YtcbmimjjpkkoeaaDoorNav
import Derived.Test.YtcbmimjjpkkoeaaDoorNaw
import Derived.Test.YtcbmimjjpkkoeaaDoorNax
import Derived.Test.YtcbmimjjpkkoeaaDoorNay
import Derived.Test.YtcbmimjjpkkoeaaDoorNaz
/- JournalBack: the main ways. -/
namespace Go.Proofs.YtcbmimjjpkkoeaaDoor
open Go Go.RowKit

set_option maxRecDepth 100000 in
set_option maxHeartbeats 4000000 in
theorem back_nn0 (a0 a1 : Addr) (sa sc : Int) (va vc : Value) (la lc : List Rp) (at_ : Int) (mask : Nat) (cut : Int) (w : World) (he : Ers w a0 a1) (ja : IsJ w va la) (jc : IsJ w vc lc) (ba : bigJ la = false) (bc : bigJ lc = false) (oa : okJ ⟨sa, rcs la⟩ = true) (hm : mask < 256) (X T P : List Nat) (hX : jB dig ⟨sa, rcs la⟩ = X) (hT : X.set (pkN at_ X.length) (X.getD (pkN at_ X.length) 0 ^^^ mask) = T) (hP : X.take (pkN cut X.length) = P) (m0 : mask ≠ 0) (st : sealB T = false) (gt : (rdJ dig T).1 ≠ 0) (sp : sealB P = false) (gp : (rdJ dig P).1 ≠ 0) (oc : okJ ⟨sc, rcs lc⟩ = false) : Calls Tryd.prog 3 #[.agg (jC sa va), .agg (jC sc vc), i64 at_, .int .u8 (mask : Int), i64 cut] w fun e w' => e = .returned (.bool true) ∧ Below w.heap.size w w' := by
  have HAW := hid (fun W (hW : Below w.heap.size w W) => awake8_any a0 a1 W (he.below hW))
  have HER := hid (fun W (hW : Below w.heap.size w W) => he.below hW)
  have HLa : Hid (∀ W, Below w.heap.size w W → Calls Tryd.prog 7 #[.agg (jC sa va)] W fun e w' => e = .returned (.bool false) ∧ Below W.heap.size W w') := hid (fun W hW => by have := Large_any sa va la W (ja.below hW); rw [ba] at this; exact this)
  have HLc : Hid (∀ W, Below w.heap.size w W → Calls Tryd.prog 7 #[.agg (jC sc vc)] W fun e w' => e = .returned (.bool false) ∧ Below W.heap.size W w') := hid (fun W hW => by have := Large_any sc vc lc W (jc.below hW); rw [bc] at this; exact this)
  have ra := ja.rl ba
  have HLEN := hid ra.len
  have rc := jc.rl bc
  have HBA : Hid (∀ W, Below w.heap.size w W → Calls Tryd.prog 8 #[.agg (jC sa va)] W (BytE W X)) := hid (fun W hW => by have := jbytes_ok sa va la W (ra.below hW) oa; rwa [hX] at this)
  obtain ⟨hx35, hxl, hx8⟩ := jB_len8 ra oa
  rw [hX] at hx35 hxl hx8
  have hrd : rdJ dig X = (0, some ⟨sa, rcs la⟩) := by rw [← hX]; exact rdJ_jB dig_len oa
  have HRX : Hid (∀ W po c, BL W po X → X.length ≤ c → Ers W a0 a1 → Calls Tryd.prog 9 #[.slice po X.length c] W (JouE W sa (rcs la))) := hid (fun W po c h1 h2 h3 => by
    have := jread_any po c X W a0 a1 h1 h2 hxl hx8 h3
    rw [hrd] at this
    exact this)
  have HSM : Hid (∀ W vj mj, Below w.heap.size w W → RL W vj mj → rcs mj = rcs la → Calls Tryd.prog 10 #[.agg (jC sa vj), .agg (jC sa va)] W fun e w' => e = .returned (.bool true) ∧ Below W.heap.size W w') := hid (fun W vj mj hW h1 h2 => by
    have := jsame_any sa sa vj va mj la W h1 (ra.below hW)
    rw [h2, decide_eq_true rfl] at this
    exact this)
  have hpk := pkN_lt at_ X.length (by omega)
  have hpk2 := pkN_lt cut X.length (by omega)
  have HPK1 : Hid (∀ W, Calls Tryd.prog 12 #[i64 at_, .int .i64 (X.length : Int)] W fun e w' => e = .returned (i64 (pkN at_ X.length : Nat)) ∧ w' = W) := hid (fun W => pick_any at_ X.length W (by omega) (by omega))
  have HPK2 : Hid (∀ W, Calls Tryd.prog 12 #[i64 cut, .int .i64 (X.length : Int)] W fun e w' => e = .returned (i64 (pkN cut X.length : Nat)) ∧ w' = W) := hid (fun W => pick_any cut X.length W (by omega) (by omega))
  have hk8 : X.getD (pkN at_ X.length) 0 < 256 := get256 hx8 _ hpk
  have hxor : bits .xor .u8 ((X.getD (pkN at_ X.length) 0 : Nat) : Int) (mask : Int) = ((X.getD (pkN at_ X.length) 0 ^^^ mask : Nat) : Int) := u8_xor_nat _ _ hk8 hm
  have ht8 : ∀ z ∈ T, z < 256 := fun z hz => by
    rw [← hT] at hz
    rcases List.mem_or_eq_of_mem_set hz with h | rfl
    · exact hx8 z h
    · exact Nat.xor_lt_two_pow (n := 8) hk8 hm
  have htl : T.length = X.length := by rw [← hT, List.length_set]
  have hpl : P.length = pkN cut X.length := by rw [← hP, len_take (by omega)]
  have hp8 : ∀ z ∈ P, z < 256 := fun z hz => hx8 z (by rw [← hP] at hz; exact List.mem_of_mem_take hz)
  have HRT : Hid (∀ W po c, BL W po T → X.length ≤ c → Ers W a0 a1 → Calls Tryd.prog 9 #[.slice po X.length c] W fun e w' => ∃ s v, e = .returned (.tuple #[.agg (jC s v), i64 (rdJ dig T).1]) ∧ v.oneCell' = true ∧ Below W.heap.size W w') := hid (fun W po c h1 h2 h3 => by
    have := read_code po c T W a0 a1 h1 (by omega) (by omega) ht8 h3
    rwa [htl] at this)
  have HRP : Hid (∀ W po c, BL W po X → X.length ≤ c → Ers W a0 a1 → Calls Tryd.prog 9 #[.slice po (pkN cut X.length) c] W fun e w' => ∃ s v, e = .returned (.tuple #[.agg (jC s v), i64 (rdJ dig P).1]) ∧ v.oneCell' = true ∧ Below W.heap.size W w') := hid (fun W po c h1 h2 h3 => by
    have := read_code po c P W a0 a1 (by rw [← hP]; exact h1.take _) (by omega) (by omega) hp8 h3
    rwa [hpl] at this)
  have HST : Hid (∀ W po c, BL W po T → X.length ≤ c → Calls Tryd.prog 13 #[.slice po X.length c] W fun e w' => e = .returned (.bool (sealB T)) ∧ Below W.heap.size W w') := hid (fun W po c h1 h2 => by
    have := sealed_any po c T W h1 (by omega) (by omega) ht8
    rwa [htl] at this)
  have HSP : Hid (∀ W po c, BL W po X → X.length ≤ c → Calls Tryd.prog 13 #[.slice po (pkN cut X.length) c] W fun e w' => e = .returned (.bool (sealB P)) ∧ Below W.heap.size W w') := hid (fun W po c h1 h2 => by
    have := sealed_any po c P W (by rw [← hP]; exact h1.take _) (by omega) (by omega) hp8
    rwa [hpl] at this)
  rw [st] at HST
  have hgt : ((((rdJ dig T).1 : Nat) : Int) == 0) = false := beq_eq_false_iff_ne.2 (by omega)
  rw [sp] at HSP
  have hgp : ¬ (((rdJ dig P).1 : Nat) : Int) = 0 := by omega
  have hm0 : ¬ (mask : Int) = 0 := by omega
  generalize (rdJ dig T).1 = GT at *
  generalize (rdJ dig P).1 = GP at *
  have HBC := hid (fun W (hW : Below w.heap.size w W) => jbytes_bad sc vc lc W (rc.below hW) oc)
  obtain ⟨N, hN⟩ : ∃ N, X.length = N := ⟨_, rfl⟩
  obtain ⟨i, hi⟩ : ∃ i, pkN at_ X.length = i := ⟨_, rfl⟩
  obtain ⟨p, hp⟩ : ∃ p, pkN cut X.length = p := ⟨_, rfl⟩
  obtain ⟨xi, hxi⟩ : ∃ xi, X.getD i 0 = xi := ⟨_, rfl⟩
  rw [hi] at HPK1 hxor hpk hT
  rw [hp] at HPK2 HRP HSP hpk2
  rw [hxi] at hxor hT
  obtain ⟨kk, hkk⟩ : ∃ kk, xi ^^^ mask = kk := ⟨_, rfl⟩
  rw [hkk] at hxor hT
  rw [hN] at HPK1 HPK2 HRX HRT HRP HST HSP hpk hpk2 hx35 hxl
  have HN := hid hN
  have HXI := hid hxi
  have HTT := hid hT
  have hiN : (i : Int) < (N : Int) := by omega
  have h35 : ¬ (N : Int) < 35 := by omega
  obtain ⟨pa, na, ca, rfl⟩ := ja.form
  obtain ⟨pc, nc, cc, rfl⟩ := jc.form
  clear hX hP he ja jc ra rc oa hx8 ht8 hp8 hrd hk8 htl hpl hN hi hp hxi hT hkk ba bc oc sp st
  have T1 : Hid True := hid trivial
  have T2 : Hid True := hid trivial
  have T3 : Hid True := hid trivial
  have T4 : Hid True := hid trivial
  have T5 : Hid True := hid trivial
  have T6 : Hid True := hid trivial
  have T7 : Hid True := hid trivial
  have T8 : Hid True := hid trivial
  have T9 : Hid True := hid trivial
  have T10 : Hid True := hid trivial
  have T11 : Hid True := hid trivial
  have T12 : Hid True := hid trivial
  have T13 : Hid True := hid trivial
  have T14 : Hid True := hid trivial
  go_enter Tryd.func3, Tryd.ntmps3
  go_upto_region 19 with (first
    | (clear T1; (with_reducible refine wpList_boxT 24 rfl _ rfl (jC sa (.slice pa na ca)) ?_ ?_); exact rfl; intro w1 ga hc1 hb1 hg1; have HC1 := hid hc1; have HB1 := hid hb1; clear hc1 hb1)
    | (clear T2; (with_reducible refine wpList_boxT 24 rfl _ rfl (jC sc (.slice pc nc cc)) ?_ ?_); exact rfl; intro w2 gc hc2 hb2 hg2; have HT : Hid (Bk w ga gc sa sc (.slice pa na ca) (.slice pc nc cc) w2) := hid ⟨below_on HB1.out hb2, HC1.out.below hb2, hc2⟩; clear hc2 hb2 HC1 HB1)
    | (go_at_call 6; (with_reducible refine (HAW.out _ HT.out.below).mono ?_); rintro e w3 ⟨rfl, hb3⟩; replace HT := hid (HT.out.on hb3); clear hb3)
    | ((with_reducible refine wpList_load_at 24 _ rfl ?_ ga 0 ?_ (jC sa (.slice pa na ca)) (.struct (Tryd.prog.fieldsOf 24)) ?_ underJrn rfl ?_ ?_); exact rfl; exact rfl; exact (HT.out).ca.wholeJ; exact sizeJ)
    | ((with_reducible refine wpList_load_at 24 _ rfl ?_ gc 0 ?_ (jC sc (.slice pc nc cc)) (.struct (Tryd.prog.fieldsOf 24)) ?_ underJrn rfl ?_ ?_); exact rfl; exact rfl; exact (HT.out).cc.wholeJ; exact sizeJ)
    | (go_at_call 7; (with_reducible refine (HLa.out _ HT.out.below).mono ?_); rintro e w4 ⟨rfl, hb4⟩; replace HT := hid (HT.out.on hb4); clear hb4 HLa)
    | (go_at_call 7; (with_reducible refine (HLc.out _ HT.out.below).mono ?_); rintro e w5 ⟨rfl, hb5⟩; replace HT := hid (HT.out.on hb5); clear hb5 HLc)
    | (go_at_call 8; (with_reducible refine (HBA.out _ HT.out.below).mono ?_); rintro e wX ⟨vx, rfl, hbx, hb6⟩; replace HT := hid (HT.out.on hb6); obtain ⟨px, cx, hvx⟩ := hbx.form; subst hvx; have hcx := hbx.cap.2; rw [HN.out] at hcx hbx; have HRM := hid (fun (e : px = none) => (show cx = 0 by subst e; exact hbx.room)); have HXB := hid hbx.bl; rw [HN.out]; have HXW := hid (Below.refl wX.heap.size wX); have hsp := run_head8n px N cx p (by omega); have HSX := hid (fun W (hW : Below wX.heap.size wX W) => (show SL W (.slice px N cx) X from ⟨px, cx, by rw [HN.out], HXB.out.below hW, by rw [HN.out]; exact hcx⟩)); clear hbx hb6 HBA)
    | (clear T3; go_at_call 9; (with_reducible refine (HRX.out _ px cx (HXB.out.below HXW.out) hcx (HER.out _ (below_on HT.out.below HXW.out))).mono ?_); rintro e w7 ⟨vj, mj, rfl, hrj, hej, hb7⟩; replace HXW := hid (below_on HXW.out hb7); have hvj : vj.oneCell' = true := (by obtain ⟨a, c, e, _⟩ := hrj.buf.form; rw [e]; rfl); have HRJ := hid hrj; have HEJ := hid hej; clear hrj hej hb7 HRX)
    | ((with_reducible refine wpList_allocJ rfl rfl ?_); intro wA gA hzA hbA hgA; have HZA := hid hzA; have HBA := hid hbA; have HGA := hid hgA; clear hzA hbA hgA)
    | (clear T4; (with_reducible refine wpList_storeJ rfl rfl _ _ rfl gA ?_ (s := sa) (v := vj) ?_ hvj HZA.out ?_); exact rfl; exact rfl; intro wS hS oS; have hbS := ownJ HBA.out HGA.out oS; replace HXW := hid (below_on HXW.out hbS); replace HRJ := hid (HRJ.out.below hbS); have HCJ := hid hS; obtain ⟨gj, hgj⟩ : ∃ g, g = gA := ⟨gA, rfl⟩; subst hgj; clear hS oS hbS HZA HBA HGA)
    | ((with_reducible refine wpList_load_at 24 _ rfl ?_ gj 0 ?_ (jC sa vj) (.struct (Tryd.prog.fieldsOf 24)) ?_ underJrn rfl ?_ ?_); exact rfl; exact rfl; exact HCJ.out.wholeJ; exact sizeJ)
    | ((with_reducible refine wpList_load_at 24 _ rfl ?_ ga 0 ?_ (jC sa (.slice pa na ca)) (.struct (Tryd.prog.fieldsOf 24)) ?_ underJrn rfl ?_ ?_); exact rfl; exact rfl; exact (HT.out.on HXW.out).ca.wholeJ; exact sizeJ)
    | ((with_reducible refine wpList_load_at 24 _ rfl ?_ gc 0 ?_ (jC sc (.slice pc nc cc)) (.struct (Tryd.prog.fieldsOf 24)) ?_ underJrn rfl ?_ ?_); exact rfl; exact rfl; exact (HT.out.on HXW.out).cc.wholeJ; exact sizeJ)
    | (clear T5; go_at_call 10; (with_reducible refine (HSM.out _ vj mj (below_on HT.out.below HXW.out) (HRJ.out.rl ?_) HEJ.out).mono ?_); (have := congrArg List.length HEJ.out; rw [rcs_len, rcs_len] at this; rw [this]; exact HLEN.out); rintro e w8 ⟨rfl, hb8⟩; replace HXW := hid (below_on HXW.out hb8); clear hb8 HRJ HCJ)
    | (go_at_call 11; (with_reducible refine (copyB_any (x := X) (HSX.out _ HXW.out) ?_ ?_).mono ?_); (rw [HN.out]; omega); (intro n c e; cases e; exact HRM.out rfl); rintro e w9 ⟨v9, rfl, hb9, hw9⟩; obtain ⟨pt, ct, hvt⟩ := hb9.form; subst hvt; have hct := hb9.cap.2; rw [HN.out] at hct hb9; obtain ⟨gt, hgt0, hgB, cb9, fb9, hset⟩ := hb9.set (i := i) (by have := HN.out; omega) kk; subst hgt0; rw [HXI.out] at cb9; replace cb9 : w9.cell? ⟨gt, i, none⟩ = some (.int .u8 (xi : Int)) := cb9; rw [HTT.out] at hset; have HTB := hid hset; rw [HN.out]; have hsz := HXW.out.size; replace HXW := hid (below_on HXW.out hw9 |> fun h => below_tr h ((Only.set (S := fun b => b = gt) w9 ⟨gt, i, none⟩ (u8 kk) rfl).below h.size (fun j e => by omega))); replace HTB : Hid (Buf _ (w9.setCell ⟨gt, i, none⟩ (.int .u8 (kk : Int))) (.slice (some ⟨gt, 0, none⟩) N ct) T) := HTB; replace HXW : Hid (Below wX.heap.size wX (w9.setCell ⟨gt, i, none⟩ (.int .u8 (kk : Int)))) := HXW; clear hset hb9 hw9 hgB hsz)
    | (clear T6; go_at_call 12; (with_reducible refine (HPK1.out _).mono ?_); rintro e w10 ⟨rfl, rfl⟩)
    | (clear T7; go_at_call 12; (with_reducible refine (HPK2.out _).mono ?_); rintro e w11 ⟨rfl, rfl⟩)
    | (clear T8; go_at_call 9; (with_reducible refine (HRT.out _ _ ct HTB.out.bl hct (HER.out _ (below_on HT.out.below HXW.out))).mono ?_); rintro e w12 ⟨s12, v12, rfl, hv12, hb12⟩; replace HXW := hid (below_on HXW.out hb12); replace HTB := hid (HTB.out.below hb12); clear hb12)
    | (clear T9; (with_reducible refine wpList_storeJ rfl rfl _ _ rfl gA ?_ (s := s12) (v := v12) ?_ hv12 HZA.out ?_); exact rfl; exact rfl; intro wS hS oS; have hbS := ownJ HBA.out HGA.out oS; replace HXW := hid (below_on HXW.out hbS); replace HTB := hid (HTB.out.below hbS); clear hS oS hbS HZA HBA HGA)
    | (clear T10; go_at_call 9; (with_reducible refine (HRP.out _ px cx (HXB.out.below HXW.out) hcx (HER.out _ (below_on HT.out.below HXW.out))).mono ?_); rintro e w13 ⟨s13, v13, rfl, hv13, hb13⟩; replace HXW := hid (below_on HXW.out hb13); replace HTB := hid (HTB.out.below hb13); clear hb13)
    | (clear T11; (with_reducible refine wpList_storeJ rfl rfl _ _ rfl gA ?_ (s := s13) (v := v13) ?_ hv13 HZA.out ?_); exact rfl; exact rfl; intro wS hS oS; have hbS := ownJ HBA.out HGA.out oS; replace HXW := hid (below_on HXW.out hbS); replace HTB := hid (HTB.out.below hbS); clear hS oS hbS HZA HBA HGA)
    | (clear T12; go_at_call 13; (with_reducible refine (HST.out _ _ ct HTB.out.bl hct).mono ?_); rintro e w14 ⟨rfl, hb14⟩; replace HXW := hid (below_on HXW.out hb14); clear hb14)
    | (clear T13; go_at_call 13; (with_reducible refine (HSP.out _ px cx (HXB.out.below HXW.out) hcx).mono ?_); rintro e w15 ⟨rfl, hb15⟩; replace HXW := hid (below_on HXW.out hb15); clear hb15)
    | (clear T14; go_at_call 8; (with_reducible refine (HBC.out _ (below_on HT.out.below HXW.out)).mono ?_); rintro e wY ⟨rfl, hb16⟩; replace HXW := hid (below_on HXW.out hb16); clear hb16))
  go_quiet (fail)
  go_wp2
  go_ret
  exact ⟨rfl, below_on HT.out.below (below_on HXW.out (below_drewN _ _))⟩
set_option maxRecDepth 100000 in
set_option maxHeartbeats 4000000 in
theorem back_nn1 (a0 a1 : Addr) (sa sc : Int) (va vc : Value) (la lc : List Rp) (at_ : Int) (mask : Nat) (cut : Int) (w : World) (he : Ers w a0 a1) (ja : IsJ w va la) (jc : IsJ w vc lc) (ba : bigJ la = false) (bc : bigJ lc = false) (oa : okJ ⟨sa, rcs la⟩ = true) (hm : mask < 256) (X T P : List Nat) (hX : jB dig ⟨sa, rcs la⟩ = X) (hT : X.set (pkN at_ X.length) (X.getD (pkN at_ X.length) 0 ^^^ mask) = T) (hP : X.take (pkN cut X.length) = P) (m0 : mask ≠ 0) (st : sealB T = false) (gt : (rdJ dig T).1 ≠ 0) (sp : sealB P = false) (gp : (rdJ dig P).1 ≠ 0) (oc : okJ ⟨sc, rcs lc⟩ = true) : Calls Tryd.prog 3 #[.agg (jC sa va), .agg (jC sc vc), i64 at_, .int .u8 (mask : Int), i64 cut] w fun e w' => e = .returned (.bool true) ∧ Below w.heap.size w w' := by
  have HAW := hid (fun W (hW : Below w.heap.size w W) => awake8_any a0 a1 W (he.below hW))
  have HER := hid (fun W (hW : Below w.heap.size w W) => he.below hW)
  have HLa : Hid (∀ W, Below w.heap.size w W → Calls Tryd.prog 7 #[.agg (jC sa va)] W fun e w' => e = .returned (.bool false) ∧ Below W.heap.size W w') := hid (fun W hW => by have := Large_any sa va la W (ja.below hW); rw [ba] at this; exact this)
  have HLc : Hid (∀ W, Below w.heap.size w W → Calls Tryd.prog 7 #[.agg (jC sc vc)] W fun e w' => e = .returned (.bool false) ∧ Below W.heap.size W w') := hid (fun W hW => by have := Large_any sc vc lc W (jc.below hW); rw [bc] at this; exact this)
  have ra := ja.rl ba
  have HLEN := hid ra.len
  have rc := jc.rl bc
  have HBA : Hid (∀ W, Below w.heap.size w W → Calls Tryd.prog 8 #[.agg (jC sa va)] W (BytE W X)) := hid (fun W hW => by have := jbytes_ok sa va la W (ra.below hW) oa; rwa [hX] at this)
  obtain ⟨hx35, hxl, hx8⟩ := jB_len8 ra oa
  rw [hX] at hx35 hxl hx8
  have hrd : rdJ dig X = (0, some ⟨sa, rcs la⟩) := by rw [← hX]; exact rdJ_jB dig_len oa
  have HRX : Hid (∀ W po c, BL W po X → X.length ≤ c → Ers W a0 a1 → Calls Tryd.prog 9 #[.slice po X.length c] W (JouE W sa (rcs la))) := hid (fun W po c h1 h2 h3 => by
    have := jread_any po c X W a0 a1 h1 h2 hxl hx8 h3
    rw [hrd] at this
    exact this)
  have HSM : Hid (∀ W vj mj, Below w.heap.size w W → RL W vj mj → rcs mj = rcs la → Calls Tryd.prog 10 #[.agg (jC sa vj), .agg (jC sa va)] W fun e w' => e = .returned (.bool true) ∧ Below W.heap.size W w') := hid (fun W vj mj hW h1 h2 => by
    have := jsame_any sa sa vj va mj la W h1 (ra.below hW)
    rw [h2, decide_eq_true rfl] at this
    exact this)
  have hpk := pkN_lt at_ X.length (by omega)
  have hpk2 := pkN_lt cut X.length (by omega)
  have HPK1 : Hid (∀ W, Calls Tryd.prog 12 #[i64 at_, .int .i64 (X.length : Int)] W fun e w' => e = .returned (i64 (pkN at_ X.length : Nat)) ∧ w' = W) := hid (fun W => pick_any at_ X.length W (by omega) (by omega))
  have HPK2 : Hid (∀ W, Calls Tryd.prog 12 #[i64 cut, .int .i64 (X.length : Int)] W fun e w' => e = .returned (i64 (pkN cut X.length : Nat)) ∧ w' = W) := hid (fun W => pick_any cut X.length W (by omega) (by omega))
  have hk8 : X.getD (pkN at_ X.length) 0 < 256 := get256 hx8 _ hpk
  have hxor : bits .xor .u8 ((X.getD (pkN at_ X.length) 0 : Nat) : Int) (mask : Int) = ((X.getD (pkN at_ X.length) 0 ^^^ mask : Nat) : Int) := u8_xor_nat _ _ hk8 hm
  have ht8 : ∀ z ∈ T, z < 256 := fun z hz => by
    rw [← hT] at hz
    rcases List.mem_or_eq_of_mem_set hz with h | rfl
    · exact hx8 z h
    · exact Nat.xor_lt_two_pow (n := 8) hk8 hm
  have htl : T.length = X.length := by rw [← hT, List.length_set]
  have hpl : P.length = pkN cut X.length := by rw [← hP, len_take (by omega)]
  have hp8 : ∀ z ∈ P, z < 256 := fun z hz => hx8 z (by rw [← hP] at hz; exact List.mem_of_mem_take hz)
  have HRT : Hid (∀ W po c, BL W po T → X.length ≤ c → Ers W a0 a1 → Calls Tryd.prog 9 #[.slice po X.length c] W fun e w' => ∃ s v, e = .returned (.tuple #[.agg (jC s v), i64 (rdJ dig T).1]) ∧ v.oneCell' = true ∧ Below W.heap.size W w') := hid (fun W po c h1 h2 h3 => by
    have := read_code po c T W a0 a1 h1 (by omega) (by omega) ht8 h3
    rwa [htl] at this)
  have HRP : Hid (∀ W po c, BL W po X → X.length ≤ c → Ers W a0 a1 → Calls Tryd.prog 9 #[.slice po (pkN cut X.length) c] W fun e w' => ∃ s v, e = .returned (.tuple #[.agg (jC s v), i64 (rdJ dig P).1]) ∧ v.oneCell' = true ∧ Below W.heap.size W w') := hid (fun W po c h1 h2 h3 => by
    have := read_code po c P W a0 a1 (by rw [← hP]; exact h1.take _) (by omega) (by omega) hp8 h3
    rwa [hpl] at this)
  have HST : Hid (∀ W po c, BL W po T → X.length ≤ c → Calls Tryd.prog 13 #[.slice po X.length c] W fun e w' => e = .returned (.bool (sealB T)) ∧ Below W.heap.size W w') := hid (fun W po c h1 h2 => by
    have := sealed_any po c T W h1 (by omega) (by omega) ht8
    rwa [htl] at this)
  have HSP : Hid (∀ W po c, BL W po X → X.length ≤ c → Calls Tryd.prog 13 #[.slice po (pkN cut X.length) c] W fun e w' => e = .returned (.bool (sealB P)) ∧ Below W.heap.size W w') := hid (fun W po c h1 h2 => by
    have := sealed_any po c P W (by rw [← hP]; exact h1.take _) (by omega) (by omega) hp8
    rwa [hpl] at this)
  rw [st] at HST
  have hgt : ((((rdJ dig T).1 : Nat) : Int) == 0) = false := beq_eq_false_iff_ne.2 (by omega)
  rw [sp] at HSP
  have hgp : ¬ (((rdJ dig P).1 : Nat) : Int) = 0 := by omega
  have hm0 : ¬ (mask : Int) = 0 := by omega
  generalize (rdJ dig T).1 = GT at *
  generalize (rdJ dig P).1 = GP at *
  obtain ⟨Y, hY⟩ : ∃ Y, jB dig ⟨sc, rcs lc⟩ = Y := ⟨_, rfl⟩
  obtain ⟨_, hyl, hy8⟩ := jB_len8 rc oc
  rw [hY] at hyl hy8
  obtain ⟨R, hR⟩ : ∃ R : Bool, decide (X = Y) = R := ⟨_, rfl⟩
  have hR2 : decide ((⟨sa, rcs la⟩ : Jr) = ⟨sc, rcs lc⟩) = R := by
    rw [← hR]
    exact decide_eq_decide.2 ⟨fun e => by rw [← hX, ← hY, e], fun e => jB_inj dig_len oa oc (by rw [hX, hY, e])⟩
  have HSB : Hid (∀ W u v, SL W u X → SL W v Y → Calls Tryd.prog 14 #[u, v] W fun e w' => e = .returned (.bool R) ∧ w' = W) := hid (fun W u v h1 h2 => by
    have := sameB_any h1 h2 hx8 hy8
    rwa [hR] at this)
  have HSC : Hid (∀ W, Below w.heap.size w W → Calls Tryd.prog 10 #[.agg (jC sa va), .agg (jC sc vc)] W fun e w' => e = .returned (.bool R) ∧ Below W.heap.size W w') := hid (fun W hW => by
    have := jsame_any sa sc va vc la lc W (ra.below hW) (rc.below hW)
    rwa [hR2] at this)
  have HBC : Hid (∀ W, Below w.heap.size w W → Calls Tryd.prog 8 #[.agg (jC sc vc)] W (BytE W Y)) := hid (fun W hW => by have := jbytes_ok sc vc lc W (rc.below hW) oc; rwa [hY] at this)
  clear hY hR hR2 hyl hy8
  obtain ⟨N, hN⟩ : ∃ N, X.length = N := ⟨_, rfl⟩
  obtain ⟨i, hi⟩ : ∃ i, pkN at_ X.length = i := ⟨_, rfl⟩
  obtain ⟨p, hp⟩ : ∃ p, pkN cut X.length = p := ⟨_, rfl⟩
  obtain ⟨xi, hxi⟩ : ∃ xi, X.getD i 0 = xi := ⟨_, rfl⟩
  rw [hi] at HPK1 hxor hpk hT
  rw [hp] at HPK2 HRP HSP hpk2
  rw [hxi] at hxor hT
  obtain ⟨kk, hkk⟩ : ∃ kk, xi ^^^ mask = kk := ⟨_, rfl⟩
  rw [hkk] at hxor hT
  rw [hN] at HPK1 HPK2 HRX HRT HRP HST HSP hpk hpk2 hx35 hxl
  have HN := hid hN
  have HXI := hid hxi
  have HTT := hid hT
  have hiN : (i : Int) < (N : Int) := by omega
  have h35 : ¬ (N : Int) < 35 := by omega
  obtain ⟨pa, na, ca, rfl⟩ := ja.form
  obtain ⟨pc, nc, cc, rfl⟩ := jc.form
  clear hX hP he ja jc ra rc oa hx8 ht8 hp8 hrd hk8 htl hpl hN hi hp hxi hT hkk ba bc oc sp st
  have T1 : Hid True := hid trivial
  have T2 : Hid True := hid trivial
  have T3 : Hid True := hid trivial
  have T4 : Hid True := hid trivial
  have T5 : Hid True := hid trivial
  have T6 : Hid True := hid trivial
  have T7 : Hid True := hid trivial
  have T8 : Hid True := hid trivial
  have T9 : Hid True := hid trivial
  have T10 : Hid True := hid trivial
  have T11 : Hid True := hid trivial
  have T12 : Hid True := hid trivial
  have T13 : Hid True := hid trivial
  have T14 : Hid True := hid trivial
  go_enter Tryd.func3, Tryd.ntmps3
  go_upto_region 19 with (first
    | (clear T1; (with_reducible refine wpList_boxT 24 rfl _ rfl (jC sa (.slice pa na ca)) ?_ ?_); exact rfl; intro w1 ga hc1 hb1 hg1; have HC1 := hid hc1; have HB1 := hid hb1; clear hc1 hb1)
    | (clear T2; (with_reducible refine wpList_boxT 24 rfl _ rfl (jC sc (.slice pc nc cc)) ?_ ?_); exact rfl; intro w2 gc hc2 hb2 hg2; have HT : Hid (Bk w ga gc sa sc (.slice pa na ca) (.slice pc nc cc) w2) := hid ⟨below_on HB1.out hb2, HC1.out.below hb2, hc2⟩; clear hc2 hb2 HC1 HB1)
    | (go_at_call 6; (with_reducible refine (HAW.out _ HT.out.below).mono ?_); rintro e w3 ⟨rfl, hb3⟩; replace HT := hid (HT.out.on hb3); clear hb3)
    | ((with_reducible refine wpList_load_at 24 _ rfl ?_ ga 0 ?_ (jC sa (.slice pa na ca)) (.struct (Tryd.prog.fieldsOf 24)) ?_ underJrn rfl ?_ ?_); exact rfl; exact rfl; exact (HT.out).ca.wholeJ; exact sizeJ)
    | ((with_reducible refine wpList_load_at 24 _ rfl ?_ gc 0 ?_ (jC sc (.slice pc nc cc)) (.struct (Tryd.prog.fieldsOf 24)) ?_ underJrn rfl ?_ ?_); exact rfl; exact rfl; exact (HT.out).cc.wholeJ; exact sizeJ)
    | (go_at_call 7; (with_reducible refine (HLa.out _ HT.out.below).mono ?_); rintro e w4 ⟨rfl, hb4⟩; replace HT := hid (HT.out.on hb4); clear hb4 HLa)
    | (go_at_call 7; (with_reducible refine (HLc.out _ HT.out.below).mono ?_); rintro e w5 ⟨rfl, hb5⟩; replace HT := hid (HT.out.on hb5); clear hb5 HLc)
    | (go_at_call 8; (with_reducible refine (HBA.out _ HT.out.below).mono ?_); rintro e wX ⟨vx, rfl, hbx, hb6⟩; replace HT := hid (HT.out.on hb6); obtain ⟨px, cx, hvx⟩ := hbx.form; subst hvx; have hcx := hbx.cap.2; rw [HN.out] at hcx hbx; have HRM := hid (fun (e : px = none) => (show cx = 0 by subst e; exact hbx.room)); have HXB := hid hbx.bl; rw [HN.out]; have HXW := hid (Below.refl wX.heap.size wX); have hsp := run_head8n px N cx p (by omega); have HSX := hid (fun W (hW : Below wX.heap.size wX W) => (show SL W (.slice px N cx) X from ⟨px, cx, by rw [HN.out], HXB.out.below hW, by rw [HN.out]; exact hcx⟩)); clear hbx hb6 HBA)
    | (clear T3; go_at_call 9; (with_reducible refine (HRX.out _ px cx (HXB.out.below HXW.out) hcx (HER.out _ (below_on HT.out.below HXW.out))).mono ?_); rintro e w7 ⟨vj, mj, rfl, hrj, hej, hb7⟩; replace HXW := hid (below_on HXW.out hb7); have hvj : vj.oneCell' = true := (by obtain ⟨a, c, e, _⟩ := hrj.buf.form; rw [e]; rfl); have HRJ := hid hrj; have HEJ := hid hej; clear hrj hej hb7 HRX)
    | ((with_reducible refine wpList_allocJ rfl rfl ?_); intro wA gA hzA hbA hgA; have HZA := hid hzA; have HBA := hid hbA; have HGA := hid hgA; clear hzA hbA hgA)
    | (clear T4; (with_reducible refine wpList_storeJ rfl rfl _ _ rfl gA ?_ (s := sa) (v := vj) ?_ hvj HZA.out ?_); exact rfl; exact rfl; intro wS hS oS; have hbS := ownJ HBA.out HGA.out oS; replace HXW := hid (below_on HXW.out hbS); replace HRJ := hid (HRJ.out.below hbS); have HCJ := hid hS; obtain ⟨gj, hgj⟩ : ∃ g, g = gA := ⟨gA, rfl⟩; subst hgj; clear hS oS hbS HZA HBA HGA)
    | ((with_reducible refine wpList_load_at 24 _ rfl ?_ gj 0 ?_ (jC sa vj) (.struct (Tryd.prog.fieldsOf 24)) ?_ underJrn rfl ?_ ?_); exact rfl; exact rfl; exact HCJ.out.wholeJ; exact sizeJ)
    | ((with_reducible refine wpList_load_at 24 _ rfl ?_ ga 0 ?_ (jC sa (.slice pa na ca)) (.struct (Tryd.prog.fieldsOf 24)) ?_ underJrn rfl ?_ ?_); exact rfl; exact rfl; exact (HT.out.on HXW.out).ca.wholeJ; exact sizeJ)
    | ((with_reducible refine wpList_load_at 24 _ rfl ?_ gc 0 ?_ (jC sc (.slice pc nc cc)) (.struct (Tryd.prog.fieldsOf 24)) ?_ underJrn rfl ?_ ?_); exact rfl; exact rfl; exact (HT.out.on HXW.out).cc.wholeJ; exact sizeJ)
    | (clear T5; go_at_call 10; (with_reducible refine (HSM.out _ vj mj (below_on HT.out.below HXW.out) (HRJ.out.rl ?_) HEJ.out).mono ?_); (have := congrArg List.length HEJ.out; rw [rcs_len, rcs_len] at this; rw [this]; exact HLEN.out); rintro e w8 ⟨rfl, hb8⟩; replace HXW := hid (below_on HXW.out hb8); clear hb8 HRJ HCJ)
    | (go_at_call 11; (with_reducible refine (copyB_any (x := X) (HSX.out _ HXW.out) ?_ ?_).mono ?_); (rw [HN.out]; omega); (intro n c e; cases e; exact HRM.out rfl); rintro e w9 ⟨v9, rfl, hb9, hw9⟩; obtain ⟨pt, ct, hvt⟩ := hb9.form; subst hvt; have hct := hb9.cap.2; rw [HN.out] at hct hb9; obtain ⟨gt, hgt0, hgB, cb9, fb9, hset⟩ := hb9.set (i := i) (by have := HN.out; omega) kk; subst hgt0; rw [HXI.out] at cb9; replace cb9 : w9.cell? ⟨gt, i, none⟩ = some (.int .u8 (xi : Int)) := cb9; rw [HTT.out] at hset; have HTB := hid hset; rw [HN.out]; have hsz := HXW.out.size; replace HXW := hid (below_on HXW.out hw9 |> fun h => below_tr h ((Only.set (S := fun b => b = gt) w9 ⟨gt, i, none⟩ (u8 kk) rfl).below h.size (fun j e => by omega))); replace HTB : Hid (Buf _ (w9.setCell ⟨gt, i, none⟩ (.int .u8 (kk : Int))) (.slice (some ⟨gt, 0, none⟩) N ct) T) := HTB; replace HXW : Hid (Below wX.heap.size wX (w9.setCell ⟨gt, i, none⟩ (.int .u8 (kk : Int)))) := HXW; clear hset hb9 hw9 hgB hsz)
    | (clear T6; go_at_call 12; (with_reducible refine (HPK1.out _).mono ?_); rintro e w10 ⟨rfl, rfl⟩)
    | (clear T7; go_at_call 12; (with_reducible refine (HPK2.out _).mono ?_); rintro e w11 ⟨rfl, rfl⟩)
    | (clear T8; go_at_call 9; (with_reducible refine (HRT.out _ _ ct HTB.out.bl hct (HER.out _ (below_on HT.out.below HXW.out))).mono ?_); rintro e w12 ⟨s12, v12, rfl, hv12, hb12⟩; replace HXW := hid (below_on HXW.out hb12); replace HTB := hid (HTB.out.below hb12); clear hb12)
    | (clear T9; (with_reducible refine wpList_storeJ rfl rfl _ _ rfl gA ?_ (s := s12) (v := v12) ?_ hv12 HZA.out ?_); exact rfl; exact rfl; intro wS hS oS; have hbS := ownJ HBA.out HGA.out oS; replace HXW := hid (below_on HXW.out hbS); replace HTB := hid (HTB.out.below hbS); clear hS oS hbS HZA HBA HGA)
    | (clear T10; go_at_call 9; (with_reducible refine (HRP.out _ px cx (HXB.out.below HXW.out) hcx (HER.out _ (below_on HT.out.below HXW.out))).mono ?_); rintro e w13 ⟨s13, v13, rfl, hv13, hb13⟩; replace HXW := hid (below_on HXW.out hb13); replace HTB := hid (HTB.out.below hb13); clear hb13)
    | (clear T11; (with_reducible refine wpList_storeJ rfl rfl _ _ rfl gA ?_ (s := s13) (v := v13) ?_ hv13 HZA.out ?_); exact rfl; exact rfl; intro wS hS oS; have hbS := ownJ HBA.out HGA.out oS; replace HXW := hid (below_on HXW.out hbS); replace HTB := hid (HTB.out.below hbS); clear hS oS hbS HZA HBA HGA)
    | (clear T12; go_at_call 13; (with_reducible refine (HST.out _ _ ct HTB.out.bl hct).mono ?_); rintro e w14 ⟨rfl, hb14⟩; replace HXW := hid (below_on HXW.out hb14); clear hb14)
    | (clear T13; go_at_call 13; (with_reducible refine (HSP.out _ px cx (HXB.out.below HXW.out) hcx).mono ?_); rintro e w15 ⟨rfl, hb15⟩; replace HXW := hid (below_on HXW.out hb15); clear hb15)
    | (clear T14; go_at_call 8; (with_reducible refine (HBC.out _ (below_on HT.out.below HXW.out)).mono ?_); rintro e wY ⟨vy, rfl, hby, hb16⟩; replace HXW := hid (below_on HXW.out hb16); have HSY := hid hby.sl; clear hby hb16))
  have HTY := hid (HT.out.on HXW.out)
  have HSF : Hid (∀ W, Below wY.heap.size wY W → (fun W => (Instr.loadAt 24 (.pointer (some ⟨ga, 0, none⟩))).run Tryd.prog W = .ok (.agg (jC sa (.slice pa na ca))) W ∧ (Instr.loadAt 24 (.pointer (some ⟨gc, 0, none⟩))).run Tryd.prog W = .ok (.agg (jC sc (.slice pc nc cc))) W) W) := hid (fun W hW => ⟨run_loadJ (HTY.out.ca.below hW), run_loadJ (HTY.out.cc.below hW)⟩)
  refine wp_region_held_drew (S := fun W => (Instr.loadAt 24 (.pointer (some ⟨ga, 0, none⟩))).run Tryd.prog W = .ok (.agg (jC sa (.slice pa na ca))) W ∧ (Instr.loadAt 24 (.pointer (some ⟨gc, 0, none⟩))).run Tryd.prog W = .ok (.agg (jC sc (.slice pc nc cc))) W) (by kernel_rfl) (HSF.out _ (below_drew _)) (fun hHeld => ?_)
  have HD := hid (below_drew wY)
  refine wpAnyH_take (i := 0) (oi := ⟨some 119, .move (.tmp 11), _, _, _, none⟩) (v := .bool true) rfl (by kernel_rfl) (by kernel_rfl) (by kernel_rfl) (fun _ _ _ h => h) (Or.inl ⟨by kernel_rfl, by intro W hW; go_simp⟩) hHeld ?_
  refine wpAnyH_take (i := 1) (oi := ⟨some 120, .move (.tmp 119), _, _, _, none⟩) (v := .bool true) rfl (by kernel_rfl) (by kernel_rfl) (by kernel_rfl) (fun _ _ _ h => h) (Or.inl ⟨by kernel_rfl, by intro W hW; go_simp⟩) hHeld ?_
  refine wpAnyH_take (i := 2) (oi := ⟨some 121, .move (.tmp 24), _, _, _, some (1, true)⟩) (v := i64 0) rfl (by kernel_rfl) (by kernel_rfl) (by kernel_rfl) (fun _ _ _ h => h) (Or.inl ⟨by kernel_rfl, by intro W hW; go_simp⟩) hHeld ?_
  refine wpAnyH_take (i := 3) (oi := ⟨some 122, .binOp .neq 28 (.tmp 121) (.const (.int .i64 0)) 28, _, _, _, some (1, true)⟩) (v := .bool false) rfl (by kernel_rfl) (by kernel_rfl) (by kernel_rfl) (fun _ _ _ h => h) (Or.inl ⟨by kernel_rfl, by intro W hW; go_simp⟩) hHeld ?_
  refine wpAnyH_take (i := 4) (oi := ⟨some 123, .move (.tmp 122), _, _, _, some (1, true)⟩) (v := .bool false) rfl (by kernel_rfl) (by kernel_rfl) (by kernel_rfl) (fun _ _ _ h => h) (Or.inl ⟨by kernel_rfl, by intro W hW; go_simp⟩) hHeld ?_
  refine wpAnyH_take (i := 5) (oi := ⟨some 124, .move (.tmp 12), _, _, _, some (4, false)⟩) (v := .slice px N cx) rfl (by kernel_rfl) (by kernel_rfl) (by kernel_rfl) (fun _ _ _ h => h) (Or.inl ⟨by kernel_rfl, by intro W hW; go_simp⟩) hHeld ?_
  refine wpAnyH_take (i := 6) (oi := ⟨some 125, .move (.tmp 23), _, _, _, some (4, false)⟩) (v := vy) rfl (by kernel_rfl) (by kernel_rfl) (by kernel_rfl) (fun _ _ _ h => h) (Or.inl ⟨by kernel_rfl, by intro W hW; go_simp⟩) hHeld ?_
  refine wpAnyH_take (i := 8) (oi := ⟨some 127, .load 24 (.tmp 5), _, _, _, some (4, false)⟩) (v := .agg (jC sa (.slice pa na ca))) rfl (by kernel_rfl) (by kernel_rfl) (by kernel_rfl) (fun _ _ _ h => h) (Or.inl ⟨by kernel_rfl, fun W hW => exec_load rfl (by kernel_rfl) hW.1⟩) hHeld ?_
  refine wpAnyH_take (i := 9) (oi := ⟨some 128, .load 24 (.tmp 6), _, _, _, some (4, false)⟩) (v := .agg (jC sc (.slice pc nc cc))) rfl (by kernel_rfl) (by kernel_rfl) (by kernel_rfl) (fun _ _ _ h => h) (Or.inl ⟨by kernel_rfl, fun W hW => exec_load rfl (by kernel_rfl) hW.2⟩) hHeld ?_
  refine wpAnyH_ready (rs := [7]) (by kernel_rfl) (by simp) ?_
  refine AllReadyH.cons rfl (fun K hK => ?_) AllReadyH.nil
  go_simp
  refine (HSB.out _ _ _ (HSX.out _ (below_on HXW.out HD.out)) (HSY.out.below HD.out)).mono ?_
  rintro e x7 ⟨rfl, hb⟩
  have hb2 := hb.symm
  subst hb2
  clear hb
  go_wp2_with fail
  refine hK.out _ _ (HSF.out _ HD.out) (fun hHeld => ?_)
  clear hK K
  refine wpAnyH_ready (rs := [10]) (by kernel_rfl) (by simp) ?_
  refine AllReadyH.cons rfl (fun K hK => ?_) AllReadyH.nil
  go_simp
  refine (HSC.out _ (below_on HTY.out.below HD.out)).mono ?_
  rintro e x10 ⟨rfl, hb⟩
  replace HD := hid (below_on HD.out hb)
  clear hb
  go_wp2_with fail
  refine hK.out _ _ (HSF.out _ HD.out) (fun hHeld => ?_)
  clear hK K
  refine wpAnyH_take (i := 11) (oi := ⟨some 130, .binOp .eql 4 (.tmp 126) (.tmp 129) 4, _, _, _, some (4, false)⟩) (v := .bool true) rfl (by kernel_rfl) (by kernel_rfl) (by kernel_rfl) (fun _ _ _ h => h) (Or.inl ⟨by kernel_rfl, by intro W hW; cases R <;> go_simp⟩) hHeld ?_
  refine wpAnyH_take (i := 12) (oi := ⟨some 131, .pick (.tmp 123) (.const (.bool true)) (.tmp 130), _, _, _, some (1, true)⟩) (v := .bool true) rfl (by kernel_rfl) (by kernel_rfl) (by kernel_rfl) (fun _ _ _ h => h) (Or.inl ⟨by kernel_rfl, by intro W hW; go_simp⟩) hHeld ?_
  refine wpAnyH_take (i := 13) (oi := ⟨some 132, .pick (.tmp 120) (.tmp 131) (.const (.bool false)), _, _, _, none⟩) (v := .bool true) rfl (by kernel_rfl) (by kernel_rfl) (by kernel_rfl) (fun _ _ _ h => h) (Or.inl ⟨by kernel_rfl, by intro W hW; go_simp⟩) hHeld ?_
  refine wpAnyH_take (i := 14) (oi := ⟨some 10, .assign (.tmp 132), _, _, _, none⟩) (v := .bool true) rfl (by kernel_rfl) (by kernel_rfl) (by kernel_rfl) (fun _ _ _ h => h) (Or.inl ⟨by kernel_rfl, by intro W hW; go_simp⟩) hHeld ?_
  refine wpAnyH_done (by kernel_rfl) ?_ _
  simp only [Act.put, List.setIfInBounds_toArray, List.set_cons_zero, List.set_cons_succ]
  go_wp2
  go_ret
  exact ⟨rfl, below_on HTY.out.below HD.out⟩
#print axioms back_nn1
end Go.Proofs.YtcbmimjjpkkoeaaDoor

/- JournalBack, whatever came in. -/
namespace Go.Proofs.YtcbmimjjpkkoeaaDoor
open Go Go.RowKit

theorem back8_any (a0 a1 : Addr) (sa sc : Int) (va vc : Value) (la lc : List Rp) (at_ : Int) (mask : Nat) (cut : Int) (w : World) (he : Ers w a0 a1) (ja : IsJ w va la) (jc : IsJ w vc lc) (hm : mask < 256) : Calls Tryd.prog 3 #[.agg (jC sa va), .agg (jC sc vc), i64 at_, .int .u8 (mask : Int), i64 cut] w fun e w' => e = .returned (.bool true) ∧ Below w.heap.size w w' := by
  cases ba : bigJ la with
  | true => exact jback_big0 a0 a1 sa sc va vc la lc at_ mask cut w he ja jc ba
  | false =>
    cases bc : bigJ lc with
    | true => exact jback_big1 a0 a1 sa sc va vc la lc at_ mask cut w he ja jc ba bc
    | false =>
      cases oa : okJ ⟨sa, rcs la⟩ with
      | false => exact jback_bad a0 a1 sa sc va vc la lc at_ mask cut w he ja jc ba bc oa
      | true =>
        obtain ⟨X, hX⟩ : ∃ X, jB dig ⟨sa, rcs la⟩ = X := ⟨_, rfl⟩
        obtain ⟨T, hT⟩ : ∃ T, X.set (pkN at_ X.length) (X.getD (pkN at_ X.length) 0 ^^^ mask) = T := ⟨_, rfl⟩
        obtain ⟨P, hP⟩ : ∃ P, X.take (pkN cut X.length) = P := ⟨_, rfl⟩
        have ns : ∀ L, sealB L = false → (rdJ dig L).1 ≠ 0 := fun L h e => by rw [seal_rd e] at h; cases h
        by_cases m0 : mask = 0
        · cases sp : sealB P with
          | true => cases oc : okJ ⟨sc, rcs lc⟩ with
            | false => exact back_0s0 a0 a1 sa sc va vc la lc at_ mask cut w he ja jc ba bc oa hm X T P hX hT hP m0 sp oc
            | true => exact back_0s1 a0 a1 sa sc va vc la lc at_ mask cut w he ja jc ba bc oa hm X T P hX hT hP m0 sp oc
          | false => cases oc : okJ ⟨sc, rcs lc⟩ with
            | false => exact back_0n0 a0 a1 sa sc va vc la lc at_ mask cut w he ja jc ba bc oa hm X T P hX hT hP m0 sp (ns P sp) oc
            | true => exact back_0n1 a0 a1 sa sc va vc la lc at_ mask cut w he ja jc ba bc oa hm X T P hX hT hP m0 sp (ns P sp) oc
        · cases st : sealB T with
          | true => cases sp : sealB P with
            | true => cases oc : okJ ⟨sc, rcs lc⟩ with
              | false => exact back_ss0 a0 a1 sa sc va vc la lc at_ mask cut w he ja jc ba bc oa hm X T P hX hT hP m0 st sp oc
              | true => exact back_ss1 a0 a1 sa sc va vc la lc at_ mask cut w he ja jc ba bc oa hm X T P hX hT hP m0 st sp oc
            | false => cases oc : okJ ⟨sc, rcs lc⟩ with
              | false => exact back_sn0 a0 a1 sa sc va vc la lc at_ mask cut w he ja jc ba bc oa hm X T P hX hT hP m0 st sp (ns P sp) oc
              | true => exact back_sn1 a0 a1 sa sc va vc la lc at_ mask cut w he ja jc ba bc oa hm X T P hX hT hP m0 st sp (ns P sp) oc
          | false => cases sp : sealB P with
            | true => cases oc : okJ ⟨sc, rcs lc⟩ with
              | false => exact back_ns0 a0 a1 sa sc va vc la lc at_ mask cut w he ja jc ba bc oa hm X T P hX hT hP m0 st (ns T st) sp oc
              | true => exact back_ns1 a0 a1 sa sc va vc la lc at_ mask cut w he ja jc ba bc oa hm X T P hX hT hP m0 st (ns T st) sp oc
            | false => cases oc : okJ ⟨sc, rcs lc⟩ with
              | false => exact back_nn0 a0 a1 sa sc va vc la lc at_ mask cut w he ja jc ba bc oa hm X T P hX hT hP m0 st (ns T st) sp (ns P sp) oc
              | true => exact back_nn1 a0 a1 sa sc va vc la lc at_ mask cut w he ja jc ba bc oa hm X T P hX hT hP m0 st (ns T st) sp (ns P sp) oc
#print axioms back8_any
end Go.Proofs.YtcbmimjjpkkoeaaDoor
