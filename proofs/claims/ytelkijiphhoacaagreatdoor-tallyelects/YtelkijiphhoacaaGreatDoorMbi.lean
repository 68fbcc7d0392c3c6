/- Texts laid into one, cut to what is needed: the remark ahead of each part says what is proved there. -/
import Derived.Test.YtelkijiphhoacaaGreatDoorMbg
import Derived.Test.YtelkijiphhoacaaGreatDoorMbh
/- TallyElects: the walk. -/
namespace Go.Proofs.YtelkijiphhoacaaGreatDoor
open Go Go.RowKit

theorem relect_any (v : Value) (l : List Cv) (k : Int) (w : World) (hl : CL w v l) : Calls Tryz.prog 7 #[v, i64 k] w (ElS (fun _ _ _ => True) w (elE dig (cps l) k)) := by
  unfold elE
  by_cases h : 16 < (cps l).length ∨ k < 1 ∨ ((cps l).length : Int) < k
  · rw [if_pos h]
    exact (relect_arg v l k w hl h).mono fun e w' ⟨h1, h2⟩ => by rw [h1]; exact ElS.bad trivial h2
  · rw [if_neg h]
    exact relect_main v l k w hl h
theorem chC_has (l : List Cp) : (chC dig l).has.length = l.length := by
  cases h : elC dig l with
  | none => rw [chC_none h]; simp
  | some q => obtain ⟨j, b, n⟩ := q; rw [chC_some h]; simp
theorem elE_small (l : List Cp) (k : Int) (h8 : ∀ c ∈ l, ∀ z ∈ c.b, z < 256) : (elE dig l k).2.has.length ≤ l.length ∧ ∀ z ∈ (elE dig l k).2.b, z < 256 := by
  unfold elE
  split
  · exact ⟨Nat.zero_le _, by simp [chZ]⟩
  · split
    · exact ⟨Nat.zero_le _, by simp [chZ]⟩
    · exact ⟨Nat.le_of_eq (chC_has l), (ch_facts l h8).2.2.2.1⟩
set_option maxRecDepth 100000 in
set_option maxHeartbeats 8000000 in
theorem elects9_any (a0 a1 : Addr) (v : Value) (l : List Cv) (k : Int) (w : World) (he : Ers w a0 a1) (hl : IsC w v l) : Calls Tryz.prog 3 #[v, i64 k] w fun e w' => e = .returned (.bool true) ∧ Below w.heap.size w w' := by
  have HLG := hid (large9_any v l w hl)
  cases hb : bigC l with
  | true =>
    rw [hb] at HLG
    clear he hl
    go_enter Tryz.func3, Tryz.ntmps3
    go_wp2_with (go_at_call 4; refine HLG.out.mono ?_; rintro e w1 ⟨rfl, hw⟩; have h2 := hw.symm; subst h2)
    go_ret
    exact ⟨rfl, Below.refl _ _⟩
  | false =>
  rw [hb] at HLG
  obtain ⟨hcl, hn20, -⟩ := hl.cl hb
  have HAW := hid (fun W (hW : Below w.heap.size w W) => awake9_any a0 a1 W (he.below hW))
  have HCP := hid (copies9_any v l w hcl)
  unfold CpS at HCP
  have HRE := hid (fun W (hW : Below w.heap.size w W) => relect_any v l k W (hcl.below hW))
  have HEL := hid (fun W v' L (hW : Below w.heap.size w W) (hL : CL W v' L) => elect_any v' L k W a0 a1 (he.below hW) hL)
  have HL := hid hcl
  obtain ⟨hsz, h8⟩ := elE_small (cps l) k (fun c hc z hz => by
    obtain ⟨x, hx, rfl⟩ := List.mem_map.1 hc
    exact (hcl.each x hx).byte z hz)
  rw [cps_len] at hsz
  obtain ⟨R, hR⟩ : ∃ R, elE dig (cps l) k = R := ⟨_, rfl⟩
  rw [hR] at HRE hsz h8
  have HR := hid hR
  have HS : Hid (R.2.has.length ≤ 2000) := hid (by omega)
  have H8 := hid h8
  have HB0 := hid (fun W (hW : Below w.heap.size w W) s rv bv hv an vo (hh : BoL W hv R.2.has) => rbehind_any v l R.2.found s rv bv hv an vo R.2.has W (hcl.below hW) hh (by omega))
  have HB1 : Hid (∀ W v' L, cps L = cps l → CL W v' L → ∀ s rv bv hv an vo, BoL W hv R.2.has → Calls Tryz.prog 9 #[v', .agg (eC R.2.found s rv bv hv an vo)] W (BeS W (behE (cps l) R.2.found R.2.has))) := hid (fun W v' L he2 hL s rv bv hv an vo hh => by
    have := behind_any v' L R.2.found s rv bv hv an vo R.2.has W hL hh (by omega)
    rw [he2] at this
    exact this)
  obtain ⟨Q, hQ⟩ : ∃ Q, behE (cps l) R.2.found R.2.has = Q := ⟨_, rfl⟩
  rw [hQ] at HB0 HB1
  have HQS : Hid (Q.2.length ≤ 2000) := hid (by
    rw [← hQ]
    unfold behE
    split
    · simp
    · simp [cps_len]; omega)
  clear hcl he hR hQ hsz h8 hl hb
  obtain ⟨er, CF, CJ, CB, CHS, CAN, CVO⟩ := R
  obtain ⟨eq, qs⟩ := Q
  have hee : (((er : Nat) : Int) != ((er : Nat) : Int)) = false := by simp
  have hqq : (((eq : Nat) : Int) == ((eq : Nat) : Int)) = true := by simp
  have T1 : Hid True := hid trivial
  have T2 : Hid True := hid trivial
  have T3 : Hid True := hid trivial
  have T4 : Hid True := hid trivial
  go_enter Tryz.func3, Tryz.ntmps3
  go_wp2_with (first
    | (go_at_call 4; refine HLG.out.mono ?_; rintro e w1 ⟨rfl, hw⟩; have h2 := hw.symm; subst h2)
    | (go_at_call 5; refine HCP.out.mono ?_; rintro e w1 ⟨v1, L, rfl, hci, hcE, hw1⟩; have HW := hid hw1; have HCE := hid hcE; have hln : L.length ≤ 1000 := (by have := congrArg List.length hcE; rw [cps_len, cps_len] at this; omega); have HIN := hid (hci.cl hln); have HIN0 := hid (hci.cl hln); clear hci hcE hw1 hln)
    | (go_at_call 6; refine (HEL.out _ v1 L HW.out HIN.out).mono ?_; rw [HCE.out, HR.out]; rintro e w2 ⟨s2, v2, b2, h2, m2, rfl, hr2, hj2, hm2, hsl2, hov2, hbo2, hw2⟩; have HSZ1 := hid HW.out.size; replace HW := hid (below_on HW.out hw2); have HW2 := hid hw2; replace HIN := hid (HIN.out.below hw2); have hv2 := hr2.one; have hb2 : b2.oneCell' = true := (by obtain ⟨_, _, e, _⟩ := hsl2; rw [e]; rfl); have hh2 : h2.oneCell' = true := (by obtain ⟨_, _, e, _⟩ := hbo2; rw [e]; rfl); have HRL2 := hid (hr2.rl hm2); have HJ2 := hid hj2; have HSL2 := hid hsl2; have HOV2 := hid hov2; have HBO2 := hid hbo2; clear hr2 hj2 hm2 hsl2 hov2 hbo2 hw2)
    | (clear T1; (with_reducible refine wpList_allocX 31 _ zeroCh rfl rfl ?_); intro wA gA hzA hbA hgA; have HZA := hid hzA; have HBA := hid hbA; have HGA := hid hgA; clear hzA hbA hgA)
    | (clear T2; (with_reducible refine wpList_storeX 31 7 sizeCh rfl rfl _ _ rfl gA ?_ (D := eC CF s2 v2 b2 h2 CAN CVO) ?_ ?_ ?_ ?_ HZA.out ?_); exact rfl; exact rfl; exact rfl; exact rfl; exact eC_one _ _ hv2 hb2 hh2 _ _; intro w3 h3 o3; have hb3 := ownX HBA.out HGA.out o3; replace HW := hid (below_on HW.out hb3); replace HIN := hid (HIN.out.below hb3); replace HRL2 := hid (HRL2.out.below hb3); replace HSL2 := hid (HSL2.out.below hb3); replace HBO2 := hid (HBO2.out.below hb3); have HC3 := hid h3; have HW3 := hid hb3; clear h3 o3 hb3 HZA HBA HGA)
    | (go_at_call 7; refine (HRE.out _ HW.out).mono ?_; rintro e w4 ⟨s4, v4, b4, h4, m4, rfl, hr4, hj4, hm4, hsl4, -, hbo4, hw4⟩; replace HW := hid (below_on HW.out hw4); replace HIN := hid (HIN.out.below hw4); replace HRL2 := hid (HRL2.out.below hw4); replace HSL2 := hid (HSL2.out.below hw4); replace HBO2 := hid (HBO2.out.below hw4); replace HC3 := hid (HC3.out.below hw4); replace HW3 := hid (below_on HW3.out hw4); have hv4 := hr4.one; have hb4 : b4.oneCell' = true := (by obtain ⟨_, _, e, _⟩ := hsl4; rw [e]; rfl); have hh4 : h4.oneCell' = true := (by obtain ⟨_, _, e, _⟩ := hbo4; rw [e]; rfl); have HRL4 := hid (hr4.rl hm4); have hJ := HJ2.out.trans hj4.symm; have hs : s4 = s2 := (congrArg Jr.seq hJ).symm; have HRC : Hid (rcs m2 = rcs m4) := hid (congrArg Jr.recs hJ); subst hs; have HSL4 := hid hsl4; have HBO4 := hid hbo4; clear hr4 hj4 hm4 hsl4 hbo4 hw4 hJ)
    | ((with_reducible refine wpList_allocX 31 _ zeroCh rfl rfl ?_); intro wB gB hzB hbB hgB; have HZB := hid hzB; have HBB := hid hbB; have HGB := hid hgB; clear hzB hbB hgB)
    | ((with_reducible refine wpList_storeX 31 7 sizeCh rfl rfl _ _ rfl gB ?_ (D := eC CF s4 v4 b4 h4 CAN CVO) ?_ ?_ ?_ ?_ HZB.out ?_); exact rfl; exact rfl; exact rfl; exact rfl; exact eC_one _ _ hv4 hb4 hh4 _ _; intro w5 h5 o5; have hb5 := ownX HBB.out HGB.out o5; replace HW := hid (below_on HW.out hb5); replace HIN := hid (HIN.out.below hb5); replace HRL2 := hid (HRL2.out.below hb5); replace HSL2 := hid (HSL2.out.below hb5); replace HBO2 := hid (HBO2.out.below hb5); replace HC3 := hid (HC3.out.below hb5); replace HW3 := hid (below_on HW3.out hb5); replace HRL4 := hid (HRL4.out.below hb5); replace HSL4 := hid (HSL4.out.below hb5); replace HBO4 := hid (HBO4.out.below hb5); have HC5 := hid h5; clear h5 o5 hb5 HZB HBB HGB)
    | ((with_reducible refine wpList_load_at 31 _ rfl ?_ gA 0 ?_ (eC CF s4 v2 b2 h2 CAN CVO) _ ?_ underCh rfl ?_ ?_); exact rfl; exact rfl; exact HC3.out.whole; exact sizeCh)
    | ((with_reducible refine wpList_load_at 31 _ rfl ?_ gB 0 ?_ (eC CF s4 v4 b4 h4 CAN CVO) _ ?_ underCh rfl ?_ ?_); exact rfl; exact rfl; exact HC5.out.whole; exact sizeCh)
    | (go_at_call 8; refine (choices9_any CF s4 v2 v4 b2 b4 h2 h4 CAN CVO m2 m4 CB CHS _ HRL2.out HRL4.out HRC.out HSL2.out HSL4.out H8.out HBO2.out HBO4.out HS.out).mono ?_; rintro e w6 ⟨rfl, hb6⟩; replace HW := hid (below_on HW.out hb6); replace HIN := hid (HIN.out.below hb6); replace HBO2 := hid (HBO2.out.below hb6); replace HBO4 := hid (HBO4.out.below hb6); replace HC3 := hid (HC3.out.below hb6); replace HC5 := hid (HC5.out.below hb6); replace HW3 := hid (below_on HW3.out hb6); clear hb6 HRL2 HRL4 HSL2 HSL4 HRC)
    | (clear T3; go_at_call 9; refine (HB1.out _ v1 L HCE.out HIN.out _ _ _ _ _ _ HBO2.out).mono ?_; rintro e w7 ⟨x7, rfl, hbo7, hw7⟩; replace HW := hid (below_on HW.out hw7); replace HIN := hid (HIN.out.below hw7); replace HBO4 := hid (HBO4.out.below hw7); replace HC3 := hid (HC3.out.below hw7); replace HC5 := hid (HC5.out.below hw7); replace HW3 := hid (below_on HW3.out hw7); have HX7 := hid hbo7; clear hbo7 hw7)
    | (go_at_call 10; refine (HB0.out _ HW.out _ _ _ _ _ _ HBO4.out).mono ?_; rintro e w8 ⟨y8, rfl, hbo8, hw8⟩; replace HW := hid (below_on HW.out hw8); replace HIN := hid (HIN.out.below hw8); replace HX7 := hid (HX7.out.below hw8); replace HC3 := hid (HC3.out.below hw8); replace HW3 := hid (below_on HW3.out hw8); have HY8 := hid hbo8; have kB : w8.cell? ⟨gA, 3, none⟩ = some b2 := HC3.out.cell 3; clear hbo8 hw8)
    | (go_at_call 11; refine (over9_any (HOV2.out.below HW3.out) (Nat.le_trans HW2.out.size HW3.out.size)).mono ?_; rintro e w9 ⟨rfl, hb9, hk9⟩; have HI9 := hid (HIN0.out.keep fun a ha => World.cell?_of_block ((below_tr (below_on HW2.out HW3.out) hb9).block a.block (cell_lt' ha))); replace HX7 := hid (HX7.out.kbo hk9); replace HY8 := hid (HY8.out.kbo hk9); have hszw := HSZ1.out; replace HW := hid (below_tr HW.out (below_less hb9 hszw)); clear hb9 hk9 hszw kB)
    | (go_at_call 12; refine (sameT_any _ _ qs qs _ HQS.out HX7.out HY8.out).mono ?_; rintro e w10 ⟨rfl, hb10⟩; replace HW := hid (below_on HW.out hb10); replace HI9 := hid (HI9.out.below hb10); rw [decide_eq_true rfl]; clear hb10)
    | (go_at_call 13; refine (same9_any _ _ L l _ HI9.out (HL.out.below HW.out) HCE.out).mono ?_; rintro e w11 ⟨rfl, hb11⟩; replace HW := hid (below_on HW.out hb11); clear hb11)
    | (go_at_call 14; refine (HAW.out _ HW.out).mono ?_; rintro e w12 ⟨rfl, hb12⟩; replace HW := hid (below_on HW.out hb12); clear hb12))
  go_ret
  exact ⟨rfl, HW.out⟩
end Go.Proofs.YtelkijiphhoacaaGreatDoor
