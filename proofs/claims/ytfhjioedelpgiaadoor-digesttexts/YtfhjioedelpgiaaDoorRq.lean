/- Walk of DigestTexts within its bounds. -/
import Derived.Test.YtfhjioedelpgiaaDoorRp
import Derived.Deep.RegionHeld3
namespace Go.Proofs.YtfhjioedelpgiaaDoor
open Go Go.RowKit
set_option maxRecDepth 100000 in
set_option maxHeartbeats 4000000 in
theorem texts_near (p q : Option Addr) (n c m d : Nat) (A : Nat → Option Addr) (L C : Nat → Nat) (X : Nat → Nat → Nat) (S : Nat → ByteArray) (x : Nat → Nat) (s : ByteArray) (w : World) (hn : n ≤ 5000) (hm : m ≤ 100) (hs : s.size ≤ 1000) (hx : ∀ i, i < 32 → x i < 256) (hl : LsAt w p n A L C X) (ht : TxtAt w q m S) :
    Calls Tryd.prog 3 #[.slice p n c, .agg (aB 32 x), .string s, .slice q m d] w fun e w' => e = .returned (.bool true) ∧ Below w.heap.size w w' := by
  have hb0 : Below w.heap.size w (w.alloc (.cells (aB 32 x) 24)) := (Below.refl _ _).alloc (by omega) _
  have HB0 := hid hb0
  have HC0 := hid (CAt.new w (aB 32 x) 24)
  have HL0 := hid (hl.below hb0)
  have HT0 := hid (ht.below hb0)
  have HX := hid hx
  have HN := hid hn
  have HM0 := hid hm
  have HS := hid hs
  have n1 : ¬ (5000 : Int) < (n : Int) := by omega
  have n2 : ¬ (100 : Int) < (m : Int) := by omega
  have n3 : ¬ (1000 : Int) < (s.size : Int) := by omega
  obtain ⟨D, hD⟩ : ∃ D : Nat → Nat, D = ofF n L X := ⟨_, rfl⟩
  obtain ⟨E, hE⟩ : ∃ E : Int, E = ofE n := ⟨_, rfl⟩
  obtain ⟨R, hR⟩ : ∃ R : Nat → Nat, R = rdF s := ⟨_, rfl⟩
  obtain ⟨F, hF⟩ : ∃ F : Int, F = rdE s := ⟨_, rfl⟩
  obtain ⟨T, hT⟩ : ∃ T : ByteArray, T = tgS m S := ⟨_, rfl⟩
  obtain ⟨U, hU⟩ : ∃ U : Int, U = tgE m S := ⟨_, rfl⟩
  have HD := hid hD
  have HE := hid hE
  have HR := hid hR
  have HF := hid hF
  have HT := hid hT
  have HU := hid hU
  clear hD hE hR hF hT hU hb0 hl ht hx hs hn hm
  go_enter Tryd.func3, Tryd.ntmps3
  go_wp2
  generalize hw0 : (w.alloc (.cells (aB 32 x) 24)) = w0 at *
  clear hw0
  go_loopw [9] (fun i wr => ∃ k : Nat, k ≤ n ∧ i = .int .i64 k ∧ w0 = wr ∧ ∀ j, j < k → L j ≤ 400) (fun i _ => (n - intOf i).toNat)
  case atStart => exact ⟨0, by omega, rfl, rfl, fun j hj => by omega⟩
  case round =>
    obtain ⟨k, hk, rfl, rfl, hj⟩ := hrel
    by_cases hlt : k < n
    · have hlt' : (k : Int) < (n : Int) := by omega
      obtain ⟨b, o, rfl, hc, _⟩ := HL0.out.at k hlt
      by_cases h4 : 400 < L k
      · have h4' : (400 : Int) < (L k : Int) := by omega
        go_wp2
        go_ret
        exact ⟨rfl, HB0.out⟩
      · have h4' : ¬ (400 : Int) < (L k : Int) := by omega
        by_cases h5 : 100 < n
        · have h5' : (100 : Int) < (n : Int) := by omega
          by_cases h6 : 0 < L k
          · have h6' : (0 : Int) < (L k : Int) := by omega
            go_wp2
            go_ret
            exact ⟨rfl, HB0.out⟩
          · have h6' : ¬ (0 : Int) < (L k : Int) := by omega
            have HJ := hid hj
            have H4 := hid h4
            clear hj h4
            go_wp2
            go_roundw
            case rel => exact ⟨k + 1, by omega, by go_num, by first | rfl | trivial, fun j hj => by
              by_cases e : j = k
              · rw [e]; have := H4.out; omega
              · exact HJ.out j (by omega)⟩
            case measure => simp [intOf]; omega
        · have h5' : ¬ (100 : Int) < (n : Int) := by omega
          have HJ := hid hj
          have H4 := hid h4
          clear hj h4
          go_wp2
          go_roundw
          case rel => exact ⟨k + 1, by omega, by go_num, by first | rfl | trivial, fun j hj => by
            by_cases e : j = k
            · rw [e]; have := H4.out; omega
            · exact HJ.out j (by omega)⟩
          case measure => simp [intOf]; omega
    · have hge : ¬ (k : Int) < (n : Int) := by omega
      have HLn : Hid (∀ i, i < n → L i ≤ 400) := fun i hi => hj i (by omega)
      clear hj
      go_wp2
      go_loopw [10] (fun i wr => ∃ k : Nat, k ≤ m ∧ i = .int .i64 k ∧ w0 = wr ∧ ∀ j, j < k → (S j).size ≤ 100) (fun i _ => (m - intOf i).toNat)
      case atStart => exact ⟨0, by omega, rfl, rfl, fun j hj => by omega⟩
      case round =>
        obtain ⟨k2, hk2, rfl, rfl, hj⟩ := hrel
        by_cases hlt : k2 < m
        · have hlt' : (k2 : Int) < (m : Int) := by omega
          obtain ⟨b, o, rfl, hc⟩ := str_new HT0.out k2 hlt
          generalize hsz : S k2 = sk at *
          by_cases h4 : 100 < sk.size
          · have h4' : (100 : Int) < (sk.size : Int) := by omega
            go_wp2
            go_ret
            exact ⟨rfl, HB0.out⟩
          · have h4' : ¬ (100 : Int) < (sk.size : Int) := by omega
            have HJ := hid hj
            have H4 := hid h4
            have HSZ := hid hsz
            clear hj h4 hsz
            go_wp2
            go_roundw
            case rel => exact ⟨k2 + 1, by omega, by go_num, by first | rfl | trivial, fun j hj => by
              by_cases e : j = k2
              · rw [e, HSZ.out]; have := H4.out; omega
              · exact HJ.out j (by omega)⟩
            case measure => simp [intOf]; omega
        · have hge2 : ¬ (k2 : Int) < (m : Int) := by omega
          have HSm : Hid (∀ i, i < m → (S i).size ≤ 100) := fun i hi => hj i (by omega)
          clear hj
          go_wp2_with fail
          refine (lentLists_any p n c A L C X _ (by have := HN.out; omega) (fun i hi => by have := HLn.out i hi; omega) HL0.out).mono ?_
          rintro e w1 ⟨v, G, rfl, hll, hb1⟩
          obtain ⟨pv, cv, rfl, _⟩ := hll.slice (fun i hi => (HL0.out.at i hi).elim fun _ q => q.elim fun _ q => q.2.2.2.2.2)
          have HLL := hid hll
          have HB1 := hid hb1
          clear hll hb1
          go_wp2_with fail
          refine (lentTx_any q m d S _ (by have := HM0.out; omega) (HT0.out.below HB1.out)).mono ?_
          rintro e w2 ⟨rfl, hnew⟩
          have hb2 := hnew.below
          have HM : Hid (TM w w2 p q pv n m cv w1.heap.size w0.heap.size A L C G X S [(w.heap.size, aB 32 x)]) :=
            ⟨(HL0.out.below HB1.out).below hb2, (HT0.out.below HB1.out).below hb2, HLL.out.below hb2, hnew.at, fun gc hg => by
              rcases List.mem_cons.1 hg with rfl | hg
              · have h1 := HC0.out.below HB1.out HC0.out.lt
                exact h1.below hb2 h1.lt
              · exact absurd hg (by simp), (HB0.out.trans (HB1.out.mono HB0.out.size)).trans (hb2.mono (Nat.le_trans HB0.out.size HB1.out.size))⟩
          clear hb2 hnew HLL HB1 HC0 HL0 HT0 HB0
          generalize w1.heap.size = gt at *
          go_upto_region 15 with (first
            | (go_at_call 8; refine (of_any _ n _ _ L _ X _ (fun i hi => by have := HLn.out i hi; omega) HM.out.lent).mono ?_; rintro e w3 ⟨rfl, hb⟩; rw [← HD.out, ← HE.out]; have HM := hid (HM.out.on hb); clear hb)
            | refine wpList_alloc_row rfl 24 rfl _ zero32 ?_
            | refine wpList_store_row rfl 24 _ _ rfl _ _ rfl rfl _ _ (CAt.new _ _ _) (size32 _) (by simp only [aB_size]) (aB_one _ _) ?_)
          have HM := hid (HM.out.put (aB 32 D))
          generalize ((w3.alloc (.cells (aB 32 zB) 24)).setRow w3.heap.size (aB 32 D)) = w4 at *
          generalize w3.heap.size = ga at *
          go_upto_region 16 with (first
            | (go_at_call 9; refine (rof_any _ n _ _ L _ X _ (fun i hi => by have := HLn.out i hi; omega) HM.out.ls).mono ?_; rintro e w5 ⟨rfl, hb⟩; rw [← HD.out, ← HE.out]; have HM := hid (HM.out.on hb); clear hb)
            | refine wpList_alloc_row rfl 24 rfl _ zero32 ?_
            | refine wpList_store_row rfl 24 _ _ rfl _ _ rfl rfl _ _ (CAt.new _ _ _) (size32 _) (by simp only [aB_size]) (aB_one _ _) ?_)
          have HM := hid (HM.out.put (aB 32 D))
          generalize ((w5.alloc (.cells (aB 32 zB) 24)).setRow w5.heap.size (aB 32 D)) = w6 at *
          generalize w5.heap.size = gb at *
          go_upto_region 17 with (first
            | (go_at_call 10; refine (read_any s _).mono ?_; rintro e w7 ⟨rfl, hb⟩; rw [← HR.out, ← HF.out]; have HM := hid (HM.out.on hb); clear hb)
            | refine wpList_alloc_row rfl 24 rfl _ zero32 ?_
            | refine wpList_store_row rfl 24 _ _ rfl _ _ rfl rfl _ _ (CAt.new _ _ _) (size32 _) (by simp only [aB_size]) (aB_one _ _) ?_)
          have HM := hid (HM.out.put (aB 32 R))
          generalize ((w7.alloc (.cells (aB 32 zB) 24)).setRow w7.heap.size (aB 32 R)) = w8 at *
          generalize w7.heap.size = gp at *
          go_upto_region 18 with (first
            | (go_at_call 11; refine (rread_any s _ (by have := HS.out; omega)).mono ?_; rintro e w9 ⟨rfl, hb⟩; rw [← HR.out, ← HF.out]; have HM := hid (HM.out.on hb); clear hb)
            | refine wpList_alloc_row rfl 24 rfl _ zero32 ?_
            | refine wpList_store_row rfl 24 _ _ rfl _ _ rfl rfl _ _ (CAt.new _ _ _) (size32 _) (by simp only [aB_size]) (aB_one _ _) ?_)
          have HM := hid (HM.out.put (aB 32 R))
          generalize ((w9.alloc (.cells (aB 32 zB) 24)).setRow w9.heap.size (aB 32 R)) = w10 at *
          generalize w9.heap.size = gq at *
          go_upto_region 20 with (first
            | (go_at_call 12; refine (tags_any _ m _ S _ (by have := HM0.out; omega) HM.out.tm).mono ?_; rintro e w11 ⟨rfl, hb⟩; rw [← HT.out, ← HU.out]; have HM := hid (HM.out.on hb); clear hb)
            | (go_at_call 13; refine (rtags_any _ m _ S _ (by have := HM0.out; omega) (fun i hi => by have := HSm.out i hi; omega) HM.out.tx).mono ?_; rintro e w12 ⟨rfl, hb⟩; rw [← HT.out, ← HU.out]; have HM := hid (HM.out.on hb); clear hb))
          obtain ⟨h, hh⟩ : ∃ h : ByteArray, h = strN 64 (hexF x) := ⟨_, rfl⟩
          have Hh := hid hh
          clear hh
          obtain ⟨Cl, hCl⟩ : ∃ Cl : World → Prop, Cl = fun w' => TM w w' p q pv n m cv gt w0.heap.size A L C G X S [(gq, aB 32 R), (gp, aB 32 R), (gb, aB 32 D), (ga, aB 32 D), (w.heap.size, aB 32 x)] := ⟨_, rfl⟩
          have k1 : ∀ w', Cl w' → CAt w' ga (aB 32 D) 24 := fun w' hw => by rw [hCl] at hw; exact hw.dg (ga, aB 32 D) (by simp)
          have k2 : ∀ w', Cl w' → CAt w' gb (aB 32 D) 24 := fun w' hw => by rw [hCl] at hw; exact hw.dg (gb, aB 32 D) (by simp)
          have k3 : ∀ w', Cl w' → CAt w' gp (aB 32 R) 24 := fun w' hw => by rw [hCl] at hw; exact hw.dg (gp, aB 32 R) (by simp)
          have k4 : ∀ w', Cl w' → CAt w' gq (aB 32 R) 24 := fun w' hw => by rw [hCl] at hw; exact hw.dg (gq, aB 32 R) (by simp)
          have k5 : ∀ w', Cl w' → CAt w' w.heap.size (aB 32 x) 24 := fun w' hw => by rw [hCl] at hw; exact hw.dg (w.heap.size, aB 32 x) (by simp)
          have ko : ∀ w' w'', Cl w' → Below w'.heap.size w' w'' → Cl w'' := fun w' w'' hw hb => by rw [hCl] at hw ⊢; exact hw.on hb
          have kd : Cl w12.drew := by rw [hCl]; exact HM.out.on (Below.refl _ _).drew
          have K1 := hid k1
          have K2 := hid k2
          have K3 := hid k3
          have K4 := hid k4
          have K5 := hid k5
          have KO := hid ko
          have KD := hid kd
          have KC := hid hCl
          have e1 := fun w => run_eqDig D D w
          have e2 := fun w => run_eqDig R R w
          simp only [eqD_self] at e1 e2
          haveI : Nonempty (WC Cl) := ⟨⟨_, kd⟩⟩
          clear k1 k2 k3 k4 k5 ko kd hCl HM
          refine wp_region_class (C := Cl) (by kernel_rfl) (by kernel_rfl) KD.out ?_
          repeat (first
            | go_big_quiet_skip
            | (go_big_quiet_want; first
              | (refine quiet_load_class 24 _ rfl ga rfl _ _ _ K1.out Tryd.underlying24 rfl (size32 _) ?_; simp only [Act.put, List.setIfInBounds_toArray, List.set_cons_zero, List.set_cons_succ]; go_big_quiet_on)
              | (refine quiet_load_class 24 _ rfl gb rfl _ _ _ K2.out Tryd.underlying24 rfl (size32 _) ?_; simp only [Act.put, List.setIfInBounds_toArray, List.set_cons_zero, List.set_cons_succ]; go_big_quiet_on)
              | (refine quiet_load_class 24 _ rfl gp rfl _ _ _ K3.out Tryd.underlying24 rfl (size32 _) ?_; simp only [Act.put, List.setIfInBounds_toArray, List.set_cons_zero, List.set_cons_succ]; go_big_quiet_on)
              | (refine quiet_load_class 24 _ rfl gq rfl _ _ _ K4.out Tryd.underlying24 rfl (size32 _) ?_; simp only [Act.put, List.setIfInBounds_toArray, List.set_cons_zero, List.set_cons_succ]; go_big_quiet_on)
              | (refine quiet_load_class 24 _ rfl w.heap.size rfl _ _ _ K5.out Tryd.underlying24 rfl (size32 _) ?_; simp only [Act.put, List.setIfInBounds_toArray, List.set_cons_zero, List.set_cons_succ]; go_big_quiet_on)
              | (go_big_quiet_op; first | go_big_quiet_on | go_big_quiet_call (first | exact hexQ KO.out x HX.out h Hh.out _ | exact rhexQ KO.out x HX.out h Hh.out _))))
          refine wpQuiet_nil ?_
          rintro w13' ⟨⟨w13, hM⟩, hw13⟩
          have hw13' : w13' = w13 := hw13
          subst hw13'
          clear hw13
          rw [KC.out] at hM
          have HM := hid hM
          clear hM K1 K2 K3 K4 K5 KO KD KC e1 e2 this
          go_wp2_with (first
            | (go_at_call 16; refine (keptLists_any _ _ p n c G A L C X _ (by have := HN.out; omega) (fun i hi => by have := HLn.out i hi; omega) HM.out.ll HM.out.ls).mono ?_; rintro e w14 ⟨rfl, hb⟩; have HM := hid (HM.out.on hb); clear hb)
            | (go_at_call 17; refine (keptTx_any _ m d q S _ (by have := HM0.out; omega) HM.out.lt HM.out.tx).mono ?_; rintro e w15 ⟨rfl, hb⟩; have HM := hid (HM.out.on hb); clear hb)
            | (go_at_call 18; refine (awake_any _).mono ?_; rintro e w16 ⟨rfl, hb⟩; have HM := hid (HM.out.on hb); clear hb))
          go_ret
          exact ⟨rfl, HM.out.be⟩
end Go.Proofs.YtfhjioedelpgiaaDoor
