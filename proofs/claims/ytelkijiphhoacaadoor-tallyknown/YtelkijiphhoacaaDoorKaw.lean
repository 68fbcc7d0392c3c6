/- Texts laid into one, cut to what is needed: the remark ahead of each part says what is proved there. -/
import Derived.Test.YtelkijiphhoacaaDoorKav
import Derived.Test.YtelkijiphhoacaaDoorKan
import Derived.Test.YtelkijiphhoacaaDoorRows
import Derived.Stop.LaidTwo
import Derived.MakeChecks
/- TallyKnown: the walk. -/
namespace Go.Proofs.YtelkijiphhoacaaDoor
open Go Go.RowKit

set_option maxRecDepth 100000 in
set_option maxHeartbeats 8000000 in
theorem known9_any (a0 a1 : Addr) (w : World) (he : Ers w a0 a1) : Calls Tryd.prog 5 #[] w fun e w' => e = .returned (.bool true) ∧ Below w.heap.size w w' := by
  have HO1 := hid (fun W => of9_any 1 W ok1)
  unfold OfS at HO1
  rw [show jB dig ⟨1, []⟩ = jA from rfl, lenA] at HO1
  have HAW := hid (fun W (hW : Below w.heap.size w W) => awake9_any a0 a1 W (he.below hW))
  have HCA : Hid (∀ (B : Nat) (W : World) p c, Buf B W (.slice p 37 c) jA → CvOk W ⟨0, .slice p 37 c, jA⟩) := hid (fun B W p c h => h.cv lenA.symm (by rw [lenA]; omega) byteA 0)
  have HCT : Hid (∀ (B : Nat) (W : World) p c, Buf B W (.slice p 37 c) jT → CvOk W ⟨0, .slice p 37 c, jT⟩) := hid (fun B W p c h => h.cv lenT.symm (by rw [lenT]; omega) byteT 0)
  have HSET : Hid (∀ (B : Nat) (W : World) p c, Buf B W (.slice p 37 c) jA → ∃ g cur, p = some ⟨g, 0, none⟩ ∧ B ≤ g ∧ CAt W g cur 5 ∧ W.cell? ⟨g, 4, none⟩ = some (.int .u8 0) ∧ W.frozen? ⟨g, 4, none⟩ = false ∧ Buf B (W.setCell ⟨g, 4, none⟩ (.int .u8 1)) (.slice p 37 c) jT) := hid (fun B W p c h => by
    obtain ⟨g, cur, h1, h2, h6, h3, h4, h5⟩ := h.set9 (i := 4) (by rw [lenA]; omega) 1
    rw [at4] at h3
    exact ⟨g, cur, h1, h2, h6, h3, h4, h5⟩)
  have HE1 := hid el_k1
  have HE2 := hid el_k2
  have HE3 := hid el_k3
  have HE4 := hid el_k4
  have HK1 := hid be_k1
  have HK2 := hid be_k2
  have HLT := hid (show jA.length = 37 from lenA)
  generalize jT = LT at *
  generalize jA = LA at *
  have HEL1 : Hid (∀ W p1 c1 p2 c2 g, Below w.heap.size w W → CL W (.slice (some ⟨g, 0, none⟩) 3 3) [⟨0, .slice p1 37 c1, LA⟩, ⟨12, .slice none 0 0, []⟩, ⟨0, .slice p2 37 c2, LA⟩] → Calls Tryd.prog 12 #[.slice (some ⟨g, 0, none⟩) 3 3, i64 2] W (ElS OvB W (0, ⟨true, ⟨1, []⟩, LA, [true, false, true], 2, 2⟩))) := hid (fun W p1 c1 p2 c2 g hW h => by
    have := elect_any _ _ 2 W a0 a1 (he.below hW) h
    rw [show cps [⟨0, .slice p1 37 c1, LA⟩, ⟨12, .slice none 0 0, []⟩, ⟨0, .slice p2 37 c2, LA⟩] = [⟨0, LA⟩, ⟨12, []⟩, ⟨0, LA⟩] from rfl, HE1.out] at this
    exact this)
  have HEL2 : Hid (∀ W g, Below w.heap.size w W → CL W (.slice (some ⟨g, 0, none⟩) 3 3) [⟨6, .slice none 0 0, []⟩, ⟨6, .slice none 0 0, []⟩, ⟨6, .slice none 0 0, []⟩] → Calls Tryd.prog 12 #[.slice (some ⟨g, 0, none⟩) 3 3, i64 2] W (ElS OvB W (0, ⟨false, ⟨0, []⟩, [], [false, false, false], 3, 0⟩))) := hid (fun W g hW h => by
    have := elect_any _ _ 2 W a0 a1 (he.below hW) h
    rw [show cps [⟨6, .slice none 0 0, []⟩, ⟨6, .slice none 0 0, []⟩, ⟨6, .slice none 0 0, []⟩] = [⟨6, []⟩, ⟨6, []⟩, ⟨6, []⟩] from rfl, HE2.out] at this
    exact this)
  have HEL3 : Hid (∀ W p1 c1 p2 c2 g, Below w.heap.size w W → CL W (.slice (some ⟨g, 0, none⟩) 3 3) [⟨0, .slice p1 37 c1, LT⟩, ⟨0, .slice p2 37 c2, LA⟩, ⟨6, .slice none 0 0, []⟩] → Calls Tryd.prog 12 #[.slice (some ⟨g, 0, none⟩) 3 3, i64 1] W (ElS OvB W (0, ⟨true, ⟨1, []⟩, LA, [false, true, false], 3, 1⟩))) := hid (fun W p1 c1 p2 c2 g hW h => by
    have := elect_any _ _ 1 W a0 a1 (he.below hW) h
    rw [show cps [⟨0, .slice p1 37 c1, LT⟩, ⟨0, .slice p2 37 c2, LA⟩, ⟨6, .slice none 0 0, []⟩] = [⟨0, LT⟩, ⟨0, LA⟩, ⟨6, []⟩] from rfl, HE3.out] at this
    exact this)
  have HEL4 : Hid (∀ W p1 c1 p2 c2 g, Below w.heap.size w W → CL W (.slice (some ⟨g, 0, none⟩) 3 3) [⟨0, .slice p1 37 c1, LT⟩, ⟨0, .slice p2 37 c2, LA⟩, ⟨6, .slice none 0 0, []⟩] → Calls Tryd.prog 12 #[.slice (some ⟨g, 0, none⟩) 3 3, i64 4] W (ElS OvB W (2, chZ))) := hid (fun W p1 c1 p2 c2 g hW h => by
    have := elect_any _ _ 4 W a0 a1 (he.below hW) h
    rw [show cps [⟨0, .slice p1 37 c1, LT⟩, ⟨0, .slice p2 37 c2, LA⟩, ⟨6, .slice none 0 0, []⟩] = [⟨0, LT⟩, ⟨0, LA⟩, ⟨6, []⟩] from rfl, HE4.out] at this
    exact this)
  have HBE1 : Hid (∀ W p1 c1 p2 c2 g s v b h n1 n2, CL W (.slice (some ⟨g, 0, none⟩) 3 3) [⟨0, .slice p1 37 c1, LT⟩, ⟨0, .slice p2 37 c2, LA⟩, ⟨6, .slice none 0 0, []⟩] → BoL W h [false, true, false] → Calls Tryd.prog 15 #[.slice (some ⟨g, 0, none⟩) 3 3, .agg (eC true s v b h n1 n2)] W (BeS W (0, [true, false, true]))) := hid (fun W p1 c1 p2 c2 g s v b h n1 n2 hl hh => by
    have := behind_any _ _ true s v b h n1 n2 _ W hl hh (by simp)
    rw [show cps [⟨0, .slice p1 37 c1, LT⟩, ⟨0, .slice p2 37 c2, LA⟩, ⟨6, .slice none 0 0, []⟩] = [⟨0, LT⟩, ⟨0, LA⟩, ⟨6, []⟩] from rfl, HK1.out] at this
    exact this)
  have HBE2 : Hid (∀ W p1 c1 p2 c2 g, CL W (.slice (some ⟨g, 0, none⟩) 3 3) [⟨0, .slice p1 37 c1, LT⟩, ⟨0, .slice p2 37 c2, LA⟩, ⟨6, .slice none 0 0, []⟩] → Calls Tryd.prog 15 #[.slice (some ⟨g, 0, none⟩) 3 3, .agg (eC false 0 nilS nilS nilS 0 0)] W (BeS W (2, []))) := hid (fun W p1 c1 p2 c2 g hl => by
    have := behind_any _ _ false 0 nilS nilS nilS 0 0 _ W hl (BoL.nil _) (by simp)
    rw [show cps [⟨0, .slice p1 37 c1, LT⟩, ⟨0, .slice p2 37 c2, LA⟩, ⟨6, .slice none 0 0, []⟩] = [⟨0, LT⟩, ⟨0, LA⟩, ⟨6, []⟩] from rfl, HK2.out] at this
    exact this)
  have HF : Hid (Kn9 w [] [] w) := hid ⟨Below.refl _ _, (fun q hq => by cases hq), (fun q hq => by cases hq)⟩
  clear he HE1 HE2 HE3 HE4 HK1 HK2 HLT
  have hbo := run_bo3
  have T1 : Hid True := hid trivial
  have T2 : Hid True := hid trivial
  have T3 : Hid True := hid trivial
  have T4 : Hid True := hid trivial
  have T5 : Hid True := hid trivial
  have T6 : Hid True := hid trivial
  have T7 : Hid True := hid trivial
  have T8 : Hid True := hid trivial
  have T9 : Hid True := hid trivial
  have T10 : Hid True := hid trivial
  have T11 : Hid True := hid trivial
  have T12 : Hid True := hid trivial
  have T13 : Hid True := hid trivial
  go_enter Tryd.func5, Tryd.ntmps5
  go_upto_region 7 with (first
    | (clear T1; (with_reducible refine wpList_build_want 36 _ rfl ?_ (cC 6 (.slice none 0 0)) ?_ ?_); exact rfl; exact builtC0 _)
    | (clear T2; (with_reducible refine wpList_allocX 36 _ zeroCp rfl rfl ?_); intro wA gN hzA hbA hgA; have HZA := hid hzA; have HBA := hid hbA; have HGA := hid hgA; clear hzA hbA hgA)
    | (clear T3; (with_reducible refine wpList_storeX 36 2 sizeCp rfl rfl _ _ rfl gN ?_ (D := cC 6 (.slice none 0 0)) ?_ ?_ ?_ ?_ HZA.out ?_); exact rfl; exact rfl; exact rfl; exact rfl; exact cC_one _ _ _ _; intro wB hB oB; have hbB := ownX HBA.out HGA.out oB; replace HF := hid ((HF.out.on hbB).addC hB); clear hB oB hbB HZA HBA HGA)
    | (clear T4; go_at_call 18; refine (HO1.out _).mono ?_; rintro e w1 ⟨p1, c1, rfl, hb1, -, hw1⟩; replace HF := hid (HF.out.on hw1); have HB1 := hid hb1; clear hb1 hw1)
    | ((with_reducible refine wpList_build_want 36 _ rfl ?_ (cC 12 (.slice none 0 0)) ?_ ?_); exact rfl; exact builtC0 _)
    | (clear T5; go_at_call 18; refine (HO1.out _).mono ?_; rintro e w2 ⟨p2, c2, rfl, hb2, -, hw2⟩; replace HF := hid (HF.out.on hw2); replace HB1 := hid (HB1.out.below hw2); have HB2 := hid hb2; clear hb2 hw2)
    | (clear T6; (with_reducible refine wpList_build3 rfl _ _ _ rfl ⟨0, .slice p1 37 c1, LA⟩ ⟨12, .slice none 0 0, []⟩ ⟨0, .slice p2 37 c2, LA⟩ ?_ ?_ ?_ ?_); exact rfl; exact rfl; exact rfl; intro w3 g3 hc3 hw3 hg3; replace HF := hid (HF.out.on hw3); have HCL := hid (CL.three hc3 (HCA.out _ _ _ _ (HB1.out.below hw3)) (CvOk.err _ _) (HCA.out _ _ _ _ (HB2.out.below hw3))); clear hc3 hw3 hg3 HB1 HB2)
    | (clear T7; go_at_call 12; refine (HEL1.out _ _ _ _ _ g3 HF.out.below HCL.out).mono ?_; rintro e w4 ⟨sw4, vw4, bw4, hw4, mw4, rfl, hr, hj, -, hsl, -, hbo5, hw⟩; replace HF := hid (HF.out.on hw); have hvw4 := hr.one; have hbw4 : bw4.oneCell' = true := (by obtain ⟨_, _, e, _⟩ := hsl; rw [e]; rfl); obtain ⟨phw4, nhw4, chw4, hhf, -⟩ := hbo5.form; replace HF := hid (HF.out.addB hbo5); have hs : sw4 = 1 := congrArg Jr.seq hj; subst hs; clear hr hj hsl hw hbo5; subst hhf)
    | ((with_reducible refine wpList_allocX 40 _ zeroCh rfl rfl ?_); intro wC gC hzC hbC hgC; have HZC := hid hzC; have HBC := hid hbC; have HGC := hid hgC; clear hzC hbC hgC)
    | (clear T8; (with_reducible refine wpList_storeX 40 7 sizeCh rfl rfl _ _ rfl gC ?_ (D := eC true 1 vw4 bw4 (.slice phw4 nhw4 chw4) 2 2) ?_ ?_ ?_ ?_ HZC.out ?_); exact rfl; exact rfl; exact rfl; exact rfl; exact eC_one _ _ hvw4 hbw4 rfl _ _; intro wD hD oD; have hbD := ownX HBC.out HGC.out oD; replace HF := hid ((HF.out.on hbD).addC hD); obtain ⟨ga, hgk⟩ : ∃ g, g = gC := ⟨_, rfl⟩; rw [← hgk] at HF ⊢; clear hD oD hbD HZC HBC HGC hgk)
    | ((with_reducible refine wpList_load_at 36 _ rfl ?_ gN 0 ?_ (cC 6 (.slice none 0 0)) _ ?_ underCp rfl ?_ ?_); exact rfl; exact rfl; exact (HF.out.cc (gN, cC 6 (.slice none 0 0), 36) (by simp)).whole; exact sizeCp)
    | (clear T9; (with_reducible refine wpList_build3 rfl _ _ _ rfl ⟨6, .slice none 0 0, []⟩ ⟨6, .slice none 0 0, []⟩ ⟨6, .slice none 0 0, []⟩ ?_ ?_ ?_ ?_); exact rfl; exact rfl; exact rfl; intro w5 g5 hc5 hw5 hg5; replace HF := hid (HF.out.on hw5); have HCL := hid (CL.three hc5 (CvOk.err _ _) (CvOk.err _ _) (CvOk.err _ _)); clear hc5 hw5 hg5)
    | (clear T10; go_at_call 12; refine (HEL2.out _ g5 HF.out.below HCL.out).mono ?_; rintro e w6 ⟨sw6, vw6, bw6, hw6, mw6, rfl, hr, hj, -, hsl, -, hbo5, hw⟩; replace HF := hid (HF.out.on hw); have hvw6 := hr.one; have hbw6 : bw6.oneCell' = true := (by obtain ⟨_, _, e, _⟩ := hsl; rw [e]; rfl); obtain ⟨phw6, nhw6, chw6, hhf, -⟩ := hbo5.form; replace HF := hid (HF.out.addB hbo5); have hs : sw6 = 0 := congrArg Jr.seq hj; subst hs; clear hr hj hsl hw hbo5; subst hhf)
    | (clear T11; (with_reducible refine wpList_storeX 40 7 sizeCh rfl rfl _ _ rfl gC ?_ (D := eC false 0 vw6 bw6 (.slice phw6 nhw6 chw6) 3 0) ?_ ?_ ?_ ?_ HZC.out ?_); exact rfl; exact rfl; exact rfl; exact rfl; exact eC_one _ _ hvw6 hbw6 rfl _ _; intro wD hD oD; have hbD := ownX HBC.out HGC.out oD; replace HF := hid ((HF.out.on hbD).addC hD); obtain ⟨gb, hgk⟩ : ∃ g, g = gC := ⟨_, rfl⟩; rw [← hgk] at HF ⊢; clear hD oD hbD HZC HBC HGC hgk)
    | (clear T12; go_at_call 18; refine (HO1.out _).mono ?_; rintro e w7 ⟨p7, c7, rfl, hb7, hcp7, hw7⟩; have HSZ := hid HF.out.below.size; replace HF := hid (HF.out.on hw7); have HB7 := hid hb7; clear hb7 hw7)
    | (clear T13; (with_reducible refine wpList_allocX 36 _ zeroCp rfl rfl ?_); intro wA g6 hzA hbA hgA; have HZA := hid hzA; have HBA := hid hbA; have HGA := hid hgA; clear hzA hbA hgA)
    | ((with_reducible refine wpList_storeX 36 2 sizeCp rfl rfl _ _ rfl g6 ?_ (D := cC 0 (.slice p7 37 c7)) ?_ ?_ ?_ ?_ HZA.out ?_); exact rfl; exact rfl; exact rfl; exact rfl; exact cC_one _ _ _ _; intro wB hB oB; have hbB := ownX HBA.out HGA.out oB; replace HF := hid ((HF.out.on hbB).addC hB); replace HB7 := hid (HB7.out.below hbB); have k1 : wB.cell? ⟨g6, 1, none⟩ = some (.slice p7 37 c7) := hB.c1; clear hB oB hbB HZA HBA HGA))
  replace HF := hid (HF.out.on (below_drew wB))
  replace HB7 := hid (HB7.out.below (below_drew wB))
  obtain ⟨gq, cur, hgq, hgB, hcur, cb4, fb4, hset⟩ := HSET.out _ _ _ _ HB7.out
  subst hgq
  have HK1 : Hid (wB.drew.cell? ⟨g6, 1, none⟩ = some (.slice (some ⟨gq, 0, none⟩) 37 c7)) := hid k1
  have HF2 := hid (HF.out.setU (by intro q hq; simp only [List.mem_cons, List.not_mem_nil, or_false] at hq; rcases hq with rfl | rfl | rfl | rfl <;> (first | exact (show (36 : Nat) ≠ 5 by decide) | exact (show (40 : Nat) ≠ 5 by decide))) hcur cb4 (Nat.le_trans HSZ.out hgB) (.int .u8 1))
  have HB9 := hid hset
  have HK2 := hid ((HF2.out.cc (g6, cC 0 (.slice (some ⟨gq, 0, none⟩) 37 c7), 36) (by simp)).c1)
  have hx4 : ∀ W, (binOp .xor 5 (.int .u8 0) (.int .u8 1)).run Tryd.prog W = .ok (.int .u8 1) W := fun W => by kernel_rfl
  refine wp_region_held_drew (S := (fun W => W.cell? ⟨g6, 1, none⟩ = some (.slice (some ⟨gq, 0, none⟩) 37 c7))) (by kernel_rfl) HK1.out (fun hHeld => ?_)
  clear k1 hset hcur HB7 HF
  generalize wB.drew = wE at *
  refine wpAnyH_take (i := 0) (oi := ⟨some 38, .fieldAddr 36 (.tmp 6) 1, _, _, _, none⟩) (v := .pointer (some ⟨g6, 1, none⟩)) rfl (by kernel_rfl) (by kernel_rfl) (by kernel_rfl) (fun _ _ _ h => h) (Or.inl ⟨by kernel_rfl, by intro W hW; have q0 := hW; go_simp⟩) hHeld ?_
  refine wpAnyH_take (i := 1) (oi := ⟨some 39, .load 29 (.tmp 38), _, _, _, none⟩) (v := (.slice (some ⟨gq, 0, none⟩) 37 c7)) rfl (by kernel_rfl) (by kernel_rfl) (by kernel_rfl) (fun _ _ _ h => h) (Or.inl ⟨by kernel_rfl, by intro W hW; have q0 := hW; go_simp⟩) hHeld ?_
  refine wpAnyH_take (i := 2) (oi := ⟨some 40, .fieldAddr 36 (.tmp 6) 1, _, _, _, none⟩) (v := .pointer (some ⟨g6, 1, none⟩)) rfl (by kernel_rfl) (by kernel_rfl) (by kernel_rfl) (fun _ _ _ h => h) (Or.inl ⟨by kernel_rfl, by intro W hW; have q0 := hW; go_simp⟩) hHeld ?_
  refine wpAnyH_take (i := 3) (oi := ⟨some 41, .load 29 (.tmp 40), _, _, _, none⟩) (v := (.slice (some ⟨gq, 0, none⟩) 37 c7)) rfl (by kernel_rfl) (by kernel_rfl) (by kernel_rfl) (fun _ _ _ h => h) (Or.inl ⟨by kernel_rfl, by intro W hW; have q0 := hW; go_simp⟩) hHeld ?_
  refine wpAnyH_take (i := 4) (oi := ⟨some 42, .indexAddr 29 (.tmp 41) (.const (.int .i64 4)), _, _, _, none⟩) (v := .pointer (some ⟨gq, 4, none⟩)) rfl (by kernel_rfl) (by kernel_rfl) (by kernel_rfl) (fun _ _ _ h => h) (Or.inl ⟨by kernel_rfl, by intro W hW; have q0 := hW; go_simp⟩) hHeld ?_
  refine wpAnyH_ready (rs := [5]) (by kernel_rfl) (by simp) ?_
  refine AllReadyH.cons rfl (fun K hK => ?_) AllReadyH.nil
  go_simp
  refine hK.out _ _ HK1.out (fun hHeld => ?_)
  clear hK K
  refine wpAnyH_take (i := 6) (oi := ⟨some 44, .binOp .xor 5 (.tmp 43) (.const (.int .u8 1)) 5, _, _, _, none⟩) (v := .int .u8 1) rfl (by kernel_rfl) (by kernel_rfl) (by kernel_rfl) (fun _ _ _ h => h) (Or.inl ⟨by kernel_rfl, by intro W hW; kernel_rfl⟩) hHeld ?_
  refine wpAnyH_take (i := 7) (oi := ⟨some 45, .indexAddr 29 (.tmp 39) (.const (.int .i64 4)), _, _, _, none⟩) (v := .pointer (some ⟨gq, 4, none⟩)) rfl (by kernel_rfl) (by kernel_rfl) (by kernel_rfl) (fun _ _ _ h => h) (Or.inl ⟨by kernel_rfl, by intro W hW; have q0 := hW; go_simp⟩) hHeld ?_
  refine wpAnyH_ready (rs := [8]) (by kernel_rfl) (by simp) ?_
  refine AllReadyH.cons rfl (fun K hK => ?_) AllReadyH.nil
  go_simp
  refine hK.out _ _ HK2.out (fun hHeld => ?_)
  clear hK K
  refine wpAnyH_done (by kernel_rfl) ?_ _
  (try simp only [Act.put, List.setIfInBounds_toArray, List.set_cons_zero, List.set_cons_succ])
  clear hHeld HK1 HK2 cb4 fb4 hx4
  generalize wE.setCell ⟨gq, 4, none⟩ (.int .u8 1) = wG at *
  go_wp2_with fail
  have HSF : Hid (∀ bs W, Kn9 w [(g6, cC 0 (.slice (some ⟨gq, 0, none⟩) 37 c7), 36), (gb, eC false 0 vw6 bw6 (.slice phw6 nhw6 chw6) 3 0, 40), (ga, eC true 1 vw4 bw4 (.slice phw4 nhw4 chw4) 2 2, 40), (gN, cC 6 (.slice none 0 0), 36)] bs W → (Instr.loadAt 36 (.pointer (some ⟨g6, 0, none⟩))).run Tryd.prog W = .ok (.agg (cC 0 (.slice (some ⟨gq, 0, none⟩) 37 c7))) W ∧ (Instr.loadAt 36 (.pointer (some ⟨gN, 0, none⟩))).run Tryd.prog W = .ok (.agg (cC 6 (.slice none 0 0))) W) := hid (fun bs W (h : Kn9 w [(g6, cC 0 (.slice (some ⟨gq, 0, none⟩) 37 c7), 36), (gb, eC false 0 vw6 bw6 (.slice phw6 nhw6 chw6) 3 0, 40), (ga, eC true 1 vw4 bw4 (.slice phw4 nhw4 chw4) 2 2, 40), (gN, cC 6 (.slice none 0 0), 36)] bs W) => ⟨load_cp (h.cc (g6, cC 0 (.slice (some ⟨gq, 0, none⟩) 37 c7), 36) (by simp)), load_cp (h.cc (gN, cC 6 (.slice none 0 0), 36) (by simp))⟩)
  replace HF2 := hid (HF2.out.on (below_drew wG))
  replace HB9 := hid (HB9.out.below (below_drew wG))
  refine wp_region_held_drew (S := (fun W => (Instr.loadAt 36 (.pointer (some ⟨g6, 0, none⟩))).run Tryd.prog W = .ok (.agg (cC 0 (.slice (some ⟨gq, 0, none⟩) 37 c7))) W ∧ (Instr.loadAt 36 (.pointer (some ⟨gN, 0, none⟩))).run Tryd.prog W = .ok (.agg (cC 6 (.slice none 0 0))) W)) (by kernel_rfl) (HSF.out _ _ HF2.out) (fun hHeld => ?_)
  generalize wG.drew = wH at *
  refine wpAnyH_take (i := 0) (oi := ⟨some 46, .load 36 (.tmp 6), _, _, _, none⟩) (v := .agg (cC 0 (.slice (some ⟨gq, 0, none⟩) 37 c7))) rfl (by kernel_rfl) (by kernel_rfl) (by kernel_rfl) (fun _ _ _ h => h) (Or.inl ⟨by kernel_rfl, fun W hW => exec_load rfl (by kernel_rfl) hW.1⟩) hHeld ?_
  refine wpAnyH_take (i := 2) (oi := ⟨some 48, .load 36 (.tmp 1), _, _, _, none⟩) (v := .agg (cC 6 (.slice none 0 0))) rfl (by kernel_rfl) (by kernel_rfl) (by kernel_rfl) (fun _ _ _ h => h) (Or.inl ⟨by kernel_rfl, fun W hW => exec_load rfl (by kernel_rfl) hW.2⟩) hHeld ?_
  refine wpAnyH_ready (rs := [1]) (by kernel_rfl) (by simp) ?_
  refine AllReadyH.cons rfl (fun K hK => ?_) AllReadyH.nil
  go_simp
  refine (HO1.out _).mono ?_
  rintro e w8 ⟨p8, c8, rfl, hb8, -, hw8⟩
  replace HF2 := hid (HF2.out.on hw8)
  replace HB9 := hid (HB9.out.below hw8)
  have HB8 := hid hb8
  clear hb8 hw8
  go_wp2_with fail
  refine hK.out _ _ (HSF.out _ _ HF2.out) (fun hHeld => ?_)
  clear hK K
  refine wpAnyH_ready (rs := [3]) (by kernel_rfl) (by simp) ?_
  refine AllReadyH.cons (o := ⟨some 49, .buildSlice 25 3 #[(0, .tmp 46), (1, .tmp 47), (2, .tmp 48)], _, _, _, none⟩) rfl (fun K hK => ?_) AllReadyH.nil
  with_reducible refine step_run_val ?_ (.slice (some ⟨w8.heap.size, 0, none⟩) 3 3) (w8.alloc (.cells (c3C ⟨0, (.slice (some ⟨gq, 0, none⟩) 37 c7), LT⟩ ⟨0, .slice p8 37 c8, LA⟩ ⟨6, .slice none 0 0, []⟩) 36)) ?_ ?_
  · exact rfl
  · exact exec_build3 (x := ⟨0, (.slice (some ⟨gq, 0, none⟩) 37 c7), LT⟩) (y := ⟨0, .slice p8 37 c8, LA⟩) (z := ⟨6, .slice none 0 0, []⟩) rfl (by kernel_rfl) (by kernel_rfl) (by kernel_rfl)
  have hA := CAt.made w8 (c3C ⟨0, (.slice (some ⟨gq, 0, none⟩) 37 c7), LT⟩ ⟨0, .slice p8 37 c8, LA⟩ ⟨6, .slice none 0 0, []⟩) 36
  have hB := below_al w8 (.cells (c3C ⟨0, (.slice (some ⟨gq, 0, none⟩) 37 c7), LT⟩ ⟨0, .slice p8 37 c8, LA⟩ ⟨6, .slice none 0 0, []⟩) 36)
  have HCL := hid (CL.three hA (HCT.out _ _ _ _ (HB9.out.below hB)) (HCA.out _ _ _ _ (HB8.out.below hB)) (CvOk.err _ _))
  have HF := hid (HF2.out.on hB)
  generalize w8.alloc (.cells (c3C ⟨0, (.slice (some ⟨gq, 0, none⟩) 37 c7), LT⟩ ⟨0, .slice p8 37 c8, LA⟩ ⟨6, .slice none 0 0, []⟩) 36) = w9 at HCL HF ⊢
  generalize w8.heap.size = g9 at HCL ⊢
  refine hK.out _ _ (HSF.out _ _ HF.out) (fun hHeld => ?_)
  clear hK K hA hB HF2 HB8 HB9
  refine wpAnyH_take (i := 4) (oi := ⟨some 7, .assign (.tmp 49), _, _, _, none⟩) (v := .slice (some ⟨g9, 0, none⟩) 3 3) rfl (by kernel_rfl) (by kernel_rfl) (by kernel_rfl) (fun _ _ _ h => h) (Or.inl ⟨by kernel_rfl, by intro W hW; go_simp⟩) hHeld ?_
  refine wpAnyH_done (by kernel_rfl) ?_ _
  (try simp only [Act.put, List.setIfInBounds_toArray, List.set_cons_zero, List.set_cons_succ])
  clear hHeld HSF
  have T1 : Hid True := hid trivial
  have T2 : Hid True := hid trivial
  have T3 : Hid True := hid trivial
  have T4 : Hid True := hid trivial
  have T5 : Hid True := hid trivial
  have T6 : Hid True := hid trivial
  have T7 : Hid True := hid trivial
  have T8 : Hid True := hid trivial
  go_wp2_with (first
    | (clear T1; go_at_call 12; refine (HEL3.out _ _ _ _ _ g9 HF.out.below HCL.out).mono ?_; rintro e w10 ⟨sw10, vw10, bw10, hw10, mw10, rfl, hr, hj, -, hsl, -, hbo5, hw⟩; replace HF := hid (HF.out.on hw); replace HCL := hid (HCL.out.below hw); have hvw10 := hr.one; have hbw10 : bw10.oneCell' = true := (by obtain ⟨_, _, e, _⟩ := hsl; rw [e]; rfl); obtain ⟨phw10, nhw10, chw10, hhf, -⟩ := hbo5.form; replace HF := hid (HF.out.addB hbo5); have HHw10 := hid hbo5; have hs : sw10 = 1 := congrArg Jr.seq hj; subst hs; clear hr hj hsl hw hbo5; subst hhf)
    | ((with_reducible refine wpList_allocX 40 _ zeroCh rfl rfl ?_); intro wC gC hzC hbC hgC; have HZC := hid hzC; have HBC := hid hbC; have HGC := hid hgC; clear hzC hbC hgC)
    | (clear T2; (with_reducible refine wpList_storeX 40 7 sizeCh rfl rfl _ _ rfl gC ?_ (D := eC true 1 vw10 bw10 (.slice phw10 nhw10 chw10) 3 1) ?_ ?_ ?_ ?_ HZC.out ?_); exact rfl; exact rfl; exact rfl; exact rfl; exact eC_one _ _ hvw10 hbw10 rfl _ _; intro wD hD oD; have hbD := ownX HBC.out HGC.out oD; replace HF := hid ((HF.out.on hbD).addC hD); replace HCL := hid (HCL.out.below hbD); obtain ⟨gc, hgk⟩ : ∃ g, g = gC := ⟨_, rfl⟩; rw [← hgk] at HF ⊢; clear hD oD hbD HZC HBC HGC hgk)
    | (clear T3; (with_reducible refine wpList_load_at 40 _ rfl ?_ gc 0 ?_ (eC true 1 vw10 bw10 (.slice phw10 nhw10 chw10) 3 1) _ ?_ underCh rfl ?_ ?_); exact rfl; exact rfl; exact (HF.out.cc (gc, eC true 1 vw10 bw10 (.slice phw10 nhw10 chw10) 3 1, 40) (by simp)).whole; exact sizeCh)
    | (clear T4; go_at_call 15; refine (HBE1.out _ _ _ _ _ g9 _ _ _ _ _ _ HCL.out (HF.out.bb (.slice phw10 nhw10 chw10, [false, true, false]) (by simp))).mono ?_; rintro e w11 ⟨bv11, rfl, hbo5, hw⟩; replace HF := hid (HF.out.on hw); replace HCL := hid (HCL.out.below hw); obtain ⟨pb, nb, cb, hhf, -⟩ := hbo5.form; replace HF := hid (HF.out.addB hbo5); clear hw hbo5; subst hhf)
    | (clear T5; go_at_call 12; refine (HEL4.out _ _ _ _ _ g9 HF.out.below HCL.out).mono ?_; rintro e w12 ⟨sw12, vw12, bw12, hw12, mw12, rfl, hr, hj, -, hsl, -, hbo5, hw⟩; replace HF := hid (HF.out.on hw); replace HCL := hid (HCL.out.below hw); have hvw12 := hr.one; have hbw12 : bw12.oneCell' = true := (by obtain ⟨_, _, e, _⟩ := hsl; rw [e]; rfl); obtain ⟨phw12, nhw12, chw12, hhf, -⟩ := hbo5.form; replace HF := hid (HF.out.addB hbo5); have HHw12 := hid hbo5; have hs : sw12 = 0 := congrArg Jr.seq hj; subst hs; clear hr hj hsl hw hbo5; subst hhf)
    | (clear T6; (with_reducible refine wpList_storeX 40 7 sizeCh rfl rfl _ _ rfl gC ?_ (D := eC false 0 vw12 bw12 (.slice phw12 nhw12 chw12) 0 0) ?_ ?_ ?_ ?_ HZC.out ?_); exact rfl; exact rfl; exact rfl; exact rfl; exact eC_one _ _ hvw12 hbw12 rfl _ _; intro wD hD oD; have hbD := ownX HBC.out HGC.out oD; replace HF := hid ((HF.out.on hbD).addC hD); replace HCL := hid (HCL.out.below hbD); obtain ⟨gd, hgk⟩ : ∃ g, g = gC := ⟨_, rfl⟩; rw [← hgk] at HF ⊢; clear hD oD hbD HZC HBC HGC hgk)
    | ((with_reducible refine wpList_build_want 40 _ rfl ?_ (eC false 0 nilS nilS nilS 0 0) ?_ ?_); exact rfl; exact builtCh0)
    | (clear T7; go_at_call 15; refine (HBE2.out _ _ _ _ _ g9 HCL.out).mono ?_; rintro e w13 ⟨bv13, rfl, -, hw⟩; replace HF := hid (HF.out.on hw); clear hw HCL)
    | (go_at_call 6; refine (HAW.out _ HF.out.below).mono ?_; rintro e w14 ⟨rfl, hw⟩; replace HF := hid (HF.out.on hw); have ka0 : w14.cell? ⟨ga, 0, none⟩ = some (.bool true) := (HF.out.cc (ga, eC true 1 vw4 bw4 (.slice phw4 nhw4 chw4) 2 2, 40) (by simp)).cell 0; have ka1 : w14.cell? ⟨ga, 1, none⟩ = some (i64 1) := (HF.out.cc (ga, eC true 1 vw4 bw4 (.slice phw4 nhw4 chw4) 2 2, 40) (by simp)).cell 1; have ka5 : w14.cell? ⟨ga, 5, none⟩ = some (i64 2) := (HF.out.cc (ga, eC true 1 vw4 bw4 (.slice phw4 nhw4 chw4) 2 2, 40) (by simp)).cell 5; have ka6 : w14.cell? ⟨ga, 6, none⟩ = some (i64 2) := (HF.out.cc (ga, eC true 1 vw4 bw4 (.slice phw4 nhw4 chw4) 2 2, 40) (by simp)).cell 6; have kb0 : w14.cell? ⟨gb, 0, none⟩ = some (.bool false) := (HF.out.cc (gb, eC false 0 vw6 bw6 (.slice phw6 nhw6 chw6) 3 0, 40) (by simp)).cell 0; have kb5 : w14.cell? ⟨gb, 5, none⟩ = some (i64 3) := (HF.out.cc (gb, eC false 0 vw6 bw6 (.slice phw6 nhw6 chw6) 3 0, 40) (by simp)).cell 5; have kc0 : w14.cell? ⟨gc, 0, none⟩ = some (.bool true) := (HF.out.cc (gc, eC true 1 vw10 bw10 (.slice phw10 nhw10 chw10) 3 1, 40) (by simp)).cell 0; have kc4 : w14.cell? ⟨gc, 4, none⟩ = some (.slice phw10 nhw10 chw10) := (HF.out.cc (gc, eC true 1 vw10 bw10 (.slice phw10 nhw10 chw10) 3 1, 40) (by simp)).cell 4; have HA1 := hid (CAt.made w14 #[.bool false, .bool true, .bool false] 4); have HA2 := hid (below_al w14 (.cells #[.bool false, .bool true, .bool false] 4)); clear hw)
    | (clear T8; go_at_call 19; refine (sameT_any _ _ _ _ _ (by simp) ((HF.out.on HA2.out).bb (.slice phw10 nhw10 chw10, [false, true, false]) (by simp)) (bo3 HA1.out)).mono ?_; rintro e w15 ⟨rfl, hw⟩; replace HF := hid (HF.out.on (below_on HA2.out hw)); have HA3 := hid (CAt.made w15 #[.bool true, .bool false, .bool true] 4); have HA4 := hid (below_al w15 (.cells #[.bool true, .bool false, .bool true] 4)); rw [decide_eq_true rfl]; clear hw)
    | (go_at_call 19; refine (sameT_any _ _ _ _ _ (by simp) ((HF.out.on HA4.out).bb (.slice pb nb cb, [true, false, true]) (by simp)) (bo3 HA3.out)).mono ?_; rintro e w16 ⟨rfl, hw⟩; replace HF := hid (HF.out.on (below_on HA4.out hw)); rw [decide_eq_true rfl]; clear hw))
  go_ret
  exact ⟨rfl, HF.out.below⟩
end Go.Proofs.YtelkijiphhoacaaDoor

/- What the row's two listed errors give: Ers. -/
namespace Go.Proofs.YtelkijiphhoacaaDoor
open Go Go.RowKit

theorem gForm : Tryd.prog.globalNamed "stowage/journal.errForm" = some 1 := by kernel_rfl
theorem gTurned : Tryd.prog.globalNamed "stowage/journal.errTurned" = some 0 := by kernel_rfl
theorem gFormT : (Tryd.prog.globals[1]?).map (·.type) = some 81 := by kernel_rfl
theorem gTurnedT : (Tryd.prog.globals[0]?).map (·.type) = some 81 := by kernel_rfl
theorem cellsEs : Tryd.prog.cellsOf 179 = 1 := by kernel_rfl
theorem cellsStr : Tryd.prog.cellsOf 9 = 1 := by kernel_rfl
theorem starEs : "*" ++ "errors.errorString" = "*errors.errorString" := by decide
theorem rowEs (u : TypeId) (h : Tryd.prog.typeName? 3 u = some "*errors.errorString") : u = 156 :=
  typeName_ptr_named (nm := "errors.errorString") (by rw [starEs]; kernel_rfl) (by kernel_rfl) (by decide) u (by rw [starEs]; exact h)
theorem ers_laid {W : World} (h : laidMetH Tryd.prog [("stowage/journal.errForm", Rows.laid_stowage_journal_errForm), ("stowage/journal.errTurned", Rows.laid_stowage_journal_errTurned)] W) : ∃ a0 a1, Ers W a0 a1 := by
  rw [Go.MakeChecks.laidMetH_plain _ _ _ (by kernel_rfl)] at h
  obtain ⟨a1, a0, s1, s0, c1, c0, t1, t0, hv1, hv0, hc1, hs1, hz1, hc0, hs0, hz0, hne, hb1, hb0⟩ := laid_sentinels2 h gForm gFormT gTurned gTurnedT Tryd.underlying81 rowEs Tryd.underlying156 Tryd.underlying179 rfl rfl Tryd.underlying9 cellsEs cellsStr
  exact ⟨a0, a1, ⟨by simpa using World.var?_cell gTurned hv0 0, by simpa using World.var?_cell gForm hv1 0, hne, ⟨_, _, hb0⟩, ⟨_, _, hb1⟩⟩⟩
end Go.Proofs.YtelkijiphhoacaaDoor
