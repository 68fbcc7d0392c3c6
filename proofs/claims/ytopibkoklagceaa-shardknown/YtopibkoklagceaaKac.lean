/- Texts laid into one: the remark ahead of each part says what is proved there. -/
import Derived.Test.YtopibkoklagceaaPaa
import Derived.Test.YtopibkoklagceaaPab
import Derived.Test.YtopibkoklagceaaPac
import Derived.Test.YtopibkoklagceaaPad
import Derived.Test.YtopibkoklagceaaPae
import Derived.Test.YtopibkoklagceaaPaf
import Derived.Test.YtopibkoklagceaaPag
import Derived.Test.YtopibkoklagceaaPah
import Derived.Test.YtopibkoklagceaaPai
import Derived.Test.YtopibkoklagceaaPaj
import Derived.Test.YtopibkoklagceaaPak
import Derived.Test.YtopibkoklagceaaPal
import Derived.Test.YtopibkoklagceaaPam
import Derived.Test.YtopibkoklagceaaPan
import Derived.Test.YtopibkoklagceaaPao
import Derived.Test.YtopibkoklagceaaPap
import Derived.Test.YtopibkoklagceaaPaq
import Derived.Test.YtopibkoklagceaaPar
import Derived.Test.YtopibkoklagceaaPas
import Derived.Test.YtopibkoklagceaaPat
import Derived.Test.YtopibkoklagceaaPau
import Derived.Test.YtopibkoklagceaaPav
import Derived.Test.YtopibkoklagceaaKaa
import Derived.Test.YtopibkoklagceaaKab
/- The walk of ShardKnown: the chapter's examples are answered as it says. No conditions. -/
namespace Go.Proofs.Ytopibkoklagceaa
open Go Go.RowKit

theorem cl_three {W : World} {g : Nat} {v2 : Value} {f : List Nat} (hc : CAt W g #[.int .i64 6, .slice none 0 0, .int .i64 12, .slice none 0 0, .int .i64 0, v2] 32) (hv : CvOk W ⟨0, v2, f⟩) : CL W (.slice (some ⟨g, 0, none⟩) 3 3) [⟨6, .slice none 0 0, []⟩, ⟨12, .slice none 0 0, []⟩, ⟨0, v2, f⟩] := by
  refine ⟨some ⟨g, 0, none⟩, 3, rfl, by simp, by simp, (fun e => by cases e), .inr ⟨g, 0, rfl, fun i x hx => ?_⟩, fun x hx => ?_⟩
  · rw [hc.cell, hc.cell]
    match i, hx with
    | 0, hx => cases hx; exact ⟨rfl, rfl⟩
    | 1, hx => cases hx; exact ⟨rfl, rfl⟩
    | 2, hx => cases hx; exact ⟨rfl, rfl⟩
    | n + 3, hx => simp at hx
  · simp at hx
    rcases hx with rfl | rfl | rfl
    · exact nilCv _ 6
    · exact nilCv _ 12
    · exact hv
theorem run_copyMid {w : World} {g off : Nat} {u v : Value} (h0 : w.cell? ⟨g, off, none⟩ = some u) (h1 : w.cell? ⟨g, off + 1, none⟩ = some v) : (Instr.loadAt 32 (.pointer (some ⟨g, off, none⟩))).run Try.prog w = .ok (.agg #[u, v]) w := by
  have := run_loadVar_at w g off 32 #[u, v] _ (fun j x hx => by
    match j, hx with
    | 0, hx => cases hx; exact h0
    | 1, hx => cases hx; exact h1
    | n + 2, hx => simp at hx) Try.underlying32 rfl (by kernel_rfl)
  simp only [Instr.loadAt, Instr.sureAddr, Sem.run_bind, Sem.run_pure, Result.andThen_ok, this]
/-- The third copy. -/
theorem F3.third {B C g : Nat} {vs : Array Value} {w : World} {u : Value} (h : F3 B g vs w) (hX : XB 32 2 C w u ((cvs vs.toList (fls 2 1 abc)).map Cv.row11)) : ∃ gu cu v2, u = .slice (some ⟨gu, 0, none⟩) 3 cu ∧ C ≤ gu ∧ w.cell? ⟨gu, 4, none⟩ = some (.int .i64 0) ∧ w.cell? ⟨gu, 5, none⟩ = some v2 ∧ CvOk w ⟨0, v2, flL (shd 2 abc 2)⟩ := by
  obtain ⟨g2, c2, e, _, hB, _, hc⟩ := hX.cells (row11_len _) (by rw [List.length_map, cvs_len, fls3_len]; omega)
  rw [List.length_map, cvs_len, fls3_len] at e
  have hm : (cvs vs.toList (fls 2 1 abc))[2]? = some ⟨0, vs.toList.getD 2 (.slice none 0 0), flL (shd 2 abc 2)⟩ := by rw [cvs3]; rfl
  have h2 := hc 2 _ (by rw [List.getElem?_map, hm]; rfl)
  exact ⟨g2, c2, vs.toList.getD 2 (.slice none 0 0), e, hB, h2 0 _ rfl, h2 1 _ rfl, (h.cl hX).each _ (List.mem_of_getElem? hm)⟩
set_option maxRecDepth 100000 in
set_option maxHeartbeats 8000000 in
theorem known11_any (w : World) : Calls Try.prog 4 #[] w fun e w' => e = .returned (.bool true) ∧ Below w.heap.size w w' := by
  have kc := fun (w : World) (C : Array Value) (n c : Nat) => Lib.run_convert_bytes_const (P := Try.prog) w 27 5 C n c Try.underlying27 Try.underlying5
  have HBA := hid (below_al w (.cells #[.int .u8 97, .int .u8 98, .int .u8 99] 5 (3, 4)))
  have HAB := hid (abc_bl w)
  have HLY := hid (lay_ok (some ⟨w.heap.size, 0, none⟩) 3 2 1 abc (w.alloc (.cells #[.int .u8 97, .int .u8 98, .int .u8 99] 5 (3, 4))) (by omega) (by omega) (by omega) (by decide) (by decide) HAB.out abc8)
  go_enter Try.func4, Try.ntmps4
  go_wp2_with fail
  generalize (w.alloc (.cells #[.int .u8 97, .int .u8 98, .int .u8 99] 5 (3, 4))) = w1 at HBA HAB HLY ⊢
  have HALL := hid (fun (B g : Nat) (vs : Array Value) (W : World) (h : F3 B g vs W) => all11_any B g vs (fls 2 1 abc) W h.at_ h.sz h.rw (by decide))
  rw [fls3_len] at HALL
  have HRD := hid (fun (W : World) (v : Value) (l : List Cv) (h : CL W v l) => sread_any (ofR 3 2 1 (dig abc)) (ofR_ok (dig_len _) (dig_lt _)) [] v l W (PL.nil W) h)
  have HMD := hid (fun (W : World) (v : Value) (l : List Cv) (h : CL W v l) => mend_any (ofR 3 2 1 (dig abc)) (ofR_ok (dig_len _) (dig_lt _)) [] v l W (PL.nil W) h)
  have HPT := hid (fun (a b : Int) (W : World) (v : Value) (l : List Cv) (h : CL W v l) (ha : (Lit.int .i64 a).wf = true) (hb : (Lit.int .i64 b).wf = true) => part_any (ofR 3 2 1 (dig abc)) (ofR_ok (dig_len _) (dig_lt _)) [] v l a b W (PL.nil W) h ha hb)
  have HOF2 : Hid (∀ (W : World) (h : Below w1.heap.size w1 W), Calls Try.prog 10 #[.slice (some ⟨w.heap.size, 0, none⟩) 3 3, .int .i64 2, .int .i64 1] W fun e w' => e = .returned (.agg (ofR 3 2 1 (dig abc)).cs) ∧ Below W.heap.size W w') := fun W h => of11_any (some ⟨w.heap.size, 0, none⟩) 3 abc 2 1 W (HAB.out.below h) abc8 (by decide) (by decide)
  have HG2 := hid (ab_gone 0 tur (.inr tur_bad))
  have HG3 := hid (kn_few (flL (shd 2 abc 2)))
  have HG4 := hid kn_part
  have HG5 := hid kn_past
  have HKM := hid (show (ofR 3 2 1 (dig abc)).k = 2 ∧ (ofR 3 2 1 (dig abc)).m = 1 from ⟨rfl, rfl⟩)
  generalize ofR 3 2 1 (dig abc) = R at HOF2 HRD HMD HPT HG2 HG3 HG4 HG5 HKM
  go_wp2_with (first
    | (go_at_call 7; refine HLY.out.mono ?_; rintro e w2 ⟨v2, rfl, hv2, hb2⟩; obtain ⟨g, vs, e2, hg, hc, hsz, hr⟩ := hv2; rw [fls3_len] at e2; subst e2; have HF := hid ((F3.mk hc hsz hr).below (below_al w2 (.cells #[.int .i64 6, .slice none 0 0] 32))); have HB2 := hid (below_on hb2 (below_al w2 (.cells #[.int .i64 6, .slice none 0 0] 32))); have HGG := hid (CAt.made w2 #[.int .i64 6, .slice none 0 0] 32); obtain ⟨p0, c0, cf, _, _⟩ := (F3.mk hc hsz hr).first; clear hc hsz hr hb2 hg)
    | (go_at_call 8; refine (HALL.out _ _ _ _ HF.out).mono ?_; rintro e w3 ⟨u3, rfl, hX3, hb3⟩; replace HF := hid (HF.out.below hb3); have HW1 := hid (below_on HB2.out hb3); replace HGG := hid (HGG.out.below hb3); have HX3 := hid hX3; obtain ⟨gu, cu, v2, e4, hgu, d4, d5, hv2⟩ := HF.out.third hX3; subst e4; have HD4 := hid d4; have HD5 := hid d5; have HV2 := hid hv2; have HGU := hid hgu; clear hX3 hb3 hgu d4 d5 hv2))
  obtain ⟨gG, hgG⟩ : ∃ gG, w2.heap.size = gG := ⟨_, rfl⟩
  rw [hgG] at HGG ⊢
  have HSS : Hid (∀ W', Below w3.heap.size w3 W' → (fun W' : World => (Instr.loadAt 32 (.pointer (some ⟨gG, 0, none⟩))).run Try.prog W' = .ok (.agg #[.int .i64 6, .slice none 0 0]) W' ∧ (Instr.loadAt 32 (.pointer (some ⟨gu, 4, none⟩))).run Try.prog W' = .ok (.agg #[.int .i64 0, v2]) W') W') := fun W' hb => ⟨run_copyAt (HGG.out.below hb), run_copyMid ((World.cell?_of_block (hb.block _ (World.block_lt_of_cell? _ _ HD4.out))).trans HD4.out) ((World.cell?_of_block (hb.block _ (World.block_lt_of_cell? _ _ HD5.out))).trans HD5.out)⟩
  have hk7 := fun (W : World) (gn : Nat) (hb : Below w3.heap.size w3 W) (hn : CAt W gn #[.int .i64 6, .slice none 0 0, .int .i64 12, .slice none 0 0, .int .i64 0, v2] 32) => HRD.out W _ _ (cl_three hn (HV2.out.below hb))
  have hk8 := fun (W : World) (gn : Nat) (hb : Below w3.heap.size w3 W) (hn : CAt W gn #[.int .i64 6, .slice none 0 0, .int .i64 12, .slice none 0 0, .int .i64 0, v2] 32) => HMD.out W _ _ (cl_three hn (HV2.out.below hb))
  have ec : cps [⟨6, .slice none 0 0, []⟩, ⟨12, .slice none 0 0, []⟩, ⟨0, v2, flL (shd 2 abc 2)⟩] = [⟨6, []⟩, ⟨12, []⟩, ⟨0, flL (shd 2 abc 2)⟩] := rfl
  rw [ec, HG3.out.1, HG3.out.2] at hk7
  rw [ec, HG3.out.1, HG3.out.2] at hk8
  have HK7 := hid hk7
  have HK8 := hid hk8
  have HX := hid (Below.refl w3.heap.size w3)
  clear hk7 hk8 ec HLY HALL kc
  go_cut [6, 7] from 43 (fun _ s7 wc => s7 = .int .i64 10 ∧ Hid (Below w3.heap.size w3 wc))
  case first =>
    refine wp_region_held_drew (S := (fun W' : World => (Instr.loadAt 32 (.pointer (some ⟨gG, 0, none⟩))).run Try.prog W' = .ok (.agg #[.int .i64 6, .slice none 0 0]) W' ∧ (Instr.loadAt 32 (.pointer (some ⟨gu, 4, none⟩))).run Try.prog W' = .ok (.agg #[.int .i64 0, v2]) W')) (by kernel_rfl) (HSS.out _ (below_on HX.out (below_drew _))) ?_
    have HBD := hid (below_on HX.out (below_drew w3))
    have HBX := hid (below_drew w3)
    generalize w3.drew = wd at HBD HBX ⊢
    intro hHeld
    refine wpAnyH_take (i := 0) (oi := ⟨some 44, .load 32 (.tmp 4), _, _, _, none⟩) (v := .agg #[.int .i64 6, .slice none 0 0]) rfl (by kernel_rfl) (by kernel_rfl) (by kernel_rfl) (fun _ _ _ h => h) (Or.inl ⟨by kernel_rfl, fun W hW => exec_load rfl (by kernel_rfl) hW.1⟩) hHeld ?_
    refine wpAnyH_take (i := 1) (oi := ⟨some 45, .build 32 #[(0, .const (.int .i64 12))], _, _, _, none⟩) (v := .agg #[.int .i64 12, .slice none 0 0]) rfl (by kernel_rfl) (by kernel_rfl) (by kernel_rfl) (fun _ _ _ h => h) (Or.inl ⟨by kernel_rfl, fun W _ => by kernel_rfl⟩) hHeld ?_
    refine wpAnyH_take (i := 2) (oi := ⟨some 46, .move (.tmp 5), _, _, _, none⟩) (v := .slice (some ⟨gu, 0, none⟩) 3 cu) rfl (by kernel_rfl) (by kernel_rfl) (by kernel_rfl) (fun _ _ _ h => h) (Or.inl ⟨by kernel_rfl, by intro W hW; go_simp⟩) hHeld ?_
    refine wpAnyH_take (i := 3) (oi := ⟨some 47, .indexAddr 33 (.tmp 46) (.const (.int .i64 2)), _, _, _, none⟩) (v := .pointer (some ⟨gu, 4, none⟩)) rfl (by kernel_rfl) (by kernel_rfl) (by kernel_rfl) (fun _ _ _ h => h) (Or.inl ⟨by kernel_rfl, by intro W hW; go_simp⟩) hHeld ?_
    refine wpAnyH_take (i := 4) (oi := ⟨some 48, .load 32 (.tmp 47), _, _, _, none⟩) (v := .agg #[.int .i64 0, v2]) rfl (by kernel_rfl) (by kernel_rfl) (by kernel_rfl) (fun _ _ _ h => h) (Or.inl ⟨by kernel_rfl, fun W hW => exec_load rfl (by kernel_rfl) hW.2⟩) hHeld ?_
    refine wpAnyH_take (i := 6) (oi := ⟨some 50, .move (.tmp 1), _, _, _, none⟩) (v := .slice (some ⟨w.heap.size, 0, none⟩) 3 3) rfl (by kernel_rfl) (by kernel_rfl) (by kernel_rfl) (fun _ _ _ h => h) (Or.inl ⟨by kernel_rfl, by intro W hW; go_simp⟩) hHeld ?_
    refine wpAnyH_ready (rs := [5, 7]) (by kernel_rfl) (by simp) ?_
    refine AllReadyH.cons (o := ⟨some 49, .buildSlice 33 3 #[(0, .tmp 44), (1, .tmp 45), (2, .tmp 48)], _, _, _, none⟩) rfl (fun K hK => ?_) (AllReadyH.cons (o := ⟨some 51, .call { callee := .value (.func 10), args := #[.tmp 50, .const (.int .i64 2), .const (.int .i64 1)], argTypes := #[27, 3, 3] }, _, _, _, none⟩) rfl (fun K hK => ?_) AllReadyH.nil)
    · with_reducible refine step_run_val ?_ (.slice (some ⟨wd.heap.size, 0, none⟩) 3 3) (wd.alloc (.cells #[.int .i64 6, .slice none 0 0, .int .i64 12, .slice none 0 0, .int .i64 0, v2] 32)) ?_ ?_
      · exact rfl
      · kernel_rfl
      have HN := hid (CAt.made wd #[.int .i64 6, .slice none 0 0, .int .i64 12, .slice none 0 0, .int .i64 0, v2] 32)
      have HBN := hid (below_al wd (.cells #[.int .i64 6, .slice none 0 0, .int .i64 12, .slice none 0 0, .int .i64 0, v2] 32))
      generalize (wd.alloc (.cells #[.int .i64 6, .slice none 0 0, .int .i64 12, .slice none 0 0, .int .i64 0, v2] 32)) = wn at HN HBN ⊢
      refine hK.out _ _ (HSS.out _ (below_on HBD.out HBN.out)) (fun hHeld => ?_)
      clear hK K
      refine wpAnyH_ready (rs := [7]) (by kernel_rfl) (by simp) ?_
      refine AllReadyH.cons (o := ⟨some 51, .call { callee := .value (.func 10), args := #[.tmp 50, .const (.int .i64 2), .const (.int .i64 1)], argTypes := #[27, 3, 3] }, _, _, _, none⟩) rfl (fun K hK => ?_) AllReadyH.nil
      refine step_call rfl 10 #[.slice (some ⟨w.heap.size, 0, none⟩) 3 3, .int .i64 2, .int .i64 1] (by kernel_rfl) ((HOF2.out _ (below_on HW1.out (below_on HBD.out HBN.out))).mono ?_)
      rintro e wo ⟨rfl, hbo⟩
      refine ⟨_, rfl, hK.out _ _ (HSS.out _ (below_on (below_on HBD.out HBN.out) hbo)) (fun hHeld => ?_)⟩
      clear hK K
      replace HN := hid (HN.out.below hbo)
      have HBO := hid (below_on (below_on HBD.out HBN.out) hbo)
      have HBY := hid (below_on (below_on HBX.out HBN.out) hbo)
      clear hbo
      refine wpAnyH_ready (rs := [8]) (by kernel_rfl) (by simp) ?_
      refine AllReadyH.cons (o := ⟨some 52, .call { callee := .value (.func 9), args := #[.tmp 49, .tmp 51], argTypes := #[33, 41] }, _, _, _, none⟩) rfl (fun K hK => ?_) AllReadyH.nil
      refine step_call rfl 9 #[.slice (some ⟨wd.heap.size, 0, none⟩) 3 3, .agg R.cs] (by kernel_rfl) ((HK7.out _ _ HBO.out HN.out).mono ?_)
      rintro e wz ⟨pz, rfl, hoz, hbz⟩
      refine ⟨_, rfl, hK.out _ _ (HSS.out _ (below_on HBO.out hbz)) (fun hHeld => ?_)⟩
      clear hK K
      have HBZ := hid (below_on HBY.out hbz)
      clear hoz hbz
      refine wpAnyH_take (i := 9) (oi := ⟨some 43, .move (.tmp 52), _, _, _, none⟩) (v := .tuple #[.slice pz 0 0, .int .i64 10]) rfl (by kernel_rfl) (by kernel_rfl) (by kernel_rfl) (fun _ _ _ h => h) (Or.inl ⟨by kernel_rfl, by intro W hW; go_simp⟩) hHeld ?_
      refine wpAnyH_take (i := 10) (oi := ⟨some 53, .extract (.tmp 43) 0, _, _, _, none⟩) (v := .slice pz 0 0) rfl (by kernel_rfl) (by kernel_rfl) (by kernel_rfl) (fun _ _ _ h => h) (Or.inl ⟨by kernel_rfl, by intro W hW; go_simp⟩) hHeld ?_
      refine wpAnyH_take (i := 11) (oi := ⟨some 54, .extract (.tmp 43) 1, _, _, _, none⟩) (v := .int .i64 10) rfl (by kernel_rfl) (by kernel_rfl) (by kernel_rfl) (fun _ _ _ h => h) (Or.inl ⟨by kernel_rfl, by intro W hW; go_simp⟩) hHeld ?_
      refine wpAnyH_take (i := 12) (oi := ⟨some 6, .assign (.tmp 53), _, _, _, none⟩) (v := .slice pz 0 0) rfl (by kernel_rfl) (by kernel_rfl) (by kernel_rfl) (fun _ _ _ h => h) (Or.inl ⟨by kernel_rfl, by intro W hW; go_simp⟩) hHeld ?_
      refine wpAnyH_take (i := 13) (oi := ⟨some 7, .assign (.tmp 54), _, _, _, none⟩) (v := .int .i64 10) rfl (by kernel_rfl) (by kernel_rfl) (by kernel_rfl) (fun _ _ _ h => h) (Or.inl ⟨by kernel_rfl, by intro W hW; go_simp⟩) hHeld ?_
      refine wpAnyH_done (by kernel_rfl) ?_ _
      simp only [Act.put, List.setIfInBounds_toArray, List.set_cons_zero, List.set_cons_succ]
      go_wp2_with fail
      go_meet
      case rel => exact ⟨rfl, HBZ⟩
    · refine step_call rfl 10 #[.slice (some ⟨w.heap.size, 0, none⟩) 3 3, .int .i64 2, .int .i64 1] (by kernel_rfl) ((HOF2.out _ (below_on HW1.out HBD.out)).mono ?_)
      rintro e wo ⟨rfl, hbo⟩
      refine ⟨_, rfl, hK.out _ _ (HSS.out _ (below_on HBD.out hbo)) (fun hHeld => ?_)⟩
      clear hK K
      have HBP := hid (below_on HBD.out hbo)
      have HBQ := hid (below_on HBX.out hbo)
      clear hbo
      refine wpAnyH_ready (rs := [5]) (by kernel_rfl) (by simp) ?_
      refine AllReadyH.cons (o := ⟨some 49, .buildSlice 33 3 #[(0, .tmp 44), (1, .tmp 45), (2, .tmp 48)], _, _, _, none⟩) rfl (fun K hK => ?_) AllReadyH.nil
      with_reducible refine step_run_val ?_ (.slice (some ⟨wo.heap.size, 0, none⟩) 3 3) (wo.alloc (.cells #[.int .i64 6, .slice none 0 0, .int .i64 12, .slice none 0 0, .int .i64 0, v2] 32)) ?_ ?_
      · exact rfl
      · kernel_rfl
      have HN := hid (CAt.made wo #[.int .i64 6, .slice none 0 0, .int .i64 12, .slice none 0 0, .int .i64 0, v2] 32)
      have HBN := hid (below_al wo (.cells #[.int .i64 6, .slice none 0 0, .int .i64 12, .slice none 0 0, .int .i64 0, v2] 32))
      generalize (wo.alloc (.cells #[.int .i64 6, .slice none 0 0, .int .i64 12, .slice none 0 0, .int .i64 0, v2] 32)) = wn at HN HBN ⊢
      refine hK.out _ _ (HSS.out _ (below_on HBP.out HBN.out)) (fun hHeld => ?_)
      clear hK K
      have HBO := hid (below_on HBP.out HBN.out)
      have HBY := hid (below_on HBQ.out HBN.out)
      refine wpAnyH_ready (rs := [8]) (by kernel_rfl) (by simp) ?_
      refine AllReadyH.cons (o := ⟨some 52, .call { callee := .value (.func 9), args := #[.tmp 49, .tmp 51], argTypes := #[33, 41] }, _, _, _, none⟩) rfl (fun K hK => ?_) AllReadyH.nil
      refine step_call rfl 9 #[.slice (some ⟨wo.heap.size, 0, none⟩) 3 3, .agg R.cs] (by kernel_rfl) ((HK7.out _ _ HBO.out HN.out).mono ?_)
      rintro e wz ⟨pz, rfl, hoz, hbz⟩
      refine ⟨_, rfl, hK.out _ _ (HSS.out _ (below_on HBO.out hbz)) (fun hHeld => ?_)⟩
      clear hK K
      have HBZ := hid (below_on HBY.out hbz)
      clear hoz hbz
      refine wpAnyH_take (i := 9) (oi := ⟨some 43, .move (.tmp 52), _, _, _, none⟩) (v := .tuple #[.slice pz 0 0, .int .i64 10]) rfl (by kernel_rfl) (by kernel_rfl) (by kernel_rfl) (fun _ _ _ h => h) (Or.inl ⟨by kernel_rfl, by intro W hW; go_simp⟩) hHeld ?_
      refine wpAnyH_take (i := 10) (oi := ⟨some 53, .extract (.tmp 43) 0, _, _, _, none⟩) (v := .slice pz 0 0) rfl (by kernel_rfl) (by kernel_rfl) (by kernel_rfl) (fun _ _ _ h => h) (Or.inl ⟨by kernel_rfl, by intro W hW; go_simp⟩) hHeld ?_
      refine wpAnyH_take (i := 11) (oi := ⟨some 54, .extract (.tmp 43) 1, _, _, _, none⟩) (v := .int .i64 10) rfl (by kernel_rfl) (by kernel_rfl) (by kernel_rfl) (fun _ _ _ h => h) (Or.inl ⟨by kernel_rfl, by intro W hW; go_simp⟩) hHeld ?_
      refine wpAnyH_take (i := 12) (oi := ⟨some 6, .assign (.tmp 53), _, _, _, none⟩) (v := .slice pz 0 0) rfl (by kernel_rfl) (by kernel_rfl) (by kernel_rfl) (fun _ _ _ h => h) (Or.inl ⟨by kernel_rfl, by intro W hW; go_simp⟩) hHeld ?_
      refine wpAnyH_take (i := 13) (oi := ⟨some 7, .assign (.tmp 54), _, _, _, none⟩) (v := .int .i64 10) rfl (by kernel_rfl) (by kernel_rfl) (by kernel_rfl) (fun _ _ _ h => h) (Or.inl ⟨by kernel_rfl, by intro W hW; go_simp⟩) hHeld ?_
      refine wpAnyH_done (by kernel_rfl) ?_ _
      simp only [Act.put, List.setIfInBounds_toArray, List.set_cons_zero, List.set_cons_succ]
      go_wp2_with fail
      go_meet
      case rel => exact ⟨rfl, HBZ⟩
  case rest =>
    obtain ⟨rfl, HX⟩ := hcut
    go_wp2_with fail
    go_cut [8, 9, 10] from 55 (fun _ _ s10 wz => s10 = .int .i64 10 ∧ Hid (Below w3.heap.size w3 wz))
    case first =>
      refine wp_region_held_drew (S := (fun W' : World => (Instr.loadAt 32 (.pointer (some ⟨gG, 0, none⟩))).run Try.prog W' = .ok (.agg #[.int .i64 6, .slice none 0 0]) W' ∧ (Instr.loadAt 32 (.pointer (some ⟨gu, 4, none⟩))).run Try.prog W' = .ok (.agg #[.int .i64 0, v2]) W')) (by kernel_rfl) (HSS.out _ (below_on HX.out (below_drew _))) ?_
      have HBD := hid (below_on HX.out (below_drew wc))
      have HBX := hid (below_drew wc)
      generalize wc.drew = wd at HBD HBX ⊢
      intro hHeld
      refine wpAnyH_take (i := 0) (oi := ⟨some 56, .load 32 (.tmp 4), _, _, _, none⟩) (v := .agg #[.int .i64 6, .slice none 0 0]) rfl (by kernel_rfl) (by kernel_rfl) (by kernel_rfl) (fun _ _ _ h => h) (Or.inl ⟨by kernel_rfl, fun W hW => exec_load rfl (by kernel_rfl) hW.1⟩) hHeld ?_
      refine wpAnyH_take (i := 1) (oi := ⟨some 57, .build 32 #[(0, .const (.int .i64 12))], _, _, _, none⟩) (v := .agg #[.int .i64 12, .slice none 0 0]) rfl (by kernel_rfl) (by kernel_rfl) (by kernel_rfl) (fun _ _ _ h => h) (Or.inl ⟨by kernel_rfl, fun W _ => by kernel_rfl⟩) hHeld ?_
      refine wpAnyH_take (i := 2) (oi := ⟨some 58, .move (.tmp 5), _, _, _, none⟩) (v := .slice (some ⟨gu, 0, none⟩) 3 cu) rfl (by kernel_rfl) (by kernel_rfl) (by kernel_rfl) (fun _ _ _ h => h) (Or.inl ⟨by kernel_rfl, by intro W hW; go_simp⟩) hHeld ?_
      refine wpAnyH_take (i := 3) (oi := ⟨some 59, .indexAddr 33 (.tmp 58) (.const (.int .i64 2)), _, _, _, none⟩) (v := .pointer (some ⟨gu, 4, none⟩)) rfl (by kernel_rfl) (by kernel_rfl) (by kernel_rfl) (fun _ _ _ h => h) (Or.inl ⟨by kernel_rfl, by intro W hW; go_simp⟩) hHeld ?_
      refine wpAnyH_take (i := 4) (oi := ⟨some 60, .load 32 (.tmp 59), _, _, _, none⟩) (v := .agg #[.int .i64 0, v2]) rfl (by kernel_rfl) (by kernel_rfl) (by kernel_rfl) (fun _ _ _ h => h) (Or.inl ⟨by kernel_rfl, fun W hW => exec_load rfl (by kernel_rfl) hW.2⟩) hHeld ?_
      refine wpAnyH_take (i := 6) (oi := ⟨some 62, .move (.tmp 1), _, _, _, none⟩) (v := .slice (some ⟨w.heap.size, 0, none⟩) 3 3) rfl (by kernel_rfl) (by kernel_rfl) (by kernel_rfl) (fun _ _ _ h => h) (Or.inl ⟨by kernel_rfl, by intro W hW; go_simp⟩) hHeld ?_
      refine wpAnyH_ready (rs := [5, 7]) (by kernel_rfl) (by simp) ?_
      refine AllReadyH.cons (o := ⟨some 61, .buildSlice 33 3 #[(0, .tmp 56), (1, .tmp 57), (2, .tmp 60)], _, _, _, none⟩) rfl (fun K hK => ?_) (AllReadyH.cons (o := ⟨some 63, .call { callee := .value (.func 10), args := #[.tmp 62, .const (.int .i64 2), .const (.int .i64 1)], argTypes := #[27, 3, 3] }, _, _, _, none⟩) rfl (fun K hK => ?_) AllReadyH.nil)
      · with_reducible refine step_run_val ?_ (.slice (some ⟨wd.heap.size, 0, none⟩) 3 3) (wd.alloc (.cells #[.int .i64 6, .slice none 0 0, .int .i64 12, .slice none 0 0, .int .i64 0, v2] 32)) ?_ ?_
        · exact rfl
        · kernel_rfl
        have HN := hid (CAt.made wd #[.int .i64 6, .slice none 0 0, .int .i64 12, .slice none 0 0, .int .i64 0, v2] 32)
        have HBN := hid (below_al wd (.cells #[.int .i64 6, .slice none 0 0, .int .i64 12, .slice none 0 0, .int .i64 0, v2] 32))
        generalize (wd.alloc (.cells #[.int .i64 6, .slice none 0 0, .int .i64 12, .slice none 0 0, .int .i64 0, v2] 32)) = wn at HN HBN ⊢
        refine hK.out _ _ (HSS.out _ (below_on HBD.out HBN.out)) (fun hHeld => ?_)
        clear hK K
        refine wpAnyH_ready (rs := [7]) (by kernel_rfl) (by simp) ?_
        refine AllReadyH.cons (o := ⟨some 63, .call { callee := .value (.func 10), args := #[.tmp 62, .const (.int .i64 2), .const (.int .i64 1)], argTypes := #[27, 3, 3] }, _, _, _, none⟩) rfl (fun K hK => ?_) AllReadyH.nil
        refine step_call rfl 10 #[.slice (some ⟨w.heap.size, 0, none⟩) 3 3, .int .i64 2, .int .i64 1] (by kernel_rfl) ((HOF2.out _ (below_on HW1.out (below_on HBD.out HBN.out))).mono ?_)
        rintro e wo ⟨rfl, hbo⟩
        refine ⟨_, rfl, hK.out _ _ (HSS.out _ (below_on (below_on HBD.out HBN.out) hbo)) (fun hHeld => ?_)⟩
        clear hK K
        replace HN := hid (HN.out.below hbo)
        have HBO := hid (below_on (below_on HBD.out HBN.out) hbo)
        have HBY := hid (below_on (below_on HBX.out HBN.out) hbo)
        clear hbo
        refine wpAnyH_ready (rs := [8]) (by kernel_rfl) (by simp) ?_
        refine AllReadyH.cons (o := ⟨some 64, .call { callee := .value (.func 11), args := #[.tmp 61, .tmp 63], argTypes := #[33, 41] }, _, _, _, none⟩) rfl (fun K hK => ?_) AllReadyH.nil
        refine step_call rfl 11 #[.slice (some ⟨wd.heap.size, 0, none⟩) 3 3, .agg R.cs] (by kernel_rfl) ((HK8.out _ _ HBO.out HN.out).mono ?_)
        rintro e wz ⟨uz, vz, rfl, hbz, hz⟩
        obtain ⟨_, rfl, rfl⟩ := hz.resolve_right (fun h => absurd h.1 (by decide))
        refine ⟨_, rfl, hK.out _ _ (HSS.out _ (below_on HBO.out hbz)) (fun hHeld => ?_)⟩
        clear hK K
        have HBZ := hid (below_on HBY.out hbz)
        clear hz hbz
        refine wpAnyH_take (i := 9) (oi := ⟨some 55, .move (.tmp 64), _, _, _, none⟩) (v := .tuple #[.slice none 0 0, .slice none 0 0, .int .i64 10]) rfl (by kernel_rfl) (by kernel_rfl) (by kernel_rfl) (fun _ _ _ h => h) (Or.inl ⟨by kernel_rfl, by intro W hW; go_simp⟩) hHeld ?_
        refine wpAnyH_take (i := 10) (oi := ⟨some 65, .extract (.tmp 55) 0, _, _, _, none⟩) (v := .slice none 0 0) rfl (by kernel_rfl) (by kernel_rfl) (by kernel_rfl) (fun _ _ _ h => h) (Or.inl ⟨by kernel_rfl, by intro W hW; go_simp⟩) hHeld ?_
        refine wpAnyH_take (i := 11) (oi := ⟨some 66, .extract (.tmp 55) 1, _, _, _, none⟩) (v := .slice none 0 0) rfl (by kernel_rfl) (by kernel_rfl) (by kernel_rfl) (fun _ _ _ h => h) (Or.inl ⟨by kernel_rfl, by intro W hW; go_simp⟩) hHeld ?_
        refine wpAnyH_take (i := 12) (oi := ⟨some 67, .extract (.tmp 55) 2, _, _, _, none⟩) (v := .int .i64 10) rfl (by kernel_rfl) (by kernel_rfl) (by kernel_rfl) (fun _ _ _ h => h) (Or.inl ⟨by kernel_rfl, by intro W hW; go_simp⟩) hHeld ?_
        refine wpAnyH_take (i := 13) (oi := ⟨some 8, .assign (.tmp 65), _, _, _, none⟩) (v := .slice none 0 0) rfl (by kernel_rfl) (by kernel_rfl) (by kernel_rfl) (fun _ _ _ h => h) (Or.inl ⟨by kernel_rfl, by intro W hW; go_simp⟩) hHeld ?_
        refine wpAnyH_take (i := 14) (oi := ⟨some 9, .assign (.tmp 66), _, _, _, none⟩) (v := .slice none 0 0) rfl (by kernel_rfl) (by kernel_rfl) (by kernel_rfl) (fun _ _ _ h => h) (Or.inl ⟨by kernel_rfl, by intro W hW; go_simp⟩) hHeld ?_
        refine wpAnyH_take (i := 15) (oi := ⟨some 10, .assign (.tmp 67), _, _, _, none⟩) (v := .int .i64 10) rfl (by kernel_rfl) (by kernel_rfl) (by kernel_rfl) (fun _ _ _ h => h) (Or.inl ⟨by kernel_rfl, by intro W hW; go_simp⟩) hHeld ?_
        refine wpAnyH_done (by kernel_rfl) ?_ _
        simp only [Act.put, List.setIfInBounds_toArray, List.set_cons_zero, List.set_cons_succ]
        go_wp2_with fail
        go_meet
        case rel => exact ⟨rfl, below_on HX.out HBZ.out⟩
      · refine step_call rfl 10 #[.slice (some ⟨w.heap.size, 0, none⟩) 3 3, .int .i64 2, .int .i64 1] (by kernel_rfl) ((HOF2.out _ (below_on HW1.out HBD.out)).mono ?_)
        rintro e wo ⟨rfl, hbo⟩
        refine ⟨_, rfl, hK.out _ _ (HSS.out _ (below_on HBD.out hbo)) (fun hHeld => ?_)⟩
        clear hK K
        have HBP := hid (below_on HBD.out hbo)
        have HBQ := hid (below_on HBX.out hbo)
        clear hbo
        refine wpAnyH_ready (rs := [5]) (by kernel_rfl) (by simp) ?_
        refine AllReadyH.cons (o := ⟨some 61, .buildSlice 33 3 #[(0, .tmp 56), (1, .tmp 57), (2, .tmp 60)], _, _, _, none⟩) rfl (fun K hK => ?_) AllReadyH.nil
        with_reducible refine step_run_val ?_ (.slice (some ⟨wo.heap.size, 0, none⟩) 3 3) (wo.alloc (.cells #[.int .i64 6, .slice none 0 0, .int .i64 12, .slice none 0 0, .int .i64 0, v2] 32)) ?_ ?_
        · exact rfl
        · kernel_rfl
        have HN := hid (CAt.made wo #[.int .i64 6, .slice none 0 0, .int .i64 12, .slice none 0 0, .int .i64 0, v2] 32)
        have HBN := hid (below_al wo (.cells #[.int .i64 6, .slice none 0 0, .int .i64 12, .slice none 0 0, .int .i64 0, v2] 32))
        generalize (wo.alloc (.cells #[.int .i64 6, .slice none 0 0, .int .i64 12, .slice none 0 0, .int .i64 0, v2] 32)) = wn at HN HBN ⊢
        refine hK.out _ _ (HSS.out _ (below_on HBP.out HBN.out)) (fun hHeld => ?_)
        clear hK K
        have HBO := hid (below_on HBP.out HBN.out)
        have HBY := hid (below_on HBQ.out HBN.out)
        refine wpAnyH_ready (rs := [8]) (by kernel_rfl) (by simp) ?_
        refine AllReadyH.cons (o := ⟨some 64, .call { callee := .value (.func 11), args := #[.tmp 61, .tmp 63], argTypes := #[33, 41] }, _, _, _, none⟩) rfl (fun K hK => ?_) AllReadyH.nil
        refine step_call rfl 11 #[.slice (some ⟨wo.heap.size, 0, none⟩) 3 3, .agg R.cs] (by kernel_rfl) ((HK8.out _ _ HBO.out HN.out).mono ?_)
        rintro e wz ⟨uz, vz, rfl, hbz, hz⟩
        obtain ⟨_, rfl, rfl⟩ := hz.resolve_right (fun h => absurd h.1 (by decide))
        refine ⟨_, rfl, hK.out _ _ (HSS.out _ (below_on HBO.out hbz)) (fun hHeld => ?_)⟩
        clear hK K
        have HBZ := hid (below_on HBY.out hbz)
        clear hz hbz
        refine wpAnyH_take (i := 9) (oi := ⟨some 55, .move (.tmp 64), _, _, _, none⟩) (v := .tuple #[.slice none 0 0, .slice none 0 0, .int .i64 10]) rfl (by kernel_rfl) (by kernel_rfl) (by kernel_rfl) (fun _ _ _ h => h) (Or.inl ⟨by kernel_rfl, by intro W hW; go_simp⟩) hHeld ?_
        refine wpAnyH_take (i := 10) (oi := ⟨some 65, .extract (.tmp 55) 0, _, _, _, none⟩) (v := .slice none 0 0) rfl (by kernel_rfl) (by kernel_rfl) (by kernel_rfl) (fun _ _ _ h => h) (Or.inl ⟨by kernel_rfl, by intro W hW; go_simp⟩) hHeld ?_
        refine wpAnyH_take (i := 11) (oi := ⟨some 66, .extract (.tmp 55) 1, _, _, _, none⟩) (v := .slice none 0 0) rfl (by kernel_rfl) (by kernel_rfl) (by kernel_rfl) (fun _ _ _ h => h) (Or.inl ⟨by kernel_rfl, by intro W hW; go_simp⟩) hHeld ?_
        refine wpAnyH_take (i := 12) (oi := ⟨some 67, .extract (.tmp 55) 2, _, _, _, none⟩) (v := .int .i64 10) rfl (by kernel_rfl) (by kernel_rfl) (by kernel_rfl) (fun _ _ _ h => h) (Or.inl ⟨by kernel_rfl, by intro W hW; go_simp⟩) hHeld ?_
        refine wpAnyH_take (i := 13) (oi := ⟨some 8, .assign (.tmp 65), _, _, _, none⟩) (v := .slice none 0 0) rfl (by kernel_rfl) (by kernel_rfl) (by kernel_rfl) (fun _ _ _ h => h) (Or.inl ⟨by kernel_rfl, by intro W hW; go_simp⟩) hHeld ?_
        refine wpAnyH_take (i := 14) (oi := ⟨some 9, .assign (.tmp 66), _, _, _, none⟩) (v := .slice none 0 0) rfl (by kernel_rfl) (by kernel_rfl) (by kernel_rfl) (fun _ _ _ h => h) (Or.inl ⟨by kernel_rfl, by intro W hW; go_simp⟩) hHeld ?_
        refine wpAnyH_take (i := 15) (oi := ⟨some 10, .assign (.tmp 67), _, _, _, none⟩) (v := .int .i64 10) rfl (by kernel_rfl) (by kernel_rfl) (by kernel_rfl) (fun _ _ _ h => h) (Or.inl ⟨by kernel_rfl, by intro W hW; go_simp⟩) hHeld ?_
        refine wpAnyH_done (by kernel_rfl) ?_ _
        simp only [Act.put, List.setIfInBounds_toArray, List.set_cons_zero, List.set_cons_succ]
        go_wp2_with fail
        go_meet
        case rel => exact ⟨rfl, below_on HX.out HBZ.out⟩
    case rest =>
      obtain ⟨rfl, HX⟩ := hcut
      have HCL := hid (HF.out.cl HX3.out)
      have hp1 := fun (W : World) (hb : Below w3.heap.size w3 W) => HPT.out 1 2 W _ _ (HCL.out.below hb) rfl rfl
      have hp2 := fun (W : World) (hb : Below w3.heap.size w3 W) => HPT.out 2 4 W _ _ (HCL.out.below hb) rfl rfl
      rw [cps_cvs, HG4.out.1, HG4.out.2] at hp1
      rw [cps_cvs, HG5.out.1, HG5.out.2] at hp2
      have HP1 := hid hp1
      have HP2 := hid hp2
      clear hp1 hp2 HK7 HK8 HSS HG3 HG4 HG5 HPT
      go_wp2_with fail
      refine (HOF2.out _ (below_on HW1.out HX.out)).mono ?_
      rintro e w4 ⟨rfl, hb4⟩
      replace HX := hid (below_on HX.out hb4)
      clear hb4
      go_wp2_with fail
      refine (HP1.out _ HX.out).mono ?_
      rintro e w5 ⟨v5, rfl, hv5, hb5⟩
      have HB5 := hid hv5
      replace HX := hid (below_on HX.out hb5)
      obtain ⟨p5, c5, e5⟩ := Buf.form hv5
      subst e5
      clear hv5 hb5
      go_wp2_with fail
      refine (HOF2.out _ (below_on HW1.out HX.out)).mono ?_
      rintro e w6 ⟨rfl, hb6⟩
      replace HX := hid (below_on HX.out hb6)
      replace HB5 := hid (HB5.out.below hb6)
      clear hb6
      go_wp2_with fail
      refine (HP2.out _ HX.out).mono ?_
      rintro e w7 ⟨v7, rfl, hv7, hb7⟩
      replace HX := hid (below_on HX.out hb7)
      replace HB5 := hid (HB5.out.below hb7)
      obtain ⟨p7, c7, e7⟩ := Buf.form hv7
      subst e7
      clear hv7 hb7
      have HF7 := hid (HF.out.below HX.out)
      have HX7 := hid (HX3.out.below HX.out)
      obtain ⟨p8, c8, cf8, _, hb8⟩ := HF7.out.first
      have HCP := hid (copyB_any (w := w7) (v := .slice p8 34 c8) (x := flL (shd 2 abc 0)) (by have := hb8.sl; exact this) (by rw [abc_fls_len]; omega) (fun n c e => by cases e; exact (buf_none hb8).2))
      clear hb8
      go_wp2_with fail
      refine HCP.out.mono ?_
      rintro e w8 ⟨v8, rfl, hv8, hb8⟩
      obtain ⟨pt, ct, et⟩ := Buf.form hv8
      rw [abc_fls_len] at et
      subst et
      obtain ⟨gt, rfl, hgt, ⟨cst, hcst⟩, hcel, hfz⟩ := Buf.at_ hv8 (by omega)
      have ct33 : w8.cell? ⟨gt, 33, none⟩ = some (.int .u8 98) := by rw [hcel 33 (by omega), f0_33]; rfl
      have cz33 := hfz 33
      have hB79 : Below w7.heap.size w7 (w8.setCell ⟨gt, 33, none⟩ (.int .u8 99)) := hb8.setCell hgt _
      have hbt := Buf.setAt hv8 33 99
      have hX9 := HX7.out.below hB79
      have hF9 := HF7.out.below hB79
      have hP9 := HB5.out.below hB79
      rw [cvs_split] at hX9
      obtain ⟨gu2, cu2, e8, _, ⟨csu, hcsu⟩, d0, d1, f0, f1, hset⟩ := xb_set0 hX9
      cases e8
      have no5 : ∀ {B : Nat} {v : Value} {L : List Nat}, Buf B (w8.setCell ⟨gt, 33, none⟩ (.int .u8 99)) v L → Buf B (((w8.setCell ⟨gt, 33, none⟩ (.int .u8 99)).setCell ⟨gu, 0, none⟩ (i64 0)).setCell ⟨gu, 1, none⟩ (.slice (some ⟨gt, 0, none⟩) 34 ct)) v L := fun {B v L} h => ownsRow_keep h fun b hb => by
        have hne : b ≠ gu := by
          rintro rfl
          rcases h.2 with ⟨e, _⟩ | ⟨g2, cap, cur, e, _, hg, _⟩
          · rw [e] at hb; cases hb
          · rw [e] at hb; cases hb; unfold CAt at hcsu; rw [hg] at hcsu; cases hcsu
        exact (heap_setCell_ne _ _ _ _ hne).trans (heap_setCell_ne _ _ _ _ hne)
      have hs2 := hset ⟨0, .slice (some ⟨gt, 0, none⟩) 34 ct, tur⟩
      have hf2 := hF9.keep (w' := ((w8.setCell ⟨gt, 33, none⟩ (.int .u8 99)).setCell ⟨gu, 0, none⟩ (i64 0)).setCell ⟨gu, 1, none⟩ (.slice (some ⟨gt, 0, none⟩) 34 ct)) hcsu (fun b hb => (heap_setCell_ne _ _ _ _ hb).trans (heap_setCell_ne _ _ _ _ hb))
      have hbt2 : Buf w7.heap.size (((w8.setCell ⟨gt, 33, none⟩ (.int .u8 99)).setCell ⟨gu, 0, none⟩ (i64 0)).setCell ⟨gu, 1, none⟩ (.slice (some ⟨gt, 0, none⟩) 34 ct)) (.slice (some ⟨gt, 0, none⟩) 34 ct) tur := no5 hbt
      have HCL2 := hid (hf2.cl2 (buf_cvok 0 hbt2 (by rw [tur_len]; omega) tur_lt) hs2)
      have HP9 := hid (no5 hP9)
      have HBB := hid (below_tr (below_on HW1.out (below_on HX.out hB79)) (show Below w1.heap.size (w8.setCell ⟨gt, 33, none⟩ (.int .u8 99)) (((w8.setCell ⟨gt, 33, none⟩ (.int .u8 99)).setCell ⟨gu, 0, none⟩ (i64 0)).setCell ⟨gu, 1, none⟩ (.slice (some ⟨gt, 0, none⟩) 34 ct)) from ⟨rfl, rfl, rfl, by simp only [setCell_size]; exact Nat.le_refl _, fun x hx => (heap_setCell_ne _ _ _ _ (by have := HGU.out; have := HB2.out.size; show x ≠ gu; omega)).trans (heap_setCell_ne _ _ _ _ (by have := HGU.out; have := HB2.out.size; show x ≠ gu; omega))⟩))
      clear hset hX9 hs2 hf2 hF9 hP9 hbt hbt2 no5 hcsu HX7 HF7 hcel hfz hv8 hb8 hB79 HCL HP1 HP2 HCP hcst
      go_upto_region 13 with fail
      rw [show bits .xor .u8 98 1 = 99 from by decide]
      generalize w8.setCell ⟨gt, 33, none⟩ (.int .u8 99) = w9 at d0 d1 f0 f1 HCL2 HP9 HBB ⊢
      go_wp2_with fail
      generalize (w9.setCell ⟨gu, 0, none⟩ (i64 0)).setCell ⟨gu, 1, none⟩ (.slice (some ⟨gt, 0, none⟩) 34 ct) = wB at HCL2 HP9 HBB ⊢
      clear d0 d1 f0 f1 HX HB5
      have hr2 := fun (W : World) (hb : Below wB.heap.size wB W) => HRD.out W _ _ (HCL2.out.below hb)
      have hm2 := fun (W : World) (hb : Below wB.heap.size wB W) => HMD.out W _ _ (HCL2.out.below hb)
      have e6 : Cv.cp ⟨0, .slice (some ⟨gt, 0, none⟩) 34 ct, tur⟩ = ⟨0, tur⟩ := rfl
      rw [cps_cons3, e6, HG2.out.1, HG2.out.2] at hr2
      rw [cps_cons3, e6, HG2.out.1, HG2.out.2, HKM.out.1, HKM.out.2] at hm2
      have e7 : (if (0 : Int) = 0 then stts [⟨0, tur⟩, ⟨0, flL (shd 2 abc 1)⟩, ⟨0, flL (shd 2 abc 2)⟩] (fls (2 : Int).toNat (1 : Int).toNat abc) else []) = [3, 1, 1] := by rw [if_pos rfl]; exact kn_stts
      rw [e7] at hm2
      have HR2 := hid hr2
      have HM2 := hid hm2
      clear hr2 hm2 e6 e7 HRD HMD
      refine (HOF2.out _ HBB.out).mono ?_
      rintro e wd ⟨rfl, hbd⟩
      have HBD := hid hbd
      clear hbd
      go_wp2_with fail
      refine (HR2.out _ HBD.out).mono ?_
      rintro e we ⟨pe, rfl, hOe, hbe⟩
      have HBE := hid (below_on HBD.out hbe)
      have HOE := hid hOe.sl
      clear hOe hbe
      go_wp2_with fail
      refine (HOF2.out _ (below_on HBB.out HBE.out)).mono ?_
      rintro e wf ⟨rfl, hbf⟩
      have HBF := hid (below_on HBE.out hbf)
      have HOF := hid (HOE.out.below hbf)
      clear hbf
      go_wp2_with fail
      refine (HM2.out _ HBF.out).mono ?_
      rintro e wg ⟨ug, vg, rfl, hbg, hzg⟩
      obtain ⟨_, _, gi, hvg, _, hgi⟩ := hzg.resolve_left (fun h => h.1 rfl)
      subst hvg
      have HBG := hid (below_on HBF.out hbg)
      have HOG := hid (HOF.out.below hbg)
      have HGI := hid hgi
      clear hzg hbg hgi
      have HNM := hid (fun W => name_no ⟨#[97]⟩ ⟨#[120]⟩ W kn_name (by decide))
      have kc := fun (w : World) (C : Array Value) (n c : Nat) => Lib.run_convert_bytes_const (P := Try.prog) w 27 5 C n c Try.underlying27 Try.underlying5
      go_wp2_with (first
        | (go_at_call 6; refine (HNM.out _).mono ?_; rintro e wh ⟨rfl, hbh⟩; have HBH := hid (below_on HBG.out hbh); have HOH := hid (HOG.out.below hbh); have HGH := hid (HGI.out.below hbh); clear hbh)
        | (go_at_call 5; refine (awake11_any _).mono ?_; rintro e wi ⟨rfl, hbi⟩; have HBI := hid (below_on HBH.out hbi); have HOI := hid (HOH.out.below hbi); have HGJ := hid (HGH.out.below hbi); clear hbi))
      have HBJ := hid (below_on HBI.out (below_al wi (.cells #[.int .u8 98] 5 (1, 2))))
      have HOJ := hid (HOI.out.below (below_al wi (.cells #[.int .u8 98] 5 (1, 2))))
      have HGK := hid (HGJ.out.below (below_al wi (.cells #[.int .u8 98] 5 (1, 2))))
      have hnew : BL (wi.alloc (.cells #[.int .u8 98] 5 (1, 2))) (some ⟨wi.heap.size, 0, none⟩) [98] := by
        right
        refine ⟨wi.heap.size, 0, rfl, fun i hi => ?_⟩
        have h1 : i < 1 := hi
        unfold World.cell?
        rw [show ((wi.alloc (.cells #[.int .u8 98] 5 (1, 2))).heap[wi.heap.size]?) = some (.cells #[.int .u8 98] 5 (1, 2)) from at_new wi _]
        match i, h1 with
        | 0, _ => rfl
      have HSB1 := hid (sameB_any (x := [98]) (y := [98]) (HP9.out.sl.below HBJ.out) (show SL (wi.alloc (.cells #[.int .u8 98] 5 (1, 2))) (.slice (some ⟨wi.heap.size, 0, none⟩) 1 1) [98] from ⟨_, 1, rfl, hnew, by decide⟩) (by decide) (by decide))
      rw [show decide (([98] : List Nat) = [98]) = true from by decide] at HSB1
      clear hnew kc
      generalize (wi.alloc (.cells #[.int .u8 98] 5 (1, 2))) = wj at HSB1 HBJ HOJ HGK ⊢
      refine HSB1.out.mono ?_
      rintro e w8' ⟨rfl, hw⟩
      have h3 := hw.symm
      subst h3
      clear hw
      have HSM2 := hid (sameB_any HOJ.out (show SL wj (.slice (some ⟨w.heap.size, 0, none⟩) 3 3) abc from ⟨_, 3, rfl, HAB.out.below (below_on HBB.out HBJ.out), by decide⟩) abc8 abc8)
      rw [show decide (abc = abc) = true from by decide] at HSM2
      go_wp2_with fail
      refine HSM2.out.mono ?_
      rintro e w9' ⟨rfl, hw⟩
      have h3 := hw.symm
      subst h3
      clear hw
      go_wp2_with fail
      have HI1 := hid (show H.IntAt (wj.alloc (.cells #[.int .i64 3, .int .i64 1, .int .i64 1] 3)) (some ⟨gi, 0, none⟩) 3 (fun i => [3, 1, 1].getD i 0) from .inr ⟨gi, 0, rfl, fun i hi => by
        rw [Nat.zero_add, (HGK.out.below (below_al wj _)).cell]
        match i, hi with
        | 0, _ => rfl
        | 1, _ => rfl
        | 2, _ => rfl⟩)
      have HI2 := hid (show H.IntAt (wj.alloc (.cells #[.int .i64 3, .int .i64 1, .int .i64 1] 3)) (some ⟨wj.heap.size, 0, none⟩) 3 (fun i => [3, 1, 1].getD i 0) from .inr ⟨wj.heap.size, 0, rfl, fun i hi => by
        rw [Nat.zero_add, (CAt.made wj #[.int .i64 3, .int .i64 1, .int .i64 1] 3).cell]
        match i, hi with
        | 0, _ => rfl
        | 1, _ => rfl
        | 2, _ => rfl⟩)
      have HBK := hid (below_on HBJ.out (below_al wj (.cells #[.int .i64 3, .int .i64 1, .int .i64 1] 3)))
      generalize (wj.alloc (.cells #[.int .i64 3, .int .i64 1, .int .i64 1] 3)) = wk at HI1 HI2 HBK ⊢
      refine (H.sameInts_true (some ⟨gi, 0, none⟩) (some ⟨wj.heap.size, 0, none⟩) 3 3 3 _ wk (by omega) HI1.out HI2.out).mono ?_
      rintro e wl ⟨rfl, kk, rfl⟩
      go_wp2_with fail
      go_ret
      exact ⟨rfl, below_on (below_on HBA.out HBB.out) (below_on HBK.out (below_drewN _ _))⟩
end Go.Proofs.Ytopibkoklagceaa
