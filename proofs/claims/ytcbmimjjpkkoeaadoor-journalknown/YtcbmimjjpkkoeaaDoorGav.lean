/- Texts laid into one: the remark ahead of each part says what is proved there. -/
import Derived.Test.YtcbmimjjpkkoeaaDoorGau
import Derived.Test.YtcbmimjjpkkoeaaDoorGas
import Derived.Test.YtcbmimjjpkkoeaaDoorRows
import Derived.Stop.LaidTwo
import Derived.MakeChecks
/- JournalKnown: the walk. -/
namespace Go.Proofs.YtcbmimjjpkkoeaaDoor
open Go Go.RowKit

set_option maxRecDepth 100000 in
set_option maxHeartbeats 8000000 in
theorem known8_any (a0 a1 : Addr) (w : World) (he : Ers w a0 a1) : Calls Tryd.prog 5 #[] w fun e w' => e = .returned (.bool true) ∧ Below w.heap.size w w' := by
  have HER := hid (fun W (hW : Below w.heap.size w W) => he.below hW)
  have HONE := hid (fun w => one8_any w)
  have HAW := hid (fun W (hW : Below w.heap.size w W) => awake8_any a0 a1 W (he.below hW))
  have HBY : Hid (∀ W g, RL W (.slice (some ⟨g, 0, none⟩) 1 1) [xM 5] → Calls Tryd.prog 8 #[.agg (jC 1 (.slice (some ⟨g, 0, none⟩) 1 1))] W (BytE W (jB dig oneJ))) := hid fun W g h => by
    have := jbytes_ok 1 _ [xM 5] W h (by rw [rcs_one]; exact one_ok)
    rw [rcs_one] at this
    exact this
  have HRM1 : Hid (∀ W g, RL W (.slice (some ⟨g, 0, none⟩) 1 1) [xM 5] → Calls Tryd.prog 20 #[.agg (jC 1 (.slice (some ⟨g, 0, none⟩) 1 1)), .string ⟨#[110, 117, 108, 108]⟩] W (JouE W 2 [])) := hid fun W g h => rem_null h rcs_one
  have HRM2 : Hid (∀ W g, RL W (.slice (some ⟨g, 0, none⟩) 1 1) [xM 5] → Calls Tryd.prog 20 #[.agg (jC 1 (.slice (some ⟨g, 0, none⟩) 1 1)), .string ⟨#[120]⟩] W fun e w' => e = .returned (.tuple #[.agg (jC 0 (.slice none 0 0)), i64 6]) ∧ Below W.heap.size W w') := hid fun W g h => rem_x h rcs_one
  have HMK := hid (fun w => mark8_any 1 w)
  have HAD := hid (fun (W : World) => add_first (W := W) (xM_rc 1))
  have HCK : Hid (∀ W, Calls Tryd.prog 24 #[.agg (jC 0 (.slice none 0 0))] W fun e w' => e = .returned (i64 2) ∧ Below W.heap.size W w') := hid fun W => by have := jcheck_any 0 _ [] W (RL.nil W); rw [show (⟨0, rcs []⟩ : Jr) = ⟨0, []⟩ from rfl, zero_no] at this; exact this
  unfold One1 at HONE
  generalize xM 5 = X5 at HONE HBY HRM1 HRM2
  generalize (xM 1).r.cs = C1 at HAD HMK
  obtain ⟨L, hL⟩ : ∃ L, jB dig oneJ = L := ⟨_, rfl⟩
  have hl44 : L.length = 44 := by rw [← hL]; exact one_len
  have h9 : L.getD 9 0 = 108 := by rw [← hL]; unfold jB; rw [one_body]; rfl
  have h8 : ∀ z ∈ L, z < 256 := by rw [← hL]; exact one_byte
  have HR43 : Hid (∀ W po c, BL W po L → 44 ≤ c → Ers W a0 a1 → Calls Tryd.prog 9 #[.slice po 43 c] W fun e w' => e = .returned (.tuple #[.agg (jC 0 (.slice none 0 0)), i64 14]) ∧ Below W.heap.size W w') := hid fun W po c h1 h2 h3 => read_none (er := 14) (len_take (L := L) (by omega)) (h1.take 43) (by omega) (by omega) (fun z hz => h8 z (List.mem_of_mem_take hz)) h3 (by rw [← hL]; exact one_43)
  have HR44 : Hid (∀ W po c, BL W po (L.set 9 109) → 44 ≤ c → Ers W a0 a1 → Calls Tryd.prog 9 #[.slice po 44 c] W fun e w' => e = .returned (.tuple #[.agg (jC 0 (.slice none 0 0)), i64 14]) ∧ Below W.heap.size W w') := hid fun W po c h1 h2 h3 => read_none (er := 14) (by rw [List.length_set]; exact hl44) h1 h2 (by omega) (fun z hz => by rcases List.mem_or_eq_of_mem_set hz with h | rfl; exact h8 z h; decide) h3 (by rw [← hL]; exact one_turned)
  have HR34 : Hid (∀ (W : World), Ers W a0 a1 → Calls Tryd.prog 9 #[.slice (some ⟨W.heap.size, 0, none⟩) 34 34] (W.alloc (.cells (madeCells #[.int .u8 0] 34) 5)) fun e w' => e = .returned (.tuple #[.agg (jC 0 (.slice none 0 0)), i64 4]) ∧ Below (W.alloc (.cells (madeCells #[.int .u8 0] 34) 5)).heap.size (W.alloc (.cells (madeCells #[.int .u8 0] 34) 5)) w') := hid fun W h3 => read_none (er := 4) List.length_replicate (rep_bl W 34) (by omega) (by omega) (fun z hz => by rw [List.eq_of_mem_replicate hz]; decide) (h3.below (below_al _ _)) none_34
  have HR35 : Hid (∀ (W : World), Ers W a0 a1 → Calls Tryd.prog 9 #[.slice (some ⟨W.heap.size, 0, none⟩) 35 35] (W.alloc (.cells (madeCells #[.int .u8 0] 35) 5)) fun e w' => e = .returned (.tuple #[.agg (jC 0 (.slice none 0 0)), i64 4]) ∧ Below (W.alloc (.cells (madeCells #[.int .u8 0] 35) 5)).heap.size (W.alloc (.cells (madeCells #[.int .u8 0] 35) 5)) w') := hid fun W h3 => read_none (er := 4) List.length_replicate (rep_bl W 35) (by omega) (by omega) (fun z hz => by rw [List.eq_of_mem_replicate hz]; decide) (h3.below (below_al _ _)) none_35
  have HNW : Hid (∀ W v m, RL W v m → rcs m = [] → Calls Tryd.prog 21 #[.agg (jC 2 v)] W fun e w' => e = .returned (.tuple #[.agg zR.cs, i64 6]) ∧ Below W.heap.size W w') := hid fun W v m h1 h2 => newest_miss 2 v m W h1 (by rw [h2]; exact zero_ok) (by have := congrArg List.length h2; rwa [rcs_len] at this)
  obtain ⟨Z, hZ⟩ : ∃ Z, zR = Z := ⟨_, rfl⟩
  rw [hZ] at HNW
  have HZZ := hid hZ
  rw [hL] at HBY
  have HL44 := hid hl44
  have H9 := hid h9
  have HF : Hid (Kn w [] [] w) := hid ⟨Below.refl _ _, (fun q hq => by cases hq), (fun q hq => by cases hq)⟩
  have HZK : Hid (Z.ok ∧ Z.pv.oneCell' = true) := hid (by rw [← hZ]; exact ⟨zR_ok, rfl⟩)
  clear hL hl44 he h9 h8 hZ
  have hx9 : ∀ W, (binOp .xor 5 (.int .u8 108) (.int .u8 1)).run Tryd.prog W = .ok (.int .u8 109) W := fun W => by kernel_rfl
  have hmk34 : ∀ w, (Instr.makeSlice 27 (.int .i64 34) (.int .i64 34)).run Tryd.prog w = .ok (.slice (some ⟨w.heap.size, 0, none⟩) 34 34) (w.alloc (.cells (madeCells #[.int .u8 0] 34) 5)) := fun w => run_make_u8 34 (by decide) w
  have hmk35 : ∀ w, (Instr.makeSlice 27 (.int .i64 35) (.int .i64 35)).run Tryd.prog w = .ok (.slice (some ⟨w.heap.size, 0, none⟩) 35 35) (w.alloc (.cells (madeCells #[.int .u8 0] 35) 5)) := fun w => run_make_u8 35 (by decide) w
  have T1 : Hid True := hid trivial
  have T2 : Hid True := hid trivial
  have T3 : Hid True := hid trivial
  have T4 : Hid True := hid trivial
  have T5 : Hid True := hid trivial
  have T6 : Hid True := hid trivial
  have T7 : Hid True := hid trivial
  have T8 : Hid True := hid trivial
  have T9 : Hid True := hid trivial
  have T10 : Hid True := hid trivial
  have T11 : Hid True := hid trivial
  have T12 : Hid True := hid trivial
  have T13 : Hid True := hid trivial
  go_enter Tryd.func5, Tryd.ntmps5
  go_wp2_with (first
    | (clear T1; go_at_call 22; refine (HONE.out _).mono ?_; rintro e w1 ⟨g1, rfl, hr1, hb1⟩; replace HF := hid (HF.out.on hb1); have HR1 := hid hr1; clear hr1 hb1)
    | (go_at_call 8; refine (HBY.out _ g1 HR1.out).mono ?_; rintro e w2 ⟨v2, rfl, hbf2, hb2⟩; have HSZ := hid HF.out.below.size; replace HF := hid (HF.out.on hb2); obtain ⟨p2, c2, hv2⟩ := hbf2.form; subst hv2; have hcap := hbf2.cap.2; rw [HL44.out] at hcap hbf2; obtain ⟨gb, hgb, hgB, cb9, fb9, hset⟩ := hbf2.set (i := 9) (by have := HL44.out; omega) 109; subst hgb; rw [H9.out] at cb9; have HBF := hid hbf2; rw [HL44.out]; have hs43 := run_head8n (some ⟨gb, 0, none⟩) 44 c2 43 (by omega); clear hset hb2 HR1 cb9 fb9)
    | (clear T2; go_at_call 9; refine (HR43.out _ _ c2 HBF.out.bl hcap (HER.out _ HF.out.below)).mono ?_; rintro e w3 ⟨rfl, hb3⟩; replace HF := hid (HF.out.on hb3); replace HBF := hid (HBF.out.below hb3); clear hb3)
    | ((with_reducible refine wpList_allocJ rfl rfl ?_); intro wA gA hzA hbA hgA; have HZA := hid hzA; have HBA := hid hbA; have HGA := hid hgA; clear hzA hbA hgA)
    | (clear T3; (with_reducible refine wpList_storeJ rfl rfl _ _ rfl gA ?_ (s := 0) (v := .slice none 0 0) ?_ rfl HZA.out ?_); exact rfl; exact rfl; intro wS hS oS; have hbS := ownJ HBA.out HGA.out oS; replace HF := hid (HF.out.on hbS); replace HBF := hid (HBF.out.below hbS); obtain ⟨gq, hgq, hgB, cb9, fb9, hset⟩ := HBF.out.set (i := 9) (by have := HL44.out; omega) 109; cases hgq; rw [H9.out] at cb9; have HSW : Hid (Kn w [] [] (wS.setCell ⟨gb, 9, none⟩ (u8 109))) := hid ⟨below_tr HF.out.below ((Only.set (S := fun b => b = gb) wS ⟨gb, 9, none⟩ (u8 109) rfl).below HF.out.below.size (fun i e => by have := HSZ.out; omega)), (fun q hq => by cases hq), (fun q hq => by cases hq)⟩; replace cb9 : wS.cell? ⟨gb, 9, none⟩ = some (.int .u8 108) := cb9; have HST := hid hset; clear hS oS hbS HZA HBA HGA hset HF HBF)
    | (clear T4; go_at_call 9; refine (HR44.out _ _ c2 HST.out.bl hcap (HER.out _ HSW.out.below)).mono ?_; rintro e w4 ⟨rfl, hb4⟩; have HF := hid (HSW.out.on hb4); clear hb4 HSW HST)
    | (clear T5; go_at_call 9; refine (HR34.out _ (HER.out _ HF.out.below)).mono ?_; rintro e w5 ⟨rfl, hb5⟩; replace HF := hid (HF.out.on (below_on (below_al _ _) hb5)); clear hb5)
    | (clear T6; go_at_call 9; refine (HR35.out _ (HER.out _ HF.out.below)).mono ?_; rintro e w6 ⟨rfl, hb6⟩; replace HF := hid (HF.out.on (below_on (below_al _ _) hb6)); clear hb6)
    | ((with_reducible refine wpList_storeJ rfl rfl _ _ rfl gA ?_ (s := 0) (v := .slice none 0 0) ?_ rfl HZA.out ?_); exact rfl; exact rfl; intro wS hS oS; have hbS := ownJ HBA.out HGA.out oS; replace HF := hid (HF.out.on hbS); clear hS oS hbS HZA HBA HGA)
    | (clear T7; go_at_call 22; refine (HONE.out _).mono ?_; rintro e w7 ⟨g7, rfl, hr7, hb7⟩; replace HF := hid (HF.out.on hb7); have HR7 := hid hr7; clear hr7 hb7)
    | (clear T8; go_at_call 20; refine (HRM1.out _ g7 HR7.out).mono ?_; rintro e w8 ⟨vg, mg, rfl, hrs8, hrc8, hb8⟩; replace HF := hid (HF.out.on hb8); have hm8 : mg = [] := (by have := congrArg List.length hrc8; rw [rcs_len] at this; exact List.length_eq_zero_iff.1 this); subst hm8; obtain ⟨pg, cg, rfl, hq8⟩ := hrs8.rl (by simp); have HGo : Hid (∀ W, RL W (.slice pg 0 cg) []) := hid (fun W => ⟨pg, cg, rfl, hq8.1, hq8.2.1, hq8.2.2.1, Or.inl rfl, fun x hx => by cases hx⟩); (try change wpList _ _ _ _ _ _); clear hrs8 hrc8 hb8 hq8 HR7)
    | (clear T9; (with_reducible refine wpList_storeJ rfl rfl _ _ rfl gA ?_ (s := 2) (v := .slice pg 0 cg) ?_ rfl HZA.out ?_); exact rfl; exact rfl; intro wS hS oS; have hbS := ownJ HBA.out HGA.out oS; replace HF := hid ((HF.out.on hbS).addJ hS); obtain ⟨gG, hgG⟩ : ∃ g, g = gA := ⟨gA, rfl⟩; subst hgG; clear hS oS hbS HZA HBA HGA)
    | (clear T10; go_at_call 22; refine (HONE.out _).mono ?_; rintro e w10 ⟨g10, rfl, hr10, hb10⟩; replace HF := hid (HF.out.on hb10); have HR10 := hid hr10; clear hr10 hb10)
    | (clear T11; go_at_call 20; refine (HRM2.out _ g10 HR10.out).mono ?_; rintro e w11 ⟨rfl, hb11⟩; replace HF := hid (HF.out.on hb11); clear hb11 HR10)
    | ((with_reducible refine wpList_load_at 24 _ rfl ?_ gG 0 ?_ (jC 2 (.slice pg 0 cg)) (.struct (Tryd.prog.fieldsOf 24)) ?_ underJrn rfl ?_ ?_); exact rfl; exact rfl; exact (HF.out.cj (gG, 2, .slice pg 0 cg) (by simp)).wholeJ; exact sizeJ)
    | (go_at_call 21; refine (HNW.out _ _ [] (HGo.out _) rfl).mono ?_; rintro e w12 ⟨rfl, hb12⟩; replace HF := hid (HF.out.on hb12); clear hb12)
    | ((with_reducible refine wpList_allocR rfl rfl ?_); intro wR gR hzR hbR hgR; have HZR := hid hzR; have HBR := hid hbR; have HGR := hid hgR; clear hzR hbR hgR)
    | ((with_reducible refine wpList_storeR rfl rfl _ _ rfl gR ?_ (r := Z) ?_ zR_ok HZK.out.1 HZK.out.2 HZR.out ?_); exact rfl; exact rfl; intro wS hS oS; have hbS := ownJ HBR.out HGR.out oS; replace HF := hid (HF.out.on hbS); clear hS oS hbS HZR HBR HGR)
    | ((with_reducible refine wpList_build_want 24 _ rfl ?_ (jC 0 (.slice none 0 0)) ?_ ?_); exact rfl; exact builtZJ)
    | (go_at_call 23; refine (HMK.out _).mono ?_; rintro e w13 ⟨rfl, hb13⟩; replace HF := hid (HF.out.on hb13); clear hb13)
    | (go_at_call 15; refine (HAD.out _).mono ?_; rintro e w14 ⟨vf, mf, rfl, hrs14, hrc14, hb14⟩; replace HF := hid (HF.out.on hb14); have hvf : vf.oneCell' = true := (by obtain ⟨a, c, e, _⟩ := hrs14.buf.form; rw [e]; rfl); clear hrs14 hrc14 hb14)
    | (clear T12; (with_reducible refine wpList_storeJ rfl rfl _ _ rfl gA ?_ (s := 1) (v := vf) ?_ hvf HZA.out ?_); exact rfl; exact rfl; intro wS hS oS; have hbS := ownJ HBA.out HGA.out oS; replace HF := hid ((HF.out.on hbS).addJ hS); have HGF : Hid (∃ g, g = gA) := hid ⟨_, rfl⟩; clear hS oS hbS HZA HBA HGA)
    | (go_at_call 6; refine (HAW.out _ HF.out.below).mono ?_; rintro e w15 ⟨rfl, hb15⟩; replace HF := hid (HF.out.on hb15); clear hb15; have cG0 : w15.cell? ⟨gG, 0, none⟩ = some (i64 2) := ((HF.out.cj (gG, 2, .slice pg 0 cg) (by simp)).wholeJ 0 _ rfl); have cG1 : w15.cell? ⟨gG, 1, none⟩ = some (.slice pg 0 cg) := ((HF.out.cj (gG, 2, .slice pg 0 cg) (by simp)).wholeJ 1 _ rfl); have cF0 : w15.cell? ⟨gA, 0, none⟩ = some (i64 1) := ((HF.out.cj (gA, 1, vf) (by simp)).wholeJ 0 _ rfl))
    | (go_at_call 24; refine (HCK.out _).mono ?_; rintro e w16 ⟨rfl, hb16⟩; replace HF := hid (HF.out.on hb16); clear hb16))
  go_ret
  exact ⟨rfl, HF.out.below⟩
#print axioms known8_any
end Go.Proofs.YtcbmimjjpkkoeaaDoor

/- What the row's two listed errors give: Ers. -/
namespace Go.Proofs.YtcbmimjjpkkoeaaDoor
open Go Go.RowKit

theorem gForm : Tryd.prog.globalNamed "stowage/journal.errForm" = some 1 := by kernel_rfl
theorem gTurned : Tryd.prog.globalNamed "stowage/journal.errTurned" = some 0 := by kernel_rfl
theorem gFormT : (Tryd.prog.globals[1]?).map (·.type) = some 66 := by kernel_rfl
theorem gTurnedT : (Tryd.prog.globals[0]?).map (·.type) = some 66 := by kernel_rfl
theorem cellsEs : Tryd.prog.cellsOf 167 = 1 := by kernel_rfl
theorem cellsStr : Tryd.prog.cellsOf 9 = 1 := by kernel_rfl
theorem starEs : "*" ++ "errors.errorString" = "*errors.errorString" := by decide
theorem rowEs (u : TypeId) (h : Tryd.prog.typeName? 3 u = some "*errors.errorString") : u = 144 :=
  typeName_ptr_named (nm := "errors.errorString") (by rw [starEs]; kernel_rfl) (by kernel_rfl) (by decide) u (by rw [starEs]; exact h)
theorem ers_laid {W : World} (h : laidMetH Tryd.prog [("stowage/journal.errForm", Rows.laid_stowage_journal_errForm), ("stowage/journal.errTurned", Rows.laid_stowage_journal_errTurned)] W) : ∃ a0 a1, Ers W a0 a1 := by
  rw [Go.MakeChecks.laidMetH_plain _ _ _ (by kernel_rfl)] at h
  obtain ⟨a1, a0, s1, s0, c1, c0, t1, t0, hv1, hv0, hc1, hs1, hz1, hc0, hs0, hz0, hne, hb1, hb0⟩ := laid_sentinels2 h gForm gFormT gTurned gTurnedT Tryd.underlying66 rowEs Tryd.underlying144 Tryd.underlying167 rfl rfl Tryd.underlying9 cellsEs cellsStr
  exact ⟨a0, a1, ⟨by simpa using World.var?_cell gTurned hv0 0, by simpa using World.var?_cell gForm hv1 0, hne, ⟨_, _, hb0⟩, ⟨_, _, hb1⟩⟩⟩
#print axioms ers_laid
end Go.Proofs.YtcbmimjjpkkoeaaDoor
