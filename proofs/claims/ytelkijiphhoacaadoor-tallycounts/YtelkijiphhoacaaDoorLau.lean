/- Texts laid into one, cut to what is needed: the remark ahead of each part says what is proved there. -/
import Derived.Test.YtelkijiphhoacaaDoorLat
import Derived.Test.YtelkijiphhoacaaDoorLaj
import Derived.Test.YtelkijiphhoacaaDoorLai
/- tally.Elect, whatever way it goes; tally.Behind. -/
namespace Go.Proofs.YtelkijiphhoacaaDoor
open Go Go.RowKit

theorem elect_any (v : Value) (l : List Cv) (k : Int) (w : World) (a0 a1 : Addr) (he : Ers w a0 a1) (hl : CL w v l) : Calls Tryd.prog 12 #[v, i64 k] w (ElS OvB w (elE dig (cps l) k)) := by
  unfold elE
  by_cases h : 16 < (cps l).length ∨ k < 1 ∨ ((cps l).length : Int) < k
  · rw [if_pos h]
    exact (elect_arg v l k w hl h).mono fun e w' ⟨h1, h2⟩ => by rw [h1]; exact ElS.bad (Or.inl rfl) h2
  · rw [if_neg h]
    by_cases hq : (ansN (cps l) : Int) < k
    · rw [if_pos hq]
      exact (elect_quorum v l k w hl h hq).mono fun e w' ⟨h1, h2⟩ => by rw [h1]; exact ElS.bad (Or.inl rfl) h2
    · rw [if_neg hq]
      cases ha : allC dig (cps l) with
      | nil => exact elect_none v l k w a0 a1 he hl h hq ha
      | cons x r => exact elect_found v l k w a0 a1 he hl h hq x r ha
end Go.Proofs.YtelkijiphhoacaaDoor

/- The chapter's examples: mathematics; of; lists of three copies; awake. -/
namespace Go.Proofs.YtelkijiphhoacaaDoor
open Go Go.RowKit

def jA : List Nat := jB dig ⟨1, []⟩
def jBB : List Nat := jB dig ⟨2, []⟩
theorem ok1 : okJ ⟨1, []⟩ = true := by decide +kernel
theorem ok2 : okJ ⟨2, []⟩ = true := by decide +kernel
theorem rd1 : rdJ dig jA = (0, some ⟨1, []⟩) := rdJ_jB dig_len ok1
theorem rd2 : rdJ dig jBB = (0, some ⟨2, []⟩) := rdJ_jB dig_len ok2
theorem jAB : jA ≠ jBB := fun e => by have := jB_inj dig_len ok1 ok2 e; simp at this
theorem body1 : jBody ⟨1, []⟩ = [83, 74, 49, 1, 0] := by decide +kernel
theorem body2 : jBody ⟨2, []⟩ = [83, 74, 49, 2, 0] := by decide +kernel
theorem lenA : jA.length = 37 := by unfold jA jB; rw [body1, List.length_append, dig_len]; rfl
theorem lenB : jBB.length = 37 := by unfold jBB jB; rw [body2, List.length_append, dig_len]; rfl
set_option maxRecDepth 10000 in
theorem byteA : ∀ z ∈ jA, z < 256 := fun z hz => by
  unfold jA jB at hz
  rw [body1] at hz
  rcases List.mem_append.1 hz with hz | hz
  · revert z; decide
  · exact dig_lt _ z hz
set_option maxRecDepth 10000 in
theorem byteB : ∀ z ∈ jBB, z < 256 := fun z hz => by
  unfold jBB jB at hz
  rw [body2] at hz
  rcases List.mem_append.1 hz with hz | hz
  · revert z; decide
  · exact dig_lt _ z hz
theorem hasA : hasJ dig ⟨0, jA⟩ = some ⟨1, []⟩ := by unfold hasJ; rw [if_pos rfl, rd1]
theorem hasB : hasJ dig ⟨0, jBB⟩ = some ⟨2, []⟩ := by unfold hasJ; rw [if_pos rfl, rd2]
theorem el_aw1 : elE dig [⟨0, jA⟩, ⟨0, jA⟩, ⟨0, jBB⟩] 2 = (0, ⟨true, ⟨2, []⟩, jBB, [false, false, true], 3, 1⟩) := by
  have h1 : elC dig [⟨0, jA⟩, ⟨0, jA⟩, ⟨0, jBB⟩] = some (⟨2, []⟩, jBB, 1) := by
    unfold elC
    simp only [List.foldl_cons, List.foldl_nil, betC, hasA, hasB]
    have e : votC [⟨0, jA⟩, ⟨0, jA⟩, ⟨0, jBB⟩] jBB = 1 := by simp [votC, jAB]
    simp [e]
  unfold elE
  rw [if_neg (by simp), if_neg (by decide), chC_some h1]
  simp [hasC, jAB, ansN, ansC]
theorem el_aw2 : elE dig [⟨0, jA⟩, ⟨12, []⟩, ⟨11, []⟩] 2 = (10, chZ) := by
  unfold elE
  rw [if_neg (by simp), if_pos (by decide)]
/-- What of tells. -/
def OfS (w : World) (L : List Nat) (e : Ending) (w' : World) : Prop := ∃ p c, e = .returned (.agg (cC 0 (.slice p L.length c))) ∧ Buf w.heap.size w' (.slice p L.length c) L ∧ L.length ≤ c ∧ Below w.heap.size w w'
theorem builtJ1 (s : Int) : Tryd.prog.built 24 [(0, i64 s)] = some (jC s (.slice none 0 0)) := by kernel_rfl
theorem builtC1 (po : Option Addr) (n c : Nat) : Tryd.prog.built 36 [(1, .slice po n c)] = some (cC 0 (.slice po n c)) := by kernel_rfl
theorem builtC0 (e : Int) : Tryd.prog.built 36 [(0, i64 e)] = some (cC e (.slice none 0 0)) := by kernel_rfl
theorem ret_rowC {fn : Func} {q : Tmp} (h : fn.results = #[.cell q 36]) (e : Int) (v : Value) {R : Ending → World → Prop} {a : Act} {w : World} (g : Nat)
    (hd0 : a.defers = []) (hp : a.tmps.getD q undef = .pointer (some ⟨g, 0, none⟩)) (hb : CAt w g (cC e v) 36) (hR : R (.returned (.agg (cC e v))) w) : bodyPost Tryd.prog fn R .ret a w :=
  ⟨hd0, _, results_cell_row h _ _ g 36 (cC e v) (0, 0) _ hp hb underCp rfl sizeCp, hR⟩
set_option maxRecDepth 100000 in
set_option maxHeartbeats 1000000 in
theorem of9_any (s : Int) (w : World) (hs : okJ ⟨s, []⟩ = true) : Calls Tryd.prog 18 #[i64 s] w (OfS w (jB dig ⟨s, []⟩)) := by
  have HBY := hid (fun W => jbytes_ok s _ [] W (RL.nil W) hs)
  unfold BytE at HBY
  obtain ⟨L, hL⟩ : ∃ L, jB dig ⟨s, []⟩ = L := ⟨_, rfl⟩
  rw [show rcs [] = [] from rfl, hL] at HBY
  rw [hL]
  clear hL hs
  go_enter Tryd.func18, Tryd.ntmps18
  go_wp2_with (first
    | ((with_reducible refine wpList_allocX 36 _ zeroCp rfl rfl ?_); intro w1 g2 hz1 hb1 hg1; have HZ1 := hid hz1; have HB1 := hid hb1; have HG1 := hid (show w.heap.size ≤ g2 by omega); clear hz1 hb1 hg1)
    | ((with_reducible refine wpList_build_want 24 _ rfl ?_ (jC s (.slice none 0 0)) ?_ ?_); exact rfl; exact builtJ1 _)
    | (go_at_call 8; refine (HBY.out _).mono ?_; rintro e w2 ⟨v2, rfl, hbf2, hb2⟩; have hsz := HB1.out.size; obtain ⟨p2, c2, hv2⟩ := hbf2.form; subst hv2; have HCP := hid hbf2.cap.2; replace HZ1 := hid (HZ1.out.below hb2); replace HB1 := hid (below_on HB1.out hb2); have HG3 := hid (fun b hb => (own_ge hbf2 b hb).1); have HBF := hid (show Buf w.heap.size w2 _ L from own_base hbf2 hsz); clear hbf2 hb2)
    | ((with_reducible refine wpList_build_want 36 _ rfl ?_ (cC 0 (.slice p2 L.length c2)) ?_ ?_); exact rfl; exact builtC1 _ _ _)
    | ((with_reducible refine wpList_storeX 36 2 sizeCp rfl rfl _ _ rfl g2 ?_ (D := cC 0 (.slice p2 L.length c2)) ?_ ?_ ?_ ?_ HZ1.out ?_); exact rfl; exact rfl; exact rfl; exact rfl; exact cC_one _ _ _ _; intro w3 h3 o3; have HC3 := hid h3; have HO3 := hid o3; clear h3 o3))
  have hne : ∀ b, (Value.slice p2 L.length c2).ownBlock = some b → b ≠ g2 := fun b hb e => by
    subst e
    rcases HBF.out.2 with ⟨e2, _⟩ | ⟨g, cap, cur, e2, _, hg, _⟩
    · rw [e2] at hb; cases hb
    · rw [e2] at hb
      cases hb
      exact CAt.apart HZ1.out (show CAt w2 _ cur 5 from hg) (by decide) rfl
  exact ret_rowC rfl 0 (.slice p2 L.length c2) g2 rfl rfl HC3.out ⟨p2, c2, rfl, ownsRow_keep HBF.out (fun b hb => HO3.out.block b (own_ge HBF.out b hb).2 (hne b hb)), HCP.out, below_tr HB1.out (HO3.out.below HB1.out.size (fun i e => by have := HG1.out; omega))⟩
/-- A list of three copies. -/
def c3C (x y z : Cv) : Array Value := #[i64 x.err, x.v, i64 y.err, y.v, i64 z.err, z.v]
theorem run_build3 (x y z : Cv) (w : World) : (Instr.buildSlice 25 3 #[(0, .agg (cC x.err x.v)), (1, .agg (cC y.err y.v)), (2, .agg (cC z.err z.v))]).run Tryd.prog w = .ok (.slice (some ⟨w.heap.size, 0, none⟩) 3 3) (w.alloc (.cells (c3C x y z) 36)) := by kernel_rfl
theorem wpList_build3 {ops : Array Oper} {rest : List Oper} {o : Oper} {a : Act} {w : World} {Q : Exit → Act → World → Prop} (hg : o.guard = none) (p q r : Operand) (ho : o.op = .buildSlice 25 3 #[(0, p), (1, q), (2, r)]) (x y z : Cv) (hx : a.eval p = .agg (cC x.err x.v)) (hy : a.eval q = .agg (cC y.err y.v)) (hz : a.eval r = .agg (cC z.err z.v))
    (h : ∀ w1 g, CAt w1 g (c3C x y z) 36 → Below w.heap.size w w1 → w.heap.size = g → wpList Tryd.prog ops Q rest (a.put o.dst (.slice (some ⟨g, 0, none⟩) 3 3)) w1) : wpList Tryd.prog ops Q (o :: rest) a w := by
  refine wpList_plain hg fun _ hK => ?_
  unfold Oper.wp execOp
  have := run_build3 x y z w
  simp only [ho, List.map_toArray, List.map_cons, List.map_nil, hx, hy, hz, Sem.run_bind, this, Result.andThen_ok, Sem.run_pure]
  exact hK _ _ (h _ _ (CAt.made _ _ _) (below_al _ _) rfl)
theorem CL.three {w : World} {g : Nat} {x y z : Cv} (h : CAt w g (c3C x y z) 36) (hx : CvOk w x) (hy : CvOk w y) (hz : CvOk w z) : CL w (.slice (some ⟨g, 0, none⟩) 3 3) [x, y, z] := by
  refine ⟨_, 3, rfl, Nat.le_refl _, by simp, (fun e => by cases e), Or.inr ⟨g, 0, rfl, fun i u hu => ?_⟩, fun u hu => ?_⟩
  · match i, hu with
    | 0, hu => cases hu; exact ⟨h.cell 0, h.cell 1⟩
    | 1, hu => cases hu; exact ⟨h.cell 2, h.cell 3⟩
    | 2, hu => cases hu; exact ⟨h.cell 4, h.cell 5⟩
    | i + 3, hu => simp at hu
  · simp only [List.mem_cons, List.not_mem_nil, or_false] at hu
    rcases hu with rfl | rfl | rfl <;> assumption
theorem CvOk.err (w : World) (e : Int) : CvOk w ⟨e, .slice none 0 0, []⟩ := ⟨⟨none, 0, rfl, Or.inl rfl, Nat.le_refl _, fun _ => rfl⟩, by simp, by simp⟩
theorem Buf.cv {B : Nat} {w : World} {p : Option Addr} {n c : Nat} {L : List Nat} (h : Buf B w (.slice p n c) L) (hn : n = L.length) (h1 : L.length ≤ 100000) (h8 : ∀ z ∈ L, z < 256) (e : Int) : CvOk w ⟨e, .slice p n c, L⟩ := by
  subst hn
  refine ⟨⟨p, c, rfl, h.bl, h.cap.2, fun e => ?_⟩, h1, h8⟩
  subst e
  rcases h.2 with ⟨e2, _⟩ | ⟨g, cap, cur, e2, _⟩
  · simp at e2; exact e2.2
  · simp at e2
theorem bo3 {w : World} {g : Nat} {a b c : Bool} (h : CAt w g #[.bool a, .bool b, .bool c] 4) : BoL w (.slice (some ⟨g, 0, none⟩) 3 3) [a, b, c] := ⟨_, 3, rfl, Nat.le_refl _, Or.inr ⟨g, 0, rfl, fun i x hx => by
  rw [Nat.zero_add, h.cell]
  match i, hx with
  | 0, hx => cases hx; rfl
  | 1, hx => cases hx; rfl
  | 2, hx => cases hx; rfl
  | i + 3, hx => simp at hx⟩⟩
theorem run_bo3 (a b c : Bool) (w : World) : (Instr.buildSlice 38 3 #[(0, .bool a), (1, .bool b), (2, .bool c)]).run Tryd.prog w = .ok (.slice (some ⟨w.heap.size, 0, none⟩) 3 3) (w.alloc (.cells #[.bool a, .bool b, .bool c] 4)) := by kernel_rfl
set_option maxRecDepth 100000 in
set_option maxHeartbeats 4000000 in
theorem awake9_any (a0 a1 : Addr) (w : World) (he : Ers w a0 a1) : Calls Tryd.prog 6 #[] w fun e w' => e = .returned (.bool true) ∧ Below w.heap.size w w' := by
  have HO1 := hid (fun W => of9_any 1 W ok1)
  have HO2 := hid (fun W => of9_any 2 W ok2)
  unfold OfS at HO1 HO2
  rw [show jB dig ⟨1, []⟩ = jA from rfl, lenA] at HO1
  rw [show jB dig ⟨2, []⟩ = jBB from rfl, lenB] at HO2
  have HCA : Hid (∀ (B : Nat) (W : World) p c, Buf B W (.slice p 37 c) jA → CvOk W ⟨0, .slice p 37 c, jA⟩) := hid (fun B W p c h => h.cv lenA.symm (by rw [lenA]; omega) byteA 0)
  have HCB : Hid (∀ (B : Nat) (W : World) p c, Buf B W (.slice p 37 c) jBB → CvOk W ⟨0, .slice p 37 c, jBB⟩) := hid (fun B W p c h => h.cv lenB.symm (by rw [lenB]; omega) byteB 0)
  have HE1 := hid el_aw1
  have HE2 := hid el_aw2
  generalize jA = LA at *
  generalize jBB = LB at *
  have HEL1 : Hid (∀ W p1 c1 p2 c2 p3 c3 g, Below w.heap.size w W → CL W (.slice (some ⟨g, 0, none⟩) 3 3) [⟨0, .slice p1 37 c1, LA⟩, ⟨0, .slice p2 37 c2, LA⟩, ⟨0, .slice p3 37 c3, LB⟩] → Calls Tryd.prog 12 #[.slice (some ⟨g, 0, none⟩) 3 3, i64 2] W (ElS OvB W (0, ⟨true, ⟨2, []⟩, LB, [false, false, true], 3, 1⟩))) := hid (fun W p1 c1 p2 c2 p3 c3 g hW h => by
    have := elect_any _ _ 2 W a0 a1 (he.below hW) h
    rw [show cps [⟨0, .slice p1 37 c1, LA⟩, ⟨0, .slice p2 37 c2, LA⟩, ⟨0, .slice p3 37 c3, LB⟩] = [⟨0, LA⟩, ⟨0, LA⟩, ⟨0, LB⟩] from rfl, HE1.out] at this
    exact this)
  have HEL2 : Hid (∀ W p1 c1 g, Below w.heap.size w W → CL W (.slice (some ⟨g, 0, none⟩) 3 3) [⟨0, .slice p1 37 c1, LA⟩, ⟨12, .slice none 0 0, []⟩, ⟨11, .slice none 0 0, []⟩] → Calls Tryd.prog 12 #[.slice (some ⟨g, 0, none⟩) 3 3, i64 2] W (ElS OvB W (10, chZ))) := hid (fun W p1 c1 g hW h => by
    have := elect_any _ _ 2 W a0 a1 (he.below hW) h
    rw [show cps [⟨0, .slice p1 37 c1, LA⟩, ⟨12, .slice none 0 0, []⟩, ⟨11, .slice none 0 0, []⟩] = [⟨0, LA⟩, ⟨12, []⟩, ⟨11, []⟩] from rfl, HE2.out] at this
    exact this)
  have HB : Hid (Below w.heap.size w w) := hid (Below.refl _ _)
  clear he
  have T1 : Hid True := hid trivial
  have T2 : Hid True := hid trivial
  have T3 : Hid True := hid trivial
  have T4 : Hid True := hid trivial
  have T5 : Hid True := hid trivial
  have hbo := run_bo3
  go_enter Tryd.func6, Tryd.ntmps6
  go_wp2_with (first
    | (clear T1; go_at_call 18; refine (HO1.out _).mono ?_; rintro e w1 ⟨p1, c1, rfl, hb1, -, hw1⟩; replace HB := hid (below_on HB.out hw1); have HB1 := hid hb1; clear hb1 hw1)
    | (clear T2; go_at_call 18; refine (HO1.out _).mono ?_; rintro e w2 ⟨p2, c2, rfl, hb2, -, hw2⟩; replace HB := hid (below_on HB.out hw2); replace HB1 := hid (HB1.out.below hw2); have HB2 := hid hb2; clear hb2 hw2)
    | (clear T3; go_at_call 18; refine (HO2.out _).mono ?_; rintro e w3 ⟨p3, c3, rfl, hb3, -, hw3⟩; replace HB := hid (below_on HB.out hw3); replace HB1 := hid (HB1.out.below hw3); replace HB2 := hid (HB2.out.below hw3); have HB3 := hid hb3; clear hb3 hw3)
    | ((with_reducible refine wpList_build3 rfl _ _ _ rfl ⟨0, .slice p1 37 c1, LA⟩ ⟨0, .slice p2 37 c2, LA⟩ ⟨0, .slice p3 37 c3, LB⟩ ?_ ?_ ?_ ?_); exact rfl; exact rfl; exact rfl; intro w4 g4 hc4 hw4 hg4; replace HB := hid (below_on HB.out hw4); have HCL := hid (CL.three hc4 (HCA.out _ _ _ _ (HB1.out.below hw4)) (HCA.out _ _ _ _ (HB2.out.below hw4)) (HCB.out _ _ _ _ (HB3.out.below hw4))); clear hc4 hw4 hg4 HB1 HB2 HB3)
    | (clear T4; go_at_call 12; refine (HEL1.out _ _ _ _ _ _ _ g4 HB.out HCL.out).mono ?_; rintro e w5 ⟨s5, v5, b5, h5, m5, rfl, hr5, hj5, -, hsl5, -, hbo5, hw5⟩; replace HB := hid (below_on HB.out hw5); have hv5 := hr5.one; have hb5 : b5.oneCell' = true := (by obtain ⟨_, _, e, _⟩ := hsl5; rw [e]; rfl); obtain ⟨ph, ch, hhf, hr0⟩ := hbo5; have HH5 := hid (show BoL w5 h5 [false, false, true] from ⟨ph, ch, hhf, hr0⟩); clear hr0; subst hhf; have hs5 : s5 = 2 := congrArg Jr.seq hj5; subst hs5; clear hr5 hj5 hsl5 hw5)
    | ((with_reducible refine wpList_allocX 40 _ zeroCh rfl rfl ?_); intro w6 g6 hz6 hb6 hg6; have HZ6 := hid hz6; have HB6 := hid hb6; have HG6 := hid hg6; clear hz6 hb6 hg6)
    | (clear T5; (with_reducible refine wpList_storeX 40 7 sizeCh rfl rfl _ _ rfl g6 ?_ (D := eC true 2 v5 b5 (.slice ph 3 ch) 3 1) ?_ ?_ ?_ ?_ HZ6.out ?_); exact rfl; exact rfl; exact rfl; exact rfl; exact eC_one _ _ hv5 hb5 rfl _ _; intro w7 h7 o7; have hb7 := ownX HB6.out HG6.out o7; replace HB := hid (below_on HB.out hb7); have HC7 := hid h7; replace HH5 := hid (HH5.out.below hb7); obtain ⟨g7, hg7⟩ : ∃ g, g = g6 := ⟨_, rfl⟩; rw [← hg7] at HC7 ⊢; clear h7 o7 HZ6 HB6 HG6 hb7 hg7)
    | (go_at_call 18; refine (HO1.out _).mono ?_; rintro e w8 ⟨p8, c8, rfl, hb8, -, hw8⟩; replace HB := hid (below_on HB.out hw8); replace HC7 := hid (HC7.out.below hw8); replace HH5 := hid (HH5.out.below hw8); have HB8 := hid hb8; clear hb8 hw8)
    | ((with_reducible refine wpList_build_want 36 _ rfl ?_ (cC 12 (.slice none 0 0)) ?_ ?_); exact rfl; exact builtC0 _)
    | ((with_reducible refine wpList_build_want 36 _ rfl ?_ (cC 11 (.slice none 0 0)) ?_ ?_); exact rfl; exact builtC0 _)
    | ((with_reducible refine wpList_build3 rfl _ _ _ rfl ⟨0, .slice p8 37 c8, LA⟩ ⟨12, .slice none 0 0, []⟩ ⟨11, .slice none 0 0, []⟩ ?_ ?_ ?_ ?_); exact rfl; exact rfl; exact rfl; intro w9 g9 hc9 hw9 hg9; replace HB := hid (below_on HB.out hw9); replace HC7 := hid (HC7.out.below hw9); replace HH5 := hid (HH5.out.below hw9); have HCL := hid (CL.three hc9 (HCA.out _ _ _ _ (HB8.out.below hw9)) (CvOk.err _ _) (CvOk.err _ _)); clear hc9 hw9 hg9 HB8)
    | (go_at_call 12; refine (HEL2.out _ _ _ g9 HB.out HCL.out).mono ?_; rintro e w10 ⟨s10, v10, b10, h10, m10, rfl, hr10, hj10, -, hsl10, -, hbo10, hw10⟩; replace HB := hid (below_on HB.out hw10); replace HC7 := hid (HC7.out.below hw10); replace HH5 := hid (HH5.out.below hw10); have hv10 := hr10.one; have hb10 : b10.oneCell' = true := (by obtain ⟨_, _, e, _⟩ := hsl10; rw [e]; rfl); have hh10 : h10.oneCell' = true := (by obtain ⟨_, _, e, _⟩ := hbo10; rw [e]; rfl); clear hr10 hj10 hsl10 hw10 hbo10)
    | ((with_reducible refine wpList_storeX 40 7 sizeCh rfl rfl _ _ rfl g6 ?_ (D := eC false s10 v10 b10 h10 0 0) ?_ ?_ ?_ ?_ HZ6.out ?_); exact rfl; exact rfl; exact rfl; exact rfl; exact eC_one _ _ hv10 hb10 hh10 _ _; intro w11 h11 o11; have hb11 := ownX HB6.out HG6.out o11; replace HB := hid (below_on HB.out hb11); replace HC7 := hid (HC7.out.below hb11); replace HH5 := hid (HH5.out.below hb11); have k0 : w11.cell? ⟨g7, 0, none⟩ = some (.bool true) := HC7.out.cell 0; have k1 : w11.cell? ⟨g7, 1, none⟩ = some (i64 2) := HC7.out.cell 1; have k4 : w11.cell? ⟨g7, 4, none⟩ = some (.slice ph 3 ch) := HC7.out.cell 4; have k6 : w11.cell? ⟨g7, 6, none⟩ = some (i64 1) := HC7.out.cell 6; have HA1 := hid (CAt.made w11 #[.bool false, .bool false, .bool true] 4); have HA2 := hid (below_al w11 (.cells #[.bool false, .bool false, .bool true] 4)); clear h11 o11 HZ6 HB6 HG6 hb11)
    | (go_at_call 19; refine (sameT_any _ _ _ _ _ (by simp) (HH5.out.below HA2.out) (bo3 HA1.out)).mono ?_; rintro e w12 ⟨rfl, hw12⟩; replace HB := hid (below_on (below_on HB.out HA2.out) hw12); rw [decide_eq_true rfl]; clear hw12))
  go_ret
  exact ⟨rfl, HB.out⟩
end Go.Proofs.YtelkijiphhoacaaDoor

/- Copies that came in; which are large; how many have just these bytes. -/
namespace Go.Proofs.YtelkijiphhoacaaDoor
open Go Go.RowKit

/-- What is told of a copy that came in. -/
structure IsCp (w : World) (x : Cv) : Prop where
  sl : ∃ po c, x.v = .slice po x.bs.length c ∧ BL w po x.bs ∧ x.bs.length ≤ c ∧ (po = none → c = 0)
  byte : ∀ z ∈ x.bs, z < 256
def IsC (w : World) (v : Value) (l : List Cv) : Prop := ∃ po c, v = .slice po l.length c ∧ l.length ≤ c ∧ c ≤ maxLen ∧ (po = none → c = 0) ∧ (l = [] ∨ ∃ b o, po = some ⟨b, o, none⟩ ∧ CCells w b o l) ∧ ∀ x ∈ l, IsCp w x
def bigX (x : Cv) : Bool := decide (20000 < x.bs.length)
def bigC (l : List Cv) : Bool := l.any bigX || decide (20 < l.length)
theorem IsC.cl {w : World} {v : Value} {l : List Cv} (h : IsC w v l) (hb : bigC l = false) : CL w v l ∧ l.length ≤ 20 ∧ ∀ x ∈ l, x.bs.length ≤ 20000 := by
  obtain ⟨po, c, h1, h2, _, h4, h5, h6⟩ := h
  simp only [bigC, Bool.or_eq_false_iff, decide_eq_false_iff_not, List.any_eq_false, bigX, decide_eq_true_eq] at hb
  have hs : ∀ x ∈ l, x.bs.length ≤ 20000 := fun x hx => by have := hb.1 x hx; omega
  exact ⟨⟨po, c, h1, h2, by omega, h4, h5, fun x hx => ⟨(h6 x hx).sl, by have := hs x hx; omega, (h6 x hx).byte⟩⟩, by omega, hs⟩
theorem anyX_take {l : List Cv} {k : Nat} {x : Cv} (hx : l[k]? = some x) : (l.take (k + 1)).any bigX = ((l.take k).any bigX || bigX x) := by
  rw [take_next hx]; simp
theorem bigC_of {l : List Cv} {k : Nat} {x : Cv} (hx : l[k]? = some x) (hb : bigX x = true) : bigC l = true := by
  unfold bigC
  rw [List.any_eq_true.2 ⟨x, List.mem_of_getElem? hx, hb⟩]
  rfl
section
variable {H : Type} {enc : TypeId × Value → H} {w : World} {held : Bool} {fuel : Nat}
set_option maxRecDepth 100000 in
theorem copy_read9 {cs : List Value} {x : DataW H × List MemPlace} (h : DataW.trod enc Tryd.prog w 0 (fun _ => true) held fuel 36 cs = some x) : ∃ y : Cv, IsCp w y ∧ cs = (cC y.err y.v).toList := by
  obtain ⟨xs, n, _, _, hcl, hxl, hf⟩ := DataW.trod_struct Tryd.underlying36 h
  have h2 : cs.length = 2 := by rw [hcl]; kernel_rfl
  have hx2 : xs.length = 2 := by rw [hxl]; rfl
  have k3 : Tryd.prog.cellsOf 30 = 1 := by kernel_rfl
  have kR : Tryd.prog.cellsOf 29 = 1 := by kernel_rfl
  match cs, h2, xs, hx2 with
  | [c0, c1], _, [y0, y1], _ =>
    have f0 : DataW.trod enc Tryd.prog w 0 (fun _ => true) held n 30 (([c0, c1].drop 0).take (Tryd.prog.cellsOf 30)) = some y0 := hf 0 _ rfl
    rw [k3] at f0
    have f1 : DataW.trod enc Tryd.prog w 0 (fun _ => true) held n 29 (([c0, c1].drop 1).take (Tryd.prog.cellsOf 29)) = some y1 := hf 1 _ rfl
    rw [kR] at f1
    obtain ⟨z0, e0, _, _⟩ := DataW.trod_int Tryd.underlying30 f0
    simp at e0
    subst e0
    have f2 : DataW.trod enc Tryd.prog w 0 (fun _ => true) held n 29 [c1] = some y1 := f1
    obtain ⟨po, l, c, rfl⟩ : ∃ po l c, c1 = .slice po l c := by
      rcases DataW.trod_slice Tryd.underlying29 f2 with ⟨hcs, _⟩ | ⟨ad, l, c, _, _, _, _, hcs, _⟩
      · simp at hcs; exact ⟨none, 0, 0, hcs⟩
      · simp at hcs; exact ⟨some ad, l, c, hcs⟩
    obtain ⟨bs, rfl, h1, h3, h4, h5⟩ := bytes_open (a := po) (len := l) (cap := c) f2
    exact ⟨⟨z0, .slice po bs.length c, bs⟩, ⟨⟨po, c, rfl, h3, h1, h5⟩, h4⟩, rfl⟩
set_option maxRecDepth 100000 in
theorem copies_read9 {cs : List Value} {x : DataW H × List MemPlace} (h : DataW.trod enc Tryd.prog w 0 (fun _ => true) held fuel 25 cs = some x) : ∃ v l, cs = [v] ∧ IsC w v l := by
  have k2 : Tryd.prog.cellsOf 36 = 2 := by kernel_rfl
  rcases DataW.trod_slice Tryd.underlying25 h with ⟨hcs, _⟩ | ⟨ad, l, c, elems, rest, n, _, hcs, _, _, hl, hc, hlen, hel, _, _⟩
  · exact ⟨_, [], hcs, none, 0, rfl, Nat.le_refl _, Nat.zero_le _, fun _ => rfl, Or.inl rfl, fun x hx => by cases hx⟩
  · rw [k2] at hel
    have each : ∀ i, i < l → ∃ y : Cv, IsCp w y ∧ w.cell? ((ad.add (i * 2)).add 0) = some (i64 y.err) ∧ w.cell? ((ad.add (i * 2)).add 1) = some y.v := fun i hi => by
      have h1 := hel i hi
      rw [List.getElem?_eq_getElem (by omega)] at h1
      obtain ⟨ds, hc1, hc2⟩ := Option.bind_eq_some_iff.1 h1
      obtain ⟨y, hy, rfl⟩ := copy_read9 hc2
      obtain ⟨_, _, hcell⟩ := World.cells?_some hc1
      exact ⟨y, hy, by rw [hcell 0 (by omega)]; rfl, by rw [hcell 1 (by omega)]; rfl⟩
    by_cases h0 : l = 0
    · subst h0
      exact ⟨_, [], hcs, some ad, c, rfl, hl, hc, (fun h => by cases h), Or.inl rfl, fun x hx => by cases hx⟩
    obtain ⟨y0, hy0, h00, _⟩ := each 0 (by omega)
    obtain ⟨b, o, rfl⟩ : ∃ b o, ad = ⟨b, o, none⟩ := by
      rw [Nat.zero_mul, add_zero', add_zero'] at h00
      exact plain_at ad w (by rw [h00]; simp)
    have each2 : ∀ i, i < l → ∃ y : Cv, IsCp w y ∧ w.cell? ⟨b, o + i * 2, none⟩ = some (i64 y.err) ∧ w.cell? ⟨b, o + i * 2 + 1, none⟩ = some y.v := fun i hi => by
      obtain ⟨y, h1, h2, h3⟩ := each i hi
      rw [add_none, add_none, Nat.add_zero] at h2
      rw [add_none, add_none] at h3
      exact ⟨y, h1, h2, h3⟩
    refine ⟨_, (List.range l).map fun i => if h : i < l then (each2 i h).choose else y0, hcs, some ⟨b, o, none⟩, c, by simp, by simpa using hl, hc, (fun h => by cases h), Or.inr ⟨b, o, rfl, fun i x hx => ?_⟩, fun x hx => ?_⟩
    · have hi : i < l := by
        rcases Nat.lt_or_ge i l with q | q
        · exact q
        · rw [List.getElem?_eq_none (by simpa using q)] at hx; cases hx
      simp [hi] at hx
      subst hx
      exact (each2 i hi).choose_spec.2
    · obtain ⟨i, hi, rfl⟩ := List.mem_map.1 hx
      have hi' : i < l := by simpa using hi
      simp only [hi', dite_true]
      exact (each2 i hi').choose_spec.1
end
set_option maxRecDepth 100000 in
set_option maxHeartbeats 2000000 in
theorem large9_any (v : Value) (l : List Cv) (w : World) (hl : IsC w v l) : Calls Tryd.prog 7 #[v] w fun e w' => e = .returned (.bool (bigC l)) ∧ w' = w := by
  obtain ⟨R, hR⟩ : ∃ R : Bool, bigC l = R := ⟨_, rfl⟩
  rw [hR]
  have HRR := hid hR
  clear hR
  obtain ⟨po, c, rfl, hc1, hcm, hz, hcell, heach⟩ := hl
  have HE := hid heach
  have HC := hid hcell
  obtain ⟨n, hN⟩ : ∃ n, l.length = n := ⟨_, rfl⟩
  have HN := hid hN
  have hlm : (n : Int) ≤ 9223372036854775807 := by have : l.length ≤ maxLen := Nat.le_trans hc1 hcm; unfold maxLen at this; omega
  rw [hN]
  clear heach hcell hcm hz hc1 hN
  go_enter Tryd.func7, Tryd.ntmps7
  go_wp2
  go_loopg [3] n (fun gg s3 wr => ∃ kk : Nat, kk ≤ n ∧ n - kk ≤ gg ∧ s3 = i64 kk ∧ Hid (w = wr) ∧ Hid ((l.take kk).any bigX = false))
  case atStart => exact ⟨0, Nat.zero_le _, by omega, rfl, hid rfl, hid rfl⟩
  case round =>
    obtain ⟨kk, hkk, hg, rfl, BW, A⟩ := hrel
    have hwr := BW.out
    subst hwr
    by_cases hlt : kk < n
    · have hltz : (kk : Int) < (n : Int) := by omega
      obtain ⟨x, hx⟩ : ∃ x, l[kk]? = some x := ⟨_, List.getElem?_eq_getElem (by have := HN.out; omega)⟩
      obtain ⟨b, o, hpo, hcells⟩ : ∃ b o, po = some ⟨b, o, none⟩ ∧ CCells w b o l := by
        rcases HC.out with h | h
        · rw [h] at hx; simp at hx
        · exact h
      subst hpo
      obtain ⟨p1, c1, hxv, -⟩ := (HE.out x (List.mem_of_getElem? hx)).sl
      have k1 := (hcells kk x hx).2
      rw [hxv] at k1
      have HX := hid hx
      have HA2 := hid (anyX_take hx)
      rw [A.out] at HA2
      obtain ⟨m1, hm1⟩ : ∃ m, x.bs.length = m := ⟨_, rfl⟩
      rw [hm1] at k1
      have HM1 := hid hm1
      clear hcells hx hxv hm1
      by_cases hbig : (20000 : Int) < (m1 : Int)
      · have HBX : Hid (bigX x = true) := hid (by unfold bigX; rw [HM1.out]; exact decide_eq_true (by omega))
        go_wp2
        go_ret
        rw [show R = true from HRR.out.symm.trans (bigC_of HX.out HBX.out)]
        exact ⟨rfl, rfl⟩
      · have HBX : Hid (bigX x = false) := hid (by unfold bigX; rw [HM1.out]; exact decide_eq_false (by omega))
        go_wp2
        go_roundg (n - (kk + 1))
        case measure => omega
        case rel => exact ⟨kk + 1, by omega, by omega, by go_num, hid rfl, hid (by rw [HA2.out, HBX.out]; rfl)⟩
    · have hltz : ¬ (kk : Int) < (n : Int) := by omega
      have HAL : Hid (l.any bigX = false) := hid (by have := A.out; rwa [List.take_of_length_le (by have := HN.out; omega)] at this)
      by_cases h20 : (20 : Int) < (n : Int)
      · go_wp2
        go_ret
        rw [show R = true from HRR.out.symm.trans (by unfold bigC; rw [HAL.out, decide_eq_true (by have := HN.out; omega)]; rfl)]
        exact ⟨rfl, rfl⟩
      · go_wp2
        go_ret
        rw [show R = false from HRR.out.symm.trans (by unfold bigC; rw [HAL.out, decide_eq_false (by have := HN.out; omega)]; rfl)]
        exact ⟨rfl, rfl⟩
set_option maxRecDepth 100000 in
set_option maxHeartbeats 2000000 in
theorem cnt9_any (v u : Value) (l : List Cv) (bs : List Nat) (w : World) (hl : CL w v l) (hu : SL w u bs) (h8 : ∀ z ∈ bs, z < 256) : Calls Tryd.prog 16 #[v, u] w fun e w' => e = .returned (i64 (votC (cps l) bs)) ∧ Below w.heap.size w w' := by
  have HL := hid hl
  have HU := hid hu
  have H8 := hid h8
  obtain ⟨po, c, rfl, hc1, hn, -⟩ := hl
  obtain ⟨n, hN⟩ : ∃ n, l.length = n := ⟨_, rfl⟩
  have HN := hid hN
  rw [hN] at hn HL ⊢
  obtain ⟨pu, cu, hfu, -⟩ := hu
  obtain ⟨nu, hnu⟩ : ∃ n, bs.length = n := ⟨_, rfl⟩
  rw [hnu] at hfu
  rw [hfu] at HU ⊢
  clear hN hc1 h8 hfu hnu
  go_enter Tryd.func16, Tryd.ntmps16
  go_wp2
  go_loopg [5, 6] n (fun gg s5 s6 wr => ∃ kk q : Nat, kk ≤ n ∧ n - kk ≤ gg ∧ q ≤ kk ∧ s5 = i64 q ∧ s6 = i64 kk ∧ Hid (votC (cps (l.take kk)) bs = q) ∧ Hid (Below w.heap.size w wr))
  case atStart => exact ⟨0, 0, Nat.zero_le _, by omega, Nat.zero_le _, rfl, rfl, hid rfl, hid (Below.refl _ _)⟩
  case round =>
    obtain ⟨kk, q, hkk, hg, hqk, rfl, rfl, HQ, BW⟩ := hrel
    by_cases hlt : kk < n
    · have hltz : (kk : Int) < (n : Int) := by omega
      obtain ⟨x, hx⟩ : ∃ x, l[kk]? = some x := ⟨_, List.getElem?_eq_getElem (by have := HN.out; omega)⟩
      obtain ⟨b, o, c', e, -⟩ := HL.out.where hx
      rw [HN.out] at e
      cases e
      obtain ⟨k0, k1, hok⟩ := HL.out.at BW.out hx
      obtain ⟨p1, c1, hxv, -⟩ := hok.sl
      rw [hxv] at k1
      have HSX := hid hok.slv
      rw [hxv] at HSX
      obtain ⟨m1, hm1⟩ : ∃ m, x.bs.length = m := ⟨_, rfl⟩
      rw [hm1] at k1 HSX
      have HXN : Hid (votC (cps (l.take (kk + 1))) bs = q + if hasC bs x.cp then 1 else 0) := hid (by rw [cps_next hx, vot_snoc, HQ.out])
      have HSB := hid (sameB_any HSX.out (HU.out.below BW.out) hok.byte H8.out)
      clear hok hxv hm1 hx
      by_cases hE : x.err = 0
      · rw [hE] at k0
        have hh : hasC bs x.cp = decide (x.bs = bs) := by unfold hasC; rw [decide_eq_true (show x.cp.err = 0 from hE)]; rfl
        rw [hh] at HXN
        clear hE hh
        cases hd : decide (x.bs = bs) with
        | true =>
          rw [hd] at HSB HXN
          go_wp2_with (go_at_call 14; refine HSB.out.mono ?_; rintro e w4 ⟨rfl, hw4⟩; have hw5 := hw4.symm; subst hw5)
          go_roundg (n - (kk + 1))
          case measure => omega
          case rel => exact ⟨kk + 1, q + 1, by omega, by omega, by omega, by go_num, by go_num, HXN, BW⟩
        | false =>
          rw [hd] at HSB HXN
          go_wp2_with (go_at_call 14; refine HSB.out.mono ?_; rintro e w4 ⟨rfl, hw4⟩; have hw5 := hw4.symm; subst hw5)
          go_roundg (n - (kk + 1))
          case measure => omega
          case rel => exact ⟨kk + 1, q, by omega, by omega, by omega, rfl, by go_num, HXN, BW⟩
      · have hz : (x.err == 0) = false := by simpa using hE
        have hh : hasC bs x.cp = false := by unfold hasC; rw [decide_eq_false (show ¬ x.cp.err = 0 from hE)]; rfl
        rw [hh] at HXN
        generalize x.err = E at k0 hz hE
        clear hE hh
        go_wp2
        go_roundg (n - (kk + 1))
        case measure => omega
        case rel => exact ⟨kk + 1, q, by omega, by omega, by omega, rfl, by go_num, HXN, BW⟩
    · have hltz : ¬ (kk : Int) < (n : Int) := by omega
      go_wp2
      go_ret
      refine ⟨?_, BW.out⟩
      rw [← HQ.out, List.take_of_length_le (by have := HN.out; omega)]
      rfl
end Go.Proofs.YtelkijiphhoacaaDoor
