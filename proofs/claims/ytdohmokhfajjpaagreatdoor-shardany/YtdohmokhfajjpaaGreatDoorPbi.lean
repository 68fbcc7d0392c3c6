/- Texts laid into one, cut to what is needed: the remark ahead of each part says what is proved there. -/
import Derived.Test.YtdohmokhfajjpaaGreatDoorPbf
/- Contract of awake of the statements on shard: the chapter's examples are answered as it says; what was there is as it was. -/
namespace Go.Proofs.YtdohmokhfajjpaaGreatDoor
open Go Go.RowKit

theorem abc_bl (w : World) : BL (w.alloc (.cells #[.int .u8 97, .int .u8 98, .int .u8 99] 5 (3, 4))) (some ⟨w.heap.size, 0, none⟩) abc := by
 right
 refine ⟨w.heap.size, 0, rfl, fun i hi => ?_⟩
 have h3 : i < 3 := hi
 unfold World.cell?
 rw [show ((w.alloc (.cells #[.int .u8 97, .int .u8 98, .int .u8 99] 5 (3, 4))).heap[w.heap.size]?) = some (.cells #[.int .u8 97, .int .u8 98, .int .u8 99] 5 (3, 4)) from at_new w _]
 match i, h3 with
 | 0, _ => rfl
 | 1, _ => rfl
 | 2, _ => rfl
/-- What is known of the three files once they are laid, as drives answer them. -/
theorem cl_abc {B : Nat} {w : World} {u : Value} {vs : Array Value} (hX : XB 33 2 B w u ((cvs vs.toList (fls 2 1 abc)).map Cv.row11)) (hsz : vs.size = (fls 2 1 abc).length) {C : Nat} (hr : ∀ (i : Nat) (x : Value) (L : List Nat), vs[i]? = some x → (fls 2 1 abc)[i]? = some L → Buf C w x L) : CL w u (cvs vs.toList (fls 2 1 abc)) :=
 XB.cl11 hX (cvs_ok hsz hr (fun L hL => by rw [fls3] at hL; simp at hL; rcases hL with rfl | rfl | rfl <;> (rw [abc_fls_len]; omega)) (fun L hL => by
  unfold fls at hL
  obtain ⟨i, _, rfl⟩ := List.mem_map.1 hL
  exact flL_lt (shd_lt 2 abc i))) (by rw [cvs_len, fls_len]; omega)
theorem cvs3 (vs : List Value) : cvs vs (fls 2 1 abc) = [⟨0, vs.getD 0 (.slice none 0 0), flL (shd 2 abc 0)⟩, ⟨0, vs.getD 1 (.slice none 0 0), flL (shd 2 abc 1)⟩, ⟨0, vs.getD 2 (.slice none 0 0), flL (shd 2 abc 2)⟩] := by
 rw [fls3]; rfl
theorem fls3_len : (fls 2 1 abc).length = 3 := rfl
/-- The three files of the example. -/
structure F3 (B g : Nat) (vs : Array Value) (w : World) : Prop where
 at_ : CAt w g vs 22
 sz : vs.size = (fls 2 1 abc).length
 rw : ∀ (i : Nat) (u : Value) (L : List Nat), vs[i]? = some u → (fls 2 1 abc)[i]? = some L → Buf B w u L
theorem F3.below {B g : Nat} {vs : Array Value} {w w' : World} (h : F3 B g vs w) (hb : Below w.heap.size w w') : F3 B g vs w' := ⟨h.at_.below hb, h.sz, fun i u L hu hL => (h.rw i u L hu hL).below hb⟩
theorem F3.first {B g : Nat} {vs : Array Value} {w : World} (h : F3 B g vs w) : ∃ p c, w.cell? ⟨g, 0, none⟩ = some (.slice p 34 c) ∧ vs[0]? = some (.slice p 34 c) ∧ Buf B w (.slice p 34 c) (flL (shd 2 abc 0)) := by
 have h1 : vs[0]? = some (vs[0]'(by rw [h.sz]; decide)) := Array.getElem?_eq_getElem _
 have h2 := h.rw 0 _ _ h1 (fls_get 2 1 abc 0 (by omega))
 obtain ⟨p, c, e⟩ := Buf.form h2
 rw [abc_fls_len] at e
 rw [e] at h1 h2
 exact ⟨p, c, by rw [h.at_.cell]; exact h1, h1, h2⟩
theorem F3.cl {B C g : Nat} {vs : Array Value} {w : World} {u : Value} (h : F3 B g vs w) (hX : XB 33 2 C w u ((cvs vs.toList (fls 2 1 abc)).map Cv.row11)) : CL w u (cvs vs.toList (fls 2 1 abc)) := cl_abc hX h.sz h.rw
theorem F3.cl2 {B C g : Nat} {vs : Array Value} {w : World} {u : Value} {x : Cv} (h : F3 B g vs w) (hx : CvOk w x) (hX : XB 33 2 C w u ((x :: (cvs vs.toList (fls 2 1 abc)).drop 1).map Cv.row11)) : CL w u (x :: (cvs vs.toList (fls 2 1 abc)).drop 1) := by
 refine XB.cl11 hX (fun y hy => ?_) (by rw [List.length_cons, List.length_drop, cvs_len, fls_len]; omega)
 rcases List.mem_cons.1 hy with rfl | hy
 ·exact hx
 ·refine cvs_ok h.sz h.rw (fun L hL => ?_) (fun L hL => ?_) y (List.mem_of_mem_drop hy)
  ·rw [fls3] at hL; simp at hL; rcases hL with rfl | rfl | rfl <;> (rw [abc_fls_len]; omega)
  ·unfold fls at hL
   obtain ⟨i, _, rfl⟩ := List.mem_map.1 hL
   exact flL_lt (shd_lt 2 abc i)
theorem F3.keep {B g : Nat} {vs : Array Value} {w w' : World} (h : F3 B g vs w) {gu : Nat} {cs : Array Value} (hc : CAt w gu cs 33) (hk : ∀ b, b ≠ gu → w'.heap[b]? = w.heap[b]?) : F3 B g vs w' := by
 refine ⟨h.at_.keep (hk _ (cat_ne h.at_ hc (by decide))), h.sz, fun i u L hu hL => ?_⟩
 have h2 := h.rw i u L hu hL
 refine ownsRow_keep h2 fun b hb => hk b ?_
 rintro rfl
 rcases h2.2 with ⟨rfl, _⟩ | ⟨g2, cap, cur, rfl, _, hg, _⟩
 ·cases hb
 ·cases hb; unfold CAt at hc; rw [hg] at hc; cases hc
theorem cps_cons3 (vs : List Value) (x : Cv) : cps (x :: (cvs vs (fls 2 1 abc)).drop 1) = [x.cp, ⟨0, flL (shd 2 abc 1)⟩, ⟨0, flL (shd 2 abc 2)⟩] := by rw [cvs3]; rfl
theorem cvs_split (vs : List Value) : cvs vs (fls 2 1 abc) = ⟨0, vs.getD 0 (.slice none 0 0), flL (shd 2 abc 0)⟩ :: (cvs vs (fls 2 1 abc)).drop 1 := by rw [cvs3]; rfl
theorem nilCv (w : World) (e : Int) : CvOk w ⟨e, .slice none 0 0, []⟩ := ⟨⟨none, 0, rfl, BL.nil _ _, Nat.le_refl _, fun _ => rfl⟩, by show (0 : Nat) ≤ _; omega, fun z hz => by cases hz⟩
set_option maxRecDepth 100000 in
set_option maxHeartbeats 4000000 in
theorem awake11_any (w : World) : Calls Tryz.prog 4 #[] w fun e w' => e = .returned (.bool true) ∧ Below w.heap.size w w' := by
 have kc := fun (w : World) (C : Array Value) (n c : Nat) => Lib.run_convert_bytes_const (P := Tryz.prog) w 22 5 C n c Tryz.underlying22 Tryz.underlying5
 have HBA := hid (below_al w (.cells #[.int .u8 97, .int .u8 98, .int .u8 99] 5 (3, 4)))
 have HAB := hid (abc_bl w)
 have HLY := hid (lay_ok (some ⟨w.heap.size, 0, none⟩) 3 2 1 abc (w.alloc (.cells #[.int .u8 97, .int .u8 98, .int .u8 99] 5 (3, 4))) (by omega) (by omega) (by omega) (by decide) (by decide) HAB.out abc8)
 go_enter Tryz.func4, Tryz.ntmps4
 go_wp2_with fail
 generalize (w.alloc (.cells #[.int .u8 97, .int .u8 98, .int .u8 99] 5 (3, 4))) = w1 at HBA HAB HLY ⊢
 clear kc
 have HOF := hid (fun (W : World) (h : Below w1.heap.size w1 W) => of11_any (some ⟨w.heap.size, 0, none⟩) 3 abc 2 1 W (HAB.out.below h) abc8 (by decide) (by decide))
 have HALL := hid (fun (B g : Nat) (vs : Array Value) (W : World) (h : F3 B g vs W) => all11_any B g vs (fls 2 1 abc) W h.at_ h.sz h.rw (by decide))
 rw [fls3_len] at HALL
 have HRD := hid (fun (W : World) (v : Value) (l : List Cv) (h : CL W v l) => sread_any (ofR 3 2 1 (dig abc)) (ofR_ok (dig_len _) (dig_lt _)) [] v l W (PL.nil W) h)
 have HOF2 : Hid (∀ (W : World) (h : Below w1.heap.size w1 W), Calls Tryz.prog 9 #[.slice (some ⟨w.heap.size, 0, none⟩) 3 3, .int .i64 2, .int .i64 1] W fun e w' => e = .returned (.agg (ofR 3 2 1 (dig abc)).cs) ∧ Below W.heap.size W w') := HOF.out
 clear HOF
 have HG1 := hid ab_all
 have HG2 := hid (ab_gone 6 [] (.inl (by decide)))
 generalize ofR 3 2 1 (dig abc) = R at HOF2 HRD HG1 HG2
 go_wp2_with (first
  | (go_at_call 5; refine HLY.out.mono ?_; rintro e w2 ⟨v2, rfl, hv2, hb2⟩; obtain ⟨g, vs, e2, hg, hc, hsz, hr⟩ := hv2; rw [fls3_len] at e2; subst e2; have HF := hid (F3.mk hc hsz (fun i u L hu hL => (hr i u L hu hL).1)); have HG := hid hg; have HB2 := hid hb2; obtain ⟨p0, c0, cf, _, _⟩ := HF.out.first; clear hc hsz hr hb2 hg)
  | (go_at_call 16; refine (HALL.out _ _ _ _ HF.out).mono ?_; rintro e w3 ⟨u3, rfl, hX3, hb3⟩; replace HF := hid (HF.out.below hb3); have HB3 := hid (below_on HB2.out hb3); have HX3 := hid hX3; rw [cvs_split] at hX3; obtain ⟨gu, cu, e3, hgu, hcu, _, _, _, _, _⟩ := xb_set0 hX3; have e4 : u3 = .slice (some ⟨gu, 0, none⟩) 3 cu := (by rw [e3, List.length_drop, cvs_len, fls3_len]); subst e4; have HGU := hid hgu; clear hX3 hb3 hcu e3 hgu))
 have HCL := hid (HF.out.cl HX3.out)
 have hr1 := fun (W : World) (hb : Below w3.heap.size w3 W) => HRD.out W _ _ (HCL.out.below hb)
 rw [cps_cvs, HG1.out.1, HG1.out.2] at hr1
 have HR1 := hid hr1
 clear hr1 HLY HALL
 refine (HOF2.out _ HB3.out).mono ?_
 rintro e w4 ⟨rfl, hb4⟩
 have HB4 := hid hb4
 clear hb4
 go_wp2_with fail
 refine (HR1.out _ HB4.out).mono ?_
 rintro e w5 ⟨p5, rfl, hO5, hb5⟩
 have HO5 := hid hO5
 have HB5 := hid (below_on HB4.out hb5)
 clear hO5 hb5
 replace HX3 := hid (HX3.out.below HB5.out)
 replace HF := hid (HF.out.below HB5.out)
 have hX5 := HX3.out
 rw [cvs_split] at hX5
 obtain ⟨gu2, cu2, e5, _, ⟨csu, hcsu⟩, d0, d1, f0, f1, hset⟩ := xb_set0 hX5
 cases e5
 have hs2 := hset ⟨6, .slice none 0 0, []⟩
 have hf2 := HF.out.keep (w' := (w5.setCell ⟨gu, 0, none⟩ (i64 6)).setCell ⟨gu, 1, none⟩ (.slice none 0 0)) hcsu (fun b hb => (heap_setCell_ne _ _ _ _ hb).trans (heap_setCell_ne _ _ _ _ hb))
 have hcl2 := hf2.cl2 (nilCv _ 6) hs2
 have HSB := hid (show Below w2.heap.size w5 ((w5.setCell ⟨gu, 0, none⟩ (i64 6)).setCell ⟨gu, 1, none⟩ (.slice none 0 0)) from ⟨rfl, rfl, rfl, by rw [setCell_size, setCell_size]; exact Nat.le_refl _, fun x hx => (heap_setCell_ne _ _ _ _ (by have := HGU.out; show x ≠ gu; omega)).trans (heap_setCell_ne _ _ _ _ (by have := HGU.out; show x ≠ gu; omega))⟩)
 have HO6 := hid (show Buf w4.heap.size ((w5.setCell ⟨gu, 0, none⟩ (i64 6)).setCell ⟨gu, 1, none⟩ (.slice none 0 0)) (.slice p5 abc.length abc.length) abc from ownsRow_keep HO5.out fun b hb => by
  have hne : b ≠ gu := by
   rintro rfl
   rcases HO5.out.2 with ⟨e, _⟩ | ⟨g2, cap, cur, e, _, hg, _⟩
   ·rw [e] at hb; cases hb
   ·rw [e] at hb; cases hb; unfold CAt at hcsu; rw [hg] at hcsu; cases hcsu
  exact (heap_setCell_ne _ _ _ _ hne).trans (heap_setCell_ne _ _ _ _ hne))
 have HCL2 := hid hcl2
 clear hset hX5 hs2 hf2 hcl2 hcsu HX3 HF HCL HR1
 have HBB := hid (below_tr (below_on HB3.out HB5.out) (below_less HSB.out HB2.out.size))
 go_wp2_with fail
 generalize (w5.setCell ⟨gu, 0, none⟩ (i64 6)).setCell ⟨gu, 1, none⟩ (.slice none 0 0) = wB at HBB HCL2 HO6 HSB ⊢
 clear d0 d1 f0 f1 HSB HO5
 have hr2 := fun (W : World) (hb : Below wB.heap.size wB W) => HRD.out W _ _ (HCL2.out.below hb)
 rw [cps_cons3] at hr2
 have e6 : Cv.cp ⟨6, .slice none 0 0, []⟩ = ⟨6, []⟩ := rfl
 rw [e6, HG2.out.1, HG2.out.2] at hr2
 have e7 : (Cv.mk 6 (.slice none 0 0) [] :: List.drop 1 (cvs vs.toList (fls 2 1 abc))).length = 3 := by rw [List.length_cons, List.length_drop, cvs_len, fls3_len]
 have HR2 := hid hr2
 clear hr2 e6
 refine (HOF2.out _ HBB.out).mono ?_
 rintro e w6 ⟨rfl, hb6⟩
 have HB6 := hid hb6
 clear hb6
 go_wp2_with fail
 refine (HR2.out _ HB6.out).mono ?_
 rintro e w7 ⟨p7, rfl, hO7, hb7⟩
 have HB7 := hid (below_on HB6.out hb7)
 have HS5 := hid ((HO6.out.sl).below (below_on HB6.out hb7))
 have HS7 := hid hO7.sl
 have HSA := hid (show SL w7 (.slice (some ⟨w.heap.size, 0, none⟩) 3 3) abc from ⟨_, 3, rfl, (HAB.out.below HBB.out).below (below_on HB6.out hb7), by decide⟩)
 have HSM1 := hid (sameB_any HS5.out HSA.out abc8 abc8)
 have HSM2 := hid (sameB_any HS7.out HSA.out abc8 abc8)
 rw [show decide (abc = abc) = true from by decide] at HSM1 HSM2
 clear hO7 hb7
 go_wp2_with (go_at_call 11; first | (refine HSM1.out.mono ?_; rintro e w8 ⟨rfl, hw⟩; have h3 := hw.symm; subst h3) | (refine HSM2.out.mono ?_; rintro e w8 ⟨rfl, hw⟩; have h3 := hw.symm; subst h3))
 go_ret
 exact ⟨rfl, below_on HBA.out (below_on HBB.out HB7.out)⟩
end Go.Proofs.YtdohmokhfajjpaaGreatDoor
