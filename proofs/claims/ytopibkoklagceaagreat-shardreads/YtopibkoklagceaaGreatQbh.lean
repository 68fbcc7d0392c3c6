/- Texts laid into one, cut to what is needed: the remark ahead of each part says what is proved there. -/
import Derived.Test.YtopibkoklagceaaGreatQbg
import Derived.Test.YtopibkoklagceaaGreatQax
import Derived.Test.YtopibkoklagceaaGreatQau
import Derived.Test.YtopibkoklagceaaGreatQaw
/- Contract of awake of the statements on shard: the chapter's examples are answered as it says; what was there is as it was. -/
namespace Go.Proofs.YtopibkoklagceaaGreat
open Go Go.RowKit

theorem abc_bl (w : World) : BL (w.alloc (.cells #[.int .u8 97, .int .u8 98, .int .u8 99] 5 (3, 4))) (some ⟨w.heap.size, 0, none⟩) abc := by
 right
 refine ⟨w.heap.size, 0, rfl, fun i hi => ?_⟩
 have h3 : i < 3 := hi
 unfold World.cell?
 rw [show ((w.alloc (.cells #[.int .u8 97, .int .u8 98, .int .u8 99] 5 (3, 4))).heap[w.heap.size]?) = some (.cells #[.int .u8 97, .int .u8 98, .int .u8 99] 5 (3, 4)) from at_new w _]
 match i, h3 with
 | 0, _ => rfl
 | 1, _ => rfl
 | 2, _ => rfl
/-- What is known of the three files once they are laid, as drives answer them. -/
theorem cl_abc {B : Nat} {w : World} {u : Value} {vs : Array Value} (hX : XB 59 2 B w u ((cvs vs.toList (fls 2 1 abc)).map Cv.row11)) (hsz : vs.size = (fls 2 1 abc).length) {C : Nat} (hr : ∀ (i : Nat) (x : Value) (L : List Nat), vs[i]? = some x → (fls 2 1 abc)[i]? = some L → Buf C w x L) : CL w u (cvs vs.toList (fls 2 1 abc)) :=
 XB.cl11 hX (cvs_ok hsz hr (fun L hL => by rw [fls3] at hL; simp at hL; rcases hL with rfl | rfl | rfl <;> (rw [abc_fls_len]; omega)) (fun L hL => by
  unfold fls at hL
  obtain ⟨i, _, rfl⟩ := List.mem_map.1 hL
  exact flL_lt (shd_lt 2 abc i))) (by rw [cvs_len, fls_len]; omega)
theorem cvs3 (vs : List Value) : cvs vs (fls 2 1 abc) = [⟨0, vs.getD 0 (.slice none 0 0), flL (shd 2 abc 0)⟩, ⟨0, vs.getD 1 (.slice none 0 0), flL (shd 2 abc 1)⟩, ⟨0, vs.getD 2 (.slice none 0 0), flL (shd 2 abc 2)⟩] := by
 rw [fls3]; rfl
theorem fls3_len : (fls 2 1 abc).length = 3 := rfl
/-- The three files of the example. -/
structure F3 (B g : Nat) (vs : Array Value) (w : World) : Prop where
 at_ : CAt w g vs 22
 sz : vs.size = (fls 2 1 abc).length
 rw : ∀ (i : Nat) (u : Value) (L : List Nat), vs[i]? = some u → (fls 2 1 abc)[i]? = some L → Buf B w u L
theorem F3.below {B g : Nat} {vs : Array Value} {w w' : World} (h : F3 B g vs w) (hb : Below w.heap.size w w') : F3 B g vs w' := ⟨h.at_.below hb, h.sz, fun i u L hu hL => (h.rw i u L hu hL).below hb⟩
theorem F3.first {B g : Nat} {vs : Array Value} {w : World} (h : F3 B g vs w) : ∃ p c, w.cell? ⟨g, 0, none⟩ = some (.slice p 34 c) ∧ vs[0]? = some (.slice p 34 c) ∧ Buf B w (.slice p 34 c) (flL (shd 2 abc 0)) := by
 have h1 : vs[0]? = some (vs[0]'(by rw [h.sz]; decide)) := Array.getElem?_eq_getElem _
 have h2 := h.rw 0 _ _ h1 (fls_get 2 1 abc 0 (by omega))
 obtain ⟨p, c, e⟩ := Buf.form h2
 rw [abc_fls_len] at e
 rw [e] at h1 h2
 exact ⟨p, c, by rw [h.at_.cell]; exact h1, h1, h2⟩
theorem F3.cl {B C g : Nat} {vs : Array Value} {w : World} {u : Value} (h : F3 B g vs w) (hX : XB 59 2 C w u ((cvs vs.toList (fls 2 1 abc)).map Cv.row11)) : CL w u (cvs vs.toList (fls 2 1 abc)) := cl_abc hX h.sz h.rw
theorem F3.cl2 {B C g : Nat} {vs : Array Value} {w : World} {u : Value} {x : Cv} (h : F3 B g vs w) (hx : CvOk w x) (hX : XB 59 2 C w u ((x :: (cvs vs.toList (fls 2 1 abc)).drop 1).map Cv.row11)) : CL w u (x :: (cvs vs.toList (fls 2 1 abc)).drop 1) := by
 refine XB.cl11 hX (fun y hy => ?_) (by rw [List.length_cons, List.length_drop, cvs_len, fls_len]; omega)
 rcases List.mem_cons.1 hy with rfl | hy
 ·exact hx
 ·refine cvs_ok h.sz h.rw (fun L hL => ?_) (fun L hL => ?_) y (List.mem_of_mem_drop hy)
  ·rw [fls3] at hL; simp at hL; rcases hL with rfl | rfl | rfl <;> (rw [abc_fls_len]; omega)
  ·unfold fls at hL
   obtain ⟨i, _, rfl⟩ := List.mem_map.1 hL
   exact flL_lt (shd_lt 2 abc i)
theorem F3.keep {B g : Nat} {vs : Array Value} {w w' : World} (h : F3 B g vs w) {gu : Nat} {cs : Array Value} (hc : CAt w gu cs 59) (hk : ∀ b, b ≠ gu → w'.heap[b]? = w.heap[b]?) : F3 B g vs w' := by
 refine ⟨h.at_.keep (hk _ (cat_ne h.at_ hc (by decide))), h.sz, fun i u L hu hL => ?_⟩
 have h2 := h.rw i u L hu hL
 refine ownsRow_keep h2 fun b hb => hk b ?_
 rintro rfl
 rcases h2.2 with ⟨rfl, _⟩ | ⟨g2, cap, cur, rfl, _, hg, _⟩
 ·cases hb
 ·cases hb; unfold CAt at hc; rw [hg] at hc; cases hc
theorem cps_cons3 (vs : List Value) (x : Cv) : cps (x :: (cvs vs (fls 2 1 abc)).drop 1) = [x.cp, ⟨0, flL (shd 2 abc 1)⟩, ⟨0, flL (shd 2 abc 2)⟩] := by rw [cvs3]; rfl
theorem cvs_split (vs : List Value) : cvs vs (fls 2 1 abc) = ⟨0, vs.getD 0 (.slice none 0 0), flL (shd 2 abc 0)⟩ :: (cvs vs (fls 2 1 abc)).drop 1 := by rw [cvs3]; rfl
theorem nilCv (w : World) (e : Int) : CvOk w ⟨e, .slice none 0 0, []⟩ := ⟨⟨none, 0, rfl, BL.nil _ _, Nat.le_refl _, fun _ => rfl⟩, by show (0 : Nat) ≤ _; omega, fun z hz => by cases hz⟩
set_option maxRecDepth 100000 in
set_option maxHeartbeats 4000000 in
theorem awake11_any (w : World) : Calls Tryz.prog 13 #[] w fun e w' => e = .returned (.bool true) ∧ Below w.heap.size w w' := by
 have kc := fun (w : World) (C : Array Value) (n c : Nat) => Lib.run_convert_bytes_const (P := Tryz.prog) w 22 5 C n c Tryz.underlying22 Tryz.underlying5
 have HBA := hid (below_al w (.cells #[.int .u8 97, .int .u8 98, .int .u8 99] 5 (3, 4)))
 have HAB := hid (abc_bl w)
 have HLY := hid (lay_ok (some ⟨w.heap.size, 0, none⟩) 3 2 1 abc (w.alloc (.cells #[.int .u8 97, .int .u8 98, .int .u8 99] 5 (3, 4))) (by omega) (by omega) (by omega) (by decide) (by decide) HAB.out abc8)
 go_enter Tryz.func13, Tryz.ntmps13
 go_wp2_with fail
 generalize (w.alloc (.cells #[.int .u8 97, .int .u8 98, .int .u8 99] 5 (3, 4))) = w1 at HBA HAB HLY ⊢
 clear kc
 have HOF := hid (fun (W : World) (h : Below w1.heap.size w1 W) => of11_any (some ⟨w.heap.size, 0, none⟩) 3 abc 2 1 W (HAB.out.below h) abc8 (by decide) (by decide))
 have HALL := hid (fun (B g : Nat) (vs : Array Value) (W : World) (h : F3 B g vs W) => all11_any B g vs (fls 2 1 abc) W h.at_ h.sz h.rw (by decide))
 rw [fls3_len] at HALL
 have HRD := hid (fun (W : World) (v : Value) (l : List Cv) (h : CL W v l) => sread_any (ofR 3 2 1 (dig abc)) (ofR_ok (dig_len _) (dig_lt _)) [] v l W (PL.nil W) h)
 have HOF2 : Hid (∀ (W : World) (h : Below w1.heap.size w1 W), Calls Tryz.prog 34 #[.slice (some ⟨w.heap.size, 0, none⟩) 3 3, .int .i64 2, .int .i64 1] W fun e w' => e = .returned (.agg (ofR 3 2 1 (dig abc)).cs) ∧ Below W.heap.size W w') := HOF.out
 clear HOF
 have HG1 := hid ab_all
 have HG2 := hid (ab_gone 6 [] (.inl (by decide)))
 generalize ofR 3 2 1 (dig abc) = R at HOF2 HRD HG1 HG2
 go_wp2_with (first
  | (go_at_call 6; refine HLY.out.mono ?_; rintro e w2 ⟨v2, rfl, hv2, hb2⟩; obtain ⟨g, vs, e2, hg, hc, hsz, hr⟩ := hv2; rw [fls3_len] at e2; subst e2; have HF := hid (F3.mk hc hsz (fun i u L hu hL => (hr i u L hu hL).1)); have HG := hid hg; have HB2 := hid hb2; obtain ⟨p0, c0, cf, _, _⟩ := HF.out.first; clear hc hsz hr hb2 hg)
  | (go_at_call 33; refine (HALL.out _ _ _ _ HF.out).mono ?_; rintro e w3 ⟨u3, rfl, hX3, hb3⟩; replace HF := hid (HF.out.below hb3); have HB3 := hid (below_on HB2.out hb3); have HX3 := hid hX3; rw [cvs_split] at hX3; obtain ⟨gu, cu, e3, hgu, hcu, _, _, _, _, _⟩ := xb_set0 hX3; have e4 : u3 = .slice (some ⟨gu, 0, none⟩) 3 cu := (by rw [e3, List.length_drop, cvs_len, fls3_len]); subst e4; have HGU := hid hgu; clear hX3 hb3 hcu e3 hgu))
 have HCL := hid (HF.out.cl HX3.out)
 have hr1 := fun (W : World) (hb : Below w3.heap.size w3 W) => HRD.out W _ _ (HCL.out.below hb)
 rw [cps_cvs, HG1.out.1, HG1.out.2] at hr1
 have HR1 := hid hr1
 clear hr1 HLY HALL
 refine (HOF2.out _ HB3.out).mono ?_
 rintro e w4 ⟨rfl, hb4⟩
 have HB4 := hid hb4
 clear hb4
 go_wp2_with fail
 refine (HR1.out _ HB4.out).mono ?_
 rintro e w5 ⟨p5, rfl, hO5, hb5⟩
 have HO5 := hid hO5
 have HB5 := hid (below_on HB4.out hb5)
 clear hO5 hb5
 replace HX3 := hid (HX3.out.below HB5.out)
 replace HF := hid (HF.out.below HB5.out)
 have hX5 := HX3.out
 rw [cvs_split] at hX5
 obtain ⟨gu2, cu2, e5, _, ⟨csu, hcsu⟩, d0, d1, f0, f1, hset⟩ := xb_set0 hX5
 cases e5
 have hs2 := hset ⟨6, .slice none 0 0, []⟩
 have hf2 := HF.out.keep (w' := (w5.setCell ⟨gu, 0, none⟩ (i64 6)).setCell ⟨gu, 1, none⟩ (.slice none 0 0)) hcsu (fun b hb => (heap_setCell_ne _ _ _ _ hb).trans (heap_setCell_ne _ _ _ _ hb))
 have hcl2 := hf2.cl2 (nilCv _ 6) hs2
 have HSB := hid (show Below w2.heap.size w5 ((w5.setCell ⟨gu, 0, none⟩ (i64 6)).setCell ⟨gu, 1, none⟩ (.slice none 0 0)) from ⟨rfl, rfl, rfl, by rw [setCell_size, setCell_size]; exact Nat.le_refl _, fun x hx => (heap_setCell_ne _ _ _ _ (by have := HGU.out; show x ≠ gu; omega)).trans (heap_setCell_ne _ _ _ _ (by have := HGU.out; show x ≠ gu; omega))⟩)
 have HO6 := hid (show Buf w4.heap.size ((w5.setCell ⟨gu, 0, none⟩ (i64 6)).setCell ⟨gu, 1, none⟩ (.slice none 0 0)) (.slice p5 abc.length abc.length) abc from ownsRow_keep HO5.out fun b hb => by
  have hne : b ≠ gu := by
   rintro rfl
   rcases HO5.out.2 with ⟨e, _⟩ | ⟨g2, cap, cur, e, _, hg, _⟩
   ·rw [e] at hb; cases hb
   ·rw [e] at hb; cases hb; unfold CAt at hcsu; rw [hg] at hcsu; cases hcsu
  exact (heap_setCell_ne _ _ _ _ hne).trans (heap_setCell_ne _ _ _ _ hne))
 have HCL2 := hid hcl2
 clear hset hX5 hs2 hf2 hcl2 hcsu HX3 HF HCL HR1
 have HBB := hid (below_tr (below_on HB3.out HB5.out) (below_less HSB.out HB2.out.size))
 go_wp2_with fail
 generalize (w5.setCell ⟨gu, 0, none⟩ (i64 6)).setCell ⟨gu, 1, none⟩ (.slice none 0 0) = wB at HBB HCL2 HO6 HSB ⊢
 clear d0 d1 f0 f1 HSB HO5
 have hr2 := fun (W : World) (hb : Below wB.heap.size wB W) => HRD.out W _ _ (HCL2.out.below hb)
 rw [cps_cons3] at hr2
 have e6 : Cv.cp ⟨6, .slice none 0 0, []⟩ = ⟨6, []⟩ := rfl
 rw [e6, HG2.out.1, HG2.out.2] at hr2
 have e7 : (Cv.mk 6 (.slice none 0 0) [] :: List.drop 1 (cvs vs.toList (fls 2 1 abc))).length = 3 := by rw [List.length_cons, List.length_drop, cvs_len, fls3_len]
 have HR2 := hid hr2
 clear hr2 e6
 refine (HOF2.out _ HBB.out).mono ?_
 rintro e w6 ⟨rfl, hb6⟩
 have HB6 := hid hb6
 clear hb6
 go_wp2_with fail
 refine (HR2.out _ HB6.out).mono ?_
 rintro e w7 ⟨p7, rfl, hO7, hb7⟩
 have HB7 := hid (below_on HB6.out hb7)
 have HS5 := hid ((HO6.out.sl).below (below_on HB6.out hb7))
 have HS7 := hid hO7.sl
 have HSA := hid (show SL w7 (.slice (some ⟨w.heap.size, 0, none⟩) 3 3) abc from ⟨_, 3, rfl, (HAB.out.below HBB.out).below (below_on HB6.out hb7), by decide⟩)
 have HSM1 := hid (sameB_any HS5.out HSA.out abc8 abc8)
 have HSM2 := hid (sameB_any HS7.out HSA.out abc8 abc8)
 rw [show decide (abc = abc) = true from by decide] at HSM1 HSM2
 clear hO7 hb7
 go_wp2_with (go_at_call 23; first | (refine HSM1.out.mono ?_; rintro e w8 ⟨rfl, hw⟩; have h3 := hw.symm; subst h3) | (refine HSM2.out.mono ?_; rintro e w8 ⟨rfl, hw⟩; have h3 := hw.symm; subst h3))
 go_ret
 exact ⟨rfl, below_on HBA.out (below_on HBB.out HB7.out)⟩
end Go.Proofs.YtopibkoklagceaaGreat

/- Contract of some of the statements on stripe: as many are there as are asked for, in new memory; what was there is as it was. And Split once more, whatever k and m are. -/
namespace Go.Proofs.YtopibkoklagceaaGreat.U
open Go.RowKit

theorem cn_succ (H : Nat → Bool) (i : Nat) : cn H (i + 1) = cn H i + (if H i = true then 1 else 0) := rfl
end Go.Proofs.YtopibkoklagceaaGreat.U

/- Contract of hidden of the statements on stripe: those that are there are copies, the others are other bytes, one more of them; all in new memory; what was there is as it was. -/
namespace Go.Proofs.YtopibkoklagceaaGreat.U
open Go.RowKit

theorem own_some {w : World} {B e n b : Nat} {v : Value} {xs : List Value} (h : w.ownsRow B e 1 v n xs) (hb : v.ownBlock = some b) : ∃ c, v = .slice (some ⟨b, 0, none⟩) n c := by
 rcases h.2 with ⟨rfl, _⟩ | ⟨g, cap, cur, rfl, _⟩
 ·cases hb
 ·have : g = b := by simpa [Value.ownBlock] using hb
  subst this; exact ⟨cap, rfl⟩
/-- A copy of a row onto an empty list. -/
theorem copy0 (w : World) (B : Nat) (hB : B ≤ w.heap.size) (ad : Addr) (l c : Nat) (x : Nat → K) (hl : l ≤ 70000) (hx : ∀ j u, (vals l fun j => kv (x j))[j]? = some u → (w.alloc (.cells #[] 5)).cell? (ad.add j) = some u) :
  ∃ g cp w1, (Builtin.append_ #[22, 22] 22 #[.slice (some ⟨w.heap.size, 0, none⟩) 0 0, .slice (some ad) l c]).run Tryz.prog (w.alloc (.cells #[] 5)) = .ok (.slice (some ⟨g, 0, none⟩) l cp) w1 ∧ w.heap.size ≤ g ∧ w1.ownsRow B 5 1 (.slice (some ⟨g, 0, none⟩) l cp) l (vals l fun j => kv (x j)) ∧ Below w.heap.size w w1 := by
 obtain ⟨i0, hi0, hz0, hz1, hz2⟩ := info_parts Tryz.info5
 have hown := World.ownsRow_lit (base := B) (e := 5) (size := 1) w #[] 0 hB (by unfold maxLen; omega) rfl
 have hz : (w.alloc (.cells #[] 5)).heap.size = w.heap.size + 1 := by simp
 obtain ⟨v', w', hr, h2, h3, _, h5⟩ := run_append_own_at (P := Tryz.prog) (w.alloc (.cells #[] 5)) B 22 22 5 i0 (.int .u8 0) 1 1 Tryz.underlying22 hi0 hz0 hz1 hz2 rfl (by decide) (.slice (some ⟨w.heap.size, 0, none⟩) 0 0) 0 [] hown ad l c (vals l fun j => kv (x j)) (by rw [vals_len, Nat.mul_one]) hx (by intro u hu; unfold vals at hu; obtain ⟨i, _, rfl⟩ := List.mem_map.1 hu; rfl) (by unfold maxLen; omega) (by omega) (by omega)
 have hb0 : ∃ b, v'.ownBlock = some b ∧ w.heap.size ≤ b := by
  rcases h5 with e | e
  ·exact ⟨w.heap.size, by rw [e]; rfl, Nat.le_refl _⟩
  ·exact ⟨_, e, by omega⟩
 obtain ⟨b, hb1, hb2⟩ := hb0
 simp only [Nat.zero_add, List.nil_append] at h2
 obtain ⟨cp, rfl⟩ := own_some h2 hb1
 exact ⟨b, cp, w', hr, hb2, h2, Below.grown ((Below.refl _ _).alloc (Nat.le_refl _) _) h3 (by omega) (fun j hj => by
  have q2 : w.heap.size = j := by simpa [Value.ownBlock] using hj
  omega)⟩

end Go.Proofs.YtopibkoklagceaaGreat.U

/- Contracts of CopyBytes, OverBytes and ApartBytes of the statements' kit, over lists each of which has no room at all or lies whole in a block of its own: the last returns true, and touches no block that was there but those. -/
namespace Go.Proofs.YtopibkoklagceaaGreat.U
open Go.RowKit

/-- n lists: each has no room at all, or lies whole in a block of its own. -/
structure Ap (B : Nat) (w : World) (v : Value) (n : Nat) (A : Nat → Option Addr) (L C G : Nat → Nat) (X : Nat → Nat → K) : Prop where
 top : w.ownsRow B 22 1 v n (vals n fun i => .slice (A i) (L i) (C i))
 row : ∀ i, i < n → C i ≠ 0 → A i = some ⟨G i, 0, none⟩ ∧ w.ownsRow B 5 1 (.slice (some ⟨G i, 0, none⟩) (C i) (C i)) (C i) (vals (C i) fun j => kv (X i j))
 inj : ∀ i j, i < n → j < n → C i ≠ 0 → C j ≠ 0 → G i = G j → i = j
theorem Ap.stay {B : Nat} {w w' : World} {v : Value} {n : Nat} {A : Nat → Option Addr} {L C G : Nat → Nat} {X : Nat → Nat → K} (h : Ap B w v n A L C G X) (hb : Below w.heap.size w w') : Ap B w' v n A L C G X where
 top := own_keepV h.top (fun b q => hb.block b (h.top.lt b q).2)
 row := fun i hi hc => ⟨(h.row i hi hc).1, own_keep (h.row i hi hc).2 (hb.block _ (own_ge (h.row i hi hc).2).2)⟩
 inj := h.inj
end Go.Proofs.YtopibkoklagceaaGreat.U

/- Contracts of may, long, Length and Code of the document's own answer: as the program's; what was there is as it was. -/
namespace Go.Proofs.YtopibkoklagceaaGreat.U
open Go.RowKit

set_option maxHeartbeats 1000000 in
theorem may_bad (k m : Int) (w : World) (hk : -9223372036854775808 ≤ k) (hk' : k ≤ 9223372036854775807) (hm : -9223372036854775808 ≤ m) (hm' : m ≤ 9223372036854775807) (h : k < 1 ∨ m < 1 ∨ 16 < k + m) :
  Calls Tryz.prog 52 #[.int .i64 k, .int .i64 m] w fun e w' => e = .returned (.bool false) ∧ w' = w := by
 by_cases h1 : k < 1
 ·clear h
  go_enter Tryz.func52, Tryz.ntmps52
  go_wp2
  go_ret
  exact ⟨rfl, rfl⟩
 by_cases h2 : m < 1
 ·clear h
  go_enter Tryz.func52, Tryz.ntmps52
  go_wp2
  go_ret
  exact ⟨rfl, rfl⟩
 by_cases h3 : 16 ≤ k
 ·clear h
  go_enter Tryz.func52, Tryz.ntmps52
  go_wp2
  go_ret
  exact ⟨rfl, rfl⟩
 by_cases h4 : 16 ≤ m
 ·clear h
  go_enter Tryz.func52, Tryz.ntmps52
  go_wp2
  go_ret
  exact ⟨rfl, rfl⟩
 ·have h5 : 16 < k + m := by omega
  clear h
  go_enter Tryz.func52, Tryz.ntmps52
  go_wp2
  go_ret
  exact ⟨ret_bool (by simp; omega), rfl⟩
set_option maxHeartbeats 1000000 in
theorem may_ok (k m : Nat) (w : World) (h0 : 1 ≤ k) (h1 : 1 ≤ m) (h : k + m ≤ 16) :
  Calls Tryz.prog 52 #[.int .i64 k, .int .i64 m] w fun e w' => e = .returned (.bool true) ∧ w' = w := by
 have h2 : k < 16 := by omega
 have h3 : m < 16 := by omega
 go_enter Tryz.func52, Tryz.ntmps52
 go_wp2
 go_ret
 exact ⟨ret_bool (by simp; omega), rfl⟩
set_option maxHeartbeats 400000 in
theorem rlong_any (s k : Nat) (w : World) (h1 : s ≤ 65536) (h2 : 1 ≤ k) (h3 : k ≤ 15) :
  Calls Tryz.prog 53 #[.int .i64 s, .int .i64 k] w fun e w' => e = .returned (.int .i64 ((lgt s k : Nat) : Int)) ∧ w' = w := by
 have hd := lgt_div s k h2
 have hw : IntKind.i64.wrap ((s : Int) + (k : Int)) = (s : Int) + (k : Int) := by rw [IntKind.wrap_i64]; omega
 have hk : (k : Int) ≠ 0 := by omega
 have hle := lgt_le s k h1 h2
 go_enter Tryz.func53, Tryz.ntmps53
 go_wp2
 go_ret
 exact ⟨ret_int (by first | rfl | (unfold wrap64; omega)), rfl⟩
set_option maxHeartbeats 400000 in
theorem rlength_ok (s k : Nat) (w : World) (h1 : s ≤ 65536) (h2 : 1 ≤ k) (h3 : k ≤ 15) :
  Calls Tryz.prog 39 #[.int .i64 s, .int .i64 k] w fun e w' => e = .returned (.tuple #[.int .i64 ((lgt s k : Nat) : Int), .int .i64 0]) ∧ w' = w := by
 go_enter Tryz.func39, Tryz.ntmps39
 go_wp2_with fail
 refine (rlong_any s k w h1 h2 h3).mono ?_
 rintro e w' ⟨rfl, hw⟩
 have hw2 := hw.symm
 subst hw2
 clear hw
 go_wp2
 go_ret2
 exact ⟨rfl, rfl⟩
theorem xor_code (k i j : Nat) (h : k + i < 256) (hj : j < 256) : bits BinOp.xor IntKind.u8 ((k : Int) + (i : Int)) (j : Int) = (((kb (k + i) + kb j).val : Nat) : Int) := by
 have h1 := xor_k (kb (k + i)) (kb j)
 rw [kb_val _ h, kb_val _ hj] at h1
 rw [← h1]; congr 1

set_option maxRecDepth 100000 in
set_option maxHeartbeats 4000000 in
theorem rcode_any (k m : Nat) (w : World) (h0 : 1 ≤ k) (h1 : 1 ≤ m) (h : k + m ≤ 16) :
  Calls Tryz.prog 54 #[.int .i64 k, .int .i64 m] w fun e w' => ∃ g c G Q, e = .returned (.tuple #[.slice (some ⟨g, 0, none⟩) (k + m) c, .int .i64 0]) ∧ OwnMat w.heap.size w' g c (k + m) k G Q (codeX k) ∧ Below w.heap.size w w' := by
 obtain ⟨i0, hi0, hz0, hz1, hz2⟩ := info_parts Tryz.info22
 have h2 : k ≤ 16 := by omega
 have h3 : m ≤ 16 := by omega
 go_enter Tryz.func54, Tryz.ntmps54
 go_wp2_with fail
 refine (rone_any k w h0 (by omega)).mono ?_
 rintro e w1 ⟨g, c, G, rfl, hm, hb⟩
 have HM := hid (hm.congr (Y := codeX k) (fun i hi j _ => by unfold codeX; rw [if_pos hi]))
 have HB := hid hb
 clear hm hb
 go_wp2_with fail
 go_loopw [6, 7] (fun v x wr => ∃ i g c : Nat, ∃ G Q : Nat → Nat, i ≤ m ∧ x = .int .i64 i ∧ v = .slice (some ⟨g, 0, none⟩) (k + i) c ∧ OwnMat w.heap.size wr g c (k + i) k G Q (codeX k) ∧ Below w.heap.size w wr) (fun _ x _ => (m - intOf x).toNat)
 case atStart => exact ⟨0, g, c, G, _, by omega, rfl, rfl, HM.out, HB.out⟩
 case round =>
  clear HM HB
  obtain ⟨i, g, c, G, Q, hi, rfl, rfl, hm, hb⟩ := hrel
  by_cases hlt : i < m
  ·have HM := hid hm
   have HB := hid hb
   have hsz := hb.size
   have hmk := run_make_u8 k (by omega) wr
   have HO0 : Hid ((wr.alloc (.cells (madeCells #[.int .u8 0] k) 5)).ownsRow wr.heap.size 5 1 (.slice (some ⟨wr.heap.size, 0, none⟩) k k) k (vals k fun c => if c < 0 then kv (codeX k (k + i) c) else .int .u8 0)) := hid (by simpa using own_made wr 5 (.int .u8 0) k wr.heap.size (by omega) (Nat.le_refl _))
   clear hm hb
   go_wp2_with fail
   clear hmk
   obtain ⟨wo, hwo⟩ : ∃ wo, wo = wr := ⟨_, rfl⟩
   subst hwo
   go_loopw [9] (fun x wy => ∃ j : Nat, j ≤ k ∧ x = .int .i64 j ∧ wy.ownsRow wo.heap.size 5 1 (.slice (some ⟨wo.heap.size, 0, none⟩) k k) k (vals k fun c => if c < j then kv (codeX k (k + i) c) else .int .u8 0) ∧ Below wo.heap.size wo wy) (fun x _ => (k - intOf x).toNat)
   case atStart => exact ⟨0, by omega, rfl, HO0.out, (Below.refl _ _).alloc (Nat.le_refl _) _⟩
   case round =>
    clear HO0
    obtain ⟨j, hj, rfl, ho, hb⟩ := hrel
    by_cases hlt2 : j < k
    ·have c1 : wr.cell? ⟨wo.heap.size, j, none⟩ = some (.int .u8 0) := by rw [own_cell ho j hlt2]; simp
     have c2 := ho.frozenAt j
     have hx := xor_code k i j (by omega) (by omega)
     have HV : Hid (K.iv (kb (k + i) + kb j) = codeX k (k + i) j) := by
      show K.iv (kb (k + i) + kb j) = codeX k (k + i) j
      unfold codeX; rw [if_neg (by omega)]
     have HO : Hid ((wr.setCell ⟨wo.heap.size, j, none⟩ (kv (codeX k (k + i) j))).ownsRow wo.heap.size 5 1 (.slice (some ⟨wo.heap.size, 0, none⟩) k k) k (vals k fun c => if c < j + 1 then kv (codeX k (k + i) c) else .int .u8 0)) := by
      have := (ho.stored j (kv (codeX k (k + i) j))).1
      rw [vals_set] at this
      rwa [vals_congr (W := fun c => if c < j + 1 then kv (codeX k (k + i) c) else .int .u8 0) (fun c _ => by
       unfold upd
       by_cases e : c = j
       ·subst e; simp
       ·by_cases q : c < j
        ·simp [e, q, show c < j + 1 by omega]
        ·simp [e, q, show ¬ c < j + 1 by omega])] at this
     have HB2 := hid (hb.setCell (p := ⟨wo.heap.size, j, none⟩) (Nat.le_refl _) (kv (codeX k (k + i) j)))
     clear ho hb HM HB
     go_wp2_with (go_at_call 78; refine (rinv_k (kb (k + i) + kb j) _).mono ?_; rintro e w' ⟨rfl, rfl⟩)
     go_roundw
     case rel => exact ⟨j + 1, by omega, by go_num, by rw [HV.out]; exact HO.out, by rw [HV.out]; exact HB2.out⟩
     case measure => simp [intOf]; omega
    ·have e : j = k := by omega
     subst e
     have HR2 : Hid (wr.ownsRow w.heap.size 5 1 (.slice (some ⟨wo.heap.size, 0, none⟩) j j) j (vals j fun c => kv (codeX j (j + i) c))) := by
      have h9 := own_base ho hsz
      rwa [vals_congr (W := fun c => kv (codeX j (j + i) c)) (fun c hc => by simp [hc])] at h9
     have HB2 := hid hb
     have hg := (own_ge HM.out.top).2
     have hsz2 := hb.size
     have HT := hid (own_keep HM.out.top (hb.block g hg))
     have HN : Hid (∀ q u, [rv wo.heap.size j j][q]? = some u → (wr.alloc (.cells #[rv wo.heap.size j j] 22)).cell? ((⟨wr.heap.size, 0, none⟩ : Addr).add q) = some u) :=
      World.news_of_block (cs := #[rv wo.heap.size j j]) (t := 22) (fr := (0, 0)) (heap_alloc_new _ _)
     clear ho hb
     go_wp2_with (at_builtin; refine wpList_append_lies _ rfl _ _ 24 rfl w.heap.size 22 i0 (.slice none 0 0) 1 24 Tryz.underlying24 hi0 hz0 hz1 hz2 rfl (by omega) (.slice (some ⟨g, 0, none⟩) (j + i) c) (j + i) (vals (j + i) fun i => rv (G i) j (Q i)) rfl (HT.out.alloc _) ⟨wr.heap.size, 0, none⟩ 1 1 [rv wo.heap.size j j] rfl rfl HN.out (by intro u hu; simp at hu; subst hu; rfl) (by omega) (by unfold maxLen; omega) (by omega) (by simp; omega) _ rfl ?_; intro gg cap w4 hown4 hgrow hat hlt4)
     have HX := hid (HM.out.push HB2.out wo.heap.size j (Nat.le_refl _) HR2.out hgrow hown4)
     have HBX : Hid (Below w.heap.size w w4) := Below.grown ((HB.out.trans (HB2.out.mono hsz)).alloc (by omega) _) hgrow (by simp; omega) (fun b hb => by
      have := (own_ge HM.out.top).1
      cases hb; exact this)
     clear hown4 hgrow hat hlt4 HN HT HM HB HB2 HR2
     go_wp2
     go_roundw
     case rel => exact ⟨i + 1, gg, cap, _, _, by omega, by go_num, rfl, HX.out, HBX.out⟩
     case measure => simp [intOf]; omega
  ·have e : i = m := by omega
   subst e
   have HM := hid hm
   have HB := hid hb
   clear hm hb
   go_wp2
   go_ret2
   exact ⟨g, c, G, Q, rfl, HM.out, HB.out⟩
end Go.Proofs.YtopibkoklagceaaGreat.U
