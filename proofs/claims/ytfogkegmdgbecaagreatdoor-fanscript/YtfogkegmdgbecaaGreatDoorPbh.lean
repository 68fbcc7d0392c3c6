/- Texts laid into one, cut to what is needed: the remark ahead of each part says what is proved there. -/
import Derived.Test.YtfogkegmdgbecaaGreatDoorPbe
import Derived.Test.YtfogkegmdgbecaaGreatDoorPbf
import Derived.Deep.LoopGhost
/- copies and told of FanScript. (Written by tools/gen_Yt.py.) -/
namespace Go.Proofs.YtfogkegmdgbecaaGreatDoor
open Go Go.RowKit Go.Shelf

theorem CqL.cells {B : Nat} {W : World} {v : Value} {k : Nat} {E : Nat → Nat} {Bs : Nat → List Nat} (h : CqL B W v k E Bs) {j : Nat} (hj : j < k) : ∃ g c po pc, v = .slice (some ⟨g, 0, none⟩) k c ∧ W.cell? ⟨g, j * 2, none⟩ = some (.int .i64 (E j : Int)) ∧ W.cell? ⟨g, j * 2 + 1, none⟩ = some (.slice po (Bs j).length pc) ∧ Row8 W (.slice po (Bs j).length pc) (Bs j) := by
 obtain ⟨xs, h1, h2⟩ := h.ex
 obtain ⟨po, pc, a1, a2, a3⟩ := h2 j hj
 rcases h1.2 with ⟨_, h0⟩ | ⟨g, cap, cur, rfl, _, hg, _, _, h3, h4⟩
 ·omega
 ·have hc : CAt W g cur 115 := hg
  have get : ∀ x, x < k * 2 → W.cell? ⟨g, x, none⟩ = xs[x]? := fun x hx => by
   rw [hc.cell, ← h4, List.getElem?_take, if_pos hx]; simp
  exact ⟨g, cap, po, pc, rfl, (get _ (by omega)).trans a1, (get _ (by omega)).trans a2, _, a3⟩
theorem CpL.cells {B : Nat} {W : World} {g k : Nat} {E : Nat → Nat} {Bs : Nat → List Nat} (h : CpL B W g k k E Bs) {j : Nat} (hj : j < k) : ∃ po pc, W.cell? ⟨g, j * 2, none⟩ = some (.int .i64 (E j : Int)) ∧ W.cell? ⟨g, j * 2 + 1, none⟩ = some (.slice po (Bs j).length pc) ∧ Row8 W (.slice po (Bs j).length pc) (Bs j) := by
 obtain ⟨cs, h1, _, h3⟩ := h.ex
 obtain ⟨po, pc, a1, a2, a3⟩ := h3 j hj
 exact ⟨po, pc, (h1.cell _).trans a1, (h1.cell _).trans a2, _, a3⟩
/-- Copies that both tell, or none. -/
def Cp2 (W : World) (k : Nat) (E : Nat → Nat) (Bs : Nat → List Nat) (v1 v2 : Value) : Prop := (v1 = .slice none 0 0 ∧ v2 = .slice none 0 0) ∨ (∃ g B B', v1 = .slice (some ⟨g, 0, none⟩) k k ∧ CpL B W g k k E Bs ∧ CqL B' W v2 k E Bs)
set_option maxHeartbeats 2000000 in
set_option maxRecDepth 100000 in
theorem lcopies_any {W : World} {k : Nat} {E : Nat → Nat} {Bs : Nat → List Nat} {v1 v2 : Value} (h : Cp2 W k E Bs v1 v2) (hk : k ≤ 1000) :
  Calls Tryz.prog 18 #[v1, v2] W fun e w' => e = .returned (.bool true) ∧ Below W.heap.size W w' := by
 rcases h with ⟨rfl, rfl⟩ | ⟨g, B, B', rfl, h1, h2⟩
 ·go_enter Tryz.func18, Tryz.ntmps18
  go_wp2
  refine wp_loop_rounds 1 ?_
  rw [rounds_succ]
  go_wp2
  go_ret
  exact ⟨rfl, Below.refl _ _⟩
 ·obtain ⟨vp, vc, rfl⟩ := h2.form
  have H1 := hid h1
  have H2 := hid h2
  have hkk : ((k : Int) != (k : Int)) = false := by simp
  clear h1 h2
  go_enter Tryz.func18, Tryz.ntmps18
  go_wp2
  go_loopw [5] (fun v wr => ∃ i : Nat, i ≤ k ∧ v = .int .i64 (i : Int) ∧ Below W.heap.size W wr) (fun v _ => (2000 - intOf v).toNat)
  case atStart => exact ⟨0, Nat.zero_le _, rfl, Below.refl _ _⟩
  case round =>
   obtain ⟨i, hi, rfl, hb⟩ := hrel
   have HB := hid hb
   clear hb
   by_cases hlt : i < k
   ·have hlt' : (i : Int) < (k : Int) := by omega
    have hi2 : (i : Int) < 1000 := by omega
    obtain ⟨g2, c2, po2, pc2, e2, b1, b2, r2⟩ := H2.out.cells hlt
    cases e2
    obtain ⟨po1, pc1, a1, a2, r1⟩ := H1.out.cells hlt
    have HS : Hid (∀ W', Below W.heap.size W W' → W'.cell? ⟨g, i * 2, none⟩ = some (.int .i64 (E i : Int)) ∧ W'.cell? ⟨g, i * 2 + 1, none⟩ = some (.slice po1 (Bs i).length pc1) ∧ W'.cell? ⟨g2, i * 2, none⟩ = some (.int .i64 (E i : Int)) ∧ W'.cell? ⟨g2, i * 2 + 1, none⟩ = some (.slice po2 (Bs i).length pc2)) := hid (fun W' hb =>
     ⟨(World.cell?_of_block (a := ⟨g, i * 2, none⟩) (hb.block g (cell_lt2 a1))).trans a1, (World.cell?_of_block (a := ⟨g, i * 2 + 1, none⟩) (hb.block g (cell_lt2 a1))).trans a2, (World.cell?_of_block (a := ⟨g2, i * 2, none⟩) (hb.block g2 (cell_lt2 b1))).trans b1, (World.cell?_of_block (a := ⟨g2, i * 2 + 1, none⟩) (hb.block g2 (cell_lt2 b1))).trans b2⟩)
    have HR : Hid (∀ W', Below W.heap.size W W' → Calls Tryz.prog 52 #[.slice po1 (Bs i).length pc1, .slice po2 (Bs i).length pc2] W' fun e w' => e = .returned (.bool true) ∧ w' = W') := hid (fun W' hb => sameBytes_true (r1.below hb) (r2.below hb))
    clear a1 a2 b1 b2 r1 r2
    generalize E i = er at *
    generalize (Bs i).length = nb at *
    have hee : ((er : Int) != (er : Int)) = false := by simp
    have hs0 := HS.out _ HB.out
    go_wp2_with fail
    go_region_held3 (fun w' => w'.cell? ⟨g, i * 2, none⟩ = some (.int .i64 (er : Int)) ∧ w'.cell? ⟨g, i * 2 + 1, none⟩ = some (.slice po1 nb pc1) ∧ w'.cell? ⟨g2, i * 2, none⟩ = some (.int .i64 (er : Int)) ∧ w'.cell? ⟨g2, i * 2 + 1, none⟩ = some (.slice po2 nb pc2)) (first | exact hs0 | exact HS.out _ (below_on _ _ HB.out (below_drewN _ _))) (first
     | (go_at_call 52; (first | refine (HR.out _ (below_on _ _ HB.out (below_drewN _ _))).mono ?_ | refine (HR.out _ HB.out).mono ?_); rintro e w' ⟨rfl, hw'⟩; have hw2 := hw'.symm; subst hw2))
    go_wp2
    go_roundw
    case rel => exact ⟨i + 1, by omega, by go_num, below_on _ _ HB.out (below_drewN _ _)⟩
    case measure => simp only [intOf]; omega
   ·have hlt' : ¬ (i : Int) < (k : Int) := by omega
    go_wp2
    go_ret
    exact ⟨by first | rfl | trivial, HB.out⟩
section
variable {w W : World} {k : Nat} {p q : Nat → Nat} {X : FS} {dv wv : Value} {Z : Nat → Prop}
set_option maxHeartbeats 8000000 in
set_option maxRecDepth 100000 in
theorem told10_any (h : FY w k p q X X dv wv Z W) (hk : k ≤ 18) (hB : ∀ i, i < k → (X.d i).F.length ≤ 50000) :
  Calls Tryz.prog 8 #[.agg #[dv, wv]] W fun e w' => e = .returned (.bool true) ∧ Below W.heap.size W w' := by
 have hb0 : Below W.heap.size W (W.alloc (.cells #[dv, wv] 26)) := (Below.refl _ _).alloc (Nat.le_refl _) _
 have hbx : CAt (W.alloc (.cells #[dv, wv] 26)) W.heap.size #[dv, wv] 26 := CAt.made _ _ _
 rcases h.dls.ex with ⟨rfl, rfl⟩ | ⟨h0, bd, cd, rfl, _, hdc⟩
 ·obtain ⟨wp, wc, rfl⟩ := h.wls.form
  have c0 : (W.alloc (.cells #[.slice none 0 0, .slice wp 0 wc] 26)).cell? ⟨W.heap.size, 0, none⟩ = some (.slice none 0 0) := hbx.cell 0
  have HB0 := hid hb0
  clear h hB hb0 hbx
  go_enter Tryz.func8, Tryz.ntmps8
  go_wp2
  generalize W.alloc (.cells #[.slice none 0 0, .slice wp 0 wc] 26) = B0 at *
  refine wp_loop_rounds 1 ?_
  rw [rounds_succ]
  go_wp2
  go_ret
  exact ⟨rfl, HB0.out⟩
 ·obtain ⟨bv, cv, rfl, hwc⟩ : ∃ bv cv, wv = .slice (some ⟨bv, 0, none⟩) k cv ∧ ∀ j, j < k → W.cell? ⟨bv, j, none⟩ = some (ptr (q j)) := by
    rcases h.wls.ex with ⟨h0', _⟩ | ⟨_, b, c, e, _, h3⟩
    ·omega
    ·exact ⟨b, c, e, h3⟩
  have hdl := cell_lt2 (hdc 0 h0)
  have hwl := cell_lt2 (hwc 0 h0)
  generalize hB0 : W.alloc (.cells #[.slice (some ⟨bd, 0, none⟩) k cd, .slice (some ⟨bv, 0, none⟩) k cv] 26) = B0 at *
  have HFY : Hid (∀ W', Below B0.heap.size B0 W' → FY w k p q X X (.slice (some ⟨bd, 0, none⟩) k cd) (.slice (some ⟨bv, 0, none⟩) k cv) Z W') := hid (fun W' hb => ((h.below (below_on _ _ hb0 hb)).less fun b hz => .inl hz))
  have HS : Hid (∀ W', Below B0.heap.size B0 W' → ∀ i, i < k → W'.cell? ⟨W.heap.size, 0, none⟩ = some (.slice (some ⟨bd, 0, none⟩) k cd) ∧ W'.cell? ⟨W.heap.size, 1, none⟩ = some (.slice (some ⟨bv, 0, none⟩) k cv) ∧ W'.cell? ⟨bd, i, none⟩ = some (ptr (p i)) ∧ W'.cell? ⟨bv, i, none⟩ = some (ptr (q i)) ∧ W'.cell? ⟨q i, 6, none⟩ = some (.int .i64 ((X.d i).ops : Int))) := hid (fun W' hb i hi =>
   have hb1 := below_on _ _ hb0 hb
   ⟨(hbx.below hb).cell 0, (hbx.below hb).cell 1, (World.cell?_of_block (a := ⟨bd, i, none⟩) (hb1.block bd hdl)).trans (hdc i hi), (World.cell?_of_block (a := ⟨bv, i, none⟩) (hb1.block bv hwl)).trans (hwc i hi), (HFY.out W' hb).opsR hi⟩)
  have HL1 : Hid (∀ W', Below B0.heap.size B0 W' → ∀ i, i < k → Calls Tryz.prog 41 #[ptr (p i), sv []] W' (ListAt W' ((X.d i).ans X.f []) ((X.d i).list X.f []))) := hid (fun W' hb i hi => (HFY.out W' hb).plook hi fun _ _ _ _ hd hf => list_any hd hf [] (Nat.lt_of_le_of_lt (hB i hi) (by decide)))
  have HL2 : Hid (∀ W', Below B0.heap.size B0 W' → ∀ i, i < k → Calls Tryz.prog 42 #[ptr (q i), sv []] W' (ListAt W' ((X.d i).ans X.f []) ((X.d i).list X.f []))) := hid (fun W' hb i hi => (HFY.out W' hb).rlook hi fun _ _ _ _ hd hf => rlist_any hd hf [] (by rw [hd.lenF]; exact Nat.lt_of_le_of_lt (hB i hi) (by decide)))
  have HU1 : Hid (∀ W', Below B0.heap.size B0 W' → ∀ i, i < k → Calls Tryz.prog 44 #[ptr (p i)] W' fun e w' => e = .returned (.int .i64 (usedOf (X.d i).F : Int)) ∧ w' = W') := hid (fun W' hb i hi => (HFY.out W' hb).plook hi fun _ _ _ _ hd _ => used_any hd)
  have HU2 : Hid (∀ W', Below B0.heap.size B0 W' → ∀ i, i < k → Calls Tryz.prog 45 #[ptr (q i)] W' fun e w' => e = .returned (.int .i64 (usedOf (X.d i).F : Int)) ∧ w' = W') := hid (fun W' hb i hi => (HFY.out W' hb).rlook hi fun _ _ _ _ hd _ => rused_any hd (by rw [hd.lenF]; exact Nat.lt_of_le_of_lt (hB i hi) (by decide)) (by have := (h.fine hi).us; have := (h.fine hi).sz; omega))
  have HO1 : Hid (∀ W', Below B0.heap.size B0 W' → ∀ i, i < k → Calls Tryz.prog 46 #[ptr (p i)] W' (NamesAt W' (X.d i).loose)) := hid (fun W' hb i hi => (HFY.out W' hb).plook hi fun _ _ _ _ hd _ => loose_any hd (Nat.lt_of_le_of_lt (hB i hi) (by decide)))
  have HO2 : Hid (∀ W', Below B0.heap.size B0 W' → ∀ i, i < k → Calls Tryz.prog 47 #[ptr (q i)] W' (NamesAt W' (X.d i).loose)) := hid (fun W' hb i hi => (HFY.out W' hb).rlook hi fun _ _ _ _ hd _ => rloose_any hd (by rw [hd.lenF]; exact Nat.lt_of_le_of_lt (hB i hi) (by decide)))
  have HP1 : Hid (∀ W', Below B0.heap.size B0 W' → ∀ i, i < k → Calls Tryz.prog 43 #[ptr (p i)] W' fun e w' => e = .returned (.int .i64 ((X.d i).ops : Int)) ∧ w' = W') := hid (fun W' hb i hi => (HFY.out W' hb).plook hi fun _ _ _ _ hd _ => ops_any hd)
  have HV1 : Hid (∀ W', Below B0.heap.size B0 W' → ∀ i, i < k → Calls Tryz.prog 48 #[ptr (p i)] W' fun e w' => e = .returned (.bool ((X.d i).up X.f)) ∧ w' = W') := hid (fun W' hb i hi => (HFY.out W' hb).plook hi fun _ _ _ _ hd hf => up_any hd hf)
  have HV2 : Hid (∀ W', Below B0.heap.size B0 W' → ∀ i, i < k → Calls Tryz.prog 49 #[ptr (q i)] W' fun e w' => e = .returned (.bool ((X.d i).up X.f)) ∧ w' = W') := hid (fun W' hb i hi => (HFY.out W' hb).rlook hi fun _ _ _ _ hd hf => rup_any hd hf)
  have HR1 : Hid (∀ W', Below B0.heap.size B0 W' → ∀ i, i < k → ∀ s : Nm, s.length ≤ 512 → Calls Tryz.prog 50 #[ptr (p i), sv s] W' (ReadAt W' ((X.d i).readE X.f s) ((X.d i).readB X.f s))) := hid (fun W' hb i hi s hs => (HFY.out W' hb).plook hi fun _ _ _ _ hd hf => read_any hd hf s (by unfold maxLen; omega))
  have HR2 : Hid (∀ W', Below B0.heap.size B0 W' → ∀ i, i < k → ∀ s : Nm, s.length ≤ 512 → Calls Tryz.prog 51 #[ptr (q i), sv s] W' (ReadAt W' ((X.d i).readE X.f s) ((X.d i).readB X.f s))) := hid (fun W' hb i hi s hs => (HFY.out W' hb).rlook hi fun _ _ _ _ hd hf => rread_any hd hf s (by unfold maxLen; omega) (by rw [hd.lenF]; exact Nat.lt_of_le_of_lt (hB i hi) (by decide)) (hd.lens (h.fine hi)))
  have HNL : Hid (∀ i, i < k → ((X.d i).list X.f []).length ≤ 50000) := hid (fun i hi => Nat.le_trans (list_lenF _ _ _) (hB i hi))
  have HOL : Hid (∀ i, i < k → (X.d i).loose.length ≤ 50000) := hid (fun i hi => by unfold Pd.loose namesOf; rw [List.length_map]; exact Nat.le_trans (List.length_filter_le _ _) (hB i hi))
  have HOK : Hid (∀ i, i < k → ∀ x ∈ (X.d i).list X.f [], x.length ≤ 512) := hid (fun i hi => list_okF (h.okn hi))
  have HB0 := hid hb0
  clear h hB hb0 hbx hdc hwc hdl hwl HFY
  go_enter Tryz.func8, Tryz.ntmps8
  go_wp2_with fail
  try rw [hB0]
  clear hB0
  go_loopg [3] k (fun gg v wr => ∃ i : Nat, i ≤ k ∧ k - i ≤ gg ∧ v = .int .i64 (i : Int) ∧ Below B0.heap.size B0 wr)
  case atStart => exact ⟨0, Nat.zero_le _, by omega, rfl, Below.refl _ _⟩
  case round =>
   obtain ⟨i, hi, hgg, rfl, hb⟩ := hrel
   have HB := hid hb
   clear hb
   have HS0 := hid (fun W' hb => (HS.out W' hb 0 h0).1)
   have y0 := HS0.out wr HB.out
   by_cases hlt : i < k
   ·have hlt' : (i : Int) < (k : Int) := by omega
    have hi2 : (i : Int) < 1000 := by omega
    have HSI := hid (fun W' hb => HS.out W' hb i hlt)
    obtain ⟨x0, x1, x2, x3, x6⟩ := HSI.out wr HB.out
    have L1 := hid (fun W' hb => HL1.out W' hb i hlt)
    have L2 := hid (fun W' hb => HL2.out W' hb i hlt)
    have U1 := hid (fun W' hb => HU1.out W' hb i hlt)
    have U2 := hid (fun W' hb => HU2.out W' hb i hlt)
    have O1 := hid (fun W' hb => HO1.out W' hb i hlt)
    have O2 := hid (fun W' hb => HO2.out W' hb i hlt)
    have P1 := hid (fun W' hb => HP1.out W' hb i hlt)
    have V1 := hid (fun W' hb => HV1.out W' hb i hlt)
    have V2 := hid (fun W' hb => HV2.out W' hb i hlt)
    have R1 := hid (fun W' hb => HR1.out W' hb i hlt)
    have R2 := hid (fun W' hb => HR2.out W' hb i hlt)
    have NL := hid (HNL.out i hlt)
    have OL := hid (HOL.out i hlt)
    have OK := hid (HOK.out i hlt)
    generalize (X.d i).ans X.f [] = el at *
    generalize (X.d i).list X.f [] = ns at *
    generalize usedOf (X.d i).F = us at *
    generalize (X.d i).loose = ls at *
    generalize (X.d i).ops = ops at *
    generalize (X.d i).up X.f = up at *
    have hel : ((el : Int) != (el : Int)) = false := by simp
    have hus : ((us : Int) != (us : Int)) = false := by simp
    have hop : ((ops : Int) != (ops : Int)) = false := by simp
    have hup : (up != up) = false := by simp
    go_wp2_with (first
     | (go_at_call 41; refine (L1.out _ HB.out).mono ?_; rintro e w3 ⟨po3, c3, rfl, ht3, hb3⟩; have HB := hid (below_on _ _ HB.out hb3); have HTX := hid ht3; have hs3 := HSI.out w3 HB.out; obtain ⟨x0, x1, x2, x3, x6⟩ := hs3; clear ht3 hb3)
     | (go_at_call 42; refine (L2.out _ HB.out).mono ?_; rintro e w4 ⟨po4, c4, rfl, ht4, hb4⟩; have HB := hid (below_on _ _ HB.out hb4); have HTM := hid ht4; have HTX := hid (HTX.out.below hb4); have HC := hid (HSI.out w4 HB.out); clear ht4 hb4 x0 x1 x2 x3 x6))
    have t1 : True := trivial
    simp only [List.append_eq, List.cons_append, List.nil_append]
    go_region_held3 (fun w' => w'.cell? ⟨W.heap.size, 0, none⟩ = some (.slice (some ⟨bd, 0, none⟩) k cd) ∧ w'.cell? ⟨W.heap.size, 1, none⟩ = some (.slice (some ⟨bv, 0, none⟩) k cv) ∧ w'.cell? ⟨bd, i, none⟩ = some (ptr (p i)) ∧ w'.cell? ⟨bv, i, none⟩ = some (ptr (q i)) ∧ w'.cell? ⟨q i, 6, none⟩ = some (.int .i64 (ops : Int))) (exact HC.out) (first
     | (go_at_call 26; have _t := t1; (first | refine (sameTexts_true _ _ ns _ (Nat.le_trans NL.out (by omega)) (HTX.out.at.below (below_drewN _ _)) (HTM.out.at.below (below_drewN _ _))).mono ?_ | refine (sameTexts_true _ _ ns _ (Nat.le_trans NL.out (by omega)) (HTX.out.at.below (Below.refl _ _)) (HTM.out.at.below (Below.refl _ _))).mono ?_); rintro e w5 ⟨rfl, k5, hw5⟩; have hb5 : Below w4.heap.size w4 w5 := (by rw [hw5]; first | exact below_on _ _ (below_drewN _ _) (below_drewN _ _) | exact below_drewN _ _); have HB := hid (below_on _ _ HB.out hb5); have HTX := hid (HTX.out.below hb5); have HC := hid (HSI.out w5 HB.out); clear hb5 hw5; clear t1)
     | (go_at_call 44; (first | refine (U1.out _ (below_on _ _ HB.out (below_drewN _ _))).mono ?_ | refine (U1.out _ HB.out).mono ?_); rintro e w' ⟨rfl, hw'⟩; have hw2 := hw'.symm; subst hw2)
     | (go_at_call 45; (first | refine (U2.out _ (below_on _ _ HB.out (below_drewN _ _))).mono ?_ | refine (U2.out _ HB.out).mono ?_); rintro e w' ⟨rfl, hw'⟩; have hw2 := hw'.symm; subst hw2)
     | (go_at_call 43; (first | refine (P1.out _ (below_on _ _ HB.out (below_drewN _ _))).mono ?_ | refine (P1.out _ HB.out).mono ?_); rintro e w' ⟨rfl, hw'⟩; have hw2 := hw'.symm; subst hw2)
     | (go_at_call 48; (first | refine (V1.out _ (below_on _ _ HB.out (below_drewN _ _))).mono ?_ | refine (V1.out _ HB.out).mono ?_); rintro e w' ⟨rfl, hw'⟩; have hw2 := hw'.symm; subst hw2)
     | (go_at_call 49; (first | refine (V2.out _ (below_on _ _ HB.out (below_drewN _ _))).mono ?_ | refine (V2.out _ HB.out).mono ?_); rintro e w' ⟨rfl, hw'⟩; have hw2 := hw'.symm; subst hw2)
     | (go_at_call 46; (first | refine (O1.out _ (below_on _ _ HB.out (below_drewN _ _))).mono ?_ | refine (O1.out _ HB.out).mono ?_); rintro e w6 ⟨po6, c6, rfl, ht6, hb6⟩; have hb5 : Below w5.heap.size w5 w6 := (by first | exact hb6 | exact first2 hb6); have HB := hid (below_on _ _ HB.out hb5); have HTX := hid (HTX.out.below hb5); have HTL := hid ht6; have HC := hid (HSI.out w6 HB.out); clear hb5 hb6 ht6)
     | (go_at_call 47; (first | refine (O2.out _ (below_on _ _ HB.out (below_drewN _ _))).mono ?_ | refine (O2.out _ HB.out).mono ?_); rintro e w7 ⟨po7, c7, rfl, ht7, hb7⟩; have hb5 : Below w6.heap.size w6 w7 := (by first | exact hb7 | exact first2 hb7); have HB := hid (below_on _ _ HB.out hb5); have HTX := hid (HTX.out.below hb5); have HTL := hid (HTL.out.below hb5); have HTK := hid ht7; have HC := hid (HSI.out w7 HB.out); clear hb5 hb7 ht7)
     | (go_at_call 26; (first | refine (sameTexts_true _ _ ls _ (Nat.le_trans OL.out (by omega)) (HTL.out.at.below (below_drewN _ _)) (HTK.out.at.below (below_drewN _ _))).mono ?_ | refine (sameTexts_true _ _ ls _ (Nat.le_trans OL.out (by omega)) (HTL.out.at.below (Below.refl _ _)) (HTK.out.at.below (Below.refl _ _))).mono ?_); rintro e w8 ⟨rfl, k8, hw8⟩; have hb5 : Below w7.heap.size w7 w8 := (by rw [hw8]; first | exact below_on _ _ (below_drewN _ _) (below_drewN _ _) | exact below_drewN _ _); have HB := hid (below_on _ _ HB.out hb5); have HTX := hid (HTX.out.below hb5); have HC := hid (HSI.out w8 HB.out); clear hb5 hw8))
    have HTO := hid (tx_of HTX.out)
    clear L1 L2 U1 U2 O1 O2 P1 V1 V2 OL HC HTL HTK HTM HTX
    go_wp2
    go_loopg [8] ns.length (fun gg v wq => ∃ j : Nat, j ≤ ns.length ∧ ns.length - j ≤ gg ∧ v = .int .i64 (j : Int) ∧ Below B0.heap.size B0 wq ∧ TxO wq po3 ns)
    case atStart => exact ⟨0, Nat.zero_le _, by omega, rfl, (by first | exact HB.out | exact below_on _ _ HB.out (below_drewN _ _)), (by first | exact HTO.out | exact HTO.out.below (below_drewN _ _))⟩
    case round =>
     clear HB HTO
     obtain ⟨j, hj, hgj, rfl, hb, htx⟩ := hrel
     have HB := hid hb
     have HTO := hid htx
     clear hb htx
     by_cases hjt : j < ns.length
     ·have hjt' : (j : Int) < (ns.length : Int) := by omega
      have hj2 : (j : Int) < 1000000 := by have := NL.out; omega
      obtain ⟨br, or_, hp, z1⟩ := HTO.out.cell hjt
      subst hp
      have HZ : Hid (∀ W', Below wr.heap.size wr W' → W'.cell? ⟨W.heap.size, 0, none⟩ = some (.slice (some ⟨bd, 0, none⟩) k cd) ∧ W'.cell? ⟨W.heap.size, 1, none⟩ = some (.slice (some ⟨bv, 0, none⟩) k cv) ∧ W'.cell? ⟨bd, i, none⟩ = some (ptr (p i)) ∧ W'.cell? ⟨bv, i, none⟩ = some (ptr (q i)) ∧ W'.cell? ⟨br, or_ + j, none⟩ = some (sv (ns.getD j []))) := hid (fun W' hb => by
       obtain ⟨a0, a1, a2, a3, -⟩ := HSI.out W' (below_on _ _ HB.out hb)
       exact ⟨a0, a1, a2, a3, (World.cell?_of_block (a := ⟨br, or_ + j, none⟩) (hb.block br (cell_lt2 z1))).trans z1⟩)
      have hsl := OK.out (ns.getD j []) (by rw [getD_in _ _ _ hjt]; exact List.getElem_mem hjt)
      have RA1 := hid (fun W' hb => R1.out W' hb (ns.getD j []) hsl)
      have RA2 := hid (fun W' hb => R2.out W' hb (ns.getD j []) hsl)
      clear z1 hsl
      generalize ns.getD j [] = sj at *
      generalize (X.d i).readE X.f sj = re at *
      generalize (X.d i).readB X.f sj = rb at *
      have hz := HZ.out wr (Below.refl _ _)
      have HBW := hid (Below.refl wr.heap.size wr)
      go_wp2_with fail
      go_region_held3 (fun w' => w'.cell? ⟨W.heap.size, 0, none⟩ = some (.slice (some ⟨bd, 0, none⟩) k cd) ∧ w'.cell? ⟨W.heap.size, 1, none⟩ = some (.slice (some ⟨bv, 0, none⟩) k cv) ∧ w'.cell? ⟨bd, i, none⟩ = some (ptr (p i)) ∧ w'.cell? ⟨bv, i, none⟩ = some (ptr (q i)) ∧ w'.cell? ⟨br, or_ + j, none⟩ = some (sv sj)) (first | exact hc9 | exact hz | exact HZ.out _ (below_drewN _ _)) (first
       | (go_at_call 50; (first | refine (RA1.out _ (below_on _ _ HB.out (below_drewN _ _))).mono ?_ | refine (RA1.out _ HB.out).mono ?_); rintro e w9 ⟨po9, c9, rfl, ho9, hb9⟩; have hb8 : Below wr.heap.size wr w9 := (by first | exact hb9 | exact first2 hb9); have HB9 := hid hb8; have HO9 : Hid (Row8 w9 (.slice po9 rb.length c9) rb) := hid ⟨_, ho9⟩; have hc9 := HZ.out w9 hb8; clear ho9 hb9 hb8))
      clear hz
      go_wp2_with fail
      go_region_held3 (fun w' => w'.cell? ⟨W.heap.size, 0, none⟩ = some (.slice (some ⟨bd, 0, none⟩) k cd) ∧ w'.cell? ⟨W.heap.size, 1, none⟩ = some (.slice (some ⟨bv, 0, none⟩) k cv) ∧ w'.cell? ⟨bd, i, none⟩ = some (ptr (p i)) ∧ w'.cell? ⟨bv, i, none⟩ = some (ptr (q i)) ∧ w'.cell? ⟨br, or_ + j, none⟩ = some (sv sj)) (first | exact hc10 | exact hc9 | exact HZ.out _ (below_on _ _ HB9.out (below_drewN _ _))) (first
       | (go_at_call 51; (first | refine (RA2.out _ (below_on _ _ (below_on _ _ HB.out HB9.out) (below_drewN _ _))).mono ?_ | refine (RA2.out _ (below_on _ _ HB.out HB9.out)).mono ?_); rintro e w10 ⟨po10, c10, rfl, ho10, hb10⟩; have hb8 : Below w9.heap.size w9 w10 := (by first | exact hb10 | exact first2 hb10); have HO10 : Hid (Row8 w10 (.slice po10 rb.length c10) rb) := hid ⟨_, ho10⟩; have HO9 := hid (HO9.out.below hb8); have HB10 := hid (below_on _ _ HB9.out hb8); have hc10 := HZ.out w10 HB10.out; clear ho10 hb10 hb8))
      clear hc9 hc10
      have t2 : True := trivial
      go_wp2_with (go_at_call 52; (first | refine (sameBytes_true HO9.out HO10.out).mono ?_ | refine (sameBytes_true (HO9.out.below (below_drewN _ _)) (HO10.out.below (below_drewN _ _))).mono ?_); rintro e w' ⟨rfl, hw'⟩; have hw2 := hw'.symm; subst hw2)
      go_roundg (ns.length - (j + 1))
      case measure => omega
      case rel => exact ⟨j + 1, by omega, by omega, by go_num, (by first | exact below_on _ _ HB.out HB10.out | exact below_on _ _ (below_on _ _ HB.out HB10.out) (below_drewN _ _)), (by first | exact HTO.out.below HB10.out | exact HTO.out.below (below_on _ _ HB10.out (below_drewN _ _)))⟩
     ·have hjt' : ¬ (j : Int) < (ns.length : Int) := by omega
      go_wp2
      go_roundg (k - (i + 1))
      case measure => omega
      case rel => exact ⟨i + 1, by omega, by omega, by go_num, HB.out⟩
   ·have hlt' : ¬ (i : Int) < (k : Int) := by omega
    go_wp2
    go_ret
    exact ⟨by first | rfl | trivial, below_on _ _ HB0.out HB.out⟩
end
end Go.Proofs.YtfogkegmdgbecaaGreatDoor
