/- Texts laid into one, cut to what is needed: the remark ahead of each part says what is proved there. -/
import Derived.Test.YtkiojnledimihaaPak
/- The walk of PlaceMerges, over the contracts of package place. -/
namespace Go.Proofs.Ytkiojnledimihaa
open Go Go.RowKit Go.Shelf
set_option maxHeartbeats 8000000 in
set_option maxRecDepth 100000 in
theorem placeMerges_core (hP : PlC) (v : Value) (l : List TV) (w : World) (hx : IsTs w v l) :
    Calls Try.prog 5 #[v] w fun e w' => e = .returned (.bool true) ∧ Below w.heap.size w w' := by
  obtain ⟨po, c, rfl, hln, hts, hel, -⟩ := hx
  have HB0 := hid (Below.refl w.heap.size w)
  by_cases h20 : (20 : Int) < (l.length : Int)
  · unfold maxLen at hln
    clear hP hts hel
    go_enter Try.func5, Try.ntmps5
    go_wp2
    go_ret
    exact ⟨rfl, HB0.out⟩
  have hl20 : l.length ≤ 20 := by omega
  have HROW : Hid (∀ W, Below w.heap.size w W → ∀ i, i < l.length → ∃ b o, po = some ⟨b, o, none⟩ ∧ W.cell? ⟨b, o + i, none⟩ = some (.slice (l.getD i default).po (l.getD i default).ns.length (l.getD i default).c) ∧ TxO W (l.getD i default).po (l.getD i default).ns) := hid (fun W hb i hi => (hts.below hb).row hi)
  have HEL : Hid (∀ i, i < l.length → (l.getD i default).ns.length ≤ maxLen ∧ ∀ x ∈ (l.getD i default).ns, x.length ≤ maxLen) := hid (fun i hi => by have := hel _ (show l.getD i default ∈ l by rw [getD_in _ _ _ hi]; exact List.getElem_mem hi); exact ⟨this.1, this.2.1⟩)
  have HMG := hid (fun W vp vc gs (h : LtQ w l l.length (.slice vp l.length vc) gs W) hs => merge_lent hP h hl20 hs)
  have HFL := hid (fun gs => ltV_fl l gs)
  have HAW := hid (fun W => awake13_any hP W)
  have HRM : Hid (∀ W, Below w.heap.size w W → (∀ j, j < l.length → lgB (l.getD j default).ns 60 = false) → Calls Try.prog 21 #[.slice po l.length c] W (MgR W l)) := hid (fun W hb hs => by
    have h6 : ∀ t ∈ l, t.ns.length ≤ 60 := fun t ht => by
      obtain ⟨j, hj, rfl⟩ := List.mem_iff_getElem.1 ht
      have := (lg_le (n := 60) (hs j hj)).1
      rwa [getD_in _ _ _ hj] at this
    refine rmerge13_any (hts.below hb) c (by omega) ?_ (fun t ht => by have := h6 t ht; omega)
    have key : ∀ (m : List TV), (∀ t ∈ m, t.ns.length ≤ 60) → (flT m).length ≤ 60 * m.length := fun m => by
      induction m with
      | nil => intro _; simp [flT]
      | cons t r ih =>
        intro hm
        have h1 := ih fun t ht => hm t (List.mem_cons_of_mem _ ht)
        have h2 := hm t List.mem_cons_self
        unfold flT at *
        rw [List.flatMap_cons, List.length_append, List.length_cons]
        omega
    have := key l h6
    omega)
  have HML : Hid ((∀ j, j < l.length → lgB (l.getD j default).ns 60 = false) → (mgT l).length ≤ 1000000) := hid (fun hs => by
    have h6 : ∀ t ∈ l, t.ns.length ≤ 60 := fun t ht => by
      obtain ⟨j, hj, rfl⟩ := List.mem_iff_getElem.1 ht
      have := (lg_le (n := 60) (hs j hj)).1
      rwa [getD_in _ _ _ hj] at this
    have key : ∀ (m : List TV), (∀ t ∈ m, t.ns.length ≤ 60) → (flT m).length ≤ 60 * m.length := fun m => by
      induction m with
      | nil => intro _; simp [flT]
      | cons t r ih =>
        intro hm
        have h1 := ih fun t ht => hm t (List.mem_cons_of_mem _ ht)
        have h2 := hm t List.mem_cons_self
        unfold flT at *
        rw [List.flatMap_cons, List.length_append, List.length_cons]
        omega
    have h1 := key l h6
    have h2 := wths_len (flT l) []
    unfold mgT
    simp only [List.length_nil] at h2
    omega)
  have H0 : Hid (LtQ w l 0 (.slice none 0 0) (fun _ => 0) w) := hid ⟨Below.refl _ _, World.ownsRow_nil _ _ _ _, fun j hj => absurd hj (Nat.not_lt_zero _), fun j hj => absurd hj (Nat.not_lt_zero _), fun j hj => absurd hj (Nat.not_lt_zero _)⟩
  clear hP hts hel hln
  go_enter Try.func5, Try.ntmps5
  go_wp2_with fail
  go_loopg [3, 4] l.length (fun gg o v wr => ∃ (i : Nat) (gs : Nat → Nat), i ≤ l.length ∧ l.length - i ≤ gg ∧ v = .int .i64 (i : Int) ∧ LtQ w l i o gs wr ∧ Hid (∀ j, j < i → lgB (l.getD j default).ns 60 = false))
  case atStart => exact ⟨0, _, Nat.zero_le _, by omega, rfl, H0.out, hid fun j hj => absurd hj (Nat.not_lt_zero _)⟩
  case round =>
    clear H0
    obtain ⟨i, gs, hi, hgg, rfl, hI, HJ⟩ := hrel
    have HI := hid hI
    clear hI
    obtain ⟨vp, vc, hov⟩ := own_form HI.out.ow
    subst hov
    by_cases hlt : i < l.length
    · have hlt' : (i : Int) < (l.length : Int) := by omega
      have hi2 : (i : Int) < 1000 := by omega
      obtain ⟨b, o, hp, z0, hto⟩ := HROW.out wr HI.out.be i hlt
      subst hp
      obtain ⟨he1, he2⟩ := HEL.out i hlt
      have HLG := hid (long13_any hto (l.getD i default).c he1 he2 60)
      have HLT := hid (fun h => lentT13 hto (l.getD i default).c h)
      have HNX := hid (fun W1 (hl : LnT W1 wr.heap.size (l.getD i default).ns) hb => HI.out.next hl hb (by omega))
      have HJ2 : Hid (lgB (l.getD i default).ns 60 = false → ∀ j, j < i + 1 → lgB (l.getD j default).ns 60 = false) := hid (fun e j hj => if e2 : j = i then (by rw [e2]; exact e) else HJ.out j (by omega))
      have HB := hid HI.out.be
      clear HEL HMG HFL HAW HRM HML hto HI HJ he2
      cases hlg : lgB (l.getD i default).ns 60 with
      | true =>
        rw [hlg] at HLG
        clear HNX HLT HJ2 HROW
        unfold maxLen at he1
        generalize l.getD i default = t at *
        obtain ⟨tpo, tc, ns⟩ := t
        dsimp only at *
        go_wp2_with (go_at_call 13; refine HLG.out.mono ?_; rintro e w1 ⟨rfl, hw⟩; have hw2 := hw.symm; subst hw2)
        go_ret
        exact ⟨rfl, HB.out⟩
      | false =>
        rw [hlg] at HLG
        have hle := (lg_le (n := 60) hlg).1
        have HLT2 := hid (HLT.out (by omega))
        have HJ3 := hid (HJ2.out hlg)
        clear HLT HJ2 HROW hlg he1
        generalize l.getD i default = t at *
        obtain ⟨tpo, tc, ns⟩ := t
        dsimp only at *
        go_upto_region 9 with (go_at_call 13; refine HLG.out.mono ?_; rintro e w1 ⟨rfl, hw⟩; have hw2 := hw.symm; subst hw2)
        go_wp2_with (first
          | (go_at_call 14; refine HLT2.out.mono ?_; rintro e w2 ⟨rfl, hl2, hb2, hs2⟩; obtain ⟨vp2, vc2, w3, hr3, hq3⟩ := HNX.out w2 hl2 hb2; have HRUN := hid hr3; have HQ := hid hq3; clear hl2 hb2 hs2 hr3 hq3)
          | (at_builtin; refine wpList_append_run _ _ 33 rfl rfl _ _ (.slice vp2 (i + 1) vc2) rfl rfl HRUN.out ?_; clear HRUN))
        go_roundg (l.length - (i + 1))
        case measure => omega
        case rel => exact ⟨i + 1, _, by omega, by omega, by go_num, HQ.out, HJ3⟩
    · have hlt' : ¬ (i : Int) < (l.length : Int) := by omega
      have hie : i = l.length := by omega
      subst hie
      have HM := hid (HMG.out wr vp vc gs HI.out HJ.out)
      have HML2 := HML.out HJ.out
      have HRM2 := hid (fun W hb => HRM.out W hb HJ.out)
      have hfl : mgT (ltV l gs l.length) = mgT l := by unfold mgT; rw [HFL.out]
      have HKE : Hid (∀ W, LtQ w l l.length (.slice vp l.length vc) gs W → ∀ j, j < l.length → Calls Try.prog 19 #[.slice (some ⟨gs j, 0, none⟩) (l.getD j default).ns.length ((l.getD j default).ns.length + 3), .slice (l.getD j default).po (l.getD j default).ns.length (l.getD j default).c] W fun e w' => e = .returned (.bool true) ∧ Below W.heap.size W w') := hid (fun W h j hj => by
        obtain ⟨_, _, _, _, ht⟩ := HROW.out W h.be j hj
        exact keptT13 (h.ln j hj) ht (l.getD j default).c (by have := (lg_le (n := 60) (HJ.out j hj)).1; omega))
      have HOV : Hid (∀ W a, LtQ w l l.length (.slice vp l.length vc) gs W → wr.heap.size ≤ W.heap.size → TxtS wr.heap.size W a (mgT l) → Calls Try.prog 18 #[a] W fun e w' => e = .returned (.tuple #[]) ∧ LtQ w l l.length (.slice vp l.length vc) gs w') := hid (fun W a h hz ha => (overT_row2 ha).mono fun e w' ⟨h1, h2⟩ => ⟨h1, h.only h2 fun b hb _ => by
        have hb1 := (own_ge ha.t b hb).1
        have hw := HI.out.be.size
        refine ⟨by omega, fun e => ?_, fun j hj e => ?_⟩
        · have := (own_ge HI.out.ow b e).2; omega
        · have := (HI.out.ln j hj).lt; omega⟩)
      clear HEL HMG HFL HRM HML HJ
      go_wp2_with (first
        | (go_at_call 20; refine HM.out.mono ?_; rintro e w2 ⟨a, rfl, ha, hb2⟩; rw [hfl] at ha; have HA := hid ha; have HI2 := hid (HI.out.below hb2); have HB2 := hid hb2; clear ha hb2)
        | (go_at_call 21; refine (HRM2.out _ HI2.out.be).mono ?_; rintro e w3 ⟨a3, rfl, ha3, hb3⟩; have HA3 := hid ha3; have HA2 := hid (HA.out.below hb3); have HI3 := hid (HI2.out.below hb3); have HB3 := hid (Nat.le_trans HB2.out.size hb3.size); clear ha3 hb3)
        | (go_at_call 17; refine (sameTexts_true _ _ (mgT l) _ (by omega) HA2.out.t.at HA3.out.at).mono ?_; rintro e w4 ⟨rfl, k4, hw4⟩; have hb4 : Below w3.heap.size w3 w4 := (by rw [hw4]; exact below_drewN _ _); have HI4 := hid (HI3.out.below hb4); have HA4 := hid (HA2.out.below hb4); have HB4 := hid (Nat.le_trans HB3.out hb4.size); clear hb4 hw4)
        | (go_at_call 18; refine (HOV.out _ _ HI4.out HB4.out HA4.out).mono ?_; rintro e w5 ⟨rfl, hi5⟩; have HI5 := hid hi5; clear hi5))
      clear HM HML2 HRM2 HOV HI HA HI2 HB2 HA3 HA2 HI3 HB3 HI4 HA4 HB4 hfl
      go_loopg [6, 7] l.length (fun gg f q wq => ∃ j : Nat, j ≤ l.length ∧ l.length - j ≤ gg ∧ f = .bool true ∧ q = .int .i64 (j : Int) ∧ LtQ w l l.length (.slice vp l.length vc) gs wq)
      case atStart => exact ⟨0, Nat.zero_le _, by omega, rfl, rfl, HI5.out⟩
      case round =>
        clear HI5
        obtain ⟨j, hj, hgj, rfl, rfl, hI⟩ := hrel
        have HI := hid hI
        clear hI
        by_cases hjt : j < l.length
        · have hjt' : (j : Int) < (l.length : Int) := by omega
          have hj2 : (j : Int) < 1000 := by omega
          obtain ⟨g, hvp, hcg⟩ := HI.out.cell hjt
          subst hvp
          obtain ⟨b, o, hp, z0, _⟩ := HROW.out wr HI.out.be j hjt
          subst hp
          have HS : Hid (∀ W, LtQ w l l.length (.slice (some ⟨g, 0, none⟩) l.length vc) gs W → W.cell? ⟨g, j, none⟩ = some (.slice (some ⟨gs j, 0, none⟩) (l.getD j default).ns.length ((l.getD j default).ns.length + 3)) ∧ W.cell? ⟨b, o + j, none⟩ = some (.slice (l.getD j default).po (l.getD j default).ns.length (l.getD j default).c)) := hid (fun W h => by
            obtain ⟨g2, e2, hc2⟩ := h.cell hjt
            cases e2
            obtain ⟨b2, o2, e3, z2, _⟩ := HROW.out W h.be j hjt
            cases e3
            exact ⟨hc2, z2⟩)
          have HK := hid (fun W h => HKE.out W h j hjt)
          have hc := HS.out wr HI.out
          clear hcg z0 HROW HKE HAW
          generalize l.getD j default = t at *
          obtain ⟨tpo, tc, ns⟩ := t
          dsimp only at *
          go_wp2_with fail
          go_region_held3 (fun w' => w'.cell? ⟨g, j, none⟩ = some (.slice (some ⟨gs j, 0, none⟩) ns.length (ns.length + 3)) ∧ w'.cell? ⟨b, o + j, none⟩ = some (.slice tpo ns.length tc)) (first | exact hc2 | exact HS.out _ (HI.out.below (below_drewN _ _)) | exact hc) (
            (go_at_call 19; (first | refine (HK.out _ (HI.out.below (below_drewN _ _))).mono ?_ | refine (HK.out _ HI.out).mono ?_); rintro e w5 ⟨rfl, hb5⟩; have HI5 := hid (show LtQ w l l.length (.slice (some ⟨g, 0, none⟩) l.length vc) gs w5 from (by first | exact (HI.out.below (below_drewN _ _)).below hb5 | exact HI.out.below hb5)); have hc2 := HS.out w5 HI5.out; clear hb5))
          go_wp2
          go_roundg (l.length - (j + 1))
          case measure => omega
          case rel => exact ⟨j + 1, by omega, by omega, rfl, by go_num, (by first | exact HI5.out | exact HI5.out.below (below_drewN _ _))⟩
        · have hjt' : ¬ (j : Int) < (l.length : Int) := by omega
          have HB := hid HI.out.be
          clear HI HROW HKE
          go_wp2_with (go_at_call 12; refine (HAW.out _).mono ?_; rintro e w9 ⟨rfl, hb9⟩; have HB9 := hid (below_on _ _ HB.out hb9); clear hb9)
          go_ret
          exact ⟨rfl, HB9.out⟩
end Go.Proofs.Ytkiojnledimihaa
