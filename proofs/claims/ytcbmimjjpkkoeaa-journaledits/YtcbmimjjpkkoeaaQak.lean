/- Texts laid into one: the remark ahead of each part says what is proved there. -/
import Derived.Test.YtcbmimjjpkkoeaaQaj
/- The document's Copy and without. -/
namespace Go.Proofs.Ytcbmimjjpkkoeaa
open Go Go.RowKit

/-- stowageref07.Copy, of a record in memory. -/
theorem rcopyR_any (x : Rp) (w : World) (h : RpOk w x) : Calls Try.prog 6 #[.agg x.r.cs] w fun e w' => ∃ y : Rp, e = .returned (.agg y.r.cs) ∧ y.rc = x.rc ∧ RpX w.heap.size w' y ∧ y.r.pv.oneCell' = true ∧ Below w.heap.size w w' := by
  obtain ⟨po, c, e, hz, _, hn⟩ := h.form
  refine (rcopy_any x.r h.ok po c x.ps w e h.pl hz hn).mono fun e w' ⟨v, he, hp, hb⟩ => ⟨⟨{ x.r with pv := v }, x.ps⟩, he, rfl, ⟨pvR h.ok v, hp⟩, ?_, hb⟩
  obtain ⟨p3, n3, c3, hv3⟩ := hp.form
  show v.oneCell' = true
  rw [hv3]; rfl
/-- A record is laid behind the others. -/
theorem Rs.push {B g : Nat} {W W1 : World} {v : Value} {l : List Rp} {y : Rp} (hrs : Rs B W v l) (hB : B ≤ W.heap.size) (hb : Below W.heap.size W W1) (hl : l.length ≤ 100000) (hc : CAt W1 g y.r.cs 29) (hy : RpX B W1 y) :
    ∃ v' W2, (Builtin.append_ #[22, 22] 22 #[v, .slice (some ⟨g, 0, none⟩) 1 1]).run Try.prog W1 = .ok v' W2 ∧ Rs B W2 v' (l ++ [y]) ∧ Only (fun b => v.ownBlock = some b) W1 W2 ∧ (∀ b, v.ownBlock = some b → B ≤ b ∧ b < W.heap.size) := by
  have hrs2 := hrs.below hb
  obtain ⟨v', W2, hr, hbf, hg⟩ := hrs2.buf.app _ [y] (one_rl hc hy.one) (by simp; omega) (by have := hb.size; omega)
  have hO : Only (fun b => v.ownBlock = some b) W1 W2 := Only.of_grown hg fun k e _ => e
  refine ⟨v', W2, hr, ⟨hbf, fun x hx => ?_⟩, hO, own_ge hrs.buf⟩
  rcases List.mem_append.1 hx with hx | hx
  · exact (hrs2.each x hx).grown hrs2.buf hg
  · simp at hx; subst hx; exact hy.grown hrs2.buf hg
theorem rcs_app8 (l m : List Rp) : rcs (l ++ m) = rcs l ++ rcs m := by simp [rcs]
theorem rcs_next {l m : List Rp} {kk : Nat} {x y : Rp} (h : rcs m = (rcs l).take kk) (hx : l[kk]? = some x) (hy : y.rc = x.rc) : rcs (m ++ [y]) = (rcs l).take (kk + 1) := by
  rw [rcs_app8, h, List.take_add_one, rcs_get, hx]
  simp [rcs, hy]
theorem len_le {l m : List Rp} {kk : Nat} (h : rcs m = (rcs l).take kk) : m.length ≤ l.length := by
  have := congrArg List.length h
  rw [rcs_len, List.length_take, rcs_len] at this
  omega
theorem wout_next {l : List Rc} {m : List Rp} {kk : Nat} {x y : Rp} {id : List Nat} (h : rcs m = wout (l.take kk) id) (hx : l[kk]? = some x.rc) (hy : y.rc = x.rc) (hne : x.rc.id ≠ id) : rcs (m ++ [y]) = wout (l.take (kk + 1)) id := by
  rw [rcs_app8, h, List.take_add_one, hx]
  simp [wout, List.filter_append, rcs, hy, hne]
theorem wout_skip {l : List Rc} {kk : Nat} {x : Rc} {id : List Nat} (hx : l[kk]? = some x) (hne : x.id = id) : wout (l.take (kk + 1)) id = wout (l.take kk) id := by
  rw [List.take_add_one, hx]
  simp [wout, List.filter_append, hne]
theorem builtJ1 (s : Int) : Try.prog.built 24 [(0, i64 s)] = some (jC s (.slice none 0 0)) := by kernel_rfl
/-- The parameter's block, the result's and the copy's. -/
structure K3 (w : World) (g1 g2 g3 : Nat) (s : Int) (v u : Value) (W : World) : Prop where
  below : Below w.heap.size w W
  cj : CAt W g1 (jC s v) 24
  cr : CAt W g2 (jC 0 (.slice none 0 0)) 24
  cl : CAt W g3 (jC s u) 24
theorem K3.next {w W W' : World} {g1 g2 g3 B : Nat} {s : Int} {v u u' : Value} (h : K3 w g1 g2 g3 s v u W) (hO : Only (fun i => B ≤ i) W W') (h1 : g1 < B) (h2 : g2 < B) (h3 : g3 < B) (h12 : g1 ≠ g3) (h23 : g2 ≠ g3) (hw : w.heap.size ≤ g3) (hB : w.heap.size ≤ B) : K3 w g1 g2 g3 s v u' (W'.setCell ⟨g3, 1, none⟩ u') := by
  have k1 := h.cj.keep (hO.block g1 h.cj.lt (by omega))
  have k2 := h.cr.keep (hO.block g2 h.cr.lt (by omega))
  have k3 := h.cl.keep (hO.block g3 h.cl.lt (by omega))
  have o2 := Only.set (S := fun b => b = g3) W' ⟨g3, 1, none⟩ u' rfl
  refine ⟨below_tr (below_tr h.below (hO.below h.below.size fun i hi => Nat.le_trans hB hi)) (o2.below ?_ (fun i e => by omega)), k1.keep (o2.block g1 k1.lt h12), k2.keep (o2.block g2 k2.lt h23), k3.set 1 u'⟩
  have := h.below.size; have := hO.size; omega
/-- A journal whose records lie in memory of their own. -/
def JcpS (w : World) (s : Int) (rs : List Rc) (e : Ending) (w' : World) : Prop := ∃ v m, e = .returned (.agg (jC s v)) ∧ Rs w.heap.size w' v m ∧ rcs m = rs ∧ Below w.heap.size w w'
set_option maxRecDepth 100000 in
set_option maxHeartbeats 4000000 in
theorem rjcopy_any (s : Int) (v : Value) (l : List Rp) (w : World) (hl : RL w v l) : Calls Try.prog 5 #[.agg (jC s v)] w (JcpS w s (rcs l)) := by
  have HL := hid hl
  have hn := hl.len
  obtain ⟨po, c, rfl, _⟩ := hl
  obtain ⟨n, hN⟩ : ∃ n, l.length = n := ⟨_, rfl⟩
  have HN := hid hN
  rw [hN] at hn ⊢
  clear hN
  have T1 : Hid True := hid trivial
  go_enter Try.func5, Try.ntmps5
  go_wp2_with (first
    | ((with_reducible refine wpList_boxT 24 rfl _ rfl (jC s (.slice po n c)) ?_ ?_); exact rfl; intro w1 g1 hc1 hb1 hg1; have HC1 := hid hc1; have HB1 := hid hb1; have HG1 := hid hg1; clear hb1 hc1 hg1)
    | (clear T1; (with_reducible refine wpList_allocJ rfl rfl ?_); intro w2 g2 hz2 hb2 hg2; have HC2 := hid (HC1.out.below hb2); have HZ2 := hid hz2; have HB2 := hid (below_on HB1.out hb2); have HG2 := hid (show g1 < g2 by have := HC1.out.lt; omega); have c0 := HC2.out.j0; clear hz2 hb2 hg2)
    | ((with_reducible refine wpList_build_want 24 _ rfl ?_ (jC s (.slice none 0 0)) ?_ ?_); exact rfl; exact builtJ1 s)
    | ((with_reducible refine wpList_allocJ rfl rfl ?_); intro w3 g3 hz3 hb3 hg3; have HC3 := hid (HC2.out.below hb3); have HR3 := hid (HZ2.out.below hb3); have HZ3 := hid hz3; have HB3 := hid (below_on HB2.out hb3); have HG3 := hid (show g2 < g3 by have := HZ2.out.lt; omega); clear hz3 hb3 hg3 c0)
    | ((with_reducible refine wpList_storeJ rfl rfl _ _ rfl g3 ?_ (s := s) (v := .slice none 0 0) ?_ rfl HZ3.out ?_); exact rfl; exact rfl; intro w4 h4 o4; have HK : Hid (K3 w g1 g2 g3 s (.slice po n c) (.slice none 0 0) w4) := hid ⟨below_tr HB3.out (o4.below HB3.out.size (fun i e => by have := HG1.out; have := HG2.out; have := HG3.out; omega)), HC3.out.keep (o4.block g1 HC3.out.lt (by have := HG2.out; have := HG3.out; omega)), HR3.out.keep (o4.block g2 HR3.out.lt (by have := HG3.out; omega)), h4⟩; clear h4 o4))
  go_loopg [4] n (fun gg s4 wr => ∃ (kk : Nat) (u : Value) (m : List Rp), kk ≤ n ∧ n - kk ≤ gg ∧ s4 = i64 kk ∧ Hid (K3 w g1 g2 g3 s (.slice po n c) u wr) ∧ Hid (Rs w4.heap.size wr u m) ∧ Hid (rcs m = (rcs l).take kk) ∧ Hid (w4.heap.size ≤ wr.heap.size))
  case atStart => exact ⟨0, _, [], Nat.zero_le _, by omega, rfl, HK.out, Rs.nil _ _, rfl, Nat.le_refl _⟩
  case round =>
    obtain ⟨kk, u, m, hkk, hg, rfl, KK, RS, RC, SZ⟩ := hrel
    have c1 := KK.out.cj.j1
    have HLT := hid (show g1 < w4.heap.size ∧ g2 < w4.heap.size ∧ g3 < w4.heap.size ∧ w.heap.size ≤ g3 from ⟨HK.out.cj.lt, HK.out.cr.lt, HK.out.cl.lt, by have := HG1.out; have := HG2.out; have := HG3.out; omega⟩)
    have HNE := hid (show g1 ≠ g3 ∧ g2 ≠ g3 from ⟨by have := HG2.out; have := HG3.out; omega, by have := HG3.out; omega⟩)
    by_cases hlt : kk < n
    · have hltz : (kk : Int) < (n : Int) := by omega
      obtain ⟨x, hx⟩ : ∃ x, l[kk]? = some x := ⟨_, List.getElem?_eq_getElem (by have := HN.out; omega)⟩
      obtain ⟨b, o, c', e, _, hcl⟩ := HL.out.where hx
      rw [HN.out] at e
      cases e
      have hxo := HL.out.each x (List.mem_of_getElem? hx)
      have hok := hxo.ok
      have HBL : Hid (b < w.heap.size) := hid (by have := hcl kk x hx 0 (.string x.r.id) (by rw [x.r.get8 0 (by omega)]; rfl); exact cell_lt' (a := ⟨b, o + kk * 42 + 0, none⟩) (by rw [this]; simp))
      have HRG := hid ((hcl.below KK.out.below).range hx)
      have HSF : Hid (∀ W, Only (fun i => i = g3 ∨ w4.heap.size ≤ i) wr W → (fun W => W.cell? ⟨g1, 1, none⟩ = some (.slice (some ⟨b, o, none⟩) n c) ∧ (Instr.loadAt 29 (.pointer (some ⟨b, o + kk * 42, none⟩))).run Try.prog W = .ok (.agg x.r.cs) W) W) := hid (fun W hW => ⟨(KK.out.cj.keep (hW.block g1 KK.out.cj.lt (by have := HLT.out; have := HNE.out; omega))).j1, run_loadM hok (fun j v hv => (World.cell?_of_block (a := ⟨b, o + kk * 42 + j, none⟩) (hW.block b (by have := HBL.out; have := KK.out.below.size; omega) (by have := HBL.out; have := HLT.out; omega))).trans (HRG.out j v hv))⟩)
      have HCP := hid (fun W (hW : Below wr.heap.size wr W) => rcopyR_any x W (hxo.below (below_on KK.out.below hW)))
      have HXX := hid hx
      have HML : Hid (m.length ≤ 100000) := hid (by have := len_le RC.out; have := HN.out; omega)
      obtain ⟨pu, nu, cu, hu⟩ : ∃ a b c, u = .slice a b c := by obtain ⟨a, c, e, _⟩ := RS.out.buf.form; exact ⟨a, _, c, e⟩
      subst hu
      have d1 := KK.out.cl.j1
      have HTR : Hid (∀ W, Below wr.heap.size wr W → Only (fun i => i = g3 ∨ w4.heap.size ≤ i) wr W) := hid (fun W hW => Only.of_below hW)
      clear hx hcl hxo
      go_upto_region 5 with fail
      refine wp_region_held_drew (S := (fun W => W.cell? ⟨g1, 1, none⟩ = some (.slice (some ⟨b, o, none⟩) n c) ∧ (Instr.loadAt 29 (.pointer (some ⟨b, o + kk * 42, none⟩))).run Try.prog W = .ok (.agg x.r.cs) W)) (by kernel_rfl) (HSF.out _ (HTR.out _ (below_drew _))) (fun hHeld => ?_)
      have HD := hid (below_drew wr)
      refine wpAnyH_take (i := 0) (oi := ⟨some 15, .fieldAddr 24 (.tmp 3) 1, _, _, _, none⟩) (v := .pointer (some ⟨g3, 1, none⟩)) rfl (by kernel_rfl) (by kernel_rfl) (by kernel_rfl) (fun _ _ _ h => h) (Or.inl ⟨by kernel_rfl, by intro W hW; go_simp⟩) hHeld ?_
      refine wpAnyH_take (i := 2) (oi := ⟨some 17, .fieldAddr 24 (.tmp 1) 1, _, _, _, none⟩) (v := .pointer (some ⟨g1, 1, none⟩)) rfl (by kernel_rfl) (by kernel_rfl) (by kernel_rfl) (fun _ _ _ h => h) (Or.inl ⟨by kernel_rfl, by intro W hW; go_simp⟩) hHeld ?_
      refine wpAnyH_take (i := 3) (oi := ⟨some 18, .load 22 (.tmp 17), _, _, _, none⟩) (v := .slice (some ⟨b, o, none⟩) n c) rfl (by kernel_rfl) (by kernel_rfl) (by kernel_rfl) (fun _ _ _ h => h) (Or.inl ⟨by kernel_rfl, by intro W hW; have q0 := hW.1; go_simp⟩) hHeld ?_
      refine wpAnyH_take (i := 4) (oi := ⟨some 19, .move (.tmp 4), _, _, _, none⟩) (v := i64 kk) rfl (by kernel_rfl) (by kernel_rfl) (by kernel_rfl) (fun _ _ _ h => h) (Or.inl ⟨by kernel_rfl, by intro W hW; go_simp⟩) hHeld ?_
      refine wpAnyH_take (i := 5) (oi := ⟨some 20, .indexAddr 22 (.tmp 18) (.tmp 19), _, _, _, none⟩) (v := .pointer (some ⟨b, o + kk * 42, none⟩)) rfl (by kernel_rfl) (by kernel_rfl) (by kernel_rfl) (fun _ _ _ h => h) (Or.inl ⟨by kernel_rfl, by intro W hW; go_simp⟩) hHeld ?_
      refine wpAnyH_take (i := 6) (oi := ⟨some 21, .load 29 (.tmp 20), _, _, _, none⟩) (v := .agg x.r.cs) rfl (by kernel_rfl) (by kernel_rfl) (by kernel_rfl) (fun _ _ _ h => h) (Or.inl ⟨by kernel_rfl, fun W hW => exec_load rfl (by kernel_rfl) hW.2⟩) hHeld ?_
      refine wpAnyH_ready (rs := [1, 7]) (by kernel_rfl) (by simp) ?_
      refine AllReadyH.cons rfl (fun K hK => ?_) (AllReadyH.cons rfl (fun K hK => ?_) AllReadyH.nil)
      · go_simp
        refine hK.out _ _ (HSF.out _ (HTR.out _ HD.out)) (fun hHeld => ?_)
        clear hK K
        refine wpAnyH_ready (rs := [7]) (by kernel_rfl) (by simp) ?_
        refine AllReadyH.cons rfl (fun K hK => ?_) AllReadyH.nil
        go_simp
        refine (HCP.out _ HD.out).mono ?_
        rintro e w7 ⟨y, rfl, hyx, hy, hyo, hb7⟩
        have hyk := hy.ok
        replace HD := hid (below_on HD.out hb7)
        obtain ⟨v9, w9, hr9, hrs9, ho9, hown9⟩ := Rs.push RS.out SZ.out (below_on HD.out (below_al w7 (.cells y.r.cs 29))) HML.out (CAt.made w7 y.r.cs 29) ((hy.base (show w4.heap.size ≤ wr.drew.heap.size from SZ.out)).below (below_al w7 (.cells y.r.cs 29)))
        obtain ⟨p9, n9, c9, hv9⟩ : ∃ a b c, v9 = .slice a b c := by obtain ⟨a, c, e, _⟩ := hrs9.buf.form; exact ⟨a, _, c, e⟩
        subst hv9
        have HRUN := hid hr9
        have hA : Only (fun i => w4.heap.size ≤ i) wr w9 := (Only.of_below (below_on HD.out (below_al w7 (.cells y.r.cs 29)))).trans (ho9.mono fun i e => (hown9 i e).1)
        have HKN := hid (KK.out.next (u' := .slice p9 n9 c9) hA HLT.out.1 HLT.out.2.1 HLT.out.2.2.1 HNE.out.1 HNE.out.2 HLT.out.2.2.2 HK.out.below.size)
        have ho5 := Only.set (S := fun i => i = g3) w9 ⟨g3, 1, none⟩ (.slice p9 n9 c9) rfl
        have HRN := hid (hrs9.only ho5 (fun i e => by have := HLT.out; omega))
        have HSN : Hid (w4.heap.size ≤ (w9.setCell ⟨g3, 1, none⟩ (.slice p9 n9 c9)).heap.size) := hid (by have := hA.size; have := ho5.size; have := SZ.out; omega)
        have HCN := hid (rcs_next RC.out HXX.out hyx)
        have cl9 := KK.out.cl.keep (hA.block g3 KK.out.cl.lt (by have := HLT.out; omega))
        have k1 := cl9.j1
        have kf := cl9.free
        have HA9 := hid (hA.mono (T := fun i => i = g3 ∨ w4.heap.size ≤ i) fun i e => Or.inr e)
        have HA10 := hid (HA9.out.trans (ho5.mono fun i e => Or.inl e))
        have dA := (KK.out.cl.below HD.out).j1
        have dB := (KK.out.cl.below (below_on HD.out (below_al w7 (.cells y.r.cs 29)))).j1
        clear hr9 hrs9 ho9 hown9 hA ho5 cl9 hy hb7 hyx
        go_wp2_with fail
        refine hK.out _ _ (HSF.out _ (HTR.out _ HD.out)) (fun hHeld => ?_)
        clear hK K
        refine wpAnyH_ready (rs := [8]) (by kernel_rfl) (by simp) ?_
        refine AllReadyH.cons (o := ⟨some 23, .buildSlice 22 1 #[(0, .tmp 22)], _, _, _, none⟩) rfl (fun K hK => ?_) AllReadyH.nil
        with_reducible refine step_run_val ?_ (.slice (some ⟨w7.heap.size, 0, none⟩) 1 1) (w7.alloc (.cells y.r.cs 29)) ?_ ?_
        · exact rfl
        · exact exec_buildOne hyk rfl (by kernel_rfl)
        refine hK.out _ _ (HSF.out _ (HTR.out _ (below_on HD.out (below_al w7 (.cells y.r.cs 29))))) (fun hHeld => ?_)
        clear hK K
        refine wpAnyH_ready (rs := [9]) (by kernel_rfl) (by simp) ?_
        refine AllReadyH.cons (o := ⟨some 24, .call { callee := .builtin .append, args := #[.tmp 16, .tmp 23], argTypes := #[22, 22] }, 22, _, _, none⟩) rfl (fun K hK => ?_) AllReadyH.nil
        with_reducible refine step_append_ex (R := fun v' w' => v' = .slice p9 n9 c9 ∧ w' = w9) ?_ (.tmp 16) (.tmp 23) 22 ?_ (.slice pu nu cu) (.slice (some ⟨w7.heap.size, 0, none⟩) 1 1) ?_ ?_ ?_ ?_
        · exact rfl
        · exact rfl
        · kernel_rfl
        · kernel_rfl
        · exact ⟨_, _, HRUN.out, rfl, rfl⟩
        rintro v' w' ⟨hv9, hw9⟩
        subst hv9 hw9
        refine hK.out _ _ (HSF.out _ HA9.out) (fun hHeld => ?_)
        clear hK K
        refine wpAnyH_take (i := 10) (oi := ⟨some 25, .fieldAddr 24 (.tmp 3) 1, _, _, _, none⟩) (v := .pointer (some ⟨g3, 1, none⟩)) rfl (by kernel_rfl) (by kernel_rfl) (by kernel_rfl) (fun _ _ _ h => h) (Or.inl ⟨by kernel_rfl, by intro W hW; go_simp⟩) hHeld ?_
        refine wpAnyH_ready (rs := [11]) (by kernel_rfl) (by simp) ?_
        refine AllReadyH.cons rfl (fun K hK => ?_) AllReadyH.nil
        go_simp
        refine hK.out _ _ (HSF.out _ HA10.out) (fun hHeld => ?_)
        clear hK K
        refine wpAnyH_done (by kernel_rfl) ?_ _
        (try simp only [Act.put, List.setIfInBounds_toArray, List.set_cons_zero, List.set_cons_succ])
        clear c1 d1 dA dB k1 kf
        go_wp2
        go_roundg (n - (kk + 1))
        case measure => omega
        case rel => exact ⟨kk + 1, _, m ++ [y], by omega, by omega, by go_num, HKN.out, HRN.out, HCN.out, HSN.out⟩
      · go_simp
        refine (HCP.out _ HD.out).mono ?_
        rintro e w7 ⟨y, rfl, hyx, hy, hyo, hb7⟩
        have hyk := hy.ok
        replace HD := hid (below_on HD.out hb7)
        obtain ⟨v9, w9, hr9, hrs9, ho9, hown9⟩ := Rs.push RS.out SZ.out (below_on HD.out (below_al w7 (.cells y.r.cs 29))) HML.out (CAt.made w7 y.r.cs 29) ((hy.base (show w4.heap.size ≤ wr.drew.heap.size from SZ.out)).below (below_al w7 (.cells y.r.cs 29)))
        obtain ⟨p9, n9, c9, hv9⟩ : ∃ a b c, v9 = .slice a b c := by obtain ⟨a, c, e, _⟩ := hrs9.buf.form; exact ⟨a, _, c, e⟩
        subst hv9
        have HRUN := hid hr9
        have hA : Only (fun i => w4.heap.size ≤ i) wr w9 := (Only.of_below (below_on HD.out (below_al w7 (.cells y.r.cs 29)))).trans (ho9.mono fun i e => (hown9 i e).1)
        have HKN := hid (KK.out.next (u' := .slice p9 n9 c9) hA HLT.out.1 HLT.out.2.1 HLT.out.2.2.1 HNE.out.1 HNE.out.2 HLT.out.2.2.2 HK.out.below.size)
        have ho5 := Only.set (S := fun i => i = g3) w9 ⟨g3, 1, none⟩ (.slice p9 n9 c9) rfl
        have HRN := hid (hrs9.only ho5 (fun i e => by have := HLT.out; omega))
        have HSN : Hid (w4.heap.size ≤ (w9.setCell ⟨g3, 1, none⟩ (.slice p9 n9 c9)).heap.size) := hid (by have := hA.size; have := ho5.size; have := SZ.out; omega)
        have HCN := hid (rcs_next RC.out HXX.out hyx)
        have cl9 := KK.out.cl.keep (hA.block g3 KK.out.cl.lt (by have := HLT.out; omega))
        have k1 := cl9.j1
        have kf := cl9.free
        have HA9 := hid (hA.mono (T := fun i => i = g3 ∨ w4.heap.size ≤ i) fun i e => Or.inr e)
        have HA10 := hid (HA9.out.trans (ho5.mono fun i e => Or.inl e))
        have dA := (KK.out.cl.below HD.out).j1
        have dB := (KK.out.cl.below (below_on HD.out (below_al w7 (.cells y.r.cs 29)))).j1
        clear hr9 hrs9 ho9 hown9 hA ho5 cl9 hy hb7 hyx
        go_wp2_with fail
        refine hK.out _ _ (HSF.out _ (HTR.out _ HD.out)) (fun hHeld => ?_)
        clear hK K
        refine wpAnyH_ready (rs := [1, 8]) (by kernel_rfl) (by simp) ?_
        refine AllReadyH.cons rfl (fun K hK => ?_) (AllReadyH.cons (o := ⟨some 23, .buildSlice 22 1 #[(0, .tmp 22)], _, _, _, none⟩) rfl (fun K hK => ?_) AllReadyH.nil)
        · go_simp
          refine hK.out _ _ (HSF.out _ (HTR.out _ HD.out)) (fun hHeld => ?_)
          clear hK K
          refine wpAnyH_ready (rs := [8]) (by kernel_rfl) (by simp) ?_
          refine AllReadyH.cons (o := ⟨some 23, .buildSlice 22 1 #[(0, .tmp 22)], _, _, _, none⟩) rfl (fun K hK => ?_) AllReadyH.nil
          with_reducible refine step_run_val ?_ (.slice (some ⟨w7.heap.size, 0, none⟩) 1 1) (w7.alloc (.cells y.r.cs 29)) ?_ ?_
          · exact rfl
          · exact exec_buildOne hyk rfl (by kernel_rfl)
          refine hK.out _ _ (HSF.out _ (HTR.out _ (below_on HD.out (below_al w7 (.cells y.r.cs 29))))) (fun hHeld => ?_)
          clear hK K
          refine wpAnyH_ready (rs := [9]) (by kernel_rfl) (by simp) ?_
          refine AllReadyH.cons (o := ⟨some 24, .call { callee := .builtin .append, args := #[.tmp 16, .tmp 23], argTypes := #[22, 22] }, 22, _, _, none⟩) rfl (fun K hK => ?_) AllReadyH.nil
          with_reducible refine step_append_ex (R := fun v' w' => v' = .slice p9 n9 c9 ∧ w' = w9) ?_ (.tmp 16) (.tmp 23) 22 ?_ (.slice pu nu cu) (.slice (some ⟨w7.heap.size, 0, none⟩) 1 1) ?_ ?_ ?_ ?_
          · exact rfl
          · exact rfl
          · kernel_rfl
          · kernel_rfl
          · exact ⟨_, _, HRUN.out, rfl, rfl⟩
          rintro v' w' ⟨hv9, hw9⟩
          subst hv9 hw9
          refine hK.out _ _ (HSF.out _ HA9.out) (fun hHeld => ?_)
          clear hK K
          refine wpAnyH_take (i := 10) (oi := ⟨some 25, .fieldAddr 24 (.tmp 3) 1, _, _, _, none⟩) (v := .pointer (some ⟨g3, 1, none⟩)) rfl (by kernel_rfl) (by kernel_rfl) (by kernel_rfl) (fun _ _ _ h => h) (Or.inl ⟨by kernel_rfl, by intro W hW; go_simp⟩) hHeld ?_
          refine wpAnyH_ready (rs := [11]) (by kernel_rfl) (by simp) ?_
          refine AllReadyH.cons rfl (fun K hK => ?_) AllReadyH.nil
          go_simp
          refine hK.out _ _ (HSF.out _ HA10.out) (fun hHeld => ?_)
          clear hK K
          refine wpAnyH_done (by kernel_rfl) ?_ _
          (try simp only [Act.put, List.setIfInBounds_toArray, List.set_cons_zero, List.set_cons_succ])
          clear c1 d1 dA dB k1 kf
          go_wp2
          go_roundg (n - (kk + 1))
          case measure => omega
          case rel => exact ⟨kk + 1, _, m ++ [y], by omega, by omega, by go_num, HKN.out, HRN.out, HCN.out, HSN.out⟩
        · with_reducible refine step_run_val ?_ (.slice (some ⟨w7.heap.size, 0, none⟩) 1 1) (w7.alloc (.cells y.r.cs 29)) ?_ ?_
          · exact rfl
          · exact exec_buildOne hyk rfl (by kernel_rfl)
          refine hK.out _ _ (HSF.out _ (HTR.out _ (below_on HD.out (below_al w7 (.cells y.r.cs 29))))) (fun hHeld => ?_)
          clear hK K
          refine wpAnyH_ready (rs := [1]) (by kernel_rfl) (by simp) ?_
          refine AllReadyH.cons rfl (fun K hK => ?_) AllReadyH.nil
          go_simp
          refine hK.out _ _ (HSF.out _ (HTR.out _ (below_on HD.out (below_al w7 (.cells y.r.cs 29))))) (fun hHeld => ?_)
          clear hK K
          refine wpAnyH_ready (rs := [9]) (by kernel_rfl) (by simp) ?_
          refine AllReadyH.cons (o := ⟨some 24, .call { callee := .builtin .append, args := #[.tmp 16, .tmp 23], argTypes := #[22, 22] }, 22, _, _, none⟩) rfl (fun K hK => ?_) AllReadyH.nil
          with_reducible refine step_append_ex (R := fun v' w' => v' = .slice p9 n9 c9 ∧ w' = w9) ?_ (.tmp 16) (.tmp 23) 22 ?_ (.slice pu nu cu) (.slice (some ⟨w7.heap.size, 0, none⟩) 1 1) ?_ ?_ ?_ ?_
          · exact rfl
          · exact rfl
          · kernel_rfl
          · kernel_rfl
          · exact ⟨_, _, HRUN.out, rfl, rfl⟩
          rintro v' w' ⟨hv9, hw9⟩
          subst hv9 hw9
          refine hK.out _ _ (HSF.out _ HA9.out) (fun hHeld => ?_)
          clear hK K
          refine wpAnyH_take (i := 10) (oi := ⟨some 25, .fieldAddr 24 (.tmp 3) 1, _, _, _, none⟩) (v := .pointer (some ⟨g3, 1, none⟩)) rfl (by kernel_rfl) (by kernel_rfl) (by kernel_rfl) (fun _ _ _ h => h) (Or.inl ⟨by kernel_rfl, by intro W hW; go_simp⟩) hHeld ?_
          refine wpAnyH_ready (rs := [11]) (by kernel_rfl) (by simp) ?_
          refine AllReadyH.cons rfl (fun K hK => ?_) AllReadyH.nil
          go_simp
          refine hK.out _ _ (HSF.out _ HA10.out) (fun hHeld => ?_)
          clear hK K
          refine wpAnyH_done (by kernel_rfl) ?_ _
          (try simp only [Act.put, List.setIfInBounds_toArray, List.set_cons_zero, List.set_cons_succ])
          clear c1 d1 dA dB k1 kf
          go_wp2
          go_roundg (n - (kk + 1))
          case measure => omega
          case rel => exact ⟨kk + 1, _, m ++ [y], by omega, by omega, by go_num, HKN.out, HRN.out, HCN.out, HSN.out⟩
    · have hltz : ¬ (kk : Int) < (n : Int) := by omega
      obtain ⟨pu, nu, cu, hu⟩ : ∃ a b c, u = .slice a b c := by obtain ⟨a, c, e, _⟩ := RS.out.buf.form; exact ⟨a, _, c, e⟩
      subst hu
      go_wp2_with (first
        | ((with_reducible refine wpList_load_at 24 _ rfl ?_ g3 0 ?_ (jC s (.slice pu nu cu)) (.struct (Try.prog.fieldsOf 24)) ?_ underJrn rfl ?_ ?_); exact rfl; exact rfl; exact KK.out.cl.wholeJ; exact sizeJ)
        | ((with_reducible refine wpList_storeJ rfl rfl _ _ rfl g2 ?_ (s := s) (v := .slice pu nu cu) ?_ rfl KK.out.cr ?_); exact rfl; exact rfl; intro w7 h7 o7; have H7 := hid h7; have O7 := hid o7; clear h7 o7))
      refine ret_rowJ1 rfl g2 rfl rfl H7.out ⟨_, m, rfl, ?_, ?_, ?_⟩
      · exact (RS.out.only O7.out (fun i e => by have := HLT.out; omega)).base HK.out.below.size
      · rw [RC.out, List.take_of_length_le (by rw [rcs_len, HN.out]; omega)]
      · exact below_tr KK.out.below (O7.out.below KK.out.below.size (fun i e => by have := HLT.out; have := HG1.out; have := HG2.out; omega))
set_option maxRecDepth 100000 in
set_option maxHeartbeats 4000000 in
theorem rwithout_any (s : Int) (v : Value) (l : List Rp) (id : ByteArray) (w : World) (hl : RL w v l) : Calls Try.prog 26 #[.agg (jC s v), .string id] w (ClonS w (wout (rcs l) (lst id))) := by
  have HL := hid hl
  have hn := hl.len
  obtain ⟨po, c, rfl, _⟩ := hl
  obtain ⟨n, hN⟩ : ∃ n, l.length = n := ⟨_, rfl⟩
  have HN := hid hN
  rw [hN] at hn ⊢
  clear hN
  go_enter Try.func26, Try.ntmps26
  go_wp2_with ((with_reducible refine wpList_boxT 24 rfl _ rfl (jC s (.slice po n c)) ?_ ?_); exact rfl; intro w1 g1 hc1 hb1 hg1; have HC1 := hid hc1; have HB1 := hid hb1; clear hb1 hc1 hg1)
  go_loopg [5, 6] n (fun gg s5 s6 wr => ∃ (kk : Nat) (u : Value) (m : List Rp), kk ≤ n ∧ n - kk ≤ gg ∧ s5 = u ∧ s6 = i64 kk ∧ Hid (Below w1.heap.size w1 wr) ∧ Hid (Rs w1.heap.size wr u m) ∧ Hid (rcs m = wout ((rcs l).take kk) (lst id)) ∧ Hid (m.length ≤ kk))
  case atStart => exact ⟨0, _, [], Nat.zero_le _, by omega, rfl, rfl, Below.refl _ _, Rs.nil _ _, rfl, Nat.le_refl _⟩
  case round =>
    obtain ⟨kk, u, m, hkk, hg, hu5, rfl, BW, RS, RC, ML⟩ := hrel
    have c1 := (HC1.out.below BW.out).j1
    have BW0 := hid (below_on HB1.out BW.out)
    obtain ⟨pu, nu, cu, hu⟩ : ∃ a b c, u = .slice a b c := by obtain ⟨a, c, e, _⟩ := RS.out.buf.form; exact ⟨a, _, c, e⟩
    subst hu
    subst hu5
    by_cases hlt : kk < n
    · have hltz : (kk : Int) < (n : Int) := by omega
      obtain ⟨x, hx⟩ : ∃ x, l[kk]? = some x := ⟨_, List.getElem?_eq_getElem (by have := HN.out; omega)⟩
      obtain ⟨b, o, c', e, _, hcl⟩ := HL.out.where hx
      rw [HN.out] at e
      cases e
      have hxo := HL.out.each x (List.mem_of_getElem? hx)
      have hok := hxo.ok
      have i1 : wr.cell? ⟨b, o + kk * 42, none⟩ = some (.string x.r.id) := by have := (hcl.below BW0.out) kk x hx 0 (.string x.r.id) (by rw [x.r.get8 0 (by omega)]; rfl); exact this
      have HRG := hid ((hcl.below BW0.out).range hx)
      have HXR : Hid ((rcs l)[kk]? = some x.rc) := hid (by rw [rcs_get, hx]; rfl)
      have HCP := hid (fun W (hW : Below wr.heap.size wr W) => rcopyR_any x W (hxo.below (below_on BW0.out hW)))
      clear hx hcl hxo
      by_cases hq : lst x.r.id = lst id
      · have hne : (x.r.id.toList == id.toList) = true := by rw [lst_beq]; exact decide_eq_true hq
        go_wp2
        go_roundg (n - (kk + 1))
        case measure => omega
        case rel => exact ⟨kk + 1, _, m, by omega, by omega, rfl, by go_num, BW.out, RS.out, (by show _ = _; rw [wout_skip HXR.out hq]; exact RC.out), (by show _ ≤ _; have := ML.out; omega)⟩
      · have hne : (x.r.id.toList == id.toList) = false := by rw [lst_beq]; exact decide_eq_false hq
        go_wp2_with (first
          | ((with_reducible refine wpList_loadM rfl _ rfl b (o + kk * 42) ?_ x.r hok HRG.out ?_); exact rfl)
          | (go_at_call 6; refine (HCP.out _ (Below.refl _ _)).mono ?_; rintro e w7 ⟨y, rfl, hyx, hy, hyo, hb7⟩; have hyk := hy.ok; have HY := hid hy; have HYX := hid hyx; have HB7 := hid hb7; clear hy hyx hb7)
          | ((with_reducible refine wpList_buildOne rfl _ rfl hyk ?_ ?_); exact rfl; intro w8 g8 hc8 hb8 hg8; obtain ⟨v9, w9, hr9, hrs9, ho9, hown9⟩ := Rs.push RS.out BW.out.size (below_on HB7.out hb8) (by have := ML.out; omega) hc8 ((HY.out.base BW.out.size).below hb8); have HRUN := hid hr9; have HR9 := hid hrs9; have HB9 := hid (below_tr (below_on BW.out (below_on HB7.out hb8)) (ho9.below (below_on BW.out (below_on HB7.out hb8)).size (fun i e => (hown9 i e).1))); obtain ⟨p9, n9, c9, hv9⟩ : ∃ a b c, v9 = .slice a b c := (by obtain ⟨a, c, e, _⟩ := hrs9.buf.form; exact ⟨a, _, c, e⟩); subst hv9; clear hc8 hb8 hr9 hrs9 ho9 hown9)
          | (at_builtin; refine wpList_append_run _ _ 22 22 rfl rfl _ _ _ rfl rfl HRUN.out ?_))
        go_roundg (n - (kk + 1))
        case measure => omega
        case rel => exact ⟨kk + 1, _, m ++ [y], by omega, by omega, rfl, by go_num, HB9.out, HR9.out, wout_next RC.out HXR.out HYX.out hq, (by show _ ≤ _; rw [List.length_append]; have := ML.out; simp; omega)⟩
    · have hltz : ¬ (kk : Int) < (n : Int) := by omega
      go_wp2
      go_ret
      refine ⟨_, m, rfl, RS.out.base HB1.out.size, ?_, BW0.out⟩
      rw [RC.out, List.take_of_length_le (by rw [rcs_len, HN.out]; omega)]
#print axioms rjcopy_any
#print axioms rwithout_any
end Go.Proofs.Ytcbmimjjpkkoeaa
