/- Texts laid into one: the remark ahead of each part says what is proved there. -/
import Derived.Test.YtcbmimjjpkkoeaaDoorQax
/- JournalGrows: its first loop, round by round. -/
namespace Go.Proofs.YtcbmimjjpkkoeaaDoor
open Go Go.RowKit

theorem exec_allocJ {a : Act} {o : Oper} {W : World} (ho : o.op = .alloc 24) : (execOp a.eval o).run Tryd.prog W = .ok (.value (ptr W.heap.size)) (W.alloc (.cells (jC 0 (.slice none 0 0)) 24)) := by
  obtain ⟨i, hq, hz'⟩ := Option.map_eq_some_iff.1 zeroJ
  unfold execOp
  simp only [ho, Instr.alloc, zeroValue, typeInfo, Sem.run_bind, newVar, newRow]
  simp [hq, hz', Value.cells, ptr]
set_option maxRecDepth 100000 in
set_option maxHeartbeats 60000000 in
theorem grow_walk (a0 a1 : Addr) (v : Value) (l : List Rp) (which : Int) (w : World) (he : Ers w a0 a1) (hl : IsJ w v l) (hb : ¬ 70 < l.length) (hB : bigJ l = false) : Calls Tryd.prog 4 #[v, i64 which] w fun e w' => e = .returned (.bool true) ∧ Below w.heap.size w w' := by
  have HAW := hid (awake8_any a0 a1 w he)
  have HLG : Hid (∀ W, Below w.heap.size w W → Calls Tryd.prog 7 #[.agg (jC 0 v)] W fun e w' => e = .returned (.bool false) ∧ Below W.heap.size W w') := hid (fun W hW => by have := Large_any 0 v l W (hl.below hW); rw [hB] at this; exact this)
  have HL := hid (hl.rl hB)
  obtain ⟨po, c, rfl, _⟩ := hl
  obtain ⟨n, hn⟩ : ∃ n, l.length = n := ⟨_, rfl⟩
  have HN := hid hn
  rw [hn] at hb HLG ⊢
  have hb' : ¬ 70 < (n : Int) := by omega
  clear he hB hn
  go_enter Tryd.func4, Tryd.ntmps4
  go_wp2_with (first
    | (go_at_call 6; (with_reducible refine HAW.out.mono ?_); rintro e w1 ⟨rfl, hb1⟩; have HB := hid hb1; clear hb1)
    | ((with_reducible refine wpList_build_want 24 _ rfl ?_ (jC 0 (.slice po l.length c)) ?_ ?_); exact rfl; exact builtJ8 _ _ _)
    | (go_at_call 7; refine (HLG.out _ HB.out).mono ?_; rintro e w2 ⟨rfl, hb2⟩; replace HB := hid (below_on HB.out hb2); clear hb2)
    | ((with_reducible refine wpList_allocJ rfl rfl ?_); intro w3 gj hz3 hb3 hg3; have HI := hid (Gr.init w w3 gj (below_on HB.out hb3) (by have := HB.out.size; omega) hz3); clear hz3 hb3 hg3))
  obtain ⟨B, hBB⟩ : ∃ B, w3.heap.size = B := ⟨_, rfl⟩
  rw [hBB] at HI
  clear hBB HLG HAW
  go_loopg [7, 8] n (fun gg s7 s8 wr => ∃ (kk : Nat) (s : Int) (vj vw : Value) (mj mw : List Rp), kk ≤ n ∧ n - kk ≤ gg ∧ s8 = i64 kk ∧ s7 = vw ∧ Hid (Gr w B gj s vj vw mj mw wr ∧ s ≤ kk))
  case atStart => exact ⟨0, 0, _, _, [], [], Nat.zero_le _, by omega, rfl, rfl, HI.out, by omega⟩
  case round =>
    obtain ⟨kk, s, vj, vw, mj, mw, hkk, hg, rfl, rfl, HG⟩ := hrel
    obtain ⟨pw, cw, hvw, _⟩ := HG.out.1.bw.form
    obtain ⟨pj, cj, hvj, _⟩ := HG.out.1.rj.buf.form
    subst hvw
    subst hvj
    by_cases hlt : kk < n
    · have hltz : (kk : Int) < (n : Int) := by omega
      obtain ⟨x, hx⟩ : ∃ x, l[kk]? = some x := ⟨_, List.getElem?_eq_getElem (by have := HN.out; omega)⟩
      obtain ⟨b, o, c1, e1, _, hcl⟩ := HL.out.where hx
      rw [HN.out] at e1
      cases e1
      have hxo := HL.out.each x (List.mem_of_getElem? hx)
      have hok := hxo.ok
      obtain ⟨E, S, T, hway, hadd⟩ := way_of HG.out.1.ok (by have := HG.out.2; omega) x.rc
      have HWAY := hid hway
      have HADD := hid (addN_any HG.out.1 hxo hadd hway)
      have HXO := hid hxo
      have HCL := hid hcl
      have HX := hid hx
      have HSF : Hid (∀ W, Below wr.heap.size wr W → (Instr.loadAt 24 (.pointer (some ⟨gj, 0, none⟩))).run Tryd.prog W = .ok (.agg (jC s (.slice pj mj.length cj))) W ∧ (Instr.loadAt 44 (.pointer (some ⟨b, o + kk * 42, none⟩))).run Tryd.prog W = .ok (.agg x.r.cs) W) := hid (fun W hW => ⟨run_loadJ (HG.out.1.cj.below hW), run_loadM hok ((HCL.out.below (below_on HG.out.1.below hW)).range HX.out)⟩)
      clear hxo hcl hx hadd hway
      go_upto_region 9 with fail
      refine wp_region_held_drew (S := fun W => (Instr.loadAt 24 (.pointer (some ⟨gj, 0, none⟩))).run Tryd.prog W = .ok (.agg (jC s (.slice pj mj.length cj))) W ∧ (Instr.loadAt 44 (.pointer (some ⟨b, o + kk * 42, none⟩))).run Tryd.prog W = .ok (.agg x.r.cs) W) (by kernel_rfl) (HSF.out _ (below_drew _)) (fun hHeld => ?_)
      have HD := hid (below_drew wr)
      refine wpAnyH_take (i := 0) (oi := ⟨some 43, .load 24 (.tmp 6), _, _, _, none⟩) (v := .agg (jC s (.slice pj mj.length cj))) rfl (by kernel_rfl) (by kernel_rfl) (by kernel_rfl) (fun _ _ _ h => h) (Or.inl ⟨by kernel_rfl, fun W hW => exec_load rfl (by kernel_rfl) hW.1⟩) hHeld ?_
      refine wpAnyH_take (i := 1) (oi := ⟨some 44, .move (.tmp 0), _, _, _, none⟩) (v := .slice (some ⟨b, o, none⟩) n c) rfl (by kernel_rfl) (by kernel_rfl) (by kernel_rfl) (fun _ _ _ h => h) (Or.inl ⟨by kernel_rfl, by intro W hW; go_simp⟩) hHeld ?_
      refine wpAnyH_take (i := 2) (oi := ⟨some 45, .move (.tmp 8), _, _, _, none⟩) (v := i64 kk) rfl (by kernel_rfl) (by kernel_rfl) (by kernel_rfl) (fun _ _ _ h => h) (Or.inl ⟨by kernel_rfl, by intro W hW; go_simp⟩) hHeld ?_
      refine wpAnyH_take (i := 3) (oi := ⟨some 46, .indexAddr 22 (.tmp 44) (.tmp 45), _, _, _, none⟩) (v := .pointer (some ⟨b, o + kk * 42, none⟩)) rfl (by kernel_rfl) (by kernel_rfl) (by kernel_rfl) (fun _ _ _ h => h) (Or.inl ⟨by kernel_rfl, by intro W hW; go_simp⟩) hHeld ?_
      refine wpAnyH_take (i := 4) (oi := ⟨some 47, .load 44 (.tmp 46), _, _, _, none⟩) (v := .agg x.r.cs) rfl (by kernel_rfl) (by kernel_rfl) (by kernel_rfl) (fun _ _ _ h => h) (Or.inl ⟨by kernel_rfl, fun W hW => exec_load rfl (by kernel_rfl) hW.2⟩) hHeld ?_
      refine wpAnyH_ready (rs := [5, 9]) (by kernel_rfl) (by simp) ?_
      refine AllReadyH.cons rfl (fun K hK => ?_) (AllReadyH.cons (o := ⟨some 9, .alloc 24, _, _, _, none⟩) rfl (fun K hK => ?_) AllReadyH.nil)
      · go_simp
        refine (HADD.out _ HD.out).mono ?_
        rintro e w5 ⟨v5, m5, rfl, hr5, he5, hb5⟩
        obtain ⟨p5, c5, hv5, _⟩ := hr5.buf.form
        subst hv5
        have HR5 := hid (hr5.base (Nat.le_trans HG.out.1.hB HD.out.size))
        have HE5 := hid he5
        replace HD := hid (below_on HD.out hb5)
        clear hr5 he5 hb5
        go_wp2_with fail
        refine hK.out _ _ (HSF.out _ HD.out) (fun hHeld => ?_)
        clear hK K
        refine wpAnyH_take (i := 6) (oi := ⟨some 42, .move (.tmp 48), _, _, _, none⟩) (v := .tuple #[.agg (jC S (.slice p5 m5.length c5)), i64 E]) rfl (by kernel_rfl) (by kernel_rfl) (by kernel_rfl) (fun _ _ _ h => h) (Or.inl ⟨by kernel_rfl, by intro W hW; go_simp⟩) hHeld ?_
        refine wpAnyH_take (i := 7) (oi := ⟨some 49, .extract (.tmp 42) 0, _, _, _, none⟩) (v := .agg (jC S (.slice p5 m5.length c5))) rfl (by kernel_rfl) (by kernel_rfl) (by kernel_rfl) (fun _ _ _ h => h) (Or.inl ⟨by kernel_rfl, by intro W hW; go_simp⟩) hHeld ?_
        refine wpAnyH_take (i := 8) (oi := ⟨some 50, .extract (.tmp 42) 1, _, _, _, none⟩) (v := i64 E) rfl (by kernel_rfl) (by kernel_rfl) (by kernel_rfl) (fun _ _ _ h => h) (Or.inl ⟨by kernel_rfl, by intro W hW; go_simp⟩) hHeld ?_
        refine wpAnyH_ready (rs := [9]) (by kernel_rfl) (by simp) ?_
        refine AllReadyH.cons (o := ⟨some 9, .alloc 24, _, _, _, none⟩) rfl (fun K hK => ?_) AllReadyH.nil
        with_reducible refine step_run_val ?_ (ptr w5.heap.size) (w5.alloc (.cells (jC 0 (.slice none 0 0)) 24)) ?_ ?_
        · exact rfl
        · exact exec_allocJ rfl
        have HCN := hid (CAt.made w5 (jC 0 (.slice none 0 0)) 24)
        have HBN := hid (below_al w5 (.cells (jC 0 (.slice none 0 0)) 24))
        replace HR5 := hid (HR5.out.below HBN.out)
        generalize hwN : w5.alloc (.cells (jC 0 (.slice none 0 0)) 24) = wN at HCN HBN HR5 ⊢
        have HGN := hid (show wr.heap.size ≤ w5.heap.size from HD.out.size)
        generalize hgn : w5.heap.size = gn at HCN HGN ⊢
        replace HD := hid (below_on HD.out HBN.out)
        clear hwN hgn
        refine hK.out _ _ (HSF.out _ HD.out) (fun hHeld => ?_)
        clear hK K
        refine wpAnyH_ready (rs := [10]) (by kernel_rfl) (by simp) ?_
        refine AllReadyH.cons (o := ⟨none, .store 24 (.tmp 9) (.tmp 49), _, _, _, none⟩) rfl (fun K hK => ?_) AllReadyH.nil
        with_reducible refine step_storeJ ?_ ?_ (.tmp 9) (.tmp 49) ?_ gn ?_ (s := S) (v := .slice p5 m5.length c5) ?_ ?_ HCN.out ?_
        · exact rfl
        · exact rfl
        · exact rfl
        · kernel_rfl
        · kernel_rfl
        · exact rfl
        intro w6 h6 o6
        have HC6 := hid h6
        have HB6 := hid (below_tr HD.out (o6.below HD.out.size (fun i e => by have := HGN.out; omega)))
        have HR6 := hid (HR5.out.other7 h6 o6 HCN.out)
        clear h6 o6 HR5 HCN HBN
        refine hK.out _ _ (HSF.out _ HB6.out) (fun hHeld => ?_)
        clear hK K HD
        refine wpAnyH_take (i := 11) (oi := ⟨some 10, .assign (.tmp 50), _, _, _, none⟩) (v := i64 E) rfl (by kernel_rfl) (by kernel_rfl) (by kernel_rfl) (fun _ _ _ h => h) (Or.inl ⟨by kernel_rfl, by intro W hW; go_simp⟩) hHeld ?_
        refine wpAnyH_done (by kernel_rfl) ?_ _
        simp only [Act.put, List.setIfInBounds_toArray, List.set_cons_zero, List.set_cons_succ]
        clear hHeld HADD
        have HG6 := hid (HG.out.1.on HB6.out)
        have hs := HG.out.2
        clear HSF HG
        have HRX := hid ((HCL.out.below HG6.out.below).range HX.out)
        have HCK : Hid (∀ W, Below w.heap.size w W → Calls Tryd.prog 16 #[.agg x.r.cs] W fun e w' => e = .returned (i64 (if okRc x.rc = true then 0 else 2)) ∧ Below W.heap.size W w') := hid fun W hW => check_any x.r hok x.ps W (HXO.out.pl.below hW)
        have hway := HWAY.out
        clear HWAY
        cases hway with
        | bad hbad =>
          rw [hbad] at HCK
          simp only [Bool.false_eq_true, if_false] at HCK
          go_wp2_with (first
            | ((with_reducible refine wpList_loadM rfl _ rfl b (o + kk * 42) ?_ x.r hok HRX.out ?_); exact rfl)
            | (go_at_call 16; (with_reducible refine (HCK.out _ HG6.out.below).mono ?_); rintro e w7 ⟨rfl, hb7⟩; replace HG6 := hid (HG6.out.on hb7); clear hb7))
          go_roundg (n - (kk + 1))
          case measure => omega
          case rel => exact ⟨kk + 1, s, _, _, mj, mw, by omega, by omega, by go_num, rfl, HG6.out, by omega⟩
        | full hgood h64 => 
          rw [hgood] at HCK
          simp only [if_true] at HCK
          go_wp2_with (first
            | ((with_reducible refine wpList_loadM rfl _ rfl b (o + kk * 42) ?_ x.r hok HRX.out ?_); exact rfl)
            | (go_at_call 16; (with_reducible refine (HCK.out _ HG6.out.below).mono ?_); rintro e w7 ⟨rfl, hb7⟩; replace HG6 := hid (HG6.out.on hb7); replace HC6 := hid (HC6.out.below hb7); replace HR6 := hid (HR6.out.below hb7); clear hb7))
          have HB7 : Hid (B ≤ w7.heap.size) := hid HG6.out.hB
          have HGJ : Hid (gj < w7.heap.size) := hid HG6.out.cj.lt
          go_loopg [11, 12] mw.length (fun gg s11 s12 wi => ∃ (k : Nat) (vl : Value), k ≤ mw.length ∧ mw.length - k ≤ gg ∧ s12 = i64 k ∧ s11 = vl ∧ Hid (Below w7.heap.size w7 wi ∧ RBuf w7.heap.size wi vl (filt x.r.id (mw.take k))))
          case atStart => exact ⟨0, _, Nat.zero_le _, by omega, rfl, rfl, Below.refl _ _, RBuf.nil _ _⟩
          case round =>
            obtain ⟨k, vl, hk, hgk, rfl, rfl, HI⟩ := hrel
            obtain ⟨pl, cl, hvl, _⟩ := HI.out.2.form
            subst hvl
            have hml := HG6.out.len.1
            have hfl := filt_len x.r.id (mw.take k)
            rw [List.length_take] at hfl
            by_cases hkl : k < mw.length
            · have hklz : (k : Int) < (mw.length : Int) := by omega
              obtain ⟨y, hy⟩ : ∃ y, mw[k]? = some y := ⟨_, List.getElem?_eq_getElem hkl⟩
              obtain ⟨bw, ow, cw', e, _, hcw⟩ := (HG6.out.on HI.out.1).rlw.where hy
              cases e
              have hyo := HG6.out.ew y (List.mem_of_getElem? hy)
              have hoky := hyo.ok
              have HYO := hid hyo
              have HRY : Hid (∀ W, Below wr.heap.size wr W → W.rangeAt bw (ow + k * 42) y.r.cs.toList) := hid (fun W hW => (hcw.below hW).range hy)
              have i1 : wr.cell? ⟨bw, ow + k * 42, none⟩ = some (.string y.r.id) := by have := hcw k y hy 0 (.string y.r.id) (by rw [y.r.get8 0 (by omega)]; rfl); exact this
              have i2 : wr.cell? ⟨b, o + kk * 42, none⟩ = some (.string x.r.id) := by have := (HCL.out.below (HG6.out.on HI.out.1).below) kk x HX.out 0 (.string x.r.id) (by rw [x.r.get8 0 (by omega)]; rfl); exact this
              have HFT := hid (filt_take (id := x.r.id) hy)
              clear hyo hcw hy
              by_cases hyx : y.r.id = x.r.id
              · rw [if_pos hyx, List.append_nil] at HFT
                go_upto_region 17 with fail
                go_quiet (fail)
                go_wp2_with fail
                go_roundg (mw.length - (k + 1))
                case measure => omega
                case rel => exact ⟨k + 1, _, by omega, by omega, by go_num, rfl, below_on HI.out.1 (below_drewN _ _), by rw [HFT.out]; exact HI.out.2.below (below_drewN _ _)⟩
              · rw [if_neg hyx] at HFT
                have hne : (y.r.id.toList == x.r.id.toList) = false := by rw [lst_beq]; exact decide_eq_false (fun e => hyx (lst_inj e))
                go_upto_region 17 with fail
                go_quiet (fail)
                go_wp2_with (first
                  | ((with_reducible refine wpList_loadM rfl _ rfl bw (ow + k * 42) ?_ y.r hoky (HRY.out _ (below_drewN _ _)) ?_); exact rfl)
                  | ((with_reducible refine wpList_buildOne rfl _ rfl hoky ?_ ?_); exact rfl; intro w8 g8 hc8 hb8 hg8; have hb8' := below_on (below_drewN _ _) hb8; obtain ⟨v9, w9, hr9, hrb9, hg9⟩ := RBuf.app (HI.out.2.below hb8') (.slice (some ⟨g8, 0, none⟩) 1 1) [y] (one_rl hc8 (HYO.out.below (HG6.out.on (below_on HI.out.1 hb8')).below)) (by have : [y].length = 1 := rfl; omega) (Nat.le_trans HI.out.1.size hb8'.size); have HRUN := hid hr9; have HBW := hid (below_grown (below_on HI.out.1 hb8') hg9 (Nat.le_refl _) (fun b hb => (own_ge HI.out.2 b hb).1)); rw [← HFT.out] at hrb9; obtain ⟨p9, c9, hv9, _⟩ := hrb9.form; subst hv9; have HRB := hid hrb9; clear hc8 hb8 hg8 hb8' hr9 hrb9 hg9)
                  | (at_builtin; refine wpList_append_run _ _ 22 22 rfl rfl _ _ _ rfl rfl HRUN.out ?_))
                go_roundg (mw.length - (k + 1))
                case measure => omega
                case rel => exact ⟨k + 1, _, by omega, by omega, by go_num, rfl, HBW.out, HRB.out⟩
            · obtain rfl : k = mw.length := by omega
              have hklz : ¬ (mw.length : Int) < (mw.length : Int) := by omega
              rw [List.take_length] at HI hfl
              have HLL := hid (show (filt x.r.id mw).length = (wout (rcs mw) x.rc.id).length by rw [rc_id, ← filt_rcs, rcs_len])
              have hlz : 64 ≤ ((filt x.r.id mw).length : Int) := by have := HLL.out; omega
              have hlz2 : decide (((filt x.r.id mw).length : Int) ≥ 64) = true := decide_eq_true (by have := HLL.out; omega)
              go_wp2_with fail
              go_roundg (n - (kk + 1))
              case measure => omega
              case rel => exact ⟨kk + 1, s, _, _, mj, mw, by omega, by omega, by go_num, rfl, HG6.out.on HI.out.1, by omega⟩
        | good hgood h64 => 
          rw [hgood] at HCK
          simp only [if_true] at HCK
          go_wp2_with (first
            | ((with_reducible refine wpList_loadM rfl _ rfl b (o + kk * 42) ?_ x.r hok HRX.out ?_); exact rfl)
            | (go_at_call 16; (with_reducible refine (HCK.out _ HG6.out.below).mono ?_); rintro e w7 ⟨rfl, hb7⟩; replace HG6 := hid (HG6.out.on hb7); replace HC6 := hid (HC6.out.below hb7); replace HR6 := hid (HR6.out.below hb7); clear hb7))
          have HB7 : Hid (B ≤ w7.heap.size) := hid HG6.out.hB
          have HGJ : Hid (gj < w7.heap.size) := hid HG6.out.cj.lt
          go_loopg [11, 12] mw.length (fun gg s11 s12 wi => ∃ (k : Nat) (vl : Value), k ≤ mw.length ∧ mw.length - k ≤ gg ∧ s12 = i64 k ∧ s11 = vl ∧ Hid (Below w7.heap.size w7 wi ∧ RBuf w7.heap.size wi vl (filt x.r.id (mw.take k))))
          case atStart => exact ⟨0, _, Nat.zero_le _, by omega, rfl, rfl, Below.refl _ _, RBuf.nil _ _⟩
          case round =>
            obtain ⟨k, vl, hk, hgk, rfl, rfl, HI⟩ := hrel
            obtain ⟨pl, cl, hvl, _⟩ := HI.out.2.form
            subst hvl
            have hml := HG6.out.len.1
            have hfl := filt_len x.r.id (mw.take k)
            rw [List.length_take] at hfl
            by_cases hkl : k < mw.length
            · have hklz : (k : Int) < (mw.length : Int) := by omega
              obtain ⟨y, hy⟩ : ∃ y, mw[k]? = some y := ⟨_, List.getElem?_eq_getElem hkl⟩
              obtain ⟨bw, ow, cw', e, _, hcw⟩ := (HG6.out.on HI.out.1).rlw.where hy
              cases e
              have hyo := HG6.out.ew y (List.mem_of_getElem? hy)
              have hoky := hyo.ok
              have HYO := hid hyo
              have HRY : Hid (∀ W, Below wr.heap.size wr W → W.rangeAt bw (ow + k * 42) y.r.cs.toList) := hid (fun W hW => (hcw.below hW).range hy)
              have i1 : wr.cell? ⟨bw, ow + k * 42, none⟩ = some (.string y.r.id) := by have := hcw k y hy 0 (.string y.r.id) (by rw [y.r.get8 0 (by omega)]; rfl); exact this
              have i2 : wr.cell? ⟨b, o + kk * 42, none⟩ = some (.string x.r.id) := by have := (HCL.out.below (HG6.out.on HI.out.1).below) kk x HX.out 0 (.string x.r.id) (by rw [x.r.get8 0 (by omega)]; rfl); exact this
              have HFT := hid (filt_take (id := x.r.id) hy)
              clear hyo hcw hy
              by_cases hyx : y.r.id = x.r.id
              · rw [if_pos hyx, List.append_nil] at HFT
                go_upto_region 17 with fail
                go_quiet (fail)
                go_wp2_with fail
                go_roundg (mw.length - (k + 1))
                case measure => omega
                case rel => exact ⟨k + 1, _, by omega, by omega, by go_num, rfl, below_on HI.out.1 (below_drewN _ _), by rw [HFT.out]; exact HI.out.2.below (below_drewN _ _)⟩
              · rw [if_neg hyx] at HFT
                have hne : (y.r.id.toList == x.r.id.toList) = false := by rw [lst_beq]; exact decide_eq_false (fun e => hyx (lst_inj e))
                go_upto_region 17 with fail
                go_quiet (fail)
                go_wp2_with (first
                  | ((with_reducible refine wpList_loadM rfl _ rfl bw (ow + k * 42) ?_ y.r hoky (HRY.out _ (below_drewN _ _)) ?_); exact rfl)
                  | ((with_reducible refine wpList_buildOne rfl _ rfl hoky ?_ ?_); exact rfl; intro w8 g8 hc8 hb8 hg8; have hb8' := below_on (below_drewN _ _) hb8; obtain ⟨v9, w9, hr9, hrb9, hg9⟩ := RBuf.app (HI.out.2.below hb8') (.slice (some ⟨g8, 0, none⟩) 1 1) [y] (one_rl hc8 (HYO.out.below (HG6.out.on (below_on HI.out.1 hb8')).below)) (by have : [y].length = 1 := rfl; omega) (Nat.le_trans HI.out.1.size hb8'.size); have HRUN := hid hr9; have HBW := hid (below_grown (below_on HI.out.1 hb8') hg9 (Nat.le_refl _) (fun b hb => (own_ge HI.out.2 b hb).1)); rw [← HFT.out] at hrb9; obtain ⟨p9, c9, hv9, _⟩ := hrb9.form; subst hv9; have HRB := hid hrb9; clear hc8 hb8 hg8 hb8' hr9 hrb9 hg9)
                  | (at_builtin; refine wpList_append_run _ _ 22 22 rfl rfl _ _ _ rfl rfl HRUN.out ?_))
                go_roundg (mw.length - (k + 1))
                case measure => omega
                case rel => exact ⟨k + 1, _, by omega, by omega, by go_num, rfl, HBW.out, HRB.out⟩
            · obtain rfl : k = mw.length := by omega
              have hklz : ¬ (mw.length : Int) < (mw.length : Int) := by omega
              rw [List.take_length] at HI hfl
              have HLL := hid (show (filt x.r.id mw).length = (wout (rcs mw) x.rc.id).length by rw [rc_id, ← filt_rcs, rcs_len])
              have HGA := hid (HG6.out.on HI.out.1)
              have HCA := hid (HC6.out.below HI.out.1)
              have HRA := hid (HR6.out.below HI.out.1)
              have n0 := HCA.out.j0
              have j0 := HGA.out.cj.j0
              have hs0 := HGA.out.len.2.2
              have hw1 : IntKind.i64.wrap (s + 1) = s + 1 := by rw [IntKind.wrap_i64]; omega
              have HRX2 : Hid (wr.rangeAt b (o + kk * 42) x.r.cs.toList) := hid ((HCL.out.below HGA.out.below).range HX.out)
              go_wp2_with (first
                | ((with_reducible refine wpList_loadM rfl _ rfl b (o + kk * 42) ?_ x.r hok HRX2.out ?_); exact rfl)
                | ((with_reducible refine wpList_buildOne rfl _ rfl hok ?_ ?_); exact rfl; intro w8 g8 hc8 hb8 hg8; obtain ⟨p9, n9, c9, w9, hr9, hrb9, hbw9⟩ := app_one hok hc8 hb8 hg8 (u := .slice pl (filt x.r.id mw).length cl) (L := filt x.r.id mw) ((HI.out.2.below hb8).rl (fun y hy => (HGA.out.ew y (filt_mem hy)).below (HGA.out.on hb8).below) (by omega)) (by omega); have HRUN := hid hr9; have HBW := hid hbw9; have HRB := hid hrb9; clear hc8 hb8 hg8 hr9 hrb9 hbw9)
                | (at_builtin; refine wpList_append_run _ _ 22 22 rfl rfl _ _ _ rfl rfl HRUN.out ?_; replace HGA := hid (HGA.out.on HBW.out); replace HCA := hid (HCA.out.below HBW.out); replace HRA := hid (HRA.out.below HBW.out))
                | ((with_reducible refine wpList_load_at 24 _ rfl ?_ gn 0 ?_ (jC (s + 1) (.slice p5 m5.length c5)) (.struct (Tryd.prog.fieldsOf 24)) ?_ underJrn rfl ?_ ?_); exact rfl; exact rfl; exact HCA.out.wholeJ; exact sizeJ)
                | ((with_reducible refine wpList_storeJ rfl rfl _ _ rfl gj ?_ (s := s + 1) (v := .slice p5 m5.length c5) ?_ rfl HGA.out.cj ?_); exact rfl; exact rfl; intro w10 h10 o10; have HNX := hid (HGA.out.next HXO.out hgood h64 (by omega) HRA.out HE5.out (HRB.out.base (Nat.le_trans HB7.out HI.out.1.size)) (fun b hb e => by have := (own_ge HRB.out b hb).1; have := HGJ.out; have := HI.out.1.size; omega) h10 o10); clear h10 o10))
              go_roundg (n - (kk + 1))
              case measure => omega
              case rel => exact ⟨kk + 1, s + 1, _, _, m5, x :: filt x.r.id mw, by omega, by omega, by go_num, rfl, HNX.out, by omega⟩
      · with_reducible refine step_run_val ?_ (ptr wr.drew.heap.size) (wr.drew.alloc (.cells (jC 0 (.slice none 0 0)) 24)) ?_ ?_
        · exact rfl
        · exact exec_allocJ rfl
        have HCN := hid (CAt.made wr.drew (jC 0 (.slice none 0 0)) 24)
        have HBN := hid (below_al wr.drew (.cells (jC 0 (.slice none 0 0)) 24))
        generalize hwN : wr.drew.alloc (.cells (jC 0 (.slice none 0 0)) 24) = wN at HCN HBN  ⊢
        have HGN := hid (show wr.heap.size ≤ wr.drew.heap.size from HD.out.size)
        generalize hgn : wr.drew.heap.size = gn at HCN HGN ⊢
        replace HD := hid (below_on HD.out HBN.out)
        clear hwN hgn
        refine hK.out _ _ (HSF.out _ HD.out) (fun hHeld => ?_)
        clear hK K
        refine wpAnyH_ready (rs := [5]) (by kernel_rfl) (by simp) ?_
        refine AllReadyH.cons rfl (fun K hK => ?_) AllReadyH.nil
        go_simp
        refine (HADD.out _ HD.out).mono ?_
        rintro e w5 ⟨v5, m5, rfl, hr5, he5, hb5⟩
        obtain ⟨p5, c5, hv5, _⟩ := hr5.buf.form
        subst hv5
        have HR5 := hid (hr5.base (Nat.le_trans HG.out.1.hB HD.out.size))
        have HE5 := hid he5
        replace HD := hid (below_on HD.out hb5)
        replace HCN := hid (HCN.out.below hb5)
        clear hr5 he5 hb5
        go_wp2_with fail
        refine hK.out _ _ (HSF.out _ HD.out) (fun hHeld => ?_)
        clear hK K
        refine wpAnyH_take (i := 6) (oi := ⟨some 42, .move (.tmp 48), _, _, _, none⟩) (v := .tuple #[.agg (jC S (.slice p5 m5.length c5)), i64 E]) rfl (by kernel_rfl) (by kernel_rfl) (by kernel_rfl) (fun _ _ _ h => h) (Or.inl ⟨by kernel_rfl, by intro W hW; go_simp⟩) hHeld ?_
        refine wpAnyH_take (i := 7) (oi := ⟨some 49, .extract (.tmp 42) 0, _, _, _, none⟩) (v := .agg (jC S (.slice p5 m5.length c5))) rfl (by kernel_rfl) (by kernel_rfl) (by kernel_rfl) (fun _ _ _ h => h) (Or.inl ⟨by kernel_rfl, by intro W hW; go_simp⟩) hHeld ?_
        refine wpAnyH_take (i := 8) (oi := ⟨some 50, .extract (.tmp 42) 1, _, _, _, none⟩) (v := i64 E) rfl (by kernel_rfl) (by kernel_rfl) (by kernel_rfl) (fun _ _ _ h => h) (Or.inl ⟨by kernel_rfl, by intro W hW; go_simp⟩) hHeld ?_
        refine wpAnyH_ready (rs := [10]) (by kernel_rfl) (by simp) ?_
        refine AllReadyH.cons (o := ⟨none, .store 24 (.tmp 9) (.tmp 49), _, _, _, none⟩) rfl (fun K hK => ?_) AllReadyH.nil
        with_reducible refine step_storeJ ?_ ?_ (.tmp 9) (.tmp 49) ?_ gn ?_ (s := S) (v := .slice p5 m5.length c5) ?_ ?_ HCN.out ?_
        · exact rfl
        · exact rfl
        · exact rfl
        · kernel_rfl
        · kernel_rfl
        · exact rfl
        intro w6 h6 o6
        have HC6 := hid h6
        have HB6 := hid (below_tr HD.out (o6.below HD.out.size (fun i e => by have := HGN.out; omega)))
        have HR6 := hid (HR5.out.other7 h6 o6 HCN.out)
        clear h6 o6 HR5 HCN HBN
        refine hK.out _ _ (HSF.out _ HB6.out) (fun hHeld => ?_)
        clear hK K HD
        refine wpAnyH_take (i := 11) (oi := ⟨some 10, .assign (.tmp 50), _, _, _, none⟩) (v := i64 E) rfl (by kernel_rfl) (by kernel_rfl) (by kernel_rfl) (fun _ _ _ h => h) (Or.inl ⟨by kernel_rfl, by intro W hW; go_simp⟩) hHeld ?_
        refine wpAnyH_done (by kernel_rfl) ?_ _
        simp only [Act.put, List.setIfInBounds_toArray, List.set_cons_zero, List.set_cons_succ]
        clear hHeld HADD
        have HG6 := hid (HG.out.1.on HB6.out)
        have hs := HG.out.2
        clear HSF HG
        have HRX := hid ((HCL.out.below HG6.out.below).range HX.out)
        have HCK : Hid (∀ W, Below w.heap.size w W → Calls Tryd.prog 16 #[.agg x.r.cs] W fun e w' => e = .returned (i64 (if okRc x.rc = true then 0 else 2)) ∧ Below W.heap.size W w') := hid fun W hW => check_any x.r hok x.ps W (HXO.out.pl.below hW)
        have hway := HWAY.out
        clear HWAY
        cases hway with
        | bad hbad =>
          rw [hbad] at HCK
          simp only [Bool.false_eq_true, if_false] at HCK
          go_wp2_with (first
            | ((with_reducible refine wpList_loadM rfl _ rfl b (o + kk * 42) ?_ x.r hok HRX.out ?_); exact rfl)
            | (go_at_call 16; (with_reducible refine (HCK.out _ HG6.out.below).mono ?_); rintro e w7 ⟨rfl, hb7⟩; replace HG6 := hid (HG6.out.on hb7); clear hb7))
          go_roundg (n - (kk + 1))
          case measure => omega
          case rel => exact ⟨kk + 1, s, _, _, mj, mw, by omega, by omega, by go_num, rfl, HG6.out, by omega⟩
        | full hgood h64 => 
          rw [hgood] at HCK
          simp only [if_true] at HCK
          go_wp2_with (first
            | ((with_reducible refine wpList_loadM rfl _ rfl b (o + kk * 42) ?_ x.r hok HRX.out ?_); exact rfl)
            | (go_at_call 16; (with_reducible refine (HCK.out _ HG6.out.below).mono ?_); rintro e w7 ⟨rfl, hb7⟩; replace HG6 := hid (HG6.out.on hb7); replace HC6 := hid (HC6.out.below hb7); replace HR6 := hid (HR6.out.below hb7); clear hb7))
          have HB7 : Hid (B ≤ w7.heap.size) := hid HG6.out.hB
          have HGJ : Hid (gj < w7.heap.size) := hid HG6.out.cj.lt
          go_loopg [11, 12] mw.length (fun gg s11 s12 wi => ∃ (k : Nat) (vl : Value), k ≤ mw.length ∧ mw.length - k ≤ gg ∧ s12 = i64 k ∧ s11 = vl ∧ Hid (Below w7.heap.size w7 wi ∧ RBuf w7.heap.size wi vl (filt x.r.id (mw.take k))))
          case atStart => exact ⟨0, _, Nat.zero_le _, by omega, rfl, rfl, Below.refl _ _, RBuf.nil _ _⟩
          case round =>
            obtain ⟨k, vl, hk, hgk, rfl, rfl, HI⟩ := hrel
            obtain ⟨pl, cl, hvl, _⟩ := HI.out.2.form
            subst hvl
            have hml := HG6.out.len.1
            have hfl := filt_len x.r.id (mw.take k)
            rw [List.length_take] at hfl
            by_cases hkl : k < mw.length
            · have hklz : (k : Int) < (mw.length : Int) := by omega
              obtain ⟨y, hy⟩ : ∃ y, mw[k]? = some y := ⟨_, List.getElem?_eq_getElem hkl⟩
              obtain ⟨bw, ow, cw', e, _, hcw⟩ := (HG6.out.on HI.out.1).rlw.where hy
              cases e
              have hyo := HG6.out.ew y (List.mem_of_getElem? hy)
              have hoky := hyo.ok
              have HYO := hid hyo
              have HRY : Hid (∀ W, Below wr.heap.size wr W → W.rangeAt bw (ow + k * 42) y.r.cs.toList) := hid (fun W hW => (hcw.below hW).range hy)
              have i1 : wr.cell? ⟨bw, ow + k * 42, none⟩ = some (.string y.r.id) := by have := hcw k y hy 0 (.string y.r.id) (by rw [y.r.get8 0 (by omega)]; rfl); exact this
              have i2 : wr.cell? ⟨b, o + kk * 42, none⟩ = some (.string x.r.id) := by have := (HCL.out.below (HG6.out.on HI.out.1).below) kk x HX.out 0 (.string x.r.id) (by rw [x.r.get8 0 (by omega)]; rfl); exact this
              have HFT := hid (filt_take (id := x.r.id) hy)
              clear hyo hcw hy
              by_cases hyx : y.r.id = x.r.id
              · rw [if_pos hyx, List.append_nil] at HFT
                go_upto_region 17 with fail
                go_quiet (fail)
                go_wp2_with fail
                go_roundg (mw.length - (k + 1))
                case measure => omega
                case rel => exact ⟨k + 1, _, by omega, by omega, by go_num, rfl, below_on HI.out.1 (below_drewN _ _), by rw [HFT.out]; exact HI.out.2.below (below_drewN _ _)⟩
              · rw [if_neg hyx] at HFT
                have hne : (y.r.id.toList == x.r.id.toList) = false := by rw [lst_beq]; exact decide_eq_false (fun e => hyx (lst_inj e))
                go_upto_region 17 with fail
                go_quiet (fail)
                go_wp2_with (first
                  | ((with_reducible refine wpList_loadM rfl _ rfl bw (ow + k * 42) ?_ y.r hoky (HRY.out _ (below_drewN _ _)) ?_); exact rfl)
                  | ((with_reducible refine wpList_buildOne rfl _ rfl hoky ?_ ?_); exact rfl; intro w8 g8 hc8 hb8 hg8; have hb8' := below_on (below_drewN _ _) hb8; obtain ⟨v9, w9, hr9, hrb9, hg9⟩ := RBuf.app (HI.out.2.below hb8') (.slice (some ⟨g8, 0, none⟩) 1 1) [y] (one_rl hc8 (HYO.out.below (HG6.out.on (below_on HI.out.1 hb8')).below)) (by have : [y].length = 1 := rfl; omega) (Nat.le_trans HI.out.1.size hb8'.size); have HRUN := hid hr9; have HBW := hid (below_grown (below_on HI.out.1 hb8') hg9 (Nat.le_refl _) (fun b hb => (own_ge HI.out.2 b hb).1)); rw [← HFT.out] at hrb9; obtain ⟨p9, c9, hv9, _⟩ := hrb9.form; subst hv9; have HRB := hid hrb9; clear hc8 hb8 hg8 hb8' hr9 hrb9 hg9)
                  | (at_builtin; refine wpList_append_run _ _ 22 22 rfl rfl _ _ _ rfl rfl HRUN.out ?_))
                go_roundg (mw.length - (k + 1))
                case measure => omega
                case rel => exact ⟨k + 1, _, by omega, by omega, by go_num, rfl, HBW.out, HRB.out⟩
            · obtain rfl : k = mw.length := by omega
              have hklz : ¬ (mw.length : Int) < (mw.length : Int) := by omega
              rw [List.take_length] at HI hfl
              have HLL := hid (show (filt x.r.id mw).length = (wout (rcs mw) x.rc.id).length by rw [rc_id, ← filt_rcs, rcs_len])
              have hlz : 64 ≤ ((filt x.r.id mw).length : Int) := by have := HLL.out; omega
              have hlz2 : decide (((filt x.r.id mw).length : Int) ≥ 64) = true := decide_eq_true (by have := HLL.out; omega)
              go_wp2_with fail
              go_roundg (n - (kk + 1))
              case measure => omega
              case rel => exact ⟨kk + 1, s, _, _, mj, mw, by omega, by omega, by go_num, rfl, HG6.out.on HI.out.1, by omega⟩
        | good hgood h64 => 
          rw [hgood] at HCK
          simp only [if_true] at HCK
          go_wp2_with (first
            | ((with_reducible refine wpList_loadM rfl _ rfl b (o + kk * 42) ?_ x.r hok HRX.out ?_); exact rfl)
            | (go_at_call 16; (with_reducible refine (HCK.out _ HG6.out.below).mono ?_); rintro e w7 ⟨rfl, hb7⟩; replace HG6 := hid (HG6.out.on hb7); replace HC6 := hid (HC6.out.below hb7); replace HR6 := hid (HR6.out.below hb7); clear hb7))
          have HB7 : Hid (B ≤ w7.heap.size) := hid HG6.out.hB
          have HGJ : Hid (gj < w7.heap.size) := hid HG6.out.cj.lt
          go_loopg [11, 12] mw.length (fun gg s11 s12 wi => ∃ (k : Nat) (vl : Value), k ≤ mw.length ∧ mw.length - k ≤ gg ∧ s12 = i64 k ∧ s11 = vl ∧ Hid (Below w7.heap.size w7 wi ∧ RBuf w7.heap.size wi vl (filt x.r.id (mw.take k))))
          case atStart => exact ⟨0, _, Nat.zero_le _, by omega, rfl, rfl, Below.refl _ _, RBuf.nil _ _⟩
          case round =>
            obtain ⟨k, vl, hk, hgk, rfl, rfl, HI⟩ := hrel
            obtain ⟨pl, cl, hvl, _⟩ := HI.out.2.form
            subst hvl
            have hml := HG6.out.len.1
            have hfl := filt_len x.r.id (mw.take k)
            rw [List.length_take] at hfl
            by_cases hkl : k < mw.length
            · have hklz : (k : Int) < (mw.length : Int) := by omega
              obtain ⟨y, hy⟩ : ∃ y, mw[k]? = some y := ⟨_, List.getElem?_eq_getElem hkl⟩
              obtain ⟨bw, ow, cw', e, _, hcw⟩ := (HG6.out.on HI.out.1).rlw.where hy
              cases e
              have hyo := HG6.out.ew y (List.mem_of_getElem? hy)
              have hoky := hyo.ok
              have HYO := hid hyo
              have HRY : Hid (∀ W, Below wr.heap.size wr W → W.rangeAt bw (ow + k * 42) y.r.cs.toList) := hid (fun W hW => (hcw.below hW).range hy)
              have i1 : wr.cell? ⟨bw, ow + k * 42, none⟩ = some (.string y.r.id) := by have := hcw k y hy 0 (.string y.r.id) (by rw [y.r.get8 0 (by omega)]; rfl); exact this
              have i2 : wr.cell? ⟨b, o + kk * 42, none⟩ = some (.string x.r.id) := by have := (HCL.out.below (HG6.out.on HI.out.1).below) kk x HX.out 0 (.string x.r.id) (by rw [x.r.get8 0 (by omega)]; rfl); exact this
              have HFT := hid (filt_take (id := x.r.id) hy)
              clear hyo hcw hy
              by_cases hyx : y.r.id = x.r.id
              · rw [if_pos hyx, List.append_nil] at HFT
                go_upto_region 17 with fail
                go_quiet (fail)
                go_wp2_with fail
                go_roundg (mw.length - (k + 1))
                case measure => omega
                case rel => exact ⟨k + 1, _, by omega, by omega, by go_num, rfl, below_on HI.out.1 (below_drewN _ _), by rw [HFT.out]; exact HI.out.2.below (below_drewN _ _)⟩
              · rw [if_neg hyx] at HFT
                have hne : (y.r.id.toList == x.r.id.toList) = false := by rw [lst_beq]; exact decide_eq_false (fun e => hyx (lst_inj e))
                go_upto_region 17 with fail
                go_quiet (fail)
                go_wp2_with (first
                  | ((with_reducible refine wpList_loadM rfl _ rfl bw (ow + k * 42) ?_ y.r hoky (HRY.out _ (below_drewN _ _)) ?_); exact rfl)
                  | ((with_reducible refine wpList_buildOne rfl _ rfl hoky ?_ ?_); exact rfl; intro w8 g8 hc8 hb8 hg8; have hb8' := below_on (below_drewN _ _) hb8; obtain ⟨v9, w9, hr9, hrb9, hg9⟩ := RBuf.app (HI.out.2.below hb8') (.slice (some ⟨g8, 0, none⟩) 1 1) [y] (one_rl hc8 (HYO.out.below (HG6.out.on (below_on HI.out.1 hb8')).below)) (by have : [y].length = 1 := rfl; omega) (Nat.le_trans HI.out.1.size hb8'.size); have HRUN := hid hr9; have HBW := hid (below_grown (below_on HI.out.1 hb8') hg9 (Nat.le_refl _) (fun b hb => (own_ge HI.out.2 b hb).1)); rw [← HFT.out] at hrb9; obtain ⟨p9, c9, hv9, _⟩ := hrb9.form; subst hv9; have HRB := hid hrb9; clear hc8 hb8 hg8 hb8' hr9 hrb9 hg9)
                  | (at_builtin; refine wpList_append_run _ _ 22 22 rfl rfl _ _ _ rfl rfl HRUN.out ?_))
                go_roundg (mw.length - (k + 1))
                case measure => omega
                case rel => exact ⟨k + 1, _, by omega, by omega, by go_num, rfl, HBW.out, HRB.out⟩
            · obtain rfl : k = mw.length := by omega
              have hklz : ¬ (mw.length : Int) < (mw.length : Int) := by omega
              rw [List.take_length] at HI hfl
              have HLL := hid (show (filt x.r.id mw).length = (wout (rcs mw) x.rc.id).length by rw [rc_id, ← filt_rcs, rcs_len])
              have HGA := hid (HG6.out.on HI.out.1)
              have HCA := hid (HC6.out.below HI.out.1)
              have HRA := hid (HR6.out.below HI.out.1)
              have n0 := HCA.out.j0
              have j0 := HGA.out.cj.j0
              have hs0 := HGA.out.len.2.2
              have hw1 : IntKind.i64.wrap (s + 1) = s + 1 := by rw [IntKind.wrap_i64]; omega
              have HRX2 : Hid (wr.rangeAt b (o + kk * 42) x.r.cs.toList) := hid ((HCL.out.below HGA.out.below).range HX.out)
              go_wp2_with (first
                | ((with_reducible refine wpList_loadM rfl _ rfl b (o + kk * 42) ?_ x.r hok HRX2.out ?_); exact rfl)
                | ((with_reducible refine wpList_buildOne rfl _ rfl hok ?_ ?_); exact rfl; intro w8 g8 hc8 hb8 hg8; obtain ⟨p9, n9, c9, w9, hr9, hrb9, hbw9⟩ := app_one hok hc8 hb8 hg8 (u := .slice pl (filt x.r.id mw).length cl) (L := filt x.r.id mw) ((HI.out.2.below hb8).rl (fun y hy => (HGA.out.ew y (filt_mem hy)).below (HGA.out.on hb8).below) (by omega)) (by omega); have HRUN := hid hr9; have HBW := hid hbw9; have HRB := hid hrb9; clear hc8 hb8 hg8 hr9 hrb9 hbw9)
                | (at_builtin; refine wpList_append_run _ _ 22 22 rfl rfl _ _ _ rfl rfl HRUN.out ?_; replace HGA := hid (HGA.out.on HBW.out); replace HCA := hid (HCA.out.below HBW.out); replace HRA := hid (HRA.out.below HBW.out))
                | ((with_reducible refine wpList_load_at 24 _ rfl ?_ gn 0 ?_ (jC (s + 1) (.slice p5 m5.length c5)) (.struct (Tryd.prog.fieldsOf 24)) ?_ underJrn rfl ?_ ?_); exact rfl; exact rfl; exact HCA.out.wholeJ; exact sizeJ)
                | ((with_reducible refine wpList_storeJ rfl rfl _ _ rfl gj ?_ (s := s + 1) (v := .slice p5 m5.length c5) ?_ rfl HGA.out.cj ?_); exact rfl; exact rfl; intro w10 h10 o10; have HNX := hid (HGA.out.next HXO.out hgood h64 (by omega) HRA.out HE5.out (HRB.out.base (Nat.le_trans HB7.out HI.out.1.size)) (fun b hb e => by have := (own_ge HRB.out b hb).1; have := HGJ.out; have := HI.out.1.size; omega) h10 o10); clear h10 o10))
              go_roundg (n - (kk + 1))
              case measure => omega
              case rel => exact ⟨kk + 1, s + 1, _, _, m5, x :: filt x.r.id mw, by omega, by omega, by go_num, rfl, HNX.out, by omega⟩
    · have hltz : ¬ (kk : Int) < (n : Int) := by omega
      have hs := HG.out.2
      have HGR := hid HG.out.1
      clear HG
      have HRC : Hid (∀ W, Below wr.heap.size wr W → Calls Tryd.prog 17 #[.slice pj mj.length cj, .slice pw mw.length cw] W fun e w' => e = .returned (.bool true) ∧ Below W.heap.size W w') := hid (fun W hW => by have := records_any _ _ mj mw W (HGR.out.rlj.below hW) (HGR.out.rlw.below hW); rw [decide_eq_true HGR.out.eq] at this; exact this)
      have c1 := HGR.out.cj.j1
      have hml := HGR.out.len.1
      by_cases hm0 : mw.length = 0
      · have hm0z : (mw.length : Int) = 0 := by omega
        clear hm0
        go_wp2_with ((go_at_call 17; (with_reducible refine (HRC.out _ (Below.refl _ _)).mono ?_); rintro e w20 ⟨rfl, hb20⟩; replace HGR := hid (HGR.out.on hb20); clear hb20))
        go_ret
        exact ⟨rfl, HGR.out.below⟩
      · have hm0z : ¬ (mw.length : Int) = 0 := by omega
        go_wp2_with ((go_at_call 17; (with_reducible refine (HRC.out _ (Below.refl _ _)).mono ?_); rintro e w20 ⟨rfl, hb20⟩; replace HGR := hid (HGR.out.on hb20); clear hb20))
        have HM0 := hid hm0
        clear HRC c1 hm0 hm0z
        generalize ((mw.length : Int) == 0) = D0
        go_loopg [13] mw.length (fun gg s13 wl => ∃ k : Nat, k ≤ mw.length ∧ mw.length - k ≤ gg ∧ s13 = i64 k ∧ Hid (Below w20.heap.size w20 wl))
        case atStart => exact ⟨0, Nat.zero_le _, by omega, rfl, Below.refl _ _⟩
        case round =>
          obtain ⟨k, hk, hgk, rfl, HI⟩ := hrel
          by_cases hkl : k < mw.length
          · have hklz : (k : Int) < (mw.length : Int) := by omega
            obtain ⟨y, hy⟩ : ∃ y, mw[k]? = some y := ⟨_, List.getElem?_eq_getElem hkl⟩
            obtain ⟨bw, ow, cw', e, _, hcw⟩ := (HGR.out.on HI.out).rlw.where hy
            cases e
            have hyo := HGR.out.ew y (List.mem_of_getElem? hy)
            have hoky := hyo.ok
            have HYO := hid hyo
            have HRY : Hid (∀ W, Below wr.heap.size wr W → W.rangeAt bw (ow + k * 42) y.r.cs.toList) := hid (fun W hW => (hcw.below hW).range hy)
            have HFA := hid (find_at (HGR.out.on HI.out) hy)
            have HSF : Hid (∀ W, Below wr.heap.size wr W → (fun W => (Instr.loadAt 24 (.pointer (some ⟨gj, 0, none⟩))).run Tryd.prog W = .ok (.agg (jC s (.slice pj mj.length cj))) W ∧ W.cell? ⟨bw, ow + k * 42, none⟩ = some (.string y.r.id)) W) := hid (fun W hW => ⟨run_loadJ ((HGR.out.on HI.out).cj.below hW), by have := (hcw.below hW) k y hy 0 (.string y.r.id) (by rw [y.r.get8 0 (by omega)]; rfl); exact this⟩)
            clear hyo hcw hy
            go_upto_region 31 with fail
            refine wp_region_held_drew (S := fun W => (Instr.loadAt 24 (.pointer (some ⟨gj, 0, none⟩))).run Tryd.prog W = .ok (.agg (jC s (.slice pj mj.length cj))) W ∧ W.cell? ⟨bw, ow + k * 42, none⟩ = some (.string y.r.id)) (by kernel_rfl) (HSF.out _ (below_drew _)) (fun hHeld => ?_)
            have HD := hid (below_drew wr)
            refine wpAnyH_take (i := 0) (oi := ⟨some 124, .load 24 (.tmp 6), _, _, _, none⟩) (v := .agg (jC s (.slice pj mj.length cj))) rfl (by kernel_rfl) (by kernel_rfl) (by kernel_rfl) (fun _ _ _ h => h) (Or.inl ⟨by kernel_rfl, fun W hW => exec_load rfl (by kernel_rfl) hW.1⟩) hHeld ?_
            refine wpAnyH_take (i := 1) (oi := ⟨some 125, .move (.tmp 7), _, _, _, none⟩) (v := .slice (some ⟨bw, ow, none⟩) mw.length cw) rfl (by kernel_rfl) (by kernel_rfl) (by kernel_rfl) (fun _ _ _ h => h) (Or.inl ⟨by kernel_rfl, by intro W hW; go_simp⟩) hHeld ?_
            refine wpAnyH_take (i := 2) (oi := ⟨some 126, .move (.tmp 13), _, _, _, none⟩) (v := i64 k) rfl (by kernel_rfl) (by kernel_rfl) (by kernel_rfl) (fun _ _ _ h => h) (Or.inl ⟨by kernel_rfl, by intro W hW; go_simp⟩) hHeld ?_
            refine wpAnyH_take (i := 3) (oi := ⟨some 127, .indexAddr 22 (.tmp 125) (.tmp 126), _, _, _, none⟩) (v := .pointer (some ⟨bw, ow + k * 42, none⟩)) rfl (by kernel_rfl) (by kernel_rfl) (by kernel_rfl) (fun _ _ _ h => h) (Or.inl ⟨by kernel_rfl, by intro W hW; go_simp⟩) hHeld ?_
            refine wpAnyH_take (i := 4) (oi := ⟨some 128, .fieldAddr 44 (.tmp 127) 0, _, _, _, none⟩) (v := .pointer (some ⟨bw, ow + k * 42, none⟩)) rfl (by kernel_rfl) (by kernel_rfl) (by kernel_rfl) (fun _ _ _ h => h) (Or.inl ⟨by kernel_rfl, by intro W hW; go_simp⟩) hHeld ?_
            refine wpAnyH_take (i := 5) (oi := ⟨some 129, .load 9 (.tmp 128), _, _, _, none⟩) (v := .string y.r.id) rfl (by kernel_rfl) (by kernel_rfl) (by kernel_rfl) (fun _ _ _ h => h) (Or.inl ⟨by kernel_rfl, by intro W hW; have q0 := hW.2; go_simp⟩) hHeld ?_
            refine wpAnyH_ready (rs := [6, 11]) (by kernel_rfl) (by simp) ?_
            refine AllReadyH.cons rfl (fun K hK => ?_) (AllReadyH.cons (o := ⟨some 14, .alloc 44, _, _, _, none⟩) rfl (fun K hK => ?_) AllReadyH.nil)
            · go_simp
              refine (HFA.out _ HD.out).mono ?_
              rintro e w5 ⟨z, rfl, hzy, hpx, hb5⟩
              have hokz := hpx.ok
              have hpz : z.r.pv.oneCell' = true := by obtain ⟨p, c, e, _⟩ := hpx.one.form; rw [e]; rfl
              have HZY := hid hzy
              have HPX := hid hpx
              clear hzy hpx
              replace HD := hid (below_on HD.out hb5)
              clear hb5
              go_wp2_with fail
              refine hK.out _ _ (HSF.out _ HD.out) (fun hHeld => ?_)
              clear hK K
              refine wpAnyH_take (i := 7) (oi := ⟨some 123, .move (.tmp 130), _, _, _, none⟩) (v := .tuple #[.agg z.r.cs, i64 k, i64 0]) rfl (by kernel_rfl) (by kernel_rfl) (by kernel_rfl) (fun _ _ _ h => h) (Or.inl ⟨by kernel_rfl, by intro W hW; go_simp⟩) hHeld ?_
              refine wpAnyH_take (i := 8) (oi := ⟨some 131, .extract (.tmp 123) 0, _, _, _, none⟩) (v := .agg z.r.cs) rfl (by kernel_rfl) (by kernel_rfl) (by kernel_rfl) (fun _ _ _ h => h) (Or.inl ⟨by kernel_rfl, by intro W hW; go_simp⟩) hHeld ?_
              refine wpAnyH_take (i := 9) (oi := ⟨some 132, .extract (.tmp 123) 1, _, _, _, none⟩) (v := i64 k) rfl (by kernel_rfl) (by kernel_rfl) (by kernel_rfl) (fun _ _ _ h => h) (Or.inl ⟨by kernel_rfl, by intro W hW; go_simp⟩) hHeld ?_
              refine wpAnyH_take (i := 10) (oi := ⟨some 133, .extract (.tmp 123) 2, _, _, _, none⟩) (v := i64 0) rfl (by kernel_rfl) (by kernel_rfl) (by kernel_rfl) (fun _ _ _ h => h) (Or.inl ⟨by kernel_rfl, by intro W hW; go_simp⟩) hHeld ?_
              refine wpAnyH_ready (rs := [11]) (by kernel_rfl) (by simp) ?_
              refine AllReadyH.cons (o := ⟨some 14, .alloc 44, _, _, _, none⟩) rfl (fun K hK => ?_) AllReadyH.nil
              with_reducible refine step_run_val ?_ (ptr w5.heap.size) (w5.alloc (.cells zR.cs 44)) ?_ ?_
              · exact rfl
              · exact exec_allocR rfl
              have HCN := hid (CAt.made w5 zR.cs 44)
              have HBN := hid (below_al w5 (.cells zR.cs 44))
              replace HPX := hid (HPX.out.below HBN.out)
              generalize hwN : w5.alloc (.cells zR.cs 44) = wN at HCN HBN HPX ⊢
              have HGN := hid (show wr.heap.size ≤ w5.heap.size from HD.out.size)
              generalize hgn : w5.heap.size = gn at HCN HGN ⊢
              replace HD := hid (below_on HD.out HBN.out)
              clear hwN hgn
              refine hK.out _ _ (HSF.out _ HD.out) (fun hHeld => ?_)
              clear hK K
              refine wpAnyH_ready (rs := [12]) (by kernel_rfl) (by simp) ?_
              refine AllReadyH.cons (o := ⟨none, .store 44 (.tmp 14) (.tmp 131), _, _, _, none⟩) rfl (fun K hK => ?_) AllReadyH.nil
              with_reducible refine step_storeR ?_ ?_ (.tmp 14) (.tmp 131) ?_ gn ?_ (r := z.r) ?_ zR_ok hokz hpz (RBox.mk' zR_ok HCN.out) ?_
              · exact rfl
              · exact rfl
              · exact rfl
              · kernel_rfl
              · kernel_rfl
              intro w6 h6 o6
              have HZ6 := hid h6
              have HB6 := hid (below_tr HD.out (o6.below HD.out.size (fun i e => by have := HGN.out; omega)))
              have HPZ := hid (HPX.out.other HCN.out o6).one.pl
              clear h6 o6 HCN HBN
              refine hK.out _ _ (HSF.out _ HB6.out) (fun hHeld => ?_)
              clear hK K HD
              refine wpAnyH_take (i := 13) (oi := ⟨some 15, .assign (.tmp 132), _, _, _, none⟩) (v := i64 k) rfl (by kernel_rfl) (by kernel_rfl) (by kernel_rfl) (fun _ _ _ h => h) (Or.inl ⟨by kernel_rfl, by intro W hW; go_simp⟩) hHeld ?_
              refine wpAnyH_take (i := 14) (oi := ⟨some 16, .assign (.tmp 133), _, _, _, none⟩) (v := i64 0) rfl (by kernel_rfl) (by kernel_rfl) (by kernel_rfl) (fun _ _ _ h => h) (Or.inl ⟨by kernel_rfl, by intro W hW; go_simp⟩) hHeld ?_
              refine wpAnyH_done (by kernel_rfl) ?_ _
              simp only [Act.put, List.setIfInBounds_toArray, List.set_cons_zero, List.set_cons_succ]
              clear hHeld
              have HSF2 : Hid (∀ W, Below w6.heap.size w6 W → (fun W => (Instr.loadAt 44 (.pointer (some ⟨gn, 0, none⟩))).run Tryd.prog W = .ok (.agg z.r.cs) W ∧ (Instr.loadAt 44 (.pointer (some ⟨bw, ow + k * 42, none⟩))).run Tryd.prog W = .ok (.agg y.r.cs) W) W) := hid (fun W hW => ⟨run_loadR hokz (HZ6.out.below hokz hW), run_loadM hoky (HRY.out _ (below_on HB6.out hW))⟩)
              go_upto_region 32 with fail
              refine wp_region_held_drew (S := fun W => (Instr.loadAt 44 (.pointer (some ⟨gn, 0, none⟩))).run Tryd.prog W = .ok (.agg z.r.cs) W ∧ (Instr.loadAt 44 (.pointer (some ⟨bw, ow + k * 42, none⟩))).run Tryd.prog W = .ok (.agg y.r.cs) W) (by kernel_rfl) (HSF2.out _ (below_drew _)) (fun hHeld => ?_)
              have HD := hid (below_drew w6)
              refine wpAnyH_take (i := 0) (oi := ⟨some 134, .move (.tmp 16), _, _, _, none⟩) (v := i64 0) rfl (by kernel_rfl) (by kernel_rfl) (by kernel_rfl) (fun _ _ _ h => h) (Or.inl ⟨by kernel_rfl, by intro W hW; go_simp⟩) hHeld ?_
              refine wpAnyH_take (i := 1) (oi := ⟨some 135, .binOp .neq 28 (.tmp 134) (.const (.int .i64 0)) 28, _, _, _, none⟩) (v := .bool false) rfl (by kernel_rfl) (by kernel_rfl) (by kernel_rfl) (fun _ _ _ h => h) (Or.inl ⟨by kernel_rfl, by intro W hW; go_simp⟩) hHeld ?_
              refine wpAnyH_take (i := 2) (oi := ⟨some 136, .move (.tmp 135), _, _, _, none⟩) (v := .bool false) rfl (by kernel_rfl) (by kernel_rfl) (by kernel_rfl) (fun _ _ _ h => h) (Or.inl ⟨by kernel_rfl, by intro W hW; go_simp⟩) hHeld ?_
              refine wpAnyH_take (i := 3) (oi := ⟨some 137, .move (.tmp 15), _, _, _, some (2, false)⟩) (v := i64 k) rfl (by kernel_rfl) (by kernel_rfl) (by kernel_rfl) (fun _ _ _ h => h) (Or.inl ⟨by kernel_rfl, by intro W hW; go_simp⟩) hHeld ?_
              refine wpAnyH_take (i := 4) (oi := ⟨some 138, .move (.tmp 13), _, _, _, some (2, false)⟩) (v := i64 k) rfl (by kernel_rfl) (by kernel_rfl) (by kernel_rfl) (fun _ _ _ h => h) (Or.inl ⟨by kernel_rfl, by intro W hW; go_simp⟩) hHeld ?_
              refine wpAnyH_take (i := 5) (oi := ⟨some 139, .binOp .neq 3 (.tmp 137) (.tmp 138) 3, _, _, _, some (2, false)⟩) (v := .bool false) rfl (by kernel_rfl) (by kernel_rfl) (by kernel_rfl) (fun _ _ _ h => h) (Or.inl ⟨by kernel_rfl, by intro W hW; go_simp⟩) hHeld ?_
              refine wpAnyH_take (i := 6) (oi := ⟨some 140, .pick (.tmp 136) (.const (.bool true)) (.tmp 139), _, _, _, none⟩) (v := .bool false) rfl (by kernel_rfl) (by kernel_rfl) (by kernel_rfl) (fun _ _ _ h => h) (Or.inl ⟨by kernel_rfl, by intro W hW; go_simp⟩) hHeld ?_
              refine wpAnyH_take (i := 7) (oi := ⟨some 141, .move (.tmp 140), _, _, _, none⟩) (v := .bool false) rfl (by kernel_rfl) (by kernel_rfl) (by kernel_rfl) (fun _ _ _ h => h) (Or.inl ⟨by kernel_rfl, by intro W hW; go_simp⟩) hHeld ?_
              refine wpAnyH_take (i := 8) (oi := ⟨some 142, .load 44 (.tmp 14), _, _, _, some (7, false)⟩) (v := .agg z.r.cs) rfl (by kernel_rfl) (by kernel_rfl) (by kernel_rfl) (fun _ _ _ h => h) (Or.inl ⟨by kernel_rfl, fun W hW => exec_load rfl (by kernel_rfl) hW.1⟩) hHeld ?_
              refine wpAnyH_take (i := 9) (oi := ⟨some 143, .move (.tmp 7), _, _, _, some (7, false)⟩) (v := .slice (some ⟨bw, ow, none⟩) mw.length cw) rfl (by kernel_rfl) (by kernel_rfl) (by kernel_rfl) (fun _ _ _ h => h) (Or.inl ⟨by kernel_rfl, by intro W hW; go_simp⟩) hHeld ?_
              refine wpAnyH_take (i := 10) (oi := ⟨some 144, .move (.tmp 13), _, _, _, some (7, false)⟩) (v := i64 k) rfl (by kernel_rfl) (by kernel_rfl) (by kernel_rfl) (fun _ _ _ h => h) (Or.inl ⟨by kernel_rfl, by intro W hW; go_simp⟩) hHeld ?_
              refine wpAnyH_take (i := 11) (oi := ⟨some 145, .indexAddr 22 (.tmp 143) (.tmp 144), _, _, _, some (7, false)⟩) (v := .pointer (some ⟨bw, ow + k * 42, none⟩)) rfl (by kernel_rfl) (by kernel_rfl) (by kernel_rfl) (fun _ _ _ h => h) (Or.inl ⟨by kernel_rfl, by intro W hW; go_simp⟩) hHeld ?_
              refine wpAnyH_take (i := 12) (oi := ⟨some 146, .load 44 (.tmp 145), _, _, _, some (7, false)⟩) (v := .agg y.r.cs) rfl (by kernel_rfl) (by kernel_rfl) (by kernel_rfl) (fun _ _ _ h => h) (Or.inl ⟨by kernel_rfl, fun W hW => exec_load rfl (by kernel_rfl) hW.2⟩) hHeld ?_
              refine wpAnyH_ready (rs := [13]) (by kernel_rfl) (by simp) ?_
              refine AllReadyH.cons rfl (fun K hK => ?_) AllReadyH.nil
              go_simp
              refine (same_any z.r y.r hokz hoky z.ps y.ps _ (HPZ.out.below HD.out) (HYO.out.pl.below (HGR.out.on (below_on (below_on HI.out HB6.out) HD.out)).below)).mono ?_
              rintro e w9 ⟨rfl, hb9⟩
              rw [show decide (z.r.rc z.ps = y.r.rc y.ps) = true from decide_eq_true HZY.out]
              replace HD := hid (below_on HD.out hb9)
              clear hb9
              go_wp2_with fail
              refine hK.out _ _ (HSF2.out _ HD.out) (fun hHeld => ?_)
              clear hK K
              refine wpAnyH_take (i := 14) (oi := ⟨some 148, .unOp .not 4 (.tmp 147), _, _, _, some (7, false)⟩) (v := .bool false) rfl (by kernel_rfl) (by kernel_rfl) (by kernel_rfl) (fun _ _ _ h => h) (Or.inl ⟨by kernel_rfl, by intro W hW; go_simp⟩) hHeld ?_
              refine wpAnyH_take (i := 15) (oi := ⟨some 149, .pick (.tmp 141) (.const (.bool true)) (.tmp 148), _, _, _, none⟩) (v := .bool false) rfl (by kernel_rfl) (by kernel_rfl) (by kernel_rfl) (fun _ _ _ h => h) (Or.inl ⟨by kernel_rfl, by intro W hW; go_simp⟩) hHeld ?_
              refine wpAnyH_done (by kernel_rfl) ?_ _
              simp only [Act.put, List.setIfInBounds_toArray, List.set_cons_zero, List.set_cons_succ]
              clear hHeld
              go_wp2_with fail
              go_roundg (mw.length - (k + 1))
              case measure => omega
              case rel => exact ⟨k + 1, by omega, by omega, by go_num, below_on (below_on HI.out HB6.out) HD.out⟩
            · with_reducible refine step_run_val ?_ (ptr wr.drew.heap.size) (wr.drew.alloc (.cells zR.cs 44)) ?_ ?_
              · exact rfl
              · exact exec_allocR rfl
              have HCN := hid (CAt.made wr.drew zR.cs 44)
              have HBN := hid (below_al wr.drew (.cells zR.cs 44))
              generalize hwN : wr.drew.alloc (.cells zR.cs 44) = wN at HCN HBN  ⊢
              have HGN := hid (show wr.heap.size ≤ wr.drew.heap.size from HD.out.size)
              generalize hgn : wr.drew.heap.size = gn at HCN HGN ⊢
              replace HD := hid (below_on HD.out HBN.out)
              clear hwN hgn
              refine hK.out _ _ (HSF.out _ HD.out) (fun hHeld => ?_)
              clear hK K
              refine wpAnyH_ready (rs := [6]) (by kernel_rfl) (by simp) ?_
              refine AllReadyH.cons rfl (fun K hK => ?_) AllReadyH.nil
              go_simp
              refine (HFA.out _ HD.out).mono ?_
              rintro e w5 ⟨z, rfl, hzy, hpx, hb5⟩
              have hokz := hpx.ok
              have hpz : z.r.pv.oneCell' = true := by obtain ⟨p, c, e, _⟩ := hpx.one.form; rw [e]; rfl
              have HZY := hid hzy
              have HPX := hid hpx
              clear hzy hpx
              replace HD := hid (below_on HD.out hb5)
              replace HCN := hid (HCN.out.below hb5)
              clear hb5
              go_wp2_with fail
              refine hK.out _ _ (HSF.out _ HD.out) (fun hHeld => ?_)
              clear hK K
              refine wpAnyH_take (i := 7) (oi := ⟨some 123, .move (.tmp 130), _, _, _, none⟩) (v := .tuple #[.agg z.r.cs, i64 k, i64 0]) rfl (by kernel_rfl) (by kernel_rfl) (by kernel_rfl) (fun _ _ _ h => h) (Or.inl ⟨by kernel_rfl, by intro W hW; go_simp⟩) hHeld ?_
              refine wpAnyH_take (i := 8) (oi := ⟨some 131, .extract (.tmp 123) 0, _, _, _, none⟩) (v := .agg z.r.cs) rfl (by kernel_rfl) (by kernel_rfl) (by kernel_rfl) (fun _ _ _ h => h) (Or.inl ⟨by kernel_rfl, by intro W hW; go_simp⟩) hHeld ?_
              refine wpAnyH_take (i := 9) (oi := ⟨some 132, .extract (.tmp 123) 1, _, _, _, none⟩) (v := i64 k) rfl (by kernel_rfl) (by kernel_rfl) (by kernel_rfl) (fun _ _ _ h => h) (Or.inl ⟨by kernel_rfl, by intro W hW; go_simp⟩) hHeld ?_
              refine wpAnyH_take (i := 10) (oi := ⟨some 133, .extract (.tmp 123) 2, _, _, _, none⟩) (v := i64 0) rfl (by kernel_rfl) (by kernel_rfl) (by kernel_rfl) (fun _ _ _ h => h) (Or.inl ⟨by kernel_rfl, by intro W hW; go_simp⟩) hHeld ?_
              refine wpAnyH_ready (rs := [12]) (by kernel_rfl) (by simp) ?_
              refine AllReadyH.cons (o := ⟨none, .store 44 (.tmp 14) (.tmp 131), _, _, _, none⟩) rfl (fun K hK => ?_) AllReadyH.nil
              with_reducible refine step_storeR ?_ ?_ (.tmp 14) (.tmp 131) ?_ gn ?_ (r := z.r) ?_ zR_ok hokz hpz (RBox.mk' zR_ok HCN.out) ?_
              · exact rfl
              · exact rfl
              · exact rfl
              · kernel_rfl
              · kernel_rfl
              intro w6 h6 o6
              have HZ6 := hid h6
              have HB6 := hid (below_tr HD.out (o6.below HD.out.size (fun i e => by have := HGN.out; omega)))
              have HPZ := hid (HPX.out.other HCN.out o6).one.pl
              clear h6 o6 HCN HBN
              refine hK.out _ _ (HSF.out _ HB6.out) (fun hHeld => ?_)
              clear hK K HD
              refine wpAnyH_take (i := 13) (oi := ⟨some 15, .assign (.tmp 132), _, _, _, none⟩) (v := i64 k) rfl (by kernel_rfl) (by kernel_rfl) (by kernel_rfl) (fun _ _ _ h => h) (Or.inl ⟨by kernel_rfl, by intro W hW; go_simp⟩) hHeld ?_
              refine wpAnyH_take (i := 14) (oi := ⟨some 16, .assign (.tmp 133), _, _, _, none⟩) (v := i64 0) rfl (by kernel_rfl) (by kernel_rfl) (by kernel_rfl) (fun _ _ _ h => h) (Or.inl ⟨by kernel_rfl, by intro W hW; go_simp⟩) hHeld ?_
              refine wpAnyH_done (by kernel_rfl) ?_ _
              simp only [Act.put, List.setIfInBounds_toArray, List.set_cons_zero, List.set_cons_succ]
              clear hHeld
              have HSF2 : Hid (∀ W, Below w6.heap.size w6 W → (fun W => (Instr.loadAt 44 (.pointer (some ⟨gn, 0, none⟩))).run Tryd.prog W = .ok (.agg z.r.cs) W ∧ (Instr.loadAt 44 (.pointer (some ⟨bw, ow + k * 42, none⟩))).run Tryd.prog W = .ok (.agg y.r.cs) W) W) := hid (fun W hW => ⟨run_loadR hokz (HZ6.out.below hokz hW), run_loadM hoky (HRY.out _ (below_on HB6.out hW))⟩)
              go_upto_region 32 with fail
              refine wp_region_held_drew (S := fun W => (Instr.loadAt 44 (.pointer (some ⟨gn, 0, none⟩))).run Tryd.prog W = .ok (.agg z.r.cs) W ∧ (Instr.loadAt 44 (.pointer (some ⟨bw, ow + k * 42, none⟩))).run Tryd.prog W = .ok (.agg y.r.cs) W) (by kernel_rfl) (HSF2.out _ (below_drew _)) (fun hHeld => ?_)
              have HD := hid (below_drew w6)
              refine wpAnyH_take (i := 0) (oi := ⟨some 134, .move (.tmp 16), _, _, _, none⟩) (v := i64 0) rfl (by kernel_rfl) (by kernel_rfl) (by kernel_rfl) (fun _ _ _ h => h) (Or.inl ⟨by kernel_rfl, by intro W hW; go_simp⟩) hHeld ?_
              refine wpAnyH_take (i := 1) (oi := ⟨some 135, .binOp .neq 28 (.tmp 134) (.const (.int .i64 0)) 28, _, _, _, none⟩) (v := .bool false) rfl (by kernel_rfl) (by kernel_rfl) (by kernel_rfl) (fun _ _ _ h => h) (Or.inl ⟨by kernel_rfl, by intro W hW; go_simp⟩) hHeld ?_
              refine wpAnyH_take (i := 2) (oi := ⟨some 136, .move (.tmp 135), _, _, _, none⟩) (v := .bool false) rfl (by kernel_rfl) (by kernel_rfl) (by kernel_rfl) (fun _ _ _ h => h) (Or.inl ⟨by kernel_rfl, by intro W hW; go_simp⟩) hHeld ?_
              refine wpAnyH_take (i := 3) (oi := ⟨some 137, .move (.tmp 15), _, _, _, some (2, false)⟩) (v := i64 k) rfl (by kernel_rfl) (by kernel_rfl) (by kernel_rfl) (fun _ _ _ h => h) (Or.inl ⟨by kernel_rfl, by intro W hW; go_simp⟩) hHeld ?_
              refine wpAnyH_take (i := 4) (oi := ⟨some 138, .move (.tmp 13), _, _, _, some (2, false)⟩) (v := i64 k) rfl (by kernel_rfl) (by kernel_rfl) (by kernel_rfl) (fun _ _ _ h => h) (Or.inl ⟨by kernel_rfl, by intro W hW; go_simp⟩) hHeld ?_
              refine wpAnyH_take (i := 5) (oi := ⟨some 139, .binOp .neq 3 (.tmp 137) (.tmp 138) 3, _, _, _, some (2, false)⟩) (v := .bool false) rfl (by kernel_rfl) (by kernel_rfl) (by kernel_rfl) (fun _ _ _ h => h) (Or.inl ⟨by kernel_rfl, by intro W hW; go_simp⟩) hHeld ?_
              refine wpAnyH_take (i := 6) (oi := ⟨some 140, .pick (.tmp 136) (.const (.bool true)) (.tmp 139), _, _, _, none⟩) (v := .bool false) rfl (by kernel_rfl) (by kernel_rfl) (by kernel_rfl) (fun _ _ _ h => h) (Or.inl ⟨by kernel_rfl, by intro W hW; go_simp⟩) hHeld ?_
              refine wpAnyH_take (i := 7) (oi := ⟨some 141, .move (.tmp 140), _, _, _, none⟩) (v := .bool false) rfl (by kernel_rfl) (by kernel_rfl) (by kernel_rfl) (fun _ _ _ h => h) (Or.inl ⟨by kernel_rfl, by intro W hW; go_simp⟩) hHeld ?_
              refine wpAnyH_take (i := 8) (oi := ⟨some 142, .load 44 (.tmp 14), _, _, _, some (7, false)⟩) (v := .agg z.r.cs) rfl (by kernel_rfl) (by kernel_rfl) (by kernel_rfl) (fun _ _ _ h => h) (Or.inl ⟨by kernel_rfl, fun W hW => exec_load rfl (by kernel_rfl) hW.1⟩) hHeld ?_
              refine wpAnyH_take (i := 9) (oi := ⟨some 143, .move (.tmp 7), _, _, _, some (7, false)⟩) (v := .slice (some ⟨bw, ow, none⟩) mw.length cw) rfl (by kernel_rfl) (by kernel_rfl) (by kernel_rfl) (fun _ _ _ h => h) (Or.inl ⟨by kernel_rfl, by intro W hW; go_simp⟩) hHeld ?_
              refine wpAnyH_take (i := 10) (oi := ⟨some 144, .move (.tmp 13), _, _, _, some (7, false)⟩) (v := i64 k) rfl (by kernel_rfl) (by kernel_rfl) (by kernel_rfl) (fun _ _ _ h => h) (Or.inl ⟨by kernel_rfl, by intro W hW; go_simp⟩) hHeld ?_
              refine wpAnyH_take (i := 11) (oi := ⟨some 145, .indexAddr 22 (.tmp 143) (.tmp 144), _, _, _, some (7, false)⟩) (v := .pointer (some ⟨bw, ow + k * 42, none⟩)) rfl (by kernel_rfl) (by kernel_rfl) (by kernel_rfl) (fun _ _ _ h => h) (Or.inl ⟨by kernel_rfl, by intro W hW; go_simp⟩) hHeld ?_
              refine wpAnyH_take (i := 12) (oi := ⟨some 146, .load 44 (.tmp 145), _, _, _, some (7, false)⟩) (v := .agg y.r.cs) rfl (by kernel_rfl) (by kernel_rfl) (by kernel_rfl) (fun _ _ _ h => h) (Or.inl ⟨by kernel_rfl, fun W hW => exec_load rfl (by kernel_rfl) hW.2⟩) hHeld ?_
              refine wpAnyH_ready (rs := [13]) (by kernel_rfl) (by simp) ?_
              refine AllReadyH.cons rfl (fun K hK => ?_) AllReadyH.nil
              go_simp
              refine (same_any z.r y.r hokz hoky z.ps y.ps _ (HPZ.out.below HD.out) (HYO.out.pl.below (HGR.out.on (below_on (below_on HI.out HB6.out) HD.out)).below)).mono ?_
              rintro e w9 ⟨rfl, hb9⟩
              rw [show decide (z.r.rc z.ps = y.r.rc y.ps) = true from decide_eq_true HZY.out]
              replace HD := hid (below_on HD.out hb9)
              clear hb9
              go_wp2_with fail
              refine hK.out _ _ (HSF2.out _ HD.out) (fun hHeld => ?_)
              clear hK K
              refine wpAnyH_take (i := 14) (oi := ⟨some 148, .unOp .not 4 (.tmp 147), _, _, _, some (7, false)⟩) (v := .bool false) rfl (by kernel_rfl) (by kernel_rfl) (by kernel_rfl) (fun _ _ _ h => h) (Or.inl ⟨by kernel_rfl, by intro W hW; go_simp⟩) hHeld ?_
              refine wpAnyH_take (i := 15) (oi := ⟨some 149, .pick (.tmp 141) (.const (.bool true)) (.tmp 148), _, _, _, none⟩) (v := .bool false) rfl (by kernel_rfl) (by kernel_rfl) (by kernel_rfl) (fun _ _ _ h => h) (Or.inl ⟨by kernel_rfl, by intro W hW; go_simp⟩) hHeld ?_
              refine wpAnyH_done (by kernel_rfl) ?_ _
              simp only [Act.put, List.setIfInBounds_toArray, List.set_cons_zero, List.set_cons_succ]
              clear hHeld
              go_wp2_with fail
              go_roundg (mw.length - (k + 1))
              case measure => omega
              case rel => exact ⟨k + 1, by omega, by omega, by go_num, below_on (below_on HI.out HB6.out) HD.out⟩
          · obtain rfl : k = mw.length := by omega
            have hklz : ¬ (mw.length : Int) < (mw.length : Int) := by omega
            have HGL := hid (HGR.out.on HI.out)
            clear HGR HI
            have hm1 := HM0.out
            obtain ⟨q, hq⟩ : ∃ q, pkN which mw.length = q := ⟨_, rfl⟩
            have hql := pkN_lt which mw.length (by omega)
            have HPK : Hid (∀ W, Calls Tryd.prog 12 #[i64 which, .int .i64 (mw.length : Int)] W fun e w' => e = .returned (i64 (q : Nat)) ∧ w' = W) := hid (fun W => by rw [← hq]; exact pick_any which mw.length W (by omega) (by omega))
            rw [hq] at hql
            clear hq hm1
            have hqz : (q : Int) < (mw.length : Int) := by omega
            have h0z : (0 : Int) < (mw.length : Int) := by omega
            obtain ⟨y, hy⟩ : ∃ y, mw[q]? = some y := ⟨_, List.getElem?_eq_getElem hql⟩
            obtain ⟨y0, hy0⟩ : ∃ y, mw[0]? = some y := ⟨_, List.getElem?_eq_getElem (by omega)⟩
            obtain ⟨bw, ow, cw', e, hcw1, hcw⟩ := HGL.out.rlw.where hy
            cases e
            have hyo0 := HGL.out.ew y0 (List.mem_of_getElem? hy0)
            have hoky0 := hyo0.ok
            have HYO0 := hid hyo0
            have HREM := hid (rem_at HGL.out (by omega) hy)
            have HGONE := hid (fun (vg : Value) (mg : List Rp) (he : rcs mg = rcs (mw.take q ++ mw.drop (q + 1))) => gone_at HGL.out (by omega) hy (vg := vg) he)
            have HNEW := hid (new_at HGL.out (by omega) hy0)
            have HID : Hid (∀ W, Below wr.heap.size wr W → W.cell? ⟨bw, ow + q * 42, none⟩ = some (.string y.r.id)) := hid (fun W hW => by have := (hcw.below hW) q y hy 0 (.string y.r.id) (by rw [y.r.get8 0 (by omega)]; rfl); exact this)
            have HRY0 : Hid (∀ W, Below wr.heap.size wr W → W.rangeAt bw ow y0.r.cs.toList) := hid (fun W hW => by have := (hcw.below hW).range hy0; rwa [Nat.zero_mul, Nat.add_zero] at this)
            have HSF : Hid (∀ W, Below wr.heap.size wr W → (fun W => (Instr.loadAt 24 (.pointer (some ⟨gj, 0, none⟩))).run Tryd.prog W = .ok (.agg (jC s (.slice pj mj.length cj))) W ∧ W.cell? ⟨bw, ow + q * 42, none⟩ = some (.string y.r.id)) W) := hid (fun W hW => ⟨run_loadJ (HGL.out.cj.below hW), HID.out W hW⟩)
            have hs1 := run_headR (some ⟨bw, ow, none⟩) mw.length cw q (by omega)
            obtain ⟨pf, nf, cf, hs2, hf⟩ := fromR (b := bw) (o := ow) (c := cw) (m := mw) (q := q + 1) (by omega) hcw1
            have HF := hid hf
            replace hs2 : ∀ w, (Instr.slice 22 (.slice (some ⟨bw, ow, none⟩) mw.length cw) (some (.int .i64 ((q : Int) + 1))) none none).run Tryd.prog w = .ok (.slice pf nf cf) w := fun w => hs2 w
            have hq1 : IntKind.i64.wrap ((q : Int) + 1) = (q : Int) + 1 := by rw [IntKind.wrap_i64]; omega
            clear hyo0 hcw hy hy0 hf HM0
            go_upto_region 35 with ((go_at_call 12; (with_reducible refine (HPK.out _).mono ?_); rintro e w21 ⟨rfl, hw21⟩; have hw22 := hw21.symm; subst hw22; clear hw21))
            refine wp_region_held_drew (S := fun W => (Instr.loadAt 24 (.pointer (some ⟨gj, 0, none⟩))).run Tryd.prog W = .ok (.agg (jC s (.slice pj mj.length cj))) W ∧ W.cell? ⟨bw, ow + q * 42, none⟩ = some (.string y.r.id)) (by kernel_rfl) (HSF.out _ (below_drew _)) (fun hHeld => ?_)
            have HD := hid (below_drew wr)
            refine wpAnyH_take (i := 0) (oi := ⟨some 155, .load 24 (.tmp 6), _, _, _, none⟩) (v := .agg (jC s (.slice pj mj.length cj))) rfl (by kernel_rfl) (by kernel_rfl) (by kernel_rfl) (fun _ _ _ h => h) (Or.inl ⟨by kernel_rfl, fun W hW => exec_load rfl (by kernel_rfl) hW.1⟩) hHeld ?_
            refine wpAnyH_take (i := 1) (oi := ⟨some 156, .move (.tmp 7), _, _, _, none⟩) (v := .slice (some ⟨bw, ow, none⟩) mw.length cw) rfl (by kernel_rfl) (by kernel_rfl) (by kernel_rfl) (fun _ _ _ h => h) (Or.inl ⟨by kernel_rfl, by intro W hW; go_simp⟩) hHeld ?_
            refine wpAnyH_take (i := 2) (oi := ⟨some 157, .move (.tmp 17), _, _, _, none⟩) (v := i64 q) rfl (by kernel_rfl) (by kernel_rfl) (by kernel_rfl) (fun _ _ _ h => h) (Or.inl ⟨by kernel_rfl, by intro W hW; go_simp⟩) hHeld ?_
            refine wpAnyH_take (i := 3) (oi := ⟨some 158, .indexAddr 22 (.tmp 156) (.tmp 157), _, _, _, none⟩) (v := .pointer (some ⟨bw, ow + q * 42, none⟩)) rfl (by kernel_rfl) (by kernel_rfl) (by kernel_rfl) (fun _ _ _ h => h) (Or.inl ⟨by kernel_rfl, by intro W hW; go_simp⟩) hHeld ?_
            refine wpAnyH_take (i := 4) (oi := ⟨some 159, .fieldAddr 44 (.tmp 158) 0, _, _, _, none⟩) (v := .pointer (some ⟨bw, ow + q * 42, none⟩)) rfl (by kernel_rfl) (by kernel_rfl) (by kernel_rfl) (fun _ _ _ h => h) (Or.inl ⟨by kernel_rfl, by intro W hW; go_simp⟩) hHeld ?_
            refine wpAnyH_take (i := 5) (oi := ⟨some 160, .load 9 (.tmp 159), _, _, _, none⟩) (v := .string y.r.id) rfl (by kernel_rfl) (by kernel_rfl) (by kernel_rfl) (fun _ _ _ h => h) (Or.inl ⟨by kernel_rfl, by intro W hW; have q0 := hW.2; go_simp⟩) hHeld ?_
            refine wpAnyH_ready (rs := [6, 10]) (by kernel_rfl) (by simp) ?_
            refine AllReadyH.cons rfl (fun K hK => ?_) (AllReadyH.cons (o := ⟨some 18, .alloc 24, _, _, _, none⟩) rfl (fun K hK => ?_) AllReadyH.nil)
            · go_simp
              refine (HREM.out _ HD.out).mono ?_
              rintro e w5a ⟨vg, mg, rfl, hrg, heg, hb5a⟩
              obtain ⟨pg, cg, hvg, _⟩ := hrg.buf.form
              subst hvg
              have HRG := hid hrg
              have HEG := hid heg
              clear hrg heg
              replace HD := hid (below_on HD.out hb5a)
              clear hb5a
              go_wp2_with fail
              refine hK.out _ _ (HSF.out _ HD.out) (fun hHeld => ?_)
              clear hK K
              refine wpAnyH_take (i := 7) (oi := ⟨some 154, .move (.tmp 161), _, _, _, none⟩) (v := .tuple #[.agg (jC (s + 1) (.slice pg mg.length cg)), i64 0]) rfl (by kernel_rfl) (by kernel_rfl) (by kernel_rfl) (fun _ _ _ h => h) (Or.inl ⟨by kernel_rfl, by intro W hW; go_simp⟩) hHeld ?_
              refine wpAnyH_take (i := 8) (oi := ⟨some 162, .extract (.tmp 154) 0, _, _, _, none⟩) (v := .agg (jC (s + 1) (.slice pg mg.length cg))) rfl (by kernel_rfl) (by kernel_rfl) (by kernel_rfl) (fun _ _ _ h => h) (Or.inl ⟨by kernel_rfl, by intro W hW; go_simp⟩) hHeld ?_
              refine wpAnyH_take (i := 9) (oi := ⟨some 163, .extract (.tmp 154) 1, _, _, _, none⟩) (v := i64 0) rfl (by kernel_rfl) (by kernel_rfl) (by kernel_rfl) (fun _ _ _ h => h) (Or.inl ⟨by kernel_rfl, by intro W hW; go_simp⟩) hHeld ?_
              refine wpAnyH_ready (rs := [10]) (by kernel_rfl) (by simp) ?_
              refine AllReadyH.cons (o := ⟨some 18, .alloc 24, _, _, _, none⟩) rfl (fun K hK => ?_) AllReadyH.nil
              with_reducible refine step_run_val ?_ (ptr w5a.heap.size) (w5a.alloc (.cells (jC 0 (.slice none 0 0)) 24)) ?_ ?_
              · exact rfl
              · exact exec_allocJ rfl
              have HCNa := hid (CAt.made w5a (jC 0 (.slice none 0 0)) 24)
              have HBNa := hid (below_al w5a (.cells (jC 0 (.slice none 0 0)) 24))
              replace HRG := hid (HRG.out.below HBNa.out)
              generalize hwN : w5a.alloc (.cells (jC 0 (.slice none 0 0)) 24) = wNa at HCNa HBNa HRG ⊢
              have HGNa := hid (show wr.heap.size ≤ w5a.heap.size from HD.out.size)
              generalize hgn : w5a.heap.size = gna at HCNa HGNa ⊢
              replace HD := hid (below_on HD.out HBNa.out)
              clear hwN hgn
              refine hK.out _ _ (HSF.out _ HD.out) (fun hHeld => ?_)
              clear hK K
              refine wpAnyH_ready (rs := [11]) (by kernel_rfl) (by simp) ?_
              refine AllReadyH.cons (o := ⟨none, .store 24 (.tmp 18) (.tmp 162), _, _, _, none⟩) rfl (fun K hK => ?_) AllReadyH.nil
              with_reducible refine step_storeJ ?_ ?_ (.tmp 18) (.tmp 162) ?_ gna ?_ (s := s + 1) (v := .slice pg mg.length cg) ?_ ?_ HCNa.out ?_
              · exact rfl
              · exact rfl
              · exact rfl
              · kernel_rfl
              · kernel_rfl
              · exact rfl
              intro w6a h6 o6
              have HC6 := hid h6
              have HB6a := hid (below_tr HD.out (o6.below HD.out.size (fun i e => by have := HGNa.out; omega)))
              replace HRG := hid (HRG.out.other7 h6 o6 HCNa.out)
              clear h6 o6 HCNa HBNa
              refine hK.out _ _ (HSF.out _ HB6a.out) (fun hHeld => ?_)
              clear hK K HD HGNa
              refine wpAnyH_take (i := 12) (oi := ⟨some 19, .assign (.tmp 163), _, _, _, none⟩) (v := i64 0) rfl (by kernel_rfl) (by kernel_rfl) (by kernel_rfl) (fun _ _ _ h => h) (Or.inl ⟨by kernel_rfl, by intro W hW; go_simp⟩) hHeld ?_
              refine wpAnyH_done (by kernel_rfl) ?_ _
              simp only [Act.put, List.setIfInBounds_toArray, List.set_cons_zero, List.set_cons_succ]
              clear hHeld
              have HG6 := hid (HGL.out.on HB6a.out)
              have HMG : Hid (mg.length ≤ 100000) := hid (by have := congrArg List.length HEG.out; rw [rcs_len, rcs_len, List.length_append, List.length_take, List.length_drop] at this; omega)
              have HLN : Hid ((mw.take q ++ mw.drop (q + 1)).length ≤ 100000) := hid (by rw [List.length_append, List.length_take, List.length_drop]; omega)
              obtain ⟨v7, w7, hr7, hrb7, hg7⟩ := RBuf.app (RBuf.nil w6a.heap.size w6a) (.slice (some ⟨bw, ow, none⟩) q cw) (mw.take q) (RL.headR HG6.out.rlw (by omega)) (by simp; omega) (Nat.le_refl _)
              have hb7 := below_grown (Below.refl w6a.heap.size w6a) hg7 (Nat.le_refl _) (fun b hb => by cases hb)
              obtain ⟨v8, w8, hr8, hrb8, hg8⟩ := RBuf.app hrb7 (.slice pf nf cf) (mw.drop (q + 1)) (HF.out _ (HG6.out.on hb7).rlw) (by simp; omega) hb7.size
              have hb8 := below_grown hb7 hg8 (Nat.le_refl _) (fun b hb => (own_ge hrb7 b hb).1)
              obtain ⟨p7, n7, c7, hv7⟩ : ∃ p n c, v7 = .slice p n c := by obtain ⟨p, c, e, _⟩ := hrb7.form; exact ⟨p, _, c, e⟩
              obtain ⟨p8, n8, c8, hv8⟩ : ∃ p n c, v8 = .slice p n c := by obtain ⟨p, c, e, _⟩ := hrb8.form; exact ⟨p, _, c, e⟩
              subst hv7 hv8
              have HR7 := hid hr7
              have HR8 := hid hr8
              have HRB := hid hrb8
              have HB8 := hid (below_on HB6a.out hb8)
              replace HGL := hid (HG6.out.on hb8)
              have HCG := hid (HC6.out.below hb8)
              replace HRG := hid (HRG.out.below hb8)
              clear hr7 hr8 hrb7 hrb8 hg7 hg8 hb7 hb8 HG6 HC6
              go_upto_region 39 with (first
              | (at_builtin; refine wpList_append_run _ _ 22 22 rfl rfl _ _ _ rfl rfl HR7.out ?_)
              | (at_builtin; refine wpList_append_run _ _ 22 22 rfl rfl _ _ _ rfl rfl HR8.out ?_))
              have HSF3 : Hid (∀ W, Below w8.heap.size w8 W → (fun W => (Instr.loadAt 24 (.pointer (some ⟨gna, 0, none⟩))).run Tryd.prog W = .ok (.agg (jC (s + 1) (.slice pg mg.length cg))) W ∧ W.cell? ⟨bw, ow + q * 42, none⟩ = some (.string y.r.id)) W) := hid (fun W hW => ⟨run_loadJ (HCG.out.below hW), HID.out _ (below_on HB8.out hW)⟩)
              refine wp_region_held_drew (S := fun W => (Instr.loadAt 24 (.pointer (some ⟨gna, 0, none⟩))).run Tryd.prog W = .ok (.agg (jC (s + 1) (.slice pg mg.length cg))) W ∧ W.cell? ⟨bw, ow + q * 42, none⟩ = some (.string y.r.id)) (by kernel_rfl) (HSF3.out _ (below_drew _)) (fun hHeld => ?_)
              have HD := hid (below_drew w8)
              refine wpAnyH_take (i := 0) (oi := ⟨some 176, .load 24 (.tmp 18), _, _, _, none⟩) (v := .agg (jC (s + 1) (.slice pg mg.length cg))) rfl (by kernel_rfl) (by kernel_rfl) (by kernel_rfl) (fun _ _ _ h => h) (Or.inl ⟨by kernel_rfl, fun W hW => exec_load rfl (by kernel_rfl) hW.1⟩) hHeld ?_
              refine wpAnyH_take (i := 1) (oi := ⟨some 177, .move (.tmp 7), _, _, _, none⟩) (v := .slice (some ⟨bw, ow, none⟩) mw.length cw) rfl (by kernel_rfl) (by kernel_rfl) (by kernel_rfl) (fun _ _ _ h => h) (Or.inl ⟨by kernel_rfl, by intro W hW; go_simp⟩) hHeld ?_
              refine wpAnyH_take (i := 2) (oi := ⟨some 178, .move (.tmp 17), _, _, _, none⟩) (v := i64 q) rfl (by kernel_rfl) (by kernel_rfl) (by kernel_rfl) (fun _ _ _ h => h) (Or.inl ⟨by kernel_rfl, by intro W hW; go_simp⟩) hHeld ?_
              refine wpAnyH_take (i := 3) (oi := ⟨some 179, .indexAddr 22 (.tmp 177) (.tmp 178), _, _, _, none⟩) (v := .pointer (some ⟨bw, ow + q * 42, none⟩)) rfl (by kernel_rfl) (by kernel_rfl) (by kernel_rfl) (fun _ _ _ h => h) (Or.inl ⟨by kernel_rfl, by intro W hW; go_simp⟩) hHeld ?_
              refine wpAnyH_take (i := 4) (oi := ⟨some 180, .fieldAddr 44 (.tmp 179) 0, _, _, _, none⟩) (v := .pointer (some ⟨bw, ow + q * 42, none⟩)) rfl (by kernel_rfl) (by kernel_rfl) (by kernel_rfl) (fun _ _ _ h => h) (Or.inl ⟨by kernel_rfl, by intro W hW; go_simp⟩) hHeld ?_
              refine wpAnyH_take (i := 5) (oi := ⟨some 181, .load 9 (.tmp 180), _, _, _, none⟩) (v := .string y.r.id) rfl (by kernel_rfl) (by kernel_rfl) (by kernel_rfl) (fun _ _ _ h => h) (Or.inl ⟨by kernel_rfl, by intro W hW; have q0 := hW.2; go_simp⟩) hHeld ?_
              refine wpAnyH_ready (rs := [6, 11]) (by kernel_rfl) (by simp) ?_
              refine AllReadyH.cons rfl (fun K hK => ?_) (AllReadyH.cons (o := ⟨some 21, .alloc 44, _, _, _, none⟩) rfl (fun K hK => ?_) AllReadyH.nil)
              · go_simp
                refine (HGONE.out _ mg HEG.out _ ((HRG.out.below HD.out).rl HMG.out)).mono ?_
                rintro e w5b ⟨rfl, hb5b⟩
                replace HD := hid (below_on HD.out hb5b)
                clear hb5b
                go_wp2_with fail
                refine hK.out _ _ (HSF3.out _ HD.out) (fun hHeld => ?_)
                clear hK K
                refine wpAnyH_take (i := 7) (oi := ⟨some 175, .move (.tmp 182), _, _, _, none⟩) (v := .tuple #[.agg zR.cs, i64 0, i64 6]) rfl (by kernel_rfl) (by kernel_rfl) (by kernel_rfl) (fun _ _ _ h => h) (Or.inl ⟨by kernel_rfl, by intro W hW; go_simp⟩) hHeld ?_
                refine wpAnyH_take (i := 8) (oi := ⟨some 183, .extract (.tmp 175) 0, _, _, _, none⟩) (v := .agg zR.cs) rfl (by kernel_rfl) (by kernel_rfl) (by kernel_rfl) (fun _ _ _ h => h) (Or.inl ⟨by kernel_rfl, by intro W hW; go_simp⟩) hHeld ?_
                refine wpAnyH_take (i := 9) (oi := ⟨some 184, .extract (.tmp 175) 1, _, _, _, none⟩) (v := i64 0) rfl (by kernel_rfl) (by kernel_rfl) (by kernel_rfl) (fun _ _ _ h => h) (Or.inl ⟨by kernel_rfl, by intro W hW; go_simp⟩) hHeld ?_
                refine wpAnyH_take (i := 10) (oi := ⟨some 185, .extract (.tmp 175) 2, _, _, _, none⟩) (v := i64 6) rfl (by kernel_rfl) (by kernel_rfl) (by kernel_rfl) (fun _ _ _ h => h) (Or.inl ⟨by kernel_rfl, by intro W hW; go_simp⟩) hHeld ?_
                refine wpAnyH_ready (rs := [11]) (by kernel_rfl) (by simp) ?_
                refine AllReadyH.cons (o := ⟨some 21, .alloc 44, _, _, _, none⟩) rfl (fun K hK => ?_) AllReadyH.nil
                with_reducible refine step_run_val ?_ (ptr w5b.heap.size) (w5b.alloc (.cells zR.cs 44)) ?_ ?_
                · exact rfl
                · exact exec_allocR rfl
                have HCNb := hid (CAt.made w5b zR.cs 44)
                have HBNb := hid (below_al w5b (.cells zR.cs 44))
                generalize hwN : w5b.alloc (.cells zR.cs 44) = wNb at HCNb HBNb  ⊢
                have HGNb := hid (show w8.heap.size ≤ w5b.heap.size from HD.out.size)
                generalize hgn : w5b.heap.size = gnb at HCNb HGNb ⊢
                replace HD := hid (below_on HD.out HBNb.out)
                clear hwN hgn
                refine hK.out _ _ (HSF3.out _ HD.out) (fun hHeld => ?_)
                clear hK K
                refine wpAnyH_ready (rs := [12]) (by kernel_rfl) (by simp) ?_
                refine AllReadyH.cons (o := ⟨none, .store 44 (.tmp 21) (.tmp 183), _, _, _, none⟩) rfl (fun K hK => ?_) AllReadyH.nil
                with_reducible refine step_storeR ?_ ?_ (.tmp 21) (.tmp 183) ?_ gnb ?_ (r := zR) ?_ zR_ok zR_ok ?_ (RBox.mk' zR_ok HCNb.out) ?_
                · exact rfl
                · exact rfl
                · exact rfl
                · kernel_rfl
                · kernel_rfl
                · exact rfl
                intro w6b h6 o6
                have HB6b := hid (below_tr HD.out (o6.below HD.out.size (fun i e => by have := HGNb.out; omega)))
                clear h6 o6 HCNb HBNb
                refine hK.out _ _ (HSF3.out _ HB6b.out) (fun hHeld => ?_)
                clear hK K HD HGNb
                refine wpAnyH_take (i := 13) (oi := ⟨some 22, .assign (.tmp 184), _, _, _, none⟩) (v := i64 0) rfl (by kernel_rfl) (by kernel_rfl) (by kernel_rfl) (fun _ _ _ h => h) (Or.inl ⟨by kernel_rfl, by intro W hW; go_simp⟩) hHeld ?_
                refine wpAnyH_take (i := 14) (oi := ⟨some 23, .assign (.tmp 185), _, _, _, none⟩) (v := i64 6) rfl (by kernel_rfl) (by kernel_rfl) (by kernel_rfl) (fun _ _ _ h => h) (Or.inl ⟨by kernel_rfl, by intro W hW; go_simp⟩) hHeld ?_
                refine wpAnyH_done (by kernel_rfl) ?_ _
                simp only [Act.put, List.setIfInBounds_toArray, List.set_cons_zero, List.set_cons_succ]
                clear hHeld
                replace HGL := hid (HGL.out.on HB6b.out)
                replace HCG := hid (HCG.out.below HB6b.out)
                replace HRG := hid (HRG.out.below HB6b.out)
                replace HRB := hid (HRB.out.below HB6b.out)
                have HB12 := hid (below_on HB8.out HB6b.out)
                clear HSF3 HB6b
                go_upto_region 41 with (first
              | ((with_reducible refine wpList_load_at 24 _ rfl ?_ gj 0 ?_ (jC s (.slice pj mj.length cj)) (.struct (Tryd.prog.fieldsOf 24)) ?_ underJrn rfl ?_ ?_); exact rfl; exact rfl; exact HGL.out.cj.wholeJ; exact sizeJ)
              | (go_at_call 21; (with_reducible refine (HNEW.out _ HB12.out).mono ?_); rintro e w10 ⟨z0, rfl, hz0, hpx0, hb10⟩; replace HGL := hid (HGL.out.on hb10); replace HCG := hid (HCG.out.below hb10); replace HRG := hid (HRG.out.below hb10); replace HRB := hid (HRB.out.below hb10); replace HB12 := hid (below_on HB12.out hb10); have hokz0 := hpx0.ok; have hpz0 : z0.r.pv.oneCell' = true := (by obtain ⟨p, c, e, _⟩ := hpx0.one.form; rw [e]; rfl); have HZY0 := hid hz0; have HPX0 := hid hpx0; clear hz0 hpx0 hb10)
              | ((with_reducible refine wpList_allocR rfl rfl ?_); intro w11 g0 hz11 hb11 hg11; have HZ11 := hid hz11; have HB11 := hid hb11; have HG11 := hid hg11; clear hz11 hb11 hg11)
              | ((with_reducible refine wpList_storeR rfl rfl _ _ rfl g0 ?_ (r := z0.r) ?_ zR_ok hokz0 hpz0 HZ11.out ?_); exact rfl; exact rfl; intro w12 h12 o12; have hbs := ownJ HB11.out HG11.out o12; replace HGL := hid (HGL.out.on hbs); replace HCG := hid (HCG.out.below hbs); replace HRG := hid (HRG.out.below hbs); replace HRB := hid (HRB.out.below hbs); replace HB12 := hid (below_on HB12.out hbs); replace HPX0 := hid (HPX0.out.below hbs); have HZ0 := hid h12; clear h12 o12 hbs HZ11 HB11 HG11))
                have HREC : Hid (∀ W, Below w12.heap.size w12 W → Calls Tryd.prog 17 #[.slice pg mg.length cg, .slice p8 n8 c8] W fun e w' => e = .returned (.bool true) ∧ Below W.heap.size W w') := hid (fun W hW => by have := records_any _ _ mg (mw.take q ++ mw.drop (q + 1)) W ((HRG.out.below hW).rl HMG.out) ((HRB.out.below hW).rl (fun y hy => (HGL.out.ew y (mem_cut hy)).below (HGL.out.on hW).below) HLN.out); rw [decide_eq_true HEG.out] at this; exact this)
                have HSA : Hid (∀ W, Below w12.heap.size w12 W → Calls Tryd.prog 19 #[.agg z0.r.cs, .agg y0.r.cs] W fun e w' => e = .returned (.bool true) ∧ Below W.heap.size W w') := hid (fun W hW => by have := same_any z0.r y0.r hokz0 hoky0 z0.ps y0.ps W (HPX0.out.below hW).one.pl (HYO0.out.pl.below (HGL.out.on hW).below); rw [show decide (z0.r.rc z0.ps = y0.r.rc y0.ps) = true from decide_eq_true HZY0.out] at this; exact this)
                have HSF4 : Hid (∀ W, Below w12.heap.size w12 W → (fun W => W.cell? ⟨gna, 0, none⟩ = some (i64 (s + 1)) ∧ W.cell? ⟨gna, 1, none⟩ = some (.slice pg mg.length cg) ∧ W.cell? ⟨gj, 0, none⟩ = some (i64 s) ∧ (Instr.loadAt 44 (.pointer (some ⟨g0, 0, none⟩))).run Tryd.prog W = .ok (.agg z0.r.cs) W ∧ (Instr.loadAt 44 (.pointer (some ⟨bw, ow, none⟩))).run Tryd.prog W = .ok (.agg y0.r.cs) W) W) := hid (fun W hW => ⟨(HCG.out.below hW).j0, (HCG.out.below hW).j1, (HGL.out.cj.below hW).j0, run_loadR hokz0 (HZ0.out.below hokz0 hW), run_loadM hoky0 (HRY0.out _ (below_on HB12.out hW))⟩)
                have hw1 : IntKind.i64.wrap (s + 1) = s + 1 := by rw [IntKind.wrap_i64]; have := HGL.out.len.2.2; omega
                go_upto_region 41 with fail
                refine wp_region_held_drew (S := fun W => W.cell? ⟨gna, 0, none⟩ = some (i64 (s + 1)) ∧ W.cell? ⟨gna, 1, none⟩ = some (.slice pg mg.length cg) ∧ W.cell? ⟨gj, 0, none⟩ = some (i64 s) ∧ (Instr.loadAt 44 (.pointer (some ⟨g0, 0, none⟩))).run Tryd.prog W = .ok (.agg z0.r.cs) W ∧ (Instr.loadAt 44 (.pointer (some ⟨bw, ow, none⟩))).run Tryd.prog W = .ok (.agg y0.r.cs) W) (by kernel_rfl) (HSF4.out _ (below_drew _)) (fun hHeld => ?_)
                have HD := hid (below_drew w12)
                refine wpAnyH_take (i := 0) (oi := ⟨some 191, .move (.tmp 5), _, _, _, none⟩) (v := .bool true) rfl (by kernel_rfl) (by kernel_rfl) (by kernel_rfl) (fun _ _ _ h => h) (Or.inl ⟨by kernel_rfl, by intro W hW; go_simp⟩) hHeld ?_
                refine wpAnyH_take (i := 1) (oi := ⟨some 192, .move (.tmp 191), _, _, _, none⟩) (v := .bool true) rfl (by kernel_rfl) (by kernel_rfl) (by kernel_rfl) (fun _ _ _ h => h) (Or.inl ⟨by kernel_rfl, by intro W hW; go_simp⟩) hHeld ?_
                refine wpAnyH_take (i := 2) (oi := ⟨some 193, .move (.tmp 19), _, _, _, some (1, true)⟩) (v := i64 0) rfl (by kernel_rfl) (by kernel_rfl) (by kernel_rfl) (fun _ _ _ h => h) (Or.inl ⟨by kernel_rfl, by intro W hW; go_simp⟩) hHeld ?_
                refine wpAnyH_take (i := 3) (oi := ⟨some 194, .binOp .eql 28 (.tmp 193) (.const (.int .i64 0)) 28, _, _, _, some (1, true)⟩) (v := .bool true) rfl (by kernel_rfl) (by kernel_rfl) (by kernel_rfl) (fun _ _ _ h => h) (Or.inl ⟨by kernel_rfl, by intro W hW; go_simp⟩) hHeld ?_
                refine wpAnyH_take (i := 4) (oi := ⟨some 195, .pick (.tmp 192) (.tmp 194) (.const (.bool false)), _, _, _, none⟩) (v := .bool true) rfl (by kernel_rfl) (by kernel_rfl) (by kernel_rfl) (fun _ _ _ h => h) (Or.inl ⟨by kernel_rfl, by intro W hW; go_simp⟩) hHeld ?_
                refine wpAnyH_take (i := 5) (oi := ⟨some 196, .move (.tmp 195), _, _, _, none⟩) (v := .bool true) rfl (by kernel_rfl) (by kernel_rfl) (by kernel_rfl) (fun _ _ _ h => h) (Or.inl ⟨by kernel_rfl, by intro W hW; go_simp⟩) hHeld ?_
                refine wpAnyH_take (i := 6) (oi := ⟨some 197, .fieldAddr 24 (.tmp 18) 0, _, _, _, some (5, true)⟩) (v := .pointer (some ⟨gna, 0, none⟩)) rfl (by kernel_rfl) (by kernel_rfl) (by kernel_rfl) (fun _ _ _ h => h) (Or.inl ⟨by kernel_rfl, by intro W hW; go_simp⟩) hHeld ?_
                refine wpAnyH_take (i := 7) (oi := ⟨some 198, .load 3 (.tmp 197), _, _, _, some (5, true)⟩) (v := i64 (s + 1)) rfl (by kernel_rfl) (by kernel_rfl) (by kernel_rfl) (fun _ _ _ h => h) (Or.inl ⟨by kernel_rfl, by intro W hW; have q0 := hW.1; go_simp⟩) hHeld ?_
                refine wpAnyH_take (i := 8) (oi := ⟨some 199, .fieldAddr 24 (.tmp 6) 0, _, _, _, some (5, true)⟩) (v := .pointer (some ⟨gj, 0, none⟩)) rfl (by kernel_rfl) (by kernel_rfl) (by kernel_rfl) (fun _ _ _ h => h) (Or.inl ⟨by kernel_rfl, by intro W hW; go_simp⟩) hHeld ?_
                refine wpAnyH_take (i := 9) (oi := ⟨some 200, .load 3 (.tmp 199), _, _, _, some (5, true)⟩) (v := i64 s) rfl (by kernel_rfl) (by kernel_rfl) (by kernel_rfl) (fun _ _ _ h => h) (Or.inl ⟨by kernel_rfl, by intro W hW; have q0 := hW.2.2.1; go_simp⟩) hHeld ?_
                refine wpAnyH_take (i := 10) (oi := ⟨some 201, .binOp .add 3 (.tmp 200) (.const (.int .i64 1)) 3, _, _, _, some (5, true)⟩) (v := i64 (s + 1)) rfl (by kernel_rfl) (by kernel_rfl) (by kernel_rfl) (fun _ _ _ h => h) (Or.inl ⟨by kernel_rfl, by intro W hW; go_simp⟩) hHeld ?_
                refine wpAnyH_take (i := 11) (oi := ⟨some 202, .binOp .eql 3 (.tmp 198) (.tmp 201) 3, _, _, _, some (5, true)⟩) (v := .bool true) rfl (by kernel_rfl) (by kernel_rfl) (by kernel_rfl) (fun _ _ _ h => h) (Or.inl ⟨by kernel_rfl, by intro W hW; go_simp⟩) hHeld ?_
                refine wpAnyH_take (i := 12) (oi := ⟨some 203, .pick (.tmp 196) (.tmp 202) (.const (.bool false)), _, _, _, none⟩) (v := .bool true) rfl (by kernel_rfl) (by kernel_rfl) (by kernel_rfl) (fun _ _ _ h => h) (Or.inl ⟨by kernel_rfl, by intro W hW; go_simp⟩) hHeld ?_
                refine wpAnyH_take (i := 13) (oi := ⟨some 204, .move (.tmp 203), _, _, _, none⟩) (v := .bool true) rfl (by kernel_rfl) (by kernel_rfl) (by kernel_rfl) (fun _ _ _ h => h) (Or.inl ⟨by kernel_rfl, by intro W hW; go_simp⟩) hHeld ?_
                refine wpAnyH_take (i := 14) (oi := ⟨some 205, .fieldAddr 24 (.tmp 18) 1, _, _, _, some (13, true)⟩) (v := .pointer (some ⟨gna, 1, none⟩)) rfl (by kernel_rfl) (by kernel_rfl) (by kernel_rfl) (fun _ _ _ h => h) (Or.inl ⟨by kernel_rfl, by intro W hW; go_simp⟩) hHeld ?_
                refine wpAnyH_take (i := 15) (oi := ⟨some 206, .load 22 (.tmp 205), _, _, _, some (13, true)⟩) (v := .slice pg mg.length cg) rfl (by kernel_rfl) (by kernel_rfl) (by kernel_rfl) (fun _ _ _ h => h) (Or.inl ⟨by kernel_rfl, by intro W hW; have q0 := hW.2.1; go_simp⟩) hHeld ?_
                refine wpAnyH_take (i := 16) (oi := ⟨some 207, .move (.tmp 20), _, _, _, some (13, true)⟩) (v := .slice p8 n8 c8) rfl (by kernel_rfl) (by kernel_rfl) (by kernel_rfl) (fun _ _ _ h => h) (Or.inl ⟨by kernel_rfl, by intro W hW; go_simp⟩) hHeld ?_
                refine wpAnyH_ready (rs := [17]) (by kernel_rfl) (by simp) ?_
                refine AllReadyH.cons rfl (fun K hK => ?_) AllReadyH.nil
                go_simp
                refine (HREC.out _ HD.out).mono ?_
                rintro e w13 ⟨rfl, hb13⟩
                replace HD := hid (below_on HD.out hb13)
                clear hb13
                go_wp2_with fail
                refine hK.out _ _ (HSF4.out _ HD.out) (fun hHeld => ?_)
                clear hK K
                refine wpAnyH_take (i := 18) (oi := ⟨some 209, .pick (.tmp 204) (.tmp 208) (.const (.bool false)), _, _, _, none⟩) (v := .bool true) rfl (by kernel_rfl) (by kernel_rfl) (by kernel_rfl) (fun _ _ _ h => h) (Or.inl ⟨by kernel_rfl, by intro W hW; go_simp⟩) hHeld ?_
                refine wpAnyH_take (i := 19) (oi := ⟨some 210, .move (.tmp 209), _, _, _, none⟩) (v := .bool true) rfl (by kernel_rfl) (by kernel_rfl) (by kernel_rfl) (fun _ _ _ h => h) (Or.inl ⟨by kernel_rfl, by intro W hW; go_simp⟩) hHeld ?_
                refine wpAnyH_take (i := 20) (oi := ⟨some 211, .move (.tmp 23), _, _, _, some (19, true)⟩) (v := i64 6) rfl (by kernel_rfl) (by kernel_rfl) (by kernel_rfl) (fun _ _ _ h => h) (Or.inl ⟨by kernel_rfl, by intro W hW; go_simp⟩) hHeld ?_
                refine wpAnyH_take (i := 21) (oi := ⟨some 212, .binOp .eql 28 (.tmp 211) (.const (.int .i64 6)) 28, _, _, _, some (19, true)⟩) (v := .bool true) rfl (by kernel_rfl) (by kernel_rfl) (by kernel_rfl) (fun _ _ _ h => h) (Or.inl ⟨by kernel_rfl, by intro W hW; go_simp⟩) hHeld ?_
                refine wpAnyH_take (i := 22) (oi := ⟨some 213, .pick (.tmp 210) (.tmp 212) (.const (.bool false)), _, _, _, none⟩) (v := .bool true) rfl (by kernel_rfl) (by kernel_rfl) (by kernel_rfl) (fun _ _ _ h => h) (Or.inl ⟨by kernel_rfl, by intro W hW; go_simp⟩) hHeld ?_
                refine wpAnyH_take (i := 23) (oi := ⟨some 214, .move (.tmp 213), _, _, _, none⟩) (v := .bool true) rfl (by kernel_rfl) (by kernel_rfl) (by kernel_rfl) (fun _ _ _ h => h) (Or.inl ⟨by kernel_rfl, by intro W hW; go_simp⟩) hHeld ?_
                refine wpAnyH_take (i := 24) (oi := ⟨some 215, .move (.tmp 25), _, _, _, some (23, true)⟩) (v := i64 0) rfl (by kernel_rfl) (by kernel_rfl) (by kernel_rfl) (fun _ _ _ h => h) (Or.inl ⟨by kernel_rfl, by intro W hW; go_simp⟩) hHeld ?_
                refine wpAnyH_take (i := 25) (oi := ⟨some 216, .binOp .eql 28 (.tmp 215) (.const (.int .i64 0)) 28, _, _, _, some (23, true)⟩) (v := .bool true) rfl (by kernel_rfl) (by kernel_rfl) (by kernel_rfl) (fun _ _ _ h => h) (Or.inl ⟨by kernel_rfl, by intro W hW; go_simp⟩) hHeld ?_
                refine wpAnyH_take (i := 26) (oi := ⟨some 217, .pick (.tmp 214) (.tmp 216) (.const (.bool false)), _, _, _, none⟩) (v := .bool true) rfl (by kernel_rfl) (by kernel_rfl) (by kernel_rfl) (fun _ _ _ h => h) (Or.inl ⟨by kernel_rfl, by intro W hW; go_simp⟩) hHeld ?_
                refine wpAnyH_take (i := 27) (oi := ⟨some 218, .move (.tmp 217), _, _, _, none⟩) (v := .bool true) rfl (by kernel_rfl) (by kernel_rfl) (by kernel_rfl) (fun _ _ _ h => h) (Or.inl ⟨by kernel_rfl, by intro W hW; go_simp⟩) hHeld ?_
                refine wpAnyH_take (i := 28) (oi := ⟨some 219, .load 44 (.tmp 24), _, _, _, some (27, true)⟩) (v := .agg z0.r.cs) rfl (by kernel_rfl) (by kernel_rfl) (by kernel_rfl) (fun _ _ _ h => h) (Or.inl ⟨by kernel_rfl, fun W hW => exec_load rfl (by kernel_rfl) hW.2.2.2.1⟩) hHeld ?_
                refine wpAnyH_take (i := 29) (oi := ⟨some 220, .move (.tmp 7), _, _, _, some (27, true)⟩) (v := .slice (some ⟨bw, ow, none⟩) mw.length cw) rfl (by kernel_rfl) (by kernel_rfl) (by kernel_rfl) (fun _ _ _ h => h) (Or.inl ⟨by kernel_rfl, by intro W hW; go_simp⟩) hHeld ?_
                refine wpAnyH_take (i := 30) (oi := ⟨some 221, .indexAddr 22 (.tmp 220) (.const (.int .i64 0)), _, _, _, some (27, true)⟩) (v := .pointer (some ⟨bw, ow, none⟩)) rfl (by kernel_rfl) (by kernel_rfl) (by kernel_rfl) (fun _ _ _ h => h) (Or.inl ⟨by kernel_rfl, by intro W hW; go_simp; intro e; exact absurd hql (by rw [e]; exact Nat.not_lt_zero _)⟩) hHeld ?_
                refine wpAnyH_take (i := 31) (oi := ⟨some 222, .load 44 (.tmp 221), _, _, _, some (27, true)⟩) (v := .agg y0.r.cs) rfl (by kernel_rfl) (by kernel_rfl) (by kernel_rfl) (fun _ _ _ h => h) (Or.inl ⟨by kernel_rfl, fun W hW => exec_load rfl (by kernel_rfl) hW.2.2.2.2⟩) hHeld ?_
                refine wpAnyH_ready (rs := [32]) (by kernel_rfl) (by simp) ?_
                refine AllReadyH.cons rfl (fun K hK => ?_) AllReadyH.nil
                go_simp
                refine (HSA.out _ HD.out).mono ?_
                rintro e w14 ⟨rfl, hb14⟩
                replace HD := hid (below_on HD.out hb14)
                clear hb14
                go_wp2_with fail
                refine hK.out _ _ (HSF4.out _ HD.out) (fun hHeld => ?_)
                clear hK K
                refine wpAnyH_take (i := 33) (oi := ⟨some 224, .pick (.tmp 218) (.tmp 223) (.const (.bool false)), _, _, _, none⟩) (v := .bool true) rfl (by kernel_rfl) (by kernel_rfl) (by kernel_rfl) (fun _ _ _ h => h) (Or.inl ⟨by kernel_rfl, by intro W hW; go_simp⟩) hHeld ?_
                refine wpAnyH_take (i := 34) (oi := ⟨some 4, .assign (.tmp 224), _, _, _, none⟩) (v := .bool true) rfl (by kernel_rfl) (by kernel_rfl) (by kernel_rfl) (fun _ _ _ h => h) (Or.inl ⟨by kernel_rfl, by intro W hW; go_simp⟩) hHeld ?_
                refine wpAnyH_done (by kernel_rfl) ?_ _
                simp only [Act.put, List.setIfInBounds_toArray, List.set_cons_zero, List.set_cons_succ]
                go_wp2
                go_ret
                exact ⟨rfl, below_on HGL.out.below HD.out⟩
              · with_reducible refine step_run_val ?_ (ptr w8.drew.heap.size) (w8.drew.alloc (.cells zR.cs 44)) ?_ ?_
                · exact rfl
                · exact exec_allocR rfl
                have HCNb := hid (CAt.made w8.drew zR.cs 44)
                have HBNb := hid (below_al w8.drew (.cells zR.cs 44))
                generalize hwN : w8.drew.alloc (.cells zR.cs 44) = wNb at HCNb HBNb  ⊢
                have HGNb := hid (show w8.heap.size ≤ w8.drew.heap.size from HD.out.size)
                generalize hgn : w8.drew.heap.size = gnb at HCNb HGNb ⊢
                replace HD := hid (below_on HD.out HBNb.out)
                clear hwN hgn
                refine hK.out _ _ (HSF3.out _ HD.out) (fun hHeld => ?_)
                clear hK K
                refine wpAnyH_ready (rs := [6]) (by kernel_rfl) (by simp) ?_
                refine AllReadyH.cons rfl (fun K hK => ?_) AllReadyH.nil
                go_simp
                refine (HGONE.out _ mg HEG.out _ ((HRG.out.below HD.out).rl HMG.out)).mono ?_
                rintro e w5b ⟨rfl, hb5b⟩
                replace HD := hid (below_on HD.out hb5b)
                replace HCNb := hid (HCNb.out.below hb5b)
                clear hb5b
                go_wp2_with fail
                refine hK.out _ _ (HSF3.out _ HD.out) (fun hHeld => ?_)
                clear hK K
                refine wpAnyH_take (i := 7) (oi := ⟨some 175, .move (.tmp 182), _, _, _, none⟩) (v := .tuple #[.agg zR.cs, i64 0, i64 6]) rfl (by kernel_rfl) (by kernel_rfl) (by kernel_rfl) (fun _ _ _ h => h) (Or.inl ⟨by kernel_rfl, by intro W hW; go_simp⟩) hHeld ?_
                refine wpAnyH_take (i := 8) (oi := ⟨some 183, .extract (.tmp 175) 0, _, _, _, none⟩) (v := .agg zR.cs) rfl (by kernel_rfl) (by kernel_rfl) (by kernel_rfl) (fun _ _ _ h => h) (Or.inl ⟨by kernel_rfl, by intro W hW; go_simp⟩) hHeld ?_
                refine wpAnyH_take (i := 9) (oi := ⟨some 184, .extract (.tmp 175) 1, _, _, _, none⟩) (v := i64 0) rfl (by kernel_rfl) (by kernel_rfl) (by kernel_rfl) (fun _ _ _ h => h) (Or.inl ⟨by kernel_rfl, by intro W hW; go_simp⟩) hHeld ?_
                refine wpAnyH_take (i := 10) (oi := ⟨some 185, .extract (.tmp 175) 2, _, _, _, none⟩) (v := i64 6) rfl (by kernel_rfl) (by kernel_rfl) (by kernel_rfl) (fun _ _ _ h => h) (Or.inl ⟨by kernel_rfl, by intro W hW; go_simp⟩) hHeld ?_
                refine wpAnyH_ready (rs := [12]) (by kernel_rfl) (by simp) ?_
                refine AllReadyH.cons (o := ⟨none, .store 44 (.tmp 21) (.tmp 183), _, _, _, none⟩) rfl (fun K hK => ?_) AllReadyH.nil
                with_reducible refine step_storeR ?_ ?_ (.tmp 21) (.tmp 183) ?_ gnb ?_ (r := zR) ?_ zR_ok zR_ok ?_ (RBox.mk' zR_ok HCNb.out) ?_
                · exact rfl
                · exact rfl
                · exact rfl
                · kernel_rfl
                · kernel_rfl
                · exact rfl
                intro w6b h6 o6
                have HB6b := hid (below_tr HD.out (o6.below HD.out.size (fun i e => by have := HGNb.out; omega)))
                clear h6 o6 HCNb HBNb
                refine hK.out _ _ (HSF3.out _ HB6b.out) (fun hHeld => ?_)
                clear hK K HD HGNb
                refine wpAnyH_take (i := 13) (oi := ⟨some 22, .assign (.tmp 184), _, _, _, none⟩) (v := i64 0) rfl (by kernel_rfl) (by kernel_rfl) (by kernel_rfl) (fun _ _ _ h => h) (Or.inl ⟨by kernel_rfl, by intro W hW; go_simp⟩) hHeld ?_
                refine wpAnyH_take (i := 14) (oi := ⟨some 23, .assign (.tmp 185), _, _, _, none⟩) (v := i64 6) rfl (by kernel_rfl) (by kernel_rfl) (by kernel_rfl) (fun _ _ _ h => h) (Or.inl ⟨by kernel_rfl, by intro W hW; go_simp⟩) hHeld ?_
                refine wpAnyH_done (by kernel_rfl) ?_ _
                simp only [Act.put, List.setIfInBounds_toArray, List.set_cons_zero, List.set_cons_succ]
                clear hHeld
                replace HGL := hid (HGL.out.on HB6b.out)
                replace HCG := hid (HCG.out.below HB6b.out)
                replace HRG := hid (HRG.out.below HB6b.out)
                replace HRB := hid (HRB.out.below HB6b.out)
                have HB12 := hid (below_on HB8.out HB6b.out)
                clear HSF3 HB6b
                go_upto_region 41 with (first
              | ((with_reducible refine wpList_load_at 24 _ rfl ?_ gj 0 ?_ (jC s (.slice pj mj.length cj)) (.struct (Tryd.prog.fieldsOf 24)) ?_ underJrn rfl ?_ ?_); exact rfl; exact rfl; exact HGL.out.cj.wholeJ; exact sizeJ)
              | (go_at_call 21; (with_reducible refine (HNEW.out _ HB12.out).mono ?_); rintro e w10 ⟨z0, rfl, hz0, hpx0, hb10⟩; replace HGL := hid (HGL.out.on hb10); replace HCG := hid (HCG.out.below hb10); replace HRG := hid (HRG.out.below hb10); replace HRB := hid (HRB.out.below hb10); replace HB12 := hid (below_on HB12.out hb10); have hokz0 := hpx0.ok; have hpz0 : z0.r.pv.oneCell' = true := (by obtain ⟨p, c, e, _⟩ := hpx0.one.form; rw [e]; rfl); have HZY0 := hid hz0; have HPX0 := hid hpx0; clear hz0 hpx0 hb10)
              | ((with_reducible refine wpList_allocR rfl rfl ?_); intro w11 g0 hz11 hb11 hg11; have HZ11 := hid hz11; have HB11 := hid hb11; have HG11 := hid hg11; clear hz11 hb11 hg11)
              | ((with_reducible refine wpList_storeR rfl rfl _ _ rfl g0 ?_ (r := z0.r) ?_ zR_ok hokz0 hpz0 HZ11.out ?_); exact rfl; exact rfl; intro w12 h12 o12; have hbs := ownJ HB11.out HG11.out o12; replace HGL := hid (HGL.out.on hbs); replace HCG := hid (HCG.out.below hbs); replace HRG := hid (HRG.out.below hbs); replace HRB := hid (HRB.out.below hbs); replace HB12 := hid (below_on HB12.out hbs); replace HPX0 := hid (HPX0.out.below hbs); have HZ0 := hid h12; clear h12 o12 hbs HZ11 HB11 HG11))
                have HREC : Hid (∀ W, Below w12.heap.size w12 W → Calls Tryd.prog 17 #[.slice pg mg.length cg, .slice p8 n8 c8] W fun e w' => e = .returned (.bool true) ∧ Below W.heap.size W w') := hid (fun W hW => by have := records_any _ _ mg (mw.take q ++ mw.drop (q + 1)) W ((HRG.out.below hW).rl HMG.out) ((HRB.out.below hW).rl (fun y hy => (HGL.out.ew y (mem_cut hy)).below (HGL.out.on hW).below) HLN.out); rw [decide_eq_true HEG.out] at this; exact this)
                have HSA : Hid (∀ W, Below w12.heap.size w12 W → Calls Tryd.prog 19 #[.agg z0.r.cs, .agg y0.r.cs] W fun e w' => e = .returned (.bool true) ∧ Below W.heap.size W w') := hid (fun W hW => by have := same_any z0.r y0.r hokz0 hoky0 z0.ps y0.ps W (HPX0.out.below hW).one.pl (HYO0.out.pl.below (HGL.out.on hW).below); rw [show decide (z0.r.rc z0.ps = y0.r.rc y0.ps) = true from decide_eq_true HZY0.out] at this; exact this)
                have HSF4 : Hid (∀ W, Below w12.heap.size w12 W → (fun W => W.cell? ⟨gna, 0, none⟩ = some (i64 (s + 1)) ∧ W.cell? ⟨gna, 1, none⟩ = some (.slice pg mg.length cg) ∧ W.cell? ⟨gj, 0, none⟩ = some (i64 s) ∧ (Instr.loadAt 44 (.pointer (some ⟨g0, 0, none⟩))).run Tryd.prog W = .ok (.agg z0.r.cs) W ∧ (Instr.loadAt 44 (.pointer (some ⟨bw, ow, none⟩))).run Tryd.prog W = .ok (.agg y0.r.cs) W) W) := hid (fun W hW => ⟨(HCG.out.below hW).j0, (HCG.out.below hW).j1, (HGL.out.cj.below hW).j0, run_loadR hokz0 (HZ0.out.below hokz0 hW), run_loadM hoky0 (HRY0.out _ (below_on HB12.out hW))⟩)
                have hw1 : IntKind.i64.wrap (s + 1) = s + 1 := by rw [IntKind.wrap_i64]; have := HGL.out.len.2.2; omega
                go_upto_region 41 with fail
                refine wp_region_held_drew (S := fun W => W.cell? ⟨gna, 0, none⟩ = some (i64 (s + 1)) ∧ W.cell? ⟨gna, 1, none⟩ = some (.slice pg mg.length cg) ∧ W.cell? ⟨gj, 0, none⟩ = some (i64 s) ∧ (Instr.loadAt 44 (.pointer (some ⟨g0, 0, none⟩))).run Tryd.prog W = .ok (.agg z0.r.cs) W ∧ (Instr.loadAt 44 (.pointer (some ⟨bw, ow, none⟩))).run Tryd.prog W = .ok (.agg y0.r.cs) W) (by kernel_rfl) (HSF4.out _ (below_drew _)) (fun hHeld => ?_)
                have HD := hid (below_drew w12)
                refine wpAnyH_take (i := 0) (oi := ⟨some 191, .move (.tmp 5), _, _, _, none⟩) (v := .bool true) rfl (by kernel_rfl) (by kernel_rfl) (by kernel_rfl) (fun _ _ _ h => h) (Or.inl ⟨by kernel_rfl, by intro W hW; go_simp⟩) hHeld ?_
                refine wpAnyH_take (i := 1) (oi := ⟨some 192, .move (.tmp 191), _, _, _, none⟩) (v := .bool true) rfl (by kernel_rfl) (by kernel_rfl) (by kernel_rfl) (fun _ _ _ h => h) (Or.inl ⟨by kernel_rfl, by intro W hW; go_simp⟩) hHeld ?_
                refine wpAnyH_take (i := 2) (oi := ⟨some 193, .move (.tmp 19), _, _, _, some (1, true)⟩) (v := i64 0) rfl (by kernel_rfl) (by kernel_rfl) (by kernel_rfl) (fun _ _ _ h => h) (Or.inl ⟨by kernel_rfl, by intro W hW; go_simp⟩) hHeld ?_
                refine wpAnyH_take (i := 3) (oi := ⟨some 194, .binOp .eql 28 (.tmp 193) (.const (.int .i64 0)) 28, _, _, _, some (1, true)⟩) (v := .bool true) rfl (by kernel_rfl) (by kernel_rfl) (by kernel_rfl) (fun _ _ _ h => h) (Or.inl ⟨by kernel_rfl, by intro W hW; go_simp⟩) hHeld ?_
                refine wpAnyH_take (i := 4) (oi := ⟨some 195, .pick (.tmp 192) (.tmp 194) (.const (.bool false)), _, _, _, none⟩) (v := .bool true) rfl (by kernel_rfl) (by kernel_rfl) (by kernel_rfl) (fun _ _ _ h => h) (Or.inl ⟨by kernel_rfl, by intro W hW; go_simp⟩) hHeld ?_
                refine wpAnyH_take (i := 5) (oi := ⟨some 196, .move (.tmp 195), _, _, _, none⟩) (v := .bool true) rfl (by kernel_rfl) (by kernel_rfl) (by kernel_rfl) (fun _ _ _ h => h) (Or.inl ⟨by kernel_rfl, by intro W hW; go_simp⟩) hHeld ?_
                refine wpAnyH_take (i := 6) (oi := ⟨some 197, .fieldAddr 24 (.tmp 18) 0, _, _, _, some (5, true)⟩) (v := .pointer (some ⟨gna, 0, none⟩)) rfl (by kernel_rfl) (by kernel_rfl) (by kernel_rfl) (fun _ _ _ h => h) (Or.inl ⟨by kernel_rfl, by intro W hW; go_simp⟩) hHeld ?_
                refine wpAnyH_take (i := 7) (oi := ⟨some 198, .load 3 (.tmp 197), _, _, _, some (5, true)⟩) (v := i64 (s + 1)) rfl (by kernel_rfl) (by kernel_rfl) (by kernel_rfl) (fun _ _ _ h => h) (Or.inl ⟨by kernel_rfl, by intro W hW; have q0 := hW.1; go_simp⟩) hHeld ?_
                refine wpAnyH_take (i := 8) (oi := ⟨some 199, .fieldAddr 24 (.tmp 6) 0, _, _, _, some (5, true)⟩) (v := .pointer (some ⟨gj, 0, none⟩)) rfl (by kernel_rfl) (by kernel_rfl) (by kernel_rfl) (fun _ _ _ h => h) (Or.inl ⟨by kernel_rfl, by intro W hW; go_simp⟩) hHeld ?_
                refine wpAnyH_take (i := 9) (oi := ⟨some 200, .load 3 (.tmp 199), _, _, _, some (5, true)⟩) (v := i64 s) rfl (by kernel_rfl) (by kernel_rfl) (by kernel_rfl) (fun _ _ _ h => h) (Or.inl ⟨by kernel_rfl, by intro W hW; have q0 := hW.2.2.1; go_simp⟩) hHeld ?_
                refine wpAnyH_take (i := 10) (oi := ⟨some 201, .binOp .add 3 (.tmp 200) (.const (.int .i64 1)) 3, _, _, _, some (5, true)⟩) (v := i64 (s + 1)) rfl (by kernel_rfl) (by kernel_rfl) (by kernel_rfl) (fun _ _ _ h => h) (Or.inl ⟨by kernel_rfl, by intro W hW; go_simp⟩) hHeld ?_
                refine wpAnyH_take (i := 11) (oi := ⟨some 202, .binOp .eql 3 (.tmp 198) (.tmp 201) 3, _, _, _, some (5, true)⟩) (v := .bool true) rfl (by kernel_rfl) (by kernel_rfl) (by kernel_rfl) (fun _ _ _ h => h) (Or.inl ⟨by kernel_rfl, by intro W hW; go_simp⟩) hHeld ?_
                refine wpAnyH_take (i := 12) (oi := ⟨some 203, .pick (.tmp 196) (.tmp 202) (.const (.bool false)), _, _, _, none⟩) (v := .bool true) rfl (by kernel_rfl) (by kernel_rfl) (by kernel_rfl) (fun _ _ _ h => h) (Or.inl ⟨by kernel_rfl, by intro W hW; go_simp⟩) hHeld ?_
                refine wpAnyH_take (i := 13) (oi := ⟨some 204, .move (.tmp 203), _, _, _, none⟩) (v := .bool true) rfl (by kernel_rfl) (by kernel_rfl) (by kernel_rfl) (fun _ _ _ h => h) (Or.inl ⟨by kernel_rfl, by intro W hW; go_simp⟩) hHeld ?_
                refine wpAnyH_take (i := 14) (oi := ⟨some 205, .fieldAddr 24 (.tmp 18) 1, _, _, _, some (13, true)⟩) (v := .pointer (some ⟨gna, 1, none⟩)) rfl (by kernel_rfl) (by kernel_rfl) (by kernel_rfl) (fun _ _ _ h => h) (Or.inl ⟨by kernel_rfl, by intro W hW; go_simp⟩) hHeld ?_
                refine wpAnyH_take (i := 15) (oi := ⟨some 206, .load 22 (.tmp 205), _, _, _, some (13, true)⟩) (v := .slice pg mg.length cg) rfl (by kernel_rfl) (by kernel_rfl) (by kernel_rfl) (fun _ _ _ h => h) (Or.inl ⟨by kernel_rfl, by intro W hW; have q0 := hW.2.1; go_simp⟩) hHeld ?_
                refine wpAnyH_take (i := 16) (oi := ⟨some 207, .move (.tmp 20), _, _, _, some (13, true)⟩) (v := .slice p8 n8 c8) rfl (by kernel_rfl) (by kernel_rfl) (by kernel_rfl) (fun _ _ _ h => h) (Or.inl ⟨by kernel_rfl, by intro W hW; go_simp⟩) hHeld ?_
                refine wpAnyH_ready (rs := [17]) (by kernel_rfl) (by simp) ?_
                refine AllReadyH.cons rfl (fun K hK => ?_) AllReadyH.nil
                go_simp
                refine (HREC.out _ HD.out).mono ?_
                rintro e w13 ⟨rfl, hb13⟩
                replace HD := hid (below_on HD.out hb13)
                clear hb13
                go_wp2_with fail
                refine hK.out _ _ (HSF4.out _ HD.out) (fun hHeld => ?_)
                clear hK K
                refine wpAnyH_take (i := 18) (oi := ⟨some 209, .pick (.tmp 204) (.tmp 208) (.const (.bool false)), _, _, _, none⟩) (v := .bool true) rfl (by kernel_rfl) (by kernel_rfl) (by kernel_rfl) (fun _ _ _ h => h) (Or.inl ⟨by kernel_rfl, by intro W hW; go_simp⟩) hHeld ?_
                refine wpAnyH_take (i := 19) (oi := ⟨some 210, .move (.tmp 209), _, _, _, none⟩) (v := .bool true) rfl (by kernel_rfl) (by kernel_rfl) (by kernel_rfl) (fun _ _ _ h => h) (Or.inl ⟨by kernel_rfl, by intro W hW; go_simp⟩) hHeld ?_
                refine wpAnyH_take (i := 20) (oi := ⟨some 211, .move (.tmp 23), _, _, _, some (19, true)⟩) (v := i64 6) rfl (by kernel_rfl) (by kernel_rfl) (by kernel_rfl) (fun _ _ _ h => h) (Or.inl ⟨by kernel_rfl, by intro W hW; go_simp⟩) hHeld ?_
                refine wpAnyH_take (i := 21) (oi := ⟨some 212, .binOp .eql 28 (.tmp 211) (.const (.int .i64 6)) 28, _, _, _, some (19, true)⟩) (v := .bool true) rfl (by kernel_rfl) (by kernel_rfl) (by kernel_rfl) (fun _ _ _ h => h) (Or.inl ⟨by kernel_rfl, by intro W hW; go_simp⟩) hHeld ?_
                refine wpAnyH_take (i := 22) (oi := ⟨some 213, .pick (.tmp 210) (.tmp 212) (.const (.bool false)), _, _, _, none⟩) (v := .bool true) rfl (by kernel_rfl) (by kernel_rfl) (by kernel_rfl) (fun _ _ _ h => h) (Or.inl ⟨by kernel_rfl, by intro W hW; go_simp⟩) hHeld ?_
                refine wpAnyH_take (i := 23) (oi := ⟨some 214, .move (.tmp 213), _, _, _, none⟩) (v := .bool true) rfl (by kernel_rfl) (by kernel_rfl) (by kernel_rfl) (fun _ _ _ h => h) (Or.inl ⟨by kernel_rfl, by intro W hW; go_simp⟩) hHeld ?_
                refine wpAnyH_take (i := 24) (oi := ⟨some 215, .move (.tmp 25), _, _, _, some (23, true)⟩) (v := i64 0) rfl (by kernel_rfl) (by kernel_rfl) (by kernel_rfl) (fun _ _ _ h => h) (Or.inl ⟨by kernel_rfl, by intro W hW; go_simp⟩) hHeld ?_
                refine wpAnyH_take (i := 25) (oi := ⟨some 216, .binOp .eql 28 (.tmp 215) (.const (.int .i64 0)) 28, _, _, _, some (23, true)⟩) (v := .bool true) rfl (by kernel_rfl) (by kernel_rfl) (by kernel_rfl) (fun _ _ _ h => h) (Or.inl ⟨by kernel_rfl, by intro W hW; go_simp⟩) hHeld ?_
                refine wpAnyH_take (i := 26) (oi := ⟨some 217, .pick (.tmp 214) (.tmp 216) (.const (.bool false)), _, _, _, none⟩) (v := .bool true) rfl (by kernel_rfl) (by kernel_rfl) (by kernel_rfl) (fun _ _ _ h => h) (Or.inl ⟨by kernel_rfl, by intro W hW; go_simp⟩) hHeld ?_
                refine wpAnyH_take (i := 27) (oi := ⟨some 218, .move (.tmp 217), _, _, _, none⟩) (v := .bool true) rfl (by kernel_rfl) (by kernel_rfl) (by kernel_rfl) (fun _ _ _ h => h) (Or.inl ⟨by kernel_rfl, by intro W hW; go_simp⟩) hHeld ?_
                refine wpAnyH_take (i := 28) (oi := ⟨some 219, .load 44 (.tmp 24), _, _, _, some (27, true)⟩) (v := .agg z0.r.cs) rfl (by kernel_rfl) (by kernel_rfl) (by kernel_rfl) (fun _ _ _ h => h) (Or.inl ⟨by kernel_rfl, fun W hW => exec_load rfl (by kernel_rfl) hW.2.2.2.1⟩) hHeld ?_
                refine wpAnyH_take (i := 29) (oi := ⟨some 220, .move (.tmp 7), _, _, _, some (27, true)⟩) (v := .slice (some ⟨bw, ow, none⟩) mw.length cw) rfl (by kernel_rfl) (by kernel_rfl) (by kernel_rfl) (fun _ _ _ h => h) (Or.inl ⟨by kernel_rfl, by intro W hW; go_simp⟩) hHeld ?_
                refine wpAnyH_take (i := 30) (oi := ⟨some 221, .indexAddr 22 (.tmp 220) (.const (.int .i64 0)), _, _, _, some (27, true)⟩) (v := .pointer (some ⟨bw, ow, none⟩)) rfl (by kernel_rfl) (by kernel_rfl) (by kernel_rfl) (fun _ _ _ h => h) (Or.inl ⟨by kernel_rfl, by intro W hW; go_simp; intro e; exact absurd hql (by rw [e]; exact Nat.not_lt_zero _)⟩) hHeld ?_
                refine wpAnyH_take (i := 31) (oi := ⟨some 222, .load 44 (.tmp 221), _, _, _, some (27, true)⟩) (v := .agg y0.r.cs) rfl (by kernel_rfl) (by kernel_rfl) (by kernel_rfl) (fun _ _ _ h => h) (Or.inl ⟨by kernel_rfl, fun W hW => exec_load rfl (by kernel_rfl) hW.2.2.2.2⟩) hHeld ?_
                refine wpAnyH_ready (rs := [32]) (by kernel_rfl) (by simp) ?_
                refine AllReadyH.cons rfl (fun K hK => ?_) AllReadyH.nil
                go_simp
                refine (HSA.out _ HD.out).mono ?_
                rintro e w14 ⟨rfl, hb14⟩
                replace HD := hid (below_on HD.out hb14)
                clear hb14
                go_wp2_with fail
                refine hK.out _ _ (HSF4.out _ HD.out) (fun hHeld => ?_)
                clear hK K
                refine wpAnyH_take (i := 33) (oi := ⟨some 224, .pick (.tmp 218) (.tmp 223) (.const (.bool false)), _, _, _, none⟩) (v := .bool true) rfl (by kernel_rfl) (by kernel_rfl) (by kernel_rfl) (fun _ _ _ h => h) (Or.inl ⟨by kernel_rfl, by intro W hW; go_simp⟩) hHeld ?_
                refine wpAnyH_take (i := 34) (oi := ⟨some 4, .assign (.tmp 224), _, _, _, none⟩) (v := .bool true) rfl (by kernel_rfl) (by kernel_rfl) (by kernel_rfl) (fun _ _ _ h => h) (Or.inl ⟨by kernel_rfl, by intro W hW; go_simp⟩) hHeld ?_
                refine wpAnyH_done (by kernel_rfl) ?_ _
                simp only [Act.put, List.setIfInBounds_toArray, List.set_cons_zero, List.set_cons_succ]
                go_wp2
                go_ret
                exact ⟨rfl, below_on HGL.out.below HD.out⟩
            · with_reducible refine step_run_val ?_ (ptr wr.drew.heap.size) (wr.drew.alloc (.cells (jC 0 (.slice none 0 0)) 24)) ?_ ?_
              · exact rfl
              · exact exec_allocJ rfl
              have HCNa := hid (CAt.made wr.drew (jC 0 (.slice none 0 0)) 24)
              have HBNa := hid (below_al wr.drew (.cells (jC 0 (.slice none 0 0)) 24))
              generalize hwN : wr.drew.alloc (.cells (jC 0 (.slice none 0 0)) 24) = wNa at HCNa HBNa  ⊢
              have HGNa := hid (show wr.heap.size ≤ wr.drew.heap.size from HD.out.size)
              generalize hgn : wr.drew.heap.size = gna at HCNa HGNa ⊢
              replace HD := hid (below_on HD.out HBNa.out)
              clear hwN hgn
              refine hK.out _ _ (HSF.out _ HD.out) (fun hHeld => ?_)
              clear hK K
              refine wpAnyH_ready (rs := [6]) (by kernel_rfl) (by simp) ?_
              refine AllReadyH.cons rfl (fun K hK => ?_) AllReadyH.nil
              go_simp
              refine (HREM.out _ HD.out).mono ?_
              rintro e w5a ⟨vg, mg, rfl, hrg, heg, hb5a⟩
              obtain ⟨pg, cg, hvg, _⟩ := hrg.buf.form
              subst hvg
              have HRG := hid hrg
              have HEG := hid heg
              clear hrg heg
              replace HD := hid (below_on HD.out hb5a)
              replace HCNa := hid (HCNa.out.below hb5a)
              clear hb5a
              go_wp2_with fail
              refine hK.out _ _ (HSF.out _ HD.out) (fun hHeld => ?_)
              clear hK K
              refine wpAnyH_take (i := 7) (oi := ⟨some 154, .move (.tmp 161), _, _, _, none⟩) (v := .tuple #[.agg (jC (s + 1) (.slice pg mg.length cg)), i64 0]) rfl (by kernel_rfl) (by kernel_rfl) (by kernel_rfl) (fun _ _ _ h => h) (Or.inl ⟨by kernel_rfl, by intro W hW; go_simp⟩) hHeld ?_
              refine wpAnyH_take (i := 8) (oi := ⟨some 162, .extract (.tmp 154) 0, _, _, _, none⟩) (v := .agg (jC (s + 1) (.slice pg mg.length cg))) rfl (by kernel_rfl) (by kernel_rfl) (by kernel_rfl) (fun _ _ _ h => h) (Or.inl ⟨by kernel_rfl, by intro W hW; go_simp⟩) hHeld ?_
              refine wpAnyH_take (i := 9) (oi := ⟨some 163, .extract (.tmp 154) 1, _, _, _, none⟩) (v := i64 0) rfl (by kernel_rfl) (by kernel_rfl) (by kernel_rfl) (fun _ _ _ h => h) (Or.inl ⟨by kernel_rfl, by intro W hW; go_simp⟩) hHeld ?_
              refine wpAnyH_ready (rs := [11]) (by kernel_rfl) (by simp) ?_
              refine AllReadyH.cons (o := ⟨none, .store 24 (.tmp 18) (.tmp 162), _, _, _, none⟩) rfl (fun K hK => ?_) AllReadyH.nil
              with_reducible refine step_storeJ ?_ ?_ (.tmp 18) (.tmp 162) ?_ gna ?_ (s := s + 1) (v := .slice pg mg.length cg) ?_ ?_ HCNa.out ?_
              · exact rfl
              · exact rfl
              · exact rfl
              · kernel_rfl
              · kernel_rfl
              · exact rfl
              intro w6a h6 o6
              have HC6 := hid h6
              have HB6a := hid (below_tr HD.out (o6.below HD.out.size (fun i e => by have := HGNa.out; omega)))
              replace HRG := hid (HRG.out.other7 h6 o6 HCNa.out)
              clear h6 o6 HCNa HBNa
              refine hK.out _ _ (HSF.out _ HB6a.out) (fun hHeld => ?_)
              clear hK K HD HGNa
              refine wpAnyH_take (i := 12) (oi := ⟨some 19, .assign (.tmp 163), _, _, _, none⟩) (v := i64 0) rfl (by kernel_rfl) (by kernel_rfl) (by kernel_rfl) (fun _ _ _ h => h) (Or.inl ⟨by kernel_rfl, by intro W hW; go_simp⟩) hHeld ?_
              refine wpAnyH_done (by kernel_rfl) ?_ _
              simp only [Act.put, List.setIfInBounds_toArray, List.set_cons_zero, List.set_cons_succ]
              clear hHeld
              have HG6 := hid (HGL.out.on HB6a.out)
              have HMG : Hid (mg.length ≤ 100000) := hid (by have := congrArg List.length HEG.out; rw [rcs_len, rcs_len, List.length_append, List.length_take, List.length_drop] at this; omega)
              have HLN : Hid ((mw.take q ++ mw.drop (q + 1)).length ≤ 100000) := hid (by rw [List.length_append, List.length_take, List.length_drop]; omega)
              obtain ⟨v7, w7, hr7, hrb7, hg7⟩ := RBuf.app (RBuf.nil w6a.heap.size w6a) (.slice (some ⟨bw, ow, none⟩) q cw) (mw.take q) (RL.headR HG6.out.rlw (by omega)) (by simp; omega) (Nat.le_refl _)
              have hb7 := below_grown (Below.refl w6a.heap.size w6a) hg7 (Nat.le_refl _) (fun b hb => by cases hb)
              obtain ⟨v8, w8, hr8, hrb8, hg8⟩ := RBuf.app hrb7 (.slice pf nf cf) (mw.drop (q + 1)) (HF.out _ (HG6.out.on hb7).rlw) (by simp; omega) hb7.size
              have hb8 := below_grown hb7 hg8 (Nat.le_refl _) (fun b hb => (own_ge hrb7 b hb).1)
              obtain ⟨p7, n7, c7, hv7⟩ : ∃ p n c, v7 = .slice p n c := by obtain ⟨p, c, e, _⟩ := hrb7.form; exact ⟨p, _, c, e⟩
              obtain ⟨p8, n8, c8, hv8⟩ : ∃ p n c, v8 = .slice p n c := by obtain ⟨p, c, e, _⟩ := hrb8.form; exact ⟨p, _, c, e⟩
              subst hv7 hv8
              have HR7 := hid hr7
              have HR8 := hid hr8
              have HRB := hid hrb8
              have HB8 := hid (below_on HB6a.out hb8)
              replace HGL := hid (HG6.out.on hb8)
              have HCG := hid (HC6.out.below hb8)
              replace HRG := hid (HRG.out.below hb8)
              clear hr7 hr8 hrb7 hrb8 hg7 hg8 hb7 hb8 HG6 HC6
              go_upto_region 39 with (first
              | (at_builtin; refine wpList_append_run _ _ 22 22 rfl rfl _ _ _ rfl rfl HR7.out ?_)
              | (at_builtin; refine wpList_append_run _ _ 22 22 rfl rfl _ _ _ rfl rfl HR8.out ?_))
              have HSF3 : Hid (∀ W, Below w8.heap.size w8 W → (fun W => (Instr.loadAt 24 (.pointer (some ⟨gna, 0, none⟩))).run Tryd.prog W = .ok (.agg (jC (s + 1) (.slice pg mg.length cg))) W ∧ W.cell? ⟨bw, ow + q * 42, none⟩ = some (.string y.r.id)) W) := hid (fun W hW => ⟨run_loadJ (HCG.out.below hW), HID.out _ (below_on HB8.out hW)⟩)
              refine wp_region_held_drew (S := fun W => (Instr.loadAt 24 (.pointer (some ⟨gna, 0, none⟩))).run Tryd.prog W = .ok (.agg (jC (s + 1) (.slice pg mg.length cg))) W ∧ W.cell? ⟨bw, ow + q * 42, none⟩ = some (.string y.r.id)) (by kernel_rfl) (HSF3.out _ (below_drew _)) (fun hHeld => ?_)
              have HD := hid (below_drew w8)
              refine wpAnyH_take (i := 0) (oi := ⟨some 176, .load 24 (.tmp 18), _, _, _, none⟩) (v := .agg (jC (s + 1) (.slice pg mg.length cg))) rfl (by kernel_rfl) (by kernel_rfl) (by kernel_rfl) (fun _ _ _ h => h) (Or.inl ⟨by kernel_rfl, fun W hW => exec_load rfl (by kernel_rfl) hW.1⟩) hHeld ?_
              refine wpAnyH_take (i := 1) (oi := ⟨some 177, .move (.tmp 7), _, _, _, none⟩) (v := .slice (some ⟨bw, ow, none⟩) mw.length cw) rfl (by kernel_rfl) (by kernel_rfl) (by kernel_rfl) (fun _ _ _ h => h) (Or.inl ⟨by kernel_rfl, by intro W hW; go_simp⟩) hHeld ?_
              refine wpAnyH_take (i := 2) (oi := ⟨some 178, .move (.tmp 17), _, _, _, none⟩) (v := i64 q) rfl (by kernel_rfl) (by kernel_rfl) (by kernel_rfl) (fun _ _ _ h => h) (Or.inl ⟨by kernel_rfl, by intro W hW; go_simp⟩) hHeld ?_
              refine wpAnyH_take (i := 3) (oi := ⟨some 179, .indexAddr 22 (.tmp 177) (.tmp 178), _, _, _, none⟩) (v := .pointer (some ⟨bw, ow + q * 42, none⟩)) rfl (by kernel_rfl) (by kernel_rfl) (by kernel_rfl) (fun _ _ _ h => h) (Or.inl ⟨by kernel_rfl, by intro W hW; go_simp⟩) hHeld ?_
              refine wpAnyH_take (i := 4) (oi := ⟨some 180, .fieldAddr 44 (.tmp 179) 0, _, _, _, none⟩) (v := .pointer (some ⟨bw, ow + q * 42, none⟩)) rfl (by kernel_rfl) (by kernel_rfl) (by kernel_rfl) (fun _ _ _ h => h) (Or.inl ⟨by kernel_rfl, by intro W hW; go_simp⟩) hHeld ?_
              refine wpAnyH_take (i := 5) (oi := ⟨some 181, .load 9 (.tmp 180), _, _, _, none⟩) (v := .string y.r.id) rfl (by kernel_rfl) (by kernel_rfl) (by kernel_rfl) (fun _ _ _ h => h) (Or.inl ⟨by kernel_rfl, by intro W hW; have q0 := hW.2; go_simp⟩) hHeld ?_
              refine wpAnyH_ready (rs := [6, 11]) (by kernel_rfl) (by simp) ?_
              refine AllReadyH.cons rfl (fun K hK => ?_) (AllReadyH.cons (o := ⟨some 21, .alloc 44, _, _, _, none⟩) rfl (fun K hK => ?_) AllReadyH.nil)
              · go_simp
                refine (HGONE.out _ mg HEG.out _ ((HRG.out.below HD.out).rl HMG.out)).mono ?_
                rintro e w5b ⟨rfl, hb5b⟩
                replace HD := hid (below_on HD.out hb5b)
                clear hb5b
                go_wp2_with fail
                refine hK.out _ _ (HSF3.out _ HD.out) (fun hHeld => ?_)
                clear hK K
                refine wpAnyH_take (i := 7) (oi := ⟨some 175, .move (.tmp 182), _, _, _, none⟩) (v := .tuple #[.agg zR.cs, i64 0, i64 6]) rfl (by kernel_rfl) (by kernel_rfl) (by kernel_rfl) (fun _ _ _ h => h) (Or.inl ⟨by kernel_rfl, by intro W hW; go_simp⟩) hHeld ?_
                refine wpAnyH_take (i := 8) (oi := ⟨some 183, .extract (.tmp 175) 0, _, _, _, none⟩) (v := .agg zR.cs) rfl (by kernel_rfl) (by kernel_rfl) (by kernel_rfl) (fun _ _ _ h => h) (Or.inl ⟨by kernel_rfl, by intro W hW; go_simp⟩) hHeld ?_
                refine wpAnyH_take (i := 9) (oi := ⟨some 184, .extract (.tmp 175) 1, _, _, _, none⟩) (v := i64 0) rfl (by kernel_rfl) (by kernel_rfl) (by kernel_rfl) (fun _ _ _ h => h) (Or.inl ⟨by kernel_rfl, by intro W hW; go_simp⟩) hHeld ?_
                refine wpAnyH_take (i := 10) (oi := ⟨some 185, .extract (.tmp 175) 2, _, _, _, none⟩) (v := i64 6) rfl (by kernel_rfl) (by kernel_rfl) (by kernel_rfl) (fun _ _ _ h => h) (Or.inl ⟨by kernel_rfl, by intro W hW; go_simp⟩) hHeld ?_
                refine wpAnyH_ready (rs := [11]) (by kernel_rfl) (by simp) ?_
                refine AllReadyH.cons (o := ⟨some 21, .alloc 44, _, _, _, none⟩) rfl (fun K hK => ?_) AllReadyH.nil
                with_reducible refine step_run_val ?_ (ptr w5b.heap.size) (w5b.alloc (.cells zR.cs 44)) ?_ ?_
                · exact rfl
                · exact exec_allocR rfl
                have HCNb := hid (CAt.made w5b zR.cs 44)
                have HBNb := hid (below_al w5b (.cells zR.cs 44))
                generalize hwN : w5b.alloc (.cells zR.cs 44) = wNb at HCNb HBNb  ⊢
                have HGNb := hid (show w8.heap.size ≤ w5b.heap.size from HD.out.size)
                generalize hgn : w5b.heap.size = gnb at HCNb HGNb ⊢
                replace HD := hid (below_on HD.out HBNb.out)
                clear hwN hgn
                refine hK.out _ _ (HSF3.out _ HD.out) (fun hHeld => ?_)
                clear hK K
                refine wpAnyH_ready (rs := [12]) (by kernel_rfl) (by simp) ?_
                refine AllReadyH.cons (o := ⟨none, .store 44 (.tmp 21) (.tmp 183), _, _, _, none⟩) rfl (fun K hK => ?_) AllReadyH.nil
                with_reducible refine step_storeR ?_ ?_ (.tmp 21) (.tmp 183) ?_ gnb ?_ (r := zR) ?_ zR_ok zR_ok ?_ (RBox.mk' zR_ok HCNb.out) ?_
                · exact rfl
                · exact rfl
                · exact rfl
                · kernel_rfl
                · kernel_rfl
                · exact rfl
                intro w6b h6 o6
                have HB6b := hid (below_tr HD.out (o6.below HD.out.size (fun i e => by have := HGNb.out; omega)))
                clear h6 o6 HCNb HBNb
                refine hK.out _ _ (HSF3.out _ HB6b.out) (fun hHeld => ?_)
                clear hK K HD HGNb
                refine wpAnyH_take (i := 13) (oi := ⟨some 22, .assign (.tmp 184), _, _, _, none⟩) (v := i64 0) rfl (by kernel_rfl) (by kernel_rfl) (by kernel_rfl) (fun _ _ _ h => h) (Or.inl ⟨by kernel_rfl, by intro W hW; go_simp⟩) hHeld ?_
                refine wpAnyH_take (i := 14) (oi := ⟨some 23, .assign (.tmp 185), _, _, _, none⟩) (v := i64 6) rfl (by kernel_rfl) (by kernel_rfl) (by kernel_rfl) (fun _ _ _ h => h) (Or.inl ⟨by kernel_rfl, by intro W hW; go_simp⟩) hHeld ?_
                refine wpAnyH_done (by kernel_rfl) ?_ _
                simp only [Act.put, List.setIfInBounds_toArray, List.set_cons_zero, List.set_cons_succ]
                clear hHeld
                replace HGL := hid (HGL.out.on HB6b.out)
                replace HCG := hid (HCG.out.below HB6b.out)
                replace HRG := hid (HRG.out.below HB6b.out)
                replace HRB := hid (HRB.out.below HB6b.out)
                have HB12 := hid (below_on HB8.out HB6b.out)
                clear HSF3 HB6b
                go_upto_region 41 with (first
              | ((with_reducible refine wpList_load_at 24 _ rfl ?_ gj 0 ?_ (jC s (.slice pj mj.length cj)) (.struct (Tryd.prog.fieldsOf 24)) ?_ underJrn rfl ?_ ?_); exact rfl; exact rfl; exact HGL.out.cj.wholeJ; exact sizeJ)
              | (go_at_call 21; (with_reducible refine (HNEW.out _ HB12.out).mono ?_); rintro e w10 ⟨z0, rfl, hz0, hpx0, hb10⟩; replace HGL := hid (HGL.out.on hb10); replace HCG := hid (HCG.out.below hb10); replace HRG := hid (HRG.out.below hb10); replace HRB := hid (HRB.out.below hb10); replace HB12 := hid (below_on HB12.out hb10); have hokz0 := hpx0.ok; have hpz0 : z0.r.pv.oneCell' = true := (by obtain ⟨p, c, e, _⟩ := hpx0.one.form; rw [e]; rfl); have HZY0 := hid hz0; have HPX0 := hid hpx0; clear hz0 hpx0 hb10)
              | ((with_reducible refine wpList_allocR rfl rfl ?_); intro w11 g0 hz11 hb11 hg11; have HZ11 := hid hz11; have HB11 := hid hb11; have HG11 := hid hg11; clear hz11 hb11 hg11)
              | ((with_reducible refine wpList_storeR rfl rfl _ _ rfl g0 ?_ (r := z0.r) ?_ zR_ok hokz0 hpz0 HZ11.out ?_); exact rfl; exact rfl; intro w12 h12 o12; have hbs := ownJ HB11.out HG11.out o12; replace HGL := hid (HGL.out.on hbs); replace HCG := hid (HCG.out.below hbs); replace HRG := hid (HRG.out.below hbs); replace HRB := hid (HRB.out.below hbs); replace HB12 := hid (below_on HB12.out hbs); replace HPX0 := hid (HPX0.out.below hbs); have HZ0 := hid h12; clear h12 o12 hbs HZ11 HB11 HG11))
                have HREC : Hid (∀ W, Below w12.heap.size w12 W → Calls Tryd.prog 17 #[.slice pg mg.length cg, .slice p8 n8 c8] W fun e w' => e = .returned (.bool true) ∧ Below W.heap.size W w') := hid (fun W hW => by have := records_any _ _ mg (mw.take q ++ mw.drop (q + 1)) W ((HRG.out.below hW).rl HMG.out) ((HRB.out.below hW).rl (fun y hy => (HGL.out.ew y (mem_cut hy)).below (HGL.out.on hW).below) HLN.out); rw [decide_eq_true HEG.out] at this; exact this)
                have HSA : Hid (∀ W, Below w12.heap.size w12 W → Calls Tryd.prog 19 #[.agg z0.r.cs, .agg y0.r.cs] W fun e w' => e = .returned (.bool true) ∧ Below W.heap.size W w') := hid (fun W hW => by have := same_any z0.r y0.r hokz0 hoky0 z0.ps y0.ps W (HPX0.out.below hW).one.pl (HYO0.out.pl.below (HGL.out.on hW).below); rw [show decide (z0.r.rc z0.ps = y0.r.rc y0.ps) = true from decide_eq_true HZY0.out] at this; exact this)
                have HSF4 : Hid (∀ W, Below w12.heap.size w12 W → (fun W => W.cell? ⟨gna, 0, none⟩ = some (i64 (s + 1)) ∧ W.cell? ⟨gna, 1, none⟩ = some (.slice pg mg.length cg) ∧ W.cell? ⟨gj, 0, none⟩ = some (i64 s) ∧ (Instr.loadAt 44 (.pointer (some ⟨g0, 0, none⟩))).run Tryd.prog W = .ok (.agg z0.r.cs) W ∧ (Instr.loadAt 44 (.pointer (some ⟨bw, ow, none⟩))).run Tryd.prog W = .ok (.agg y0.r.cs) W) W) := hid (fun W hW => ⟨(HCG.out.below hW).j0, (HCG.out.below hW).j1, (HGL.out.cj.below hW).j0, run_loadR hokz0 (HZ0.out.below hokz0 hW), run_loadM hoky0 (HRY0.out _ (below_on HB12.out hW))⟩)
                have hw1 : IntKind.i64.wrap (s + 1) = s + 1 := by rw [IntKind.wrap_i64]; have := HGL.out.len.2.2; omega
                go_upto_region 41 with fail
                refine wp_region_held_drew (S := fun W => W.cell? ⟨gna, 0, none⟩ = some (i64 (s + 1)) ∧ W.cell? ⟨gna, 1, none⟩ = some (.slice pg mg.length cg) ∧ W.cell? ⟨gj, 0, none⟩ = some (i64 s) ∧ (Instr.loadAt 44 (.pointer (some ⟨g0, 0, none⟩))).run Tryd.prog W = .ok (.agg z0.r.cs) W ∧ (Instr.loadAt 44 (.pointer (some ⟨bw, ow, none⟩))).run Tryd.prog W = .ok (.agg y0.r.cs) W) (by kernel_rfl) (HSF4.out _ (below_drew _)) (fun hHeld => ?_)
                have HD := hid (below_drew w12)
                refine wpAnyH_take (i := 0) (oi := ⟨some 191, .move (.tmp 5), _, _, _, none⟩) (v := .bool true) rfl (by kernel_rfl) (by kernel_rfl) (by kernel_rfl) (fun _ _ _ h => h) (Or.inl ⟨by kernel_rfl, by intro W hW; go_simp⟩) hHeld ?_
                refine wpAnyH_take (i := 1) (oi := ⟨some 192, .move (.tmp 191), _, _, _, none⟩) (v := .bool true) rfl (by kernel_rfl) (by kernel_rfl) (by kernel_rfl) (fun _ _ _ h => h) (Or.inl ⟨by kernel_rfl, by intro W hW; go_simp⟩) hHeld ?_
                refine wpAnyH_take (i := 2) (oi := ⟨some 193, .move (.tmp 19), _, _, _, some (1, true)⟩) (v := i64 0) rfl (by kernel_rfl) (by kernel_rfl) (by kernel_rfl) (fun _ _ _ h => h) (Or.inl ⟨by kernel_rfl, by intro W hW; go_simp⟩) hHeld ?_
                refine wpAnyH_take (i := 3) (oi := ⟨some 194, .binOp .eql 28 (.tmp 193) (.const (.int .i64 0)) 28, _, _, _, some (1, true)⟩) (v := .bool true) rfl (by kernel_rfl) (by kernel_rfl) (by kernel_rfl) (fun _ _ _ h => h) (Or.inl ⟨by kernel_rfl, by intro W hW; go_simp⟩) hHeld ?_
                refine wpAnyH_take (i := 4) (oi := ⟨some 195, .pick (.tmp 192) (.tmp 194) (.const (.bool false)), _, _, _, none⟩) (v := .bool true) rfl (by kernel_rfl) (by kernel_rfl) (by kernel_rfl) (fun _ _ _ h => h) (Or.inl ⟨by kernel_rfl, by intro W hW; go_simp⟩) hHeld ?_
                refine wpAnyH_take (i := 5) (oi := ⟨some 196, .move (.tmp 195), _, _, _, none⟩) (v := .bool true) rfl (by kernel_rfl) (by kernel_rfl) (by kernel_rfl) (fun _ _ _ h => h) (Or.inl ⟨by kernel_rfl, by intro W hW; go_simp⟩) hHeld ?_
                refine wpAnyH_take (i := 6) (oi := ⟨some 197, .fieldAddr 24 (.tmp 18) 0, _, _, _, some (5, true)⟩) (v := .pointer (some ⟨gna, 0, none⟩)) rfl (by kernel_rfl) (by kernel_rfl) (by kernel_rfl) (fun _ _ _ h => h) (Or.inl ⟨by kernel_rfl, by intro W hW; go_simp⟩) hHeld ?_
                refine wpAnyH_take (i := 7) (oi := ⟨some 198, .load 3 (.tmp 197), _, _, _, some (5, true)⟩) (v := i64 (s + 1)) rfl (by kernel_rfl) (by kernel_rfl) (by kernel_rfl) (fun _ _ _ h => h) (Or.inl ⟨by kernel_rfl, by intro W hW; have q0 := hW.1; go_simp⟩) hHeld ?_
                refine wpAnyH_take (i := 8) (oi := ⟨some 199, .fieldAddr 24 (.tmp 6) 0, _, _, _, some (5, true)⟩) (v := .pointer (some ⟨gj, 0, none⟩)) rfl (by kernel_rfl) (by kernel_rfl) (by kernel_rfl) (fun _ _ _ h => h) (Or.inl ⟨by kernel_rfl, by intro W hW; go_simp⟩) hHeld ?_
                refine wpAnyH_take (i := 9) (oi := ⟨some 200, .load 3 (.tmp 199), _, _, _, some (5, true)⟩) (v := i64 s) rfl (by kernel_rfl) (by kernel_rfl) (by kernel_rfl) (fun _ _ _ h => h) (Or.inl ⟨by kernel_rfl, by intro W hW; have q0 := hW.2.2.1; go_simp⟩) hHeld ?_
                refine wpAnyH_take (i := 10) (oi := ⟨some 201, .binOp .add 3 (.tmp 200) (.const (.int .i64 1)) 3, _, _, _, some (5, true)⟩) (v := i64 (s + 1)) rfl (by kernel_rfl) (by kernel_rfl) (by kernel_rfl) (fun _ _ _ h => h) (Or.inl ⟨by kernel_rfl, by intro W hW; go_simp⟩) hHeld ?_
                refine wpAnyH_take (i := 11) (oi := ⟨some 202, .binOp .eql 3 (.tmp 198) (.tmp 201) 3, _, _, _, some (5, true)⟩) (v := .bool true) rfl (by kernel_rfl) (by kernel_rfl) (by kernel_rfl) (fun _ _ _ h => h) (Or.inl ⟨by kernel_rfl, by intro W hW; go_simp⟩) hHeld ?_
                refine wpAnyH_take (i := 12) (oi := ⟨some 203, .pick (.tmp 196) (.tmp 202) (.const (.bool false)), _, _, _, none⟩) (v := .bool true) rfl (by kernel_rfl) (by kernel_rfl) (by kernel_rfl) (fun _ _ _ h => h) (Or.inl ⟨by kernel_rfl, by intro W hW; go_simp⟩) hHeld ?_
                refine wpAnyH_take (i := 13) (oi := ⟨some 204, .move (.tmp 203), _, _, _, none⟩) (v := .bool true) rfl (by kernel_rfl) (by kernel_rfl) (by kernel_rfl) (fun _ _ _ h => h) (Or.inl ⟨by kernel_rfl, by intro W hW; go_simp⟩) hHeld ?_
                refine wpAnyH_take (i := 14) (oi := ⟨some 205, .fieldAddr 24 (.tmp 18) 1, _, _, _, some (13, true)⟩) (v := .pointer (some ⟨gna, 1, none⟩)) rfl (by kernel_rfl) (by kernel_rfl) (by kernel_rfl) (fun _ _ _ h => h) (Or.inl ⟨by kernel_rfl, by intro W hW; go_simp⟩) hHeld ?_
                refine wpAnyH_take (i := 15) (oi := ⟨some 206, .load 22 (.tmp 205), _, _, _, some (13, true)⟩) (v := .slice pg mg.length cg) rfl (by kernel_rfl) (by kernel_rfl) (by kernel_rfl) (fun _ _ _ h => h) (Or.inl ⟨by kernel_rfl, by intro W hW; have q0 := hW.2.1; go_simp⟩) hHeld ?_
                refine wpAnyH_take (i := 16) (oi := ⟨some 207, .move (.tmp 20), _, _, _, some (13, true)⟩) (v := .slice p8 n8 c8) rfl (by kernel_rfl) (by kernel_rfl) (by kernel_rfl) (fun _ _ _ h => h) (Or.inl ⟨by kernel_rfl, by intro W hW; go_simp⟩) hHeld ?_
                refine wpAnyH_ready (rs := [17]) (by kernel_rfl) (by simp) ?_
                refine AllReadyH.cons rfl (fun K hK => ?_) AllReadyH.nil
                go_simp
                refine (HREC.out _ HD.out).mono ?_
                rintro e w13 ⟨rfl, hb13⟩
                replace HD := hid (below_on HD.out hb13)
                clear hb13
                go_wp2_with fail
                refine hK.out _ _ (HSF4.out _ HD.out) (fun hHeld => ?_)
                clear hK K
                refine wpAnyH_take (i := 18) (oi := ⟨some 209, .pick (.tmp 204) (.tmp 208) (.const (.bool false)), _, _, _, none⟩) (v := .bool true) rfl (by kernel_rfl) (by kernel_rfl) (by kernel_rfl) (fun _ _ _ h => h) (Or.inl ⟨by kernel_rfl, by intro W hW; go_simp⟩) hHeld ?_
                refine wpAnyH_take (i := 19) (oi := ⟨some 210, .move (.tmp 209), _, _, _, none⟩) (v := .bool true) rfl (by kernel_rfl) (by kernel_rfl) (by kernel_rfl) (fun _ _ _ h => h) (Or.inl ⟨by kernel_rfl, by intro W hW; go_simp⟩) hHeld ?_
                refine wpAnyH_take (i := 20) (oi := ⟨some 211, .move (.tmp 23), _, _, _, some (19, true)⟩) (v := i64 6) rfl (by kernel_rfl) (by kernel_rfl) (by kernel_rfl) (fun _ _ _ h => h) (Or.inl ⟨by kernel_rfl, by intro W hW; go_simp⟩) hHeld ?_
                refine wpAnyH_take (i := 21) (oi := ⟨some 212, .binOp .eql 28 (.tmp 211) (.const (.int .i64 6)) 28, _, _, _, some (19, true)⟩) (v := .bool true) rfl (by kernel_rfl) (by kernel_rfl) (by kernel_rfl) (fun _ _ _ h => h) (Or.inl ⟨by kernel_rfl, by intro W hW; go_simp⟩) hHeld ?_
                refine wpAnyH_take (i := 22) (oi := ⟨some 213, .pick (.tmp 210) (.tmp 212) (.const (.bool false)), _, _, _, none⟩) (v := .bool true) rfl (by kernel_rfl) (by kernel_rfl) (by kernel_rfl) (fun _ _ _ h => h) (Or.inl ⟨by kernel_rfl, by intro W hW; go_simp⟩) hHeld ?_
                refine wpAnyH_take (i := 23) (oi := ⟨some 214, .move (.tmp 213), _, _, _, none⟩) (v := .bool true) rfl (by kernel_rfl) (by kernel_rfl) (by kernel_rfl) (fun _ _ _ h => h) (Or.inl ⟨by kernel_rfl, by intro W hW; go_simp⟩) hHeld ?_
                refine wpAnyH_take (i := 24) (oi := ⟨some 215, .move (.tmp 25), _, _, _, some (23, true)⟩) (v := i64 0) rfl (by kernel_rfl) (by kernel_rfl) (by kernel_rfl) (fun _ _ _ h => h) (Or.inl ⟨by kernel_rfl, by intro W hW; go_simp⟩) hHeld ?_
                refine wpAnyH_take (i := 25) (oi := ⟨some 216, .binOp .eql 28 (.tmp 215) (.const (.int .i64 0)) 28, _, _, _, some (23, true)⟩) (v := .bool true) rfl (by kernel_rfl) (by kernel_rfl) (by kernel_rfl) (fun _ _ _ h => h) (Or.inl ⟨by kernel_rfl, by intro W hW; go_simp⟩) hHeld ?_
                refine wpAnyH_take (i := 26) (oi := ⟨some 217, .pick (.tmp 214) (.tmp 216) (.const (.bool false)), _, _, _, none⟩) (v := .bool true) rfl (by kernel_rfl) (by kernel_rfl) (by kernel_rfl) (fun _ _ _ h => h) (Or.inl ⟨by kernel_rfl, by intro W hW; go_simp⟩) hHeld ?_
                refine wpAnyH_take (i := 27) (oi := ⟨some 218, .move (.tmp 217), _, _, _, none⟩) (v := .bool true) rfl (by kernel_rfl) (by kernel_rfl) (by kernel_rfl) (fun _ _ _ h => h) (Or.inl ⟨by kernel_rfl, by intro W hW; go_simp⟩) hHeld ?_
                refine wpAnyH_take (i := 28) (oi := ⟨some 219, .load 44 (.tmp 24), _, _, _, some (27, true)⟩) (v := .agg z0.r.cs) rfl (by kernel_rfl) (by kernel_rfl) (by kernel_rfl) (fun _ _ _ h => h) (Or.inl ⟨by kernel_rfl, fun W hW => exec_load rfl (by kernel_rfl) hW.2.2.2.1⟩) hHeld ?_
                refine wpAnyH_take (i := 29) (oi := ⟨some 220, .move (.tmp 7), _, _, _, some (27, true)⟩) (v := .slice (some ⟨bw, ow, none⟩) mw.length cw) rfl (by kernel_rfl) (by kernel_rfl) (by kernel_rfl) (fun _ _ _ h => h) (Or.inl ⟨by kernel_rfl, by intro W hW; go_simp⟩) hHeld ?_
                refine wpAnyH_take (i := 30) (oi := ⟨some 221, .indexAddr 22 (.tmp 220) (.const (.int .i64 0)), _, _, _, some (27, true)⟩) (v := .pointer (some ⟨bw, ow, none⟩)) rfl (by kernel_rfl) (by kernel_rfl) (by kernel_rfl) (fun _ _ _ h => h) (Or.inl ⟨by kernel_rfl, by intro W hW; go_simp; intro e; exact absurd hql (by rw [e]; exact Nat.not_lt_zero _)⟩) hHeld ?_
                refine wpAnyH_take (i := 31) (oi := ⟨some 222, .load 44 (.tmp 221), _, _, _, some (27, true)⟩) (v := .agg y0.r.cs) rfl (by kernel_rfl) (by kernel_rfl) (by kernel_rfl) (fun _ _ _ h => h) (Or.inl ⟨by kernel_rfl, fun W hW => exec_load rfl (by kernel_rfl) hW.2.2.2.2⟩) hHeld ?_
                refine wpAnyH_ready (rs := [32]) (by kernel_rfl) (by simp) ?_
                refine AllReadyH.cons rfl (fun K hK => ?_) AllReadyH.nil
                go_simp
                refine (HSA.out _ HD.out).mono ?_
                rintro e w14 ⟨rfl, hb14⟩
                replace HD := hid (below_on HD.out hb14)
                clear hb14
                go_wp2_with fail
                refine hK.out _ _ (HSF4.out _ HD.out) (fun hHeld => ?_)
                clear hK K
                refine wpAnyH_take (i := 33) (oi := ⟨some 224, .pick (.tmp 218) (.tmp 223) (.const (.bool false)), _, _, _, none⟩) (v := .bool true) rfl (by kernel_rfl) (by kernel_rfl) (by kernel_rfl) (fun _ _ _ h => h) (Or.inl ⟨by kernel_rfl, by intro W hW; go_simp⟩) hHeld ?_
                refine wpAnyH_take (i := 34) (oi := ⟨some 4, .assign (.tmp 224), _, _, _, none⟩) (v := .bool true) rfl (by kernel_rfl) (by kernel_rfl) (by kernel_rfl) (fun _ _ _ h => h) (Or.inl ⟨by kernel_rfl, by intro W hW; go_simp⟩) hHeld ?_
                refine wpAnyH_done (by kernel_rfl) ?_ _
                simp only [Act.put, List.setIfInBounds_toArray, List.set_cons_zero, List.set_cons_succ]
                go_wp2
                go_ret
                exact ⟨rfl, below_on HGL.out.below HD.out⟩
              · with_reducible refine step_run_val ?_ (ptr w8.drew.heap.size) (w8.drew.alloc (.cells zR.cs 44)) ?_ ?_
                · exact rfl
                · exact exec_allocR rfl
                have HCNb := hid (CAt.made w8.drew zR.cs 44)
                have HBNb := hid (below_al w8.drew (.cells zR.cs 44))
                generalize hwN : w8.drew.alloc (.cells zR.cs 44) = wNb at HCNb HBNb  ⊢
                have HGNb := hid (show w8.heap.size ≤ w8.drew.heap.size from HD.out.size)
                generalize hgn : w8.drew.heap.size = gnb at HCNb HGNb ⊢
                replace HD := hid (below_on HD.out HBNb.out)
                clear hwN hgn
                refine hK.out _ _ (HSF3.out _ HD.out) (fun hHeld => ?_)
                clear hK K
                refine wpAnyH_ready (rs := [6]) (by kernel_rfl) (by simp) ?_
                refine AllReadyH.cons rfl (fun K hK => ?_) AllReadyH.nil
                go_simp
                refine (HGONE.out _ mg HEG.out _ ((HRG.out.below HD.out).rl HMG.out)).mono ?_
                rintro e w5b ⟨rfl, hb5b⟩
                replace HD := hid (below_on HD.out hb5b)
                replace HCNb := hid (HCNb.out.below hb5b)
                clear hb5b
                go_wp2_with fail
                refine hK.out _ _ (HSF3.out _ HD.out) (fun hHeld => ?_)
                clear hK K
                refine wpAnyH_take (i := 7) (oi := ⟨some 175, .move (.tmp 182), _, _, _, none⟩) (v := .tuple #[.agg zR.cs, i64 0, i64 6]) rfl (by kernel_rfl) (by kernel_rfl) (by kernel_rfl) (fun _ _ _ h => h) (Or.inl ⟨by kernel_rfl, by intro W hW; go_simp⟩) hHeld ?_
                refine wpAnyH_take (i := 8) (oi := ⟨some 183, .extract (.tmp 175) 0, _, _, _, none⟩) (v := .agg zR.cs) rfl (by kernel_rfl) (by kernel_rfl) (by kernel_rfl) (fun _ _ _ h => h) (Or.inl ⟨by kernel_rfl, by intro W hW; go_simp⟩) hHeld ?_
                refine wpAnyH_take (i := 9) (oi := ⟨some 184, .extract (.tmp 175) 1, _, _, _, none⟩) (v := i64 0) rfl (by kernel_rfl) (by kernel_rfl) (by kernel_rfl) (fun _ _ _ h => h) (Or.inl ⟨by kernel_rfl, by intro W hW; go_simp⟩) hHeld ?_
                refine wpAnyH_take (i := 10) (oi := ⟨some 185, .extract (.tmp 175) 2, _, _, _, none⟩) (v := i64 6) rfl (by kernel_rfl) (by kernel_rfl) (by kernel_rfl) (fun _ _ _ h => h) (Or.inl ⟨by kernel_rfl, by intro W hW; go_simp⟩) hHeld ?_
                refine wpAnyH_ready (rs := [12]) (by kernel_rfl) (by simp) ?_
                refine AllReadyH.cons (o := ⟨none, .store 44 (.tmp 21) (.tmp 183), _, _, _, none⟩) rfl (fun K hK => ?_) AllReadyH.nil
                with_reducible refine step_storeR ?_ ?_ (.tmp 21) (.tmp 183) ?_ gnb ?_ (r := zR) ?_ zR_ok zR_ok ?_ (RBox.mk' zR_ok HCNb.out) ?_
                · exact rfl
                · exact rfl
                · exact rfl
                · kernel_rfl
                · kernel_rfl
                · exact rfl
                intro w6b h6 o6
                have HB6b := hid (below_tr HD.out (o6.below HD.out.size (fun i e => by have := HGNb.out; omega)))
                clear h6 o6 HCNb HBNb
                refine hK.out _ _ (HSF3.out _ HB6b.out) (fun hHeld => ?_)
                clear hK K HD HGNb
                refine wpAnyH_take (i := 13) (oi := ⟨some 22, .assign (.tmp 184), _, _, _, none⟩) (v := i64 0) rfl (by kernel_rfl) (by kernel_rfl) (by kernel_rfl) (fun _ _ _ h => h) (Or.inl ⟨by kernel_rfl, by intro W hW; go_simp⟩) hHeld ?_
                refine wpAnyH_take (i := 14) (oi := ⟨some 23, .assign (.tmp 185), _, _, _, none⟩) (v := i64 6) rfl (by kernel_rfl) (by kernel_rfl) (by kernel_rfl) (fun _ _ _ h => h) (Or.inl ⟨by kernel_rfl, by intro W hW; go_simp⟩) hHeld ?_
                refine wpAnyH_done (by kernel_rfl) ?_ _
                simp only [Act.put, List.setIfInBounds_toArray, List.set_cons_zero, List.set_cons_succ]
                clear hHeld
                replace HGL := hid (HGL.out.on HB6b.out)
                replace HCG := hid (HCG.out.below HB6b.out)
                replace HRG := hid (HRG.out.below HB6b.out)
                replace HRB := hid (HRB.out.below HB6b.out)
                have HB12 := hid (below_on HB8.out HB6b.out)
                clear HSF3 HB6b
                go_upto_region 41 with (first
              | ((with_reducible refine wpList_load_at 24 _ rfl ?_ gj 0 ?_ (jC s (.slice pj mj.length cj)) (.struct (Tryd.prog.fieldsOf 24)) ?_ underJrn rfl ?_ ?_); exact rfl; exact rfl; exact HGL.out.cj.wholeJ; exact sizeJ)
              | (go_at_call 21; (with_reducible refine (HNEW.out _ HB12.out).mono ?_); rintro e w10 ⟨z0, rfl, hz0, hpx0, hb10⟩; replace HGL := hid (HGL.out.on hb10); replace HCG := hid (HCG.out.below hb10); replace HRG := hid (HRG.out.below hb10); replace HRB := hid (HRB.out.below hb10); replace HB12 := hid (below_on HB12.out hb10); have hokz0 := hpx0.ok; have hpz0 : z0.r.pv.oneCell' = true := (by obtain ⟨p, c, e, _⟩ := hpx0.one.form; rw [e]; rfl); have HZY0 := hid hz0; have HPX0 := hid hpx0; clear hz0 hpx0 hb10)
              | ((with_reducible refine wpList_allocR rfl rfl ?_); intro w11 g0 hz11 hb11 hg11; have HZ11 := hid hz11; have HB11 := hid hb11; have HG11 := hid hg11; clear hz11 hb11 hg11)
              | ((with_reducible refine wpList_storeR rfl rfl _ _ rfl g0 ?_ (r := z0.r) ?_ zR_ok hokz0 hpz0 HZ11.out ?_); exact rfl; exact rfl; intro w12 h12 o12; have hbs := ownJ HB11.out HG11.out o12; replace HGL := hid (HGL.out.on hbs); replace HCG := hid (HCG.out.below hbs); replace HRG := hid (HRG.out.below hbs); replace HRB := hid (HRB.out.below hbs); replace HB12 := hid (below_on HB12.out hbs); replace HPX0 := hid (HPX0.out.below hbs); have HZ0 := hid h12; clear h12 o12 hbs HZ11 HB11 HG11))
                have HREC : Hid (∀ W, Below w12.heap.size w12 W → Calls Tryd.prog 17 #[.slice pg mg.length cg, .slice p8 n8 c8] W fun e w' => e = .returned (.bool true) ∧ Below W.heap.size W w') := hid (fun W hW => by have := records_any _ _ mg (mw.take q ++ mw.drop (q + 1)) W ((HRG.out.below hW).rl HMG.out) ((HRB.out.below hW).rl (fun y hy => (HGL.out.ew y (mem_cut hy)).below (HGL.out.on hW).below) HLN.out); rw [decide_eq_true HEG.out] at this; exact this)
                have HSA : Hid (∀ W, Below w12.heap.size w12 W → Calls Tryd.prog 19 #[.agg z0.r.cs, .agg y0.r.cs] W fun e w' => e = .returned (.bool true) ∧ Below W.heap.size W w') := hid (fun W hW => by have := same_any z0.r y0.r hokz0 hoky0 z0.ps y0.ps W (HPX0.out.below hW).one.pl (HYO0.out.pl.below (HGL.out.on hW).below); rw [show decide (z0.r.rc z0.ps = y0.r.rc y0.ps) = true from decide_eq_true HZY0.out] at this; exact this)
                have HSF4 : Hid (∀ W, Below w12.heap.size w12 W → (fun W => W.cell? ⟨gna, 0, none⟩ = some (i64 (s + 1)) ∧ W.cell? ⟨gna, 1, none⟩ = some (.slice pg mg.length cg) ∧ W.cell? ⟨gj, 0, none⟩ = some (i64 s) ∧ (Instr.loadAt 44 (.pointer (some ⟨g0, 0, none⟩))).run Tryd.prog W = .ok (.agg z0.r.cs) W ∧ (Instr.loadAt 44 (.pointer (some ⟨bw, ow, none⟩))).run Tryd.prog W = .ok (.agg y0.r.cs) W) W) := hid (fun W hW => ⟨(HCG.out.below hW).j0, (HCG.out.below hW).j1, (HGL.out.cj.below hW).j0, run_loadR hokz0 (HZ0.out.below hokz0 hW), run_loadM hoky0 (HRY0.out _ (below_on HB12.out hW))⟩)
                have hw1 : IntKind.i64.wrap (s + 1) = s + 1 := by rw [IntKind.wrap_i64]; have := HGL.out.len.2.2; omega
                go_upto_region 41 with fail
                refine wp_region_held_drew (S := fun W => W.cell? ⟨gna, 0, none⟩ = some (i64 (s + 1)) ∧ W.cell? ⟨gna, 1, none⟩ = some (.slice pg mg.length cg) ∧ W.cell? ⟨gj, 0, none⟩ = some (i64 s) ∧ (Instr.loadAt 44 (.pointer (some ⟨g0, 0, none⟩))).run Tryd.prog W = .ok (.agg z0.r.cs) W ∧ (Instr.loadAt 44 (.pointer (some ⟨bw, ow, none⟩))).run Tryd.prog W = .ok (.agg y0.r.cs) W) (by kernel_rfl) (HSF4.out _ (below_drew _)) (fun hHeld => ?_)
                have HD := hid (below_drew w12)
                refine wpAnyH_take (i := 0) (oi := ⟨some 191, .move (.tmp 5), _, _, _, none⟩) (v := .bool true) rfl (by kernel_rfl) (by kernel_rfl) (by kernel_rfl) (fun _ _ _ h => h) (Or.inl ⟨by kernel_rfl, by intro W hW; go_simp⟩) hHeld ?_
                refine wpAnyH_take (i := 1) (oi := ⟨some 192, .move (.tmp 191), _, _, _, none⟩) (v := .bool true) rfl (by kernel_rfl) (by kernel_rfl) (by kernel_rfl) (fun _ _ _ h => h) (Or.inl ⟨by kernel_rfl, by intro W hW; go_simp⟩) hHeld ?_
                refine wpAnyH_take (i := 2) (oi := ⟨some 193, .move (.tmp 19), _, _, _, some (1, true)⟩) (v := i64 0) rfl (by kernel_rfl) (by kernel_rfl) (by kernel_rfl) (fun _ _ _ h => h) (Or.inl ⟨by kernel_rfl, by intro W hW; go_simp⟩) hHeld ?_
                refine wpAnyH_take (i := 3) (oi := ⟨some 194, .binOp .eql 28 (.tmp 193) (.const (.int .i64 0)) 28, _, _, _, some (1, true)⟩) (v := .bool true) rfl (by kernel_rfl) (by kernel_rfl) (by kernel_rfl) (fun _ _ _ h => h) (Or.inl ⟨by kernel_rfl, by intro W hW; go_simp⟩) hHeld ?_
                refine wpAnyH_take (i := 4) (oi := ⟨some 195, .pick (.tmp 192) (.tmp 194) (.const (.bool false)), _, _, _, none⟩) (v := .bool true) rfl (by kernel_rfl) (by kernel_rfl) (by kernel_rfl) (fun _ _ _ h => h) (Or.inl ⟨by kernel_rfl, by intro W hW; go_simp⟩) hHeld ?_
                refine wpAnyH_take (i := 5) (oi := ⟨some 196, .move (.tmp 195), _, _, _, none⟩) (v := .bool true) rfl (by kernel_rfl) (by kernel_rfl) (by kernel_rfl) (fun _ _ _ h => h) (Or.inl ⟨by kernel_rfl, by intro W hW; go_simp⟩) hHeld ?_
                refine wpAnyH_take (i := 6) (oi := ⟨some 197, .fieldAddr 24 (.tmp 18) 0, _, _, _, some (5, true)⟩) (v := .pointer (some ⟨gna, 0, none⟩)) rfl (by kernel_rfl) (by kernel_rfl) (by kernel_rfl) (fun _ _ _ h => h) (Or.inl ⟨by kernel_rfl, by intro W hW; go_simp⟩) hHeld ?_
                refine wpAnyH_take (i := 7) (oi := ⟨some 198, .load 3 (.tmp 197), _, _, _, some (5, true)⟩) (v := i64 (s + 1)) rfl (by kernel_rfl) (by kernel_rfl) (by kernel_rfl) (fun _ _ _ h => h) (Or.inl ⟨by kernel_rfl, by intro W hW; have q0 := hW.1; go_simp⟩) hHeld ?_
                refine wpAnyH_take (i := 8) (oi := ⟨some 199, .fieldAddr 24 (.tmp 6) 0, _, _, _, some (5, true)⟩) (v := .pointer (some ⟨gj, 0, none⟩)) rfl (by kernel_rfl) (by kernel_rfl) (by kernel_rfl) (fun _ _ _ h => h) (Or.inl ⟨by kernel_rfl, by intro W hW; go_simp⟩) hHeld ?_
                refine wpAnyH_take (i := 9) (oi := ⟨some 200, .load 3 (.tmp 199), _, _, _, some (5, true)⟩) (v := i64 s) rfl (by kernel_rfl) (by kernel_rfl) (by kernel_rfl) (fun _ _ _ h => h) (Or.inl ⟨by kernel_rfl, by intro W hW; have q0 := hW.2.2.1; go_simp⟩) hHeld ?_
                refine wpAnyH_take (i := 10) (oi := ⟨some 201, .binOp .add 3 (.tmp 200) (.const (.int .i64 1)) 3, _, _, _, some (5, true)⟩) (v := i64 (s + 1)) rfl (by kernel_rfl) (by kernel_rfl) (by kernel_rfl) (fun _ _ _ h => h) (Or.inl ⟨by kernel_rfl, by intro W hW; go_simp⟩) hHeld ?_
                refine wpAnyH_take (i := 11) (oi := ⟨some 202, .binOp .eql 3 (.tmp 198) (.tmp 201) 3, _, _, _, some (5, true)⟩) (v := .bool true) rfl (by kernel_rfl) (by kernel_rfl) (by kernel_rfl) (fun _ _ _ h => h) (Or.inl ⟨by kernel_rfl, by intro W hW; go_simp⟩) hHeld ?_
                refine wpAnyH_take (i := 12) (oi := ⟨some 203, .pick (.tmp 196) (.tmp 202) (.const (.bool false)), _, _, _, none⟩) (v := .bool true) rfl (by kernel_rfl) (by kernel_rfl) (by kernel_rfl) (fun _ _ _ h => h) (Or.inl ⟨by kernel_rfl, by intro W hW; go_simp⟩) hHeld ?_
                refine wpAnyH_take (i := 13) (oi := ⟨some 204, .move (.tmp 203), _, _, _, none⟩) (v := .bool true) rfl (by kernel_rfl) (by kernel_rfl) (by kernel_rfl) (fun _ _ _ h => h) (Or.inl ⟨by kernel_rfl, by intro W hW; go_simp⟩) hHeld ?_
                refine wpAnyH_take (i := 14) (oi := ⟨some 205, .fieldAddr 24 (.tmp 18) 1, _, _, _, some (13, true)⟩) (v := .pointer (some ⟨gna, 1, none⟩)) rfl (by kernel_rfl) (by kernel_rfl) (by kernel_rfl) (fun _ _ _ h => h) (Or.inl ⟨by kernel_rfl, by intro W hW; go_simp⟩) hHeld ?_
                refine wpAnyH_take (i := 15) (oi := ⟨some 206, .load 22 (.tmp 205), _, _, _, some (13, true)⟩) (v := .slice pg mg.length cg) rfl (by kernel_rfl) (by kernel_rfl) (by kernel_rfl) (fun _ _ _ h => h) (Or.inl ⟨by kernel_rfl, by intro W hW; have q0 := hW.2.1; go_simp⟩) hHeld ?_
                refine wpAnyH_take (i := 16) (oi := ⟨some 207, .move (.tmp 20), _, _, _, some (13, true)⟩) (v := .slice p8 n8 c8) rfl (by kernel_rfl) (by kernel_rfl) (by kernel_rfl) (fun _ _ _ h => h) (Or.inl ⟨by kernel_rfl, by intro W hW; go_simp⟩) hHeld ?_
                refine wpAnyH_ready (rs := [17]) (by kernel_rfl) (by simp) ?_
                refine AllReadyH.cons rfl (fun K hK => ?_) AllReadyH.nil
                go_simp
                refine (HREC.out _ HD.out).mono ?_
                rintro e w13 ⟨rfl, hb13⟩
                replace HD := hid (below_on HD.out hb13)
                clear hb13
                go_wp2_with fail
                refine hK.out _ _ (HSF4.out _ HD.out) (fun hHeld => ?_)
                clear hK K
                refine wpAnyH_take (i := 18) (oi := ⟨some 209, .pick (.tmp 204) (.tmp 208) (.const (.bool false)), _, _, _, none⟩) (v := .bool true) rfl (by kernel_rfl) (by kernel_rfl) (by kernel_rfl) (fun _ _ _ h => h) (Or.inl ⟨by kernel_rfl, by intro W hW; go_simp⟩) hHeld ?_
                refine wpAnyH_take (i := 19) (oi := ⟨some 210, .move (.tmp 209), _, _, _, none⟩) (v := .bool true) rfl (by kernel_rfl) (by kernel_rfl) (by kernel_rfl) (fun _ _ _ h => h) (Or.inl ⟨by kernel_rfl, by intro W hW; go_simp⟩) hHeld ?_
                refine wpAnyH_take (i := 20) (oi := ⟨some 211, .move (.tmp 23), _, _, _, some (19, true)⟩) (v := i64 6) rfl (by kernel_rfl) (by kernel_rfl) (by kernel_rfl) (fun _ _ _ h => h) (Or.inl ⟨by kernel_rfl, by intro W hW; go_simp⟩) hHeld ?_
                refine wpAnyH_take (i := 21) (oi := ⟨some 212, .binOp .eql 28 (.tmp 211) (.const (.int .i64 6)) 28, _, _, _, some (19, true)⟩) (v := .bool true) rfl (by kernel_rfl) (by kernel_rfl) (by kernel_rfl) (fun _ _ _ h => h) (Or.inl ⟨by kernel_rfl, by intro W hW; go_simp⟩) hHeld ?_
                refine wpAnyH_take (i := 22) (oi := ⟨some 213, .pick (.tmp 210) (.tmp 212) (.const (.bool false)), _, _, _, none⟩) (v := .bool true) rfl (by kernel_rfl) (by kernel_rfl) (by kernel_rfl) (fun _ _ _ h => h) (Or.inl ⟨by kernel_rfl, by intro W hW; go_simp⟩) hHeld ?_
                refine wpAnyH_take (i := 23) (oi := ⟨some 214, .move (.tmp 213), _, _, _, none⟩) (v := .bool true) rfl (by kernel_rfl) (by kernel_rfl) (by kernel_rfl) (fun _ _ _ h => h) (Or.inl ⟨by kernel_rfl, by intro W hW; go_simp⟩) hHeld ?_
                refine wpAnyH_take (i := 24) (oi := ⟨some 215, .move (.tmp 25), _, _, _, some (23, true)⟩) (v := i64 0) rfl (by kernel_rfl) (by kernel_rfl) (by kernel_rfl) (fun _ _ _ h => h) (Or.inl ⟨by kernel_rfl, by intro W hW; go_simp⟩) hHeld ?_
                refine wpAnyH_take (i := 25) (oi := ⟨some 216, .binOp .eql 28 (.tmp 215) (.const (.int .i64 0)) 28, _, _, _, some (23, true)⟩) (v := .bool true) rfl (by kernel_rfl) (by kernel_rfl) (by kernel_rfl) (fun _ _ _ h => h) (Or.inl ⟨by kernel_rfl, by intro W hW; go_simp⟩) hHeld ?_
                refine wpAnyH_take (i := 26) (oi := ⟨some 217, .pick (.tmp 214) (.tmp 216) (.const (.bool false)), _, _, _, none⟩) (v := .bool true) rfl (by kernel_rfl) (by kernel_rfl) (by kernel_rfl) (fun _ _ _ h => h) (Or.inl ⟨by kernel_rfl, by intro W hW; go_simp⟩) hHeld ?_
                refine wpAnyH_take (i := 27) (oi := ⟨some 218, .move (.tmp 217), _, _, _, none⟩) (v := .bool true) rfl (by kernel_rfl) (by kernel_rfl) (by kernel_rfl) (fun _ _ _ h => h) (Or.inl ⟨by kernel_rfl, by intro W hW; go_simp⟩) hHeld ?_
                refine wpAnyH_take (i := 28) (oi := ⟨some 219, .load 44 (.tmp 24), _, _, _, some (27, true)⟩) (v := .agg z0.r.cs) rfl (by kernel_rfl) (by kernel_rfl) (by kernel_rfl) (fun _ _ _ h => h) (Or.inl ⟨by kernel_rfl, fun W hW => exec_load rfl (by kernel_rfl) hW.2.2.2.1⟩) hHeld ?_
                refine wpAnyH_take (i := 29) (oi := ⟨some 220, .move (.tmp 7), _, _, _, some (27, true)⟩) (v := .slice (some ⟨bw, ow, none⟩) mw.length cw) rfl (by kernel_rfl) (by kernel_rfl) (by kernel_rfl) (fun _ _ _ h => h) (Or.inl ⟨by kernel_rfl, by intro W hW; go_simp⟩) hHeld ?_
                refine wpAnyH_take (i := 30) (oi := ⟨some 221, .indexAddr 22 (.tmp 220) (.const (.int .i64 0)), _, _, _, some (27, true)⟩) (v := .pointer (some ⟨bw, ow, none⟩)) rfl (by kernel_rfl) (by kernel_rfl) (by kernel_rfl) (fun _ _ _ h => h) (Or.inl ⟨by kernel_rfl, by intro W hW; go_simp; intro e; exact absurd hql (by rw [e]; exact Nat.not_lt_zero _)⟩) hHeld ?_
                refine wpAnyH_take (i := 31) (oi := ⟨some 222, .load 44 (.tmp 221), _, _, _, some (27, true)⟩) (v := .agg y0.r.cs) rfl (by kernel_rfl) (by kernel_rfl) (by kernel_rfl) (fun _ _ _ h => h) (Or.inl ⟨by kernel_rfl, fun W hW => exec_load rfl (by kernel_rfl) hW.2.2.2.2⟩) hHeld ?_
                refine wpAnyH_ready (rs := [32]) (by kernel_rfl) (by simp) ?_
                refine AllReadyH.cons rfl (fun K hK => ?_) AllReadyH.nil
                go_simp
                refine (HSA.out _ HD.out).mono ?_
                rintro e w14 ⟨rfl, hb14⟩
                replace HD := hid (below_on HD.out hb14)
                clear hb14
                go_wp2_with fail
                refine hK.out _ _ (HSF4.out _ HD.out) (fun hHeld => ?_)
                clear hK K
                refine wpAnyH_take (i := 33) (oi := ⟨some 224, .pick (.tmp 218) (.tmp 223) (.const (.bool false)), _, _, _, none⟩) (v := .bool true) rfl (by kernel_rfl) (by kernel_rfl) (by kernel_rfl) (fun _ _ _ h => h) (Or.inl ⟨by kernel_rfl, by intro W hW; go_simp⟩) hHeld ?_
                refine wpAnyH_take (i := 34) (oi := ⟨some 4, .assign (.tmp 224), _, _, _, none⟩) (v := .bool true) rfl (by kernel_rfl) (by kernel_rfl) (by kernel_rfl) (fun _ _ _ h => h) (Or.inl ⟨by kernel_rfl, by intro W hW; go_simp⟩) hHeld ?_
                refine wpAnyH_done (by kernel_rfl) ?_ _
                simp only [Act.put, List.setIfInBounds_toArray, List.set_cons_zero, List.set_cons_succ]
                go_wp2
                go_ret
                exact ⟨rfl, below_on HGL.out.below HD.out⟩
#print axioms grow_walk
end Go.Proofs.YtcbmimjjpkkoeaaDoor
