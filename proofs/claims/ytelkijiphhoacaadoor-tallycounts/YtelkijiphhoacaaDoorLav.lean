/- Texts laid into one, cut to what is needed: the remark ahead of each part says what is proved there. -/
import Derived.Test.YtelkijiphhoacaaDoorLau
/- TallyTrue: the walk. -/
namespace Go.Proofs.YtelkijiphhoacaaDoor
open Go Go.RowKit

theorem IsCp.keep {w w' : World} {x : Cv} (h : IsCp w x) (hk : ∀ a, w.cell? a ≠ none → w'.cell? a = w.cell? a) : IsCp w' x := by
  obtain ⟨⟨po, c, h1, h2, h3⟩, h4⟩ := h
  exact ⟨⟨po, c, h1, h2.keep hk, h3⟩, h4⟩
theorem IsC.below {w w' : World} {v : Value} {l : List Cv} (h : IsC w v l) (hb : Below w.heap.size w w') : IsC w' v l := by
  have hk : ∀ a, w.cell? a ≠ none → w'.cell? a = w.cell? a := fun a ha => World.cell?_of_block (hb.block a.block (cell_lt' ha))
  obtain ⟨po, c, h1, h2, h3, h4, h5, h6⟩ := h
  refine ⟨po, c, h1, h2, h3, h4, ?_, fun x hx => (h6 x hx).keep hk⟩
  rcases h5 with h5 | ⟨b, o, e, h5⟩
  · exact Or.inl h5
  · exact Or.inr ⟨b, o, e, h5.keep hk⟩
/-- What is true of what counts. -/
theorem ch_facts (l : List Cp) (h8 : ∀ c ∈ l, ∀ z ∈ c.b, z < 256) : ((chC dig l).found = true → votC l (chC dig l).b = (chC dig l).vot ∧ 1 ≤ (chC dig l).vot) ∧ (∀ c ∈ l, ∀ j, hasJ dig c = some j → (chC dig l).found = true ∧ j.seq ≤ (chC dig l).j.seq) ∧ (chC dig l).ans = ansN l ∧ (∀ z ∈ (chC dig l).b, z < 256) ∧ (chC dig l).vot ≤ l.length := by
  cases h : elC dig l with
  | none =>
    rw [chC_none h]
    exact ⟨(fun e => by cases e), (fun c hc j hj => by rw [el_none h c hc] at hj; cases hj), rfl, by simp, Nat.zero_le _⟩
  | some q =>
    obtain ⟨j, b, n⟩ := q
    rw [chC_some h]
    obtain ⟨hn, c, hc, hj, hb⟩ := el_mem h
    refine ⟨fun _ => ⟨hn.symm, ?_⟩, fun c' hc' j' hj' => ⟨rfl, ?_⟩, rfl, ?_, ?_⟩
    · show 1 ≤ n
      rw [hn, ← hb]; exact vot_pos hc (has_err hj).1
    · obtain ⟨j2, b2, n2, e, hm⟩ := el_max hc' hj'
      rw [h] at e
      cases e
      unfold leC at hm
      simp only at hm
      show j'.seq ≤ j.seq
      omega
    · show ∀ z ∈ b, z < 256
      rw [← hb]; exact h8 c hc
    · show n ≤ l.length
      rw [hn]; exact vot_le l b
set_option maxRecDepth 100000 in
set_option maxHeartbeats 8000000 in
theorem true9_any (a0 a1 : Addr) (v : Value) (l : List Cv) (k : Int) (w : World) (he : Ers w a0 a1) (hl : IsC w v l) : Calls Tryd.prog 4 #[v, i64 k] w fun e w' => e = .returned (.bool true) ∧ Below w.heap.size w w' := by
  have HAW := hid (awake9_any a0 a1 w he)
  have HIC := hid hl
  have HLG := hid (fun W (hW : Below w.heap.size w W) => large9_any v l W (hl.below hW))
  obtain ⟨po, c, hv, hc1, hcm, -⟩ := hl
  obtain ⟨n, hN⟩ : ∃ n, l.length = n := ⟨_, rfl⟩
  have HN := hid hN
  rw [hN] at hv hc1
  subst hv
  have hlm : (n : Int) ≤ 9223372036854775807 := by have : n ≤ maxLen := Nat.le_trans hc1 hcm; unfold maxLen at this; omega
  clear hc1 hcm hN
  cases hb : bigC l with
  | true =>
    rw [hb] at HLG
    clear he
    go_enter Tryd.func4, Tryd.ntmps4
    go_wp2_with (first
      | (go_at_call 6; refine HAW.out.mono ?_; rintro e w1 ⟨rfl, hb1⟩; have HB1 := hid hb1; clear hb1)
      | (go_at_call 7; refine (HLG.out _ HB1.out).mono ?_; rintro e w2 ⟨rfl, hw⟩; have h2 := hw.symm; subst h2))
    go_ret
    exact ⟨rfl, HB1.out⟩
  | false =>
  rw [hb] at HLG
  obtain ⟨hcl, hn20, -⟩ := HIC.out.cl hb
  have HL := hid hcl
  rw [HN.out] at hn20
  have HARM : Hid True := hid trivial
  by_cases h16 : (16 : Int) < (n : Int)
  · clear he hcl
    go_enter Tryd.func4, Tryd.ntmps4
    go_wp2_with (first
      | (go_at_call 6; refine HAW.out.mono ?_; rintro e w1 ⟨rfl, hb1⟩; have HB1 := hid hb1; clear hb1)
      | (go_at_call 7; refine (HLG.out _ HB1.out).mono ?_; rintro e w2 ⟨rfl, hw⟩; have h2 := hw.symm; subst h2))
    go_ret
    exact ⟨rfl, HB1.out⟩
  by_cases hk1 : k < 1
  · clear he hcl
    go_enter Tryd.func4, Tryd.ntmps4
    go_wp2_with (first
      | (go_at_call 6; refine HAW.out.mono ?_; rintro e w1 ⟨rfl, hb1⟩; have HB1 := hid hb1; clear hb1)
      | (go_at_call 7; refine (HLG.out _ HB1.out).mono ?_; rintro e w2 ⟨rfl, hw⟩; have h2 := hw.symm; subst h2))
    go_ret
    exact ⟨rfl, HB1.out⟩
  by_cases hkn : (n : Int) < k
  · clear he hcl
    go_enter Tryd.func4, Tryd.ntmps4
    go_wp2_with (first
      | (go_at_call 6; refine HAW.out.mono ?_; rintro e w1 ⟨rfl, hb1⟩; have HB1 := hid hb1; clear hb1)
      | (go_at_call 7; refine (HLG.out _ HB1.out).mono ?_; rintro e w2 ⟨rfl, hw⟩; have h2 := hw.symm; subst h2))
    go_ret
    exact ⟨rfl, HB1.out⟩
  have HEL := hid (fun W (hW : Below w.heap.size w W) => elect_any _ l k W a0 a1 (he.below hW) (hcl.below hW))
  have hcond : ¬ (16 < (cps l).length ∨ k < 1 ∨ ((cps l).length : Int) < k) := by
    rw [cps_len, HN.out]; rintro (e | e | e) <;> omega
  unfold elE at HEL
  rw [if_neg hcond] at HEL
  obtain ⟨f1, f2, f3, f4, f5⟩ := ch_facts (cps l) (fun c hc z hz => by
    obtain ⟨x, hx, rfl⟩ := List.mem_map.1 hc
    exact (hcl.each x hx).byte z hz)
  obtain ⟨CH, hCH⟩ : ∃ CH, chC dig (cps l) = CH := ⟨_, rfl⟩
  rw [hCH] at f1 f2 f3 f4 f5 HEL
  obtain ⟨A, hA⟩ : ∃ A, ansN (cps l) = A := ⟨_, rfl⟩
  have hAn : A ≤ n := by rw [← hA, ← HN.out, ← cps_len]; exact ans_le _
  have HA := hid hA
  have HER := hid (fun W (hW : Below w.heap.size w W) => he.below hW)
  have F1 := hid f1
  have F2 := hid f2
  have F3 := hid f3
  have F4 := hid f4
  have F5 := hid f5
  rw [hA] at HEL
  clear he hcl hcond f1 f2 f3 f4 f5 hCH hA
  go_enter Tryd.func4, Tryd.ntmps4
  go_wp2_with (first
    | (go_at_call 6; refine HAW.out.mono ?_; rintro e w1 ⟨rfl, hb1⟩; have HB1 := hid hb1; clear hb1)
    | (go_at_call 7; refine (HLG.out _ HB1.out).mono ?_; rintro e w2 ⟨rfl, hw⟩; have h2 := hw.symm; subst h2))
  go_loopg [6, 7] n (fun gg s6 s7 wr => ∃ kk q : Nat, kk ≤ n ∧ n - kk ≤ gg ∧ q ≤ kk ∧ s6 = i64 q ∧ s7 = i64 kk ∧ Hid (ansN (cps (l.take kk)) = q) ∧ Hid (w1 = wr))
  case atStart => exact ⟨0, 0, Nat.zero_le _, by omega, Nat.zero_le _, rfl, rfl, hid rfl, hid rfl⟩
  case round =>
    obtain ⟨kk, q, hkk, hg, hqk, rfl, rfl, HQ, BW⟩ := hrel
    have hwr := BW.out
    subst hwr
    by_cases hlt : kk < n
    · have hltz : (kk : Int) < (n : Int) := by omega
      obtain ⟨x, hx⟩ : ∃ x, l[kk]? = some x := ⟨_, List.getElem?_eq_getElem (by have := HN.out; omega)⟩
      obtain ⟨b, o, c', e, -⟩ := HL.out.where hx
      rw [HN.out] at e
      cases e
      obtain ⟨k0, -, -⟩ := HL.out.at HB1.out hx
      have HXN : Hid (ansN (cps (l.take (kk + 1))) = q + if ansC x.cp then 1 else 0) := hid (by rw [cps_next hx, ans_snoc, HQ.out])
      rw [ansC_eq] at HXN
      clear hx
      by_cases hE : x.err = 0
      · rw [hE] at k0 HXN
        clear hE
        go_wp2
        go_roundg (n - (kk + 1))
        case measure => omega
        case rel => exact ⟨kk + 1, q + 1, by omega, by omega, by omega, by go_num, by go_num, HXN, hid rfl⟩
      · have hz : (x.err == 0) = false := by simpa using hE
        by_cases hE6 : x.err = 6
        · rw [hE6] at k0 HXN
          clear hE hE6 hz
          go_wp2
          go_roundg (n - (kk + 1))
          case measure => omega
          case rel => exact ⟨kk + 1, q + 1, by omega, by omega, by omega, by go_num, by go_num, HXN, hid rfl⟩
        · have hz6 : (x.err == 6) = false := by simpa using hE6
          rw [decide_eq_false hE, decide_eq_false hE6] at HXN
          generalize x.err = E at k0 hz hz6
          clear hE hE6
          go_wp2
          go_roundg (n - (kk + 1))
          case measure => omega
          case rel => exact ⟨kk + 1, q, by omega, by omega, by omega, rfl, by go_num, HXN, hid rfl⟩
    · have hltz : ¬ (kk : Int) < (n : Int) := by omega
      have hqA : q = A := by rw [← HA.out, ← HQ.out, List.take_of_length_le (by have := HN.out; omega)]
      subst hqA
      clear hlt hkk hg HQ BW hqk
      by_cases hq : (q : Int) < k
      · rw [if_pos hq] at HEL
        have hbq : decide ((q : Int) < k) = true := decide_eq_true hq
        have T1 : Hid True := hid trivial
        go_wp2_with (first
          | (go_at_call 12; refine (HEL.out _ HB1.out).mono ?_; rintro e w3 ⟨s3, v3, b3, h3, m3, rfl, hr, hj, -, hsl, -, hbo, hw⟩; have HB3 := hid (below_on HB1.out hw); have hv3 := hr.one; have hb3 : b3.oneCell' = true := (by obtain ⟨_, _, e, _⟩ := hsl; rw [e]; rfl); have hh3 : h3.oneCell' = true := (by obtain ⟨_, _, e, _⟩ := hbo; rw [e]; rfl); clear hr hj hsl hw hbo)
          | ((with_reducible refine wpList_allocX 40 _ zeroCh rfl rfl ?_); intro w6 g6 hz6 hb6 hg6; have HZ6 := hid hz6; have HB6 := hid hb6; have HG6 := hid hg6; clear hz6 hb6 hg6)
          | ((with_reducible refine wpList_storeX 40 7 sizeCh rfl rfl _ _ rfl g6 ?_ (D := eC false s3 v3 b3 h3 0 0) ?_ ?_ ?_ ?_ HZ6.out ?_); exact rfl; exact rfl; exact rfl; exact rfl; exact eC_one _ _ hv3 hb3 hh3 _ _; intro w7 h7 o7; have hb7 := ownX HB6.out HG6.out o7; replace HB3 := hid (below_on HB3.out hb7); clear h7 o7 HZ6 HB6 HG6 hb7))
        go_ret
        exact ⟨rfl, HB3.out⟩
      · rw [if_neg hq] at HEL
        have hbq : decide ((q : Int) < k) = false := decide_eq_false hq
        obtain ⟨CF, CJ, CBB, CHS, CAN, CVO⟩ := CH
        go_upto_region 15 with (first
          | (go_at_call 12; refine (HEL.out _ HB1.out).mono ?_; rintro e w3 ⟨s3, v3, b3, h3, m3, rfl, hr, hj, -, hsl, -, hbo, hw⟩; have HB3 := hid (below_on HB1.out hw); have hv3 := hr.one; have hh3 : h3.oneCell' = true := (by obtain ⟨_, _, e, _⟩ := hbo; rw [e]; rfl); have hs3 : s3 = CJ.seq := (congrArg Jr.seq hj); subst hs3; obtain ⟨pb, nb, cb, hfb⟩ : ∃ p n c, b3 = .slice p n c := (by obtain ⟨p, c, e, _⟩ := hsl; exact ⟨p, _, c, e⟩); subst hfb; have HSL := hid hsl; clear hr hj hsl hw hbo)
          | ((with_reducible refine wpList_allocX 40 _ zeroCh rfl rfl ?_); intro w6 g6 hz6 hb6 hg6; have HZ6 := hid hz6; have HB6 := hid hb6; have HG6 := hid hg6; clear hz6 hb6 hg6)
          | ((with_reducible refine wpList_storeX 40 7 sizeCh rfl rfl _ _ rfl g6 ?_ (D := eC CF CJ.seq v3 (.slice pb nb cb) h3 CAN CVO) ?_ ?_ ?_ ?_ HZ6.out ?_); exact rfl; exact rfl; exact rfl; exact rfl; exact eC_one _ _ hv3 rfl hh3 _ _; intro w7 h7 o7; have hb7 := ownX HB6.out HG6.out o7; replace HB3 := hid (below_on HB3.out hb7); replace HSL := hid (HSL.out.below hb7); have HC7 := hid h7; clear h7 o7 HZ6 HB6 HG6 hb7))
        cases CF with
        | false =>
          have HD := hid (below_drew w7)
          have HWX : Hid (Below w7.heap.size w7 w7.drew) := hid HD.out
          have HK := hid (show ∀ W, Below w7.heap.size w7 W → W.cell? ⟨g6, 0, none⟩ = some (.bool false) from fun W hW => (HC7.out.below hW).cell 0)
          refine wp_region_held_drew (S := (fun W => W.cell? ⟨g6, 0, none⟩ = some (.bool false))) (by kernel_rfl) (HK.out _ HD.out) (fun hHeld => ?_)
          refine wpAnyH_take (i := 0) (oi := ⟨some 77, .fieldAddr 40 (.tmp 8) 0, _, _, _, none⟩) (v := .pointer (some ⟨g6, 0, none⟩)) rfl (by kernel_rfl) (by kernel_rfl) (by kernel_rfl) (fun _ _ _ h => h) (Or.inl ⟨by kernel_rfl, by intro W hW; have q0 := hW; go_simp⟩) hHeld ?_
          refine wpAnyH_take (i := 1) (oi := ⟨some 78, .load 4 (.tmp 77), _, _, _, none⟩) (v := .bool false) rfl (by kernel_rfl) (by kernel_rfl) (by kernel_rfl) (fun _ _ _ h => h) (Or.inl ⟨by kernel_rfl, by intro W hW; have q0 := hW; go_simp⟩) hHeld ?_
          refine wpAnyH_take (i := 2) (oi := ⟨some 79, .move (.tmp 78), _, _, _, none⟩) (v := .bool false) rfl (by kernel_rfl) (by kernel_rfl) (by kernel_rfl) (fun _ _ _ h => h) (Or.inl ⟨by kernel_rfl, by intro W hW; go_simp⟩) hHeld ?_
          refine wpAnyH_take (i := 3) (oi := ⟨some 80, .move (.tmp 0), _, _, _, some (2, true)⟩) (v := undef) rfl (by kernel_rfl) (by kernel_rfl) (by kernel_rfl) (fun _ _ _ h => h) (Or.inr ⟨by kernel_rfl, rfl⟩) hHeld ?_
          refine wpAnyH_take (i := 4) (oi := ⟨some 81, .fieldAddr 40 (.tmp 8) 2, _, _, _, some (2, true)⟩) (v := undef) rfl (by kernel_rfl) (by kernel_rfl) (by kernel_rfl) (fun _ _ _ h => h) (Or.inr ⟨by kernel_rfl, rfl⟩) hHeld ?_
          refine wpAnyH_take (i := 5) (oi := ⟨some 82, .load 29 (.tmp 81), _, _, _, some (2, true)⟩) (v := undef) rfl (by kernel_rfl) (by kernel_rfl) (by kernel_rfl) (fun _ _ _ h => h) (Or.inr ⟨by kernel_rfl, rfl⟩) hHeld ?_
          refine wpAnyH_take (i := 6) (oi := ⟨some 83, .call { callee := .value (.func 16), args := #[.tmp 80, .tmp 82], argTypes := #[25, 29] }, _, _, _, some (2, true)⟩) (v := undef) rfl (by kernel_rfl) (by kernel_rfl) (by kernel_rfl) (fun _ _ _ h => h) (Or.inr ⟨by kernel_rfl, rfl⟩) hHeld ?_
          refine wpAnyH_take (i := 7) (oi := ⟨some 84, .fieldAddr 40 (.tmp 8) 5, _, _, _, some (2, true)⟩) (v := undef) rfl (by kernel_rfl) (by kernel_rfl) (by kernel_rfl) (fun _ _ _ h => h) (Or.inr ⟨by kernel_rfl, rfl⟩) hHeld ?_
          refine wpAnyH_take (i := 8) (oi := ⟨some 85, .load 3 (.tmp 84), _, _, _, some (2, true)⟩) (v := undef) rfl (by kernel_rfl) (by kernel_rfl) (by kernel_rfl) (fun _ _ _ h => h) (Or.inr ⟨by kernel_rfl, rfl⟩) hHeld ?_
          refine wpAnyH_take (i := 9) (oi := ⟨some 86, .binOp .neq 3 (.tmp 83) (.tmp 85) 3, _, _, _, some (2, true)⟩) (v := undef) rfl (by kernel_rfl) (by kernel_rfl) (by kernel_rfl) (fun _ _ _ h => h) (Or.inr ⟨by kernel_rfl, rfl⟩) hHeld ?_
          refine wpAnyH_take (i := 10) (oi := ⟨some 87, .move (.tmp 86), _, _, _, some (2, true)⟩) (v := undef) rfl (by kernel_rfl) (by kernel_rfl) (by kernel_rfl) (fun _ _ _ h => h) (Or.inr ⟨by kernel_rfl, rfl⟩) hHeld ?_
          refine wpAnyH_take (i := 11) (oi := ⟨some 88, .fieldAddr 40 (.tmp 8) 5, _, _, _, some (10, false)⟩) (v := undef) rfl (by kernel_rfl) (by kernel_rfl) (by kernel_rfl) (fun _ _ _ h => h) (Or.inr ⟨by kernel_rfl, rfl⟩) hHeld ?_
          refine wpAnyH_take (i := 12) (oi := ⟨some 89, .load 3 (.tmp 88), _, _, _, some (10, false)⟩) (v := undef) rfl (by kernel_rfl) (by kernel_rfl) (by kernel_rfl) (fun _ _ _ h => h) (Or.inr ⟨by kernel_rfl, rfl⟩) hHeld ?_
          refine wpAnyH_take (i := 13) (oi := ⟨some 90, .binOp .lss 3 (.tmp 89) (.const (.int .i64 1)) 3, _, _, _, some (10, false)⟩) (v := undef) rfl (by kernel_rfl) (by kernel_rfl) (by kernel_rfl) (fun _ _ _ h => h) (Or.inr ⟨by kernel_rfl, rfl⟩) hHeld ?_
          refine wpAnyH_take (i := 14) (oi := ⟨some 91, .pick (.tmp 87) (.const (.bool true)) (.tmp 90), _, _, _, some (2, true)⟩) (v := undef) rfl (by kernel_rfl) (by kernel_rfl) (by kernel_rfl) (fun _ _ _ h => h) (Or.inr ⟨by kernel_rfl, rfl⟩) hHeld ?_
          refine wpAnyH_take (i := 15) (oi := ⟨some 92, .pick (.tmp 79) (.tmp 91) (.const (.bool false)), _, _, _, none⟩) (v := .bool false) rfl (by kernel_rfl) (by kernel_rfl) (by kernel_rfl) (fun _ _ _ h => h) (Or.inl ⟨by kernel_rfl, by intro W hW; go_simp⟩) hHeld ?_
          refine wpAnyH_done (by kernel_rfl) ?_ _
          simp only [Act.put, List.setIfInBounds_toArray, List.set_cons_zero, List.set_cons_succ]
          clear hHeld
          go_wp2
          go_loopg [10] n (fun gg s10 wr => ∃ kk : Nat, kk ≤ n ∧ n - kk ≤ gg ∧ s10 = i64 kk ∧ Hid (Below w7.heap.size w7 wr))
          case atStart => exact ⟨0, Nat.zero_le _, by omega, rfl, hid HWX.out⟩
          case round =>
            obtain ⟨kk, hkk, hg, rfl, BW⟩ := hrel
            have k0 : wr.cell? ⟨g6, 0, none⟩ = some (.bool false) := (HC7.out.below BW.out).cell 0
            have k1 : wr.cell? ⟨g6, 1, none⟩ = some (i64 CJ.seq) := (HC7.out.below BW.out).cell 1
            by_cases hlt : kk < n
            · have hltz : (kk : Int) < (n : Int) := by omega
              obtain ⟨x, hx⟩ : ∃ x, l[kk]? = some x := ⟨_, List.getElem?_eq_getElem (by have := HN.out; omega)⟩
              obtain ⟨b, o, c', e, -⟩ := HL.out.where hx
              rw [HN.out] at e
              cases e
              have HXM : Hid (x.cp ∈ cps l) := hid (List.mem_map.2 ⟨x, List.mem_of_getElem? hx, rfl⟩)
              obtain ⟨ke, kb, hok⟩ := HL.out.at (below_on HB3.out BW.out) hx
              obtain ⟨⟨p1, c1, hxv, hbl, hmc, hnil⟩, hsm, h8⟩ := hok
              rw [hxv] at kb
              have HRD := hid (jread_any p1 c1 x.bs wr a0 a1 hbl hmc hsm h8 (HER.out _ (below_on HB3.out BW.out)))
              obtain ⟨m1, hm1⟩ : ∃ m, x.bs.length = m := ⟨_, rfl⟩
              rw [hm1] at kb HRD
              clear hx hbl hmc hnil hsm h8 hxv hm1
              by_cases hE : x.err = 0
              · rw [hE] at ke
                have HHJ : Hid (hasJ dig x.cp = (rdJ dig x.bs).2) := hid (by unfold hasJ; rw [if_pos (show x.cp.err = 0 from hE)]; rfl)
                clear hE
                cases hj : (rdJ dig x.bs).2 with
                | none =>
                  obtain ⟨er, her⟩ : ∃ er, (rdJ dig x.bs).1 = er := ⟨_, rfl⟩
                  have her2 := rdJ_err hj
                  rw [her] at her2
                  unfold AddS at HRD
                  rw [hj, her] at HRD
                  have hz : ((er : Int) == 0) = false := by rcases her2 with rfl | rfl <;> rfl
                  clear her her2 hj
                  go_wp2_with (first
                    | (go_at_call 17; refine HRD.out.mono ?_; rintro e w4 ⟨rfl, hb4⟩; have HB4 := hid (below_on BW.out hb4); clear hb4 k0 k1 ke kb)
                    | ((with_reducible refine wpList_allocJ rfl rfl ?_); intro w5 g5 hz5 hb5 hg5; have HZ5 := hid hz5; have HB5 := hid hb5; have HG5 := hid hg5; clear hz5 hb5 hg5)
                    | ((with_reducible refine wpList_storeJ rfl rfl _ _ rfl g5 ?_ (s := 0) (v := .slice none 0 0) ?_ rfl HZ5.out ?_); exact rfl; exact rfl; intro w8 h8 o8; have HB8 := hid (below_on HB4.out (ownX HB5.out HG5.out o8)); clear h8 o8 HZ5 HB5 HG5))
                  go_roundg (n - (kk + 1))
                  case measure => omega
                  case rel => exact ⟨kk + 1, by omega, by omega, by go_num, HB8⟩
                | some j =>
                  have hf2 := F2.out _ HXM.out j (by rw [HHJ.out]; exact hj)
                  unfold AddS at HRD
                  rw [hj] at HRD
                  exact absurd hf2.1 (by simp)
              · have hz : (x.err != 0) = true := by simpa using hE
                generalize x.err = E at ke hz
                clear hE HRD
                go_wp2
                go_roundg (n - (kk + 1))
                case measure => omega
                case rel => exact ⟨kk + 1, by omega, by omega, by go_num, BW⟩
            · have hltz : ¬ (kk : Int) < (n : Int) := by omega
              have k5 : wr.cell? ⟨g6, 5, none⟩ = some (i64 q) := by have := (HC7.out.below BW.out).cell 5; rw [show CAN = q from F3.out.trans HA.out] at this; exact this
              have hqq : ((q : Int) == (q : Int)) = true := by simp
              go_wp2
              go_ret
              exact ⟨rfl, below_on HB3.out BW.out⟩
        | true =>
          have HD := hid (below_drew w7)
          obtain ⟨hvb, hv1⟩ := F1.out rfl
          have HCN := hid (fun W (hW : Below w7.heap.size w7 W) => cnt9_any _ _ l CBB W (HL.out.below (below_on HB3.out hW)) (HSL.out.below hW) F4.out)
          (try simp only at hvb hv1)
          rw [hvb] at HCN
          have hne : ((CVO : Int) != (CVO : Int)) = false := by simp
          have hge : ¬ (CVO : Int) < 1 := by omega
          have HK := hid (show ∀ W, Below w7.heap.size w7 W → W.cell? ⟨g6, 0, none⟩ = some (.bool true) ∧ W.cell? ⟨g6, 3, none⟩ = some (.slice pb nb cb) ∧ W.cell? ⟨g6, 6, none⟩ = some (i64 CVO) from fun W hW => ⟨(HC7.out.below hW).cell 0, (HC7.out.below hW).cell 3, (HC7.out.below hW).cell 6⟩)
          clear hvb
          go_region_held3 (fun W => W.cell? ⟨g6, 0, none⟩ = some (.bool true) ∧ W.cell? ⟨g6, 3, none⟩ = some (.slice pb nb cb) ∧ W.cell? ⟨g6, 6, none⟩ = some (i64 CVO)) (first | with_reducible exact HK.out _ HD.out | with_reducible exact HK.out _ HWX.out) (first | (go_at_call 16; refine (HCN.out _ HD.out).mono ?_; rintro e w8 ⟨rfl, hb8⟩; have HWX := hid (below_on HD.out hb8); clear hb8))
          go_wp2
          go_loopg [10] n (fun gg s10 wr => ∃ kk : Nat, kk ≤ n ∧ n - kk ≤ gg ∧ s10 = i64 kk ∧ Hid (Below w7.heap.size w7 wr))
          case atStart => exact ⟨0, Nat.zero_le _, by omega, rfl, hid HWX.out⟩
          case round =>
            obtain ⟨kk, hkk, hg, rfl, BW⟩ := hrel
            have k0 : wr.cell? ⟨g6, 0, none⟩ = some (.bool true) := (HC7.out.below BW.out).cell 0
            have k1 : wr.cell? ⟨g6, 1, none⟩ = some (i64 CJ.seq) := (HC7.out.below BW.out).cell 1
            by_cases hlt : kk < n
            · have hltz : (kk : Int) < (n : Int) := by omega
              obtain ⟨x, hx⟩ : ∃ x, l[kk]? = some x := ⟨_, List.getElem?_eq_getElem (by have := HN.out; omega)⟩
              obtain ⟨b, o, c', e, -⟩ := HL.out.where hx
              rw [HN.out] at e
              cases e
              have HXM : Hid (x.cp ∈ cps l) := hid (List.mem_map.2 ⟨x, List.mem_of_getElem? hx, rfl⟩)
              obtain ⟨ke, kb, hok⟩ := HL.out.at (below_on HB3.out BW.out) hx
              obtain ⟨⟨p1, c1, hxv, hbl, hmc, hnil⟩, hsm, h8⟩ := hok
              rw [hxv] at kb
              have HRD := hid (jread_any p1 c1 x.bs wr a0 a1 hbl hmc hsm h8 (HER.out _ (below_on HB3.out BW.out)))
              obtain ⟨m1, hm1⟩ : ∃ m, x.bs.length = m := ⟨_, rfl⟩
              rw [hm1] at kb HRD
              clear hx hbl hmc hnil hsm h8 hxv hm1
              by_cases hE : x.err = 0
              · rw [hE] at ke
                have HHJ : Hid (hasJ dig x.cp = (rdJ dig x.bs).2) := hid (by unfold hasJ; rw [if_pos (show x.cp.err = 0 from hE)]; rfl)
                clear hE
                cases hj : (rdJ dig x.bs).2 with
                | none =>
                  obtain ⟨er, her⟩ : ∃ er, (rdJ dig x.bs).1 = er := ⟨_, rfl⟩
                  have her2 := rdJ_err hj
                  rw [her] at her2
                  unfold AddS at HRD
                  rw [hj, her] at HRD
                  have hz : ((er : Int) == 0) = false := by rcases her2 with rfl | rfl <;> rfl
                  clear her her2 hj
                  go_wp2_with (first
                    | (go_at_call 17; refine HRD.out.mono ?_; rintro e w4 ⟨rfl, hb4⟩; have HB4 := hid (below_on BW.out hb4); clear hb4 k0 k1 ke kb)
                    | ((with_reducible refine wpList_allocJ rfl rfl ?_); intro w5 g5 hz5 hb5 hg5; have HZ5 := hid hz5; have HB5 := hid hb5; have HG5 := hid hg5; clear hz5 hb5 hg5)
                    | ((with_reducible refine wpList_storeJ rfl rfl _ _ rfl g5 ?_ (s := 0) (v := .slice none 0 0) ?_ rfl HZ5.out ?_); exact rfl; exact rfl; intro w8 h8 o8; have HB8 := hid (below_on HB4.out (ownX HB5.out HG5.out o8)); clear h8 o8 HZ5 HB5 HG5))
                  go_roundg (n - (kk + 1))
                  case measure => omega
                  case rel => exact ⟨kk + 1, by omega, by omega, by go_num, HB8⟩
                | some j =>
                  have hf2 := F2.out _ HXM.out j (by rw [HHJ.out]; exact hj)
                  unfold AddS at HRD
                  rw [hj] at HRD
                  have hsq : ¬ (CJ.seq < j.seq) := by have := hf2.2; (try simp only at this); omega
                  clear hj hf2
                  go_wp2_with (first
                    | (go_at_call 17; refine HRD.out.mono ?_; rintro e w4 ⟨v4, m4, rfl, hr4, he4, hb4⟩; have HB4 := hid (below_on BW.out hb4); have hv4 := hr4.one; clear hb4 k0 k1 ke kb hr4 he4)
                    | ((with_reducible refine wpList_allocJ rfl rfl ?_); intro w5 g5 hz5 hb5 hg5; have HZ5 := hid hz5; have HB5 := hid hb5; have HG5 := hid hg5; clear hz5 hb5 hg5)
                    | ((with_reducible refine wpList_storeJ rfl rfl _ _ rfl g5 ?_ (s := j.seq) (v := v4) ?_ hv4 HZ5.out ?_); exact rfl; exact rfl; intro w8 h8 o8; have HB8 := hid (below_on HB4.out (ownX HB5.out HG5.out o8)); have kj : w8.cell? ⟨g5, 0, none⟩ = some (i64 j.seq) := h8.j0; have k0 : w8.cell? ⟨g6, 0, none⟩ = some (.bool true) := (HC7.out.below HB8.out).cell 0; have k1 : w8.cell? ⟨g6, 1, none⟩ = some (i64 CJ.seq) := (HC7.out.below HB8.out).cell 1; clear h8 o8 HZ5 HB5 HG5))
                  go_roundg (n - (kk + 1))
                  case measure => omega
                  case rel => exact ⟨kk + 1, by omega, by omega, by go_num, HB8⟩
              · have hz : (x.err != 0) = true := by simpa using hE
                generalize x.err = E at ke hz
                clear hE HRD
                go_wp2
                go_roundg (n - (kk + 1))
                case measure => omega
                case rel => exact ⟨kk + 1, by omega, by omega, by go_num, BW⟩
            · have hltz : ¬ (kk : Int) < (n : Int) := by omega
              have k5 : wr.cell? ⟨g6, 5, none⟩ = some (i64 q) := by have := (HC7.out.below BW.out).cell 5; rw [show CAN = q from F3.out.trans HA.out] at this; exact this
              have hqq : ((q : Int) == (q : Int)) = true := by simp
              go_wp2
              go_ret
              exact ⟨rfl, below_on HB3.out BW.out⟩
end Go.Proofs.YtelkijiphhoacaaDoor
