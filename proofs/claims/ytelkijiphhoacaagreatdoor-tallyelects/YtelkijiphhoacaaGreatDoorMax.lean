/- Texts laid into one, cut to what is needed: the remark ahead of each part says what is proved there. -/
import Derived.Test.YtelkijiphhoacaaGreatDoorMaw
import Derived.Test.YtelkijiphhoacaaGreatDoorMaj
/- The document's Answers, votes. -/
namespace Go.Proofs.YtelkijiphhoacaaGreatDoor
open Go Go.RowKit

set_option maxRecDepth 100000 in
set_option maxHeartbeats 1000000 in
theorem ranswers_any (e : Int) (v : Value) (w : World) : Calls Tryz.prog 20 #[.agg (cC e v)] w fun r w' => r = .returned (.bool (decide (e = 0) || decide (e = 6))) ∧ Below w.heap.size w w' := by
  by_cases h0 : e = 0
  · subst h0
    go_enter Tryz.func20, Tryz.ntmps20
    go_wp2_with ((with_reducible refine wpList_boxT 44 rfl _ rfl (cC 0 v) ?_ ?_); exact rfl; intro w1 g1 hc1 hb1 hg1; have HB := hid hb1; have c0 := hc1.c0; clear hb1 hc1)
    go_ret
    exact ⟨rfl, HB.out⟩
  · have hq : (e == 0) = false := by simpa using h0
    by_cases h6 : e = 6
    · subst h6
      go_enter Tryz.func20, Tryz.ntmps20
      go_wp2_with ((with_reducible refine wpList_boxT 44 rfl _ rfl (cC 6 v) ?_ ?_); exact rfl; intro w1 g1 hc1 hb1 hg1; have HB := hid hb1; have c0 := hc1.c0; clear hb1 hc1)
      go_ret
      exact ⟨rfl, HB.out⟩
    · have hq6 : (e == 6) = false := by simpa using h6
      go_enter Tryz.func20, Tryz.ntmps20
      go_wp2_with ((with_reducible refine wpList_boxT 44 rfl _ rfl (cC e v) ?_ ?_); exact rfl; intro w1 g1 hc1 hb1 hg1; have HB := hid hb1; have c0 := hc1.c0; clear hb1 hc1)
      go_ret
      refine ⟨?_, HB.out⟩
      rw [decide_eq_false h0, decide_eq_false h6]; rfl
theorem SL.run9 {w : World} {p : Option Addr} {n c : Nat} {x : List Nat} (h : SL w (.slice p n c) x) : (convert 28 9 (.slice p n c)).run Tryz.prog w = .ok (.string (ba x)) w := by
  obtain ⟨po, c', e, h1, _⟩ := h
  cases e
  exact h1.conv c
set_option maxRecDepth 100000 in
set_option maxHeartbeats 4000000 in
theorem rvotes_any (v u : Value) (l : List Cv) (bs : List Nat) (w : World) (hl : CL w v l) (hu : SL w u bs) (h8 : ∀ z ∈ bs, z < 256) : Calls Tryz.prog 22 #[v, u] w fun e w' => e = .returned (i64 (votC (cps l) bs)) ∧ Below w.heap.size w w' := by
  have HL := hid hl
  have HU := hid hu
  have H8 := hid h8
  obtain ⟨po, c, rfl, hc1, hn, -⟩ := hl
  obtain ⟨n, hN⟩ : ∃ n, l.length = n := ⟨_, rfl⟩
  have HN := hid hN
  rw [hN] at hn HL ⊢
  obtain ⟨pu, cu, hfu, -⟩ := hu
  obtain ⟨nu, hnu⟩ : ∃ n, bs.length = n := ⟨_, rfl⟩
  rw [hnu] at hfu
  rw [hfu] at HU ⊢
  clear hN hc1 h8 hfu hnu
  go_enter Tryz.func22, Tryz.ntmps22
  go_wp2
  go_loopg [5, 6] n (fun gg s5 s6 wr => ∃ kk q : Nat, kk ≤ n ∧ n - kk ≤ gg ∧ q ≤ kk ∧ s5 = i64 q ∧ s6 = i64 kk ∧ Hid (votC (cps (l.take kk)) bs = q) ∧ Hid (Below w.heap.size w wr))
  case atStart => exact ⟨0, 0, Nat.zero_le _, by omega, Nat.zero_le _, rfl, rfl, hid rfl, hid (Below.refl _ _)⟩
  case round =>
    obtain ⟨kk, q, hkk, hg, hqk, rfl, rfl, HQ, BW⟩ := hrel
    by_cases hlt : kk < n
    · have hltz : (kk : Int) < (n : Int) := by omega
      obtain ⟨x, hx⟩ : ∃ x, l[kk]? = some x := ⟨_, List.getElem?_eq_getElem (by have := HN.out; omega)⟩
      obtain ⟨b, o, c', e, -⟩ := HL.out.where hx
      rw [HN.out] at e
      cases e
      obtain ⟨-, -, hok0⟩ := HL.out.at BW.out hx
      obtain ⟨p1, c1, hxv, -⟩ := hok0.sl
      obtain ⟨m1, hm1⟩ : ∃ m, x.bs.length = m := ⟨_, rfl⟩
      rw [hm1] at hxv
      have hse : ((ba x.bs).toList == (ba bs).toList) = decide (x.bs = bs) := by rw [lst_beq, lst_ba hok0.byte, lst_ba H8.out]
      have HSF : Hid (∀ W, Below wr.heap.size wr W → (fun W => W.cell? ⟨b, o + kk * 2, none⟩ = some (i64 x.err) ∧ W.cell? ⟨b, o + kk * 2 + 1, none⟩ = some (.slice p1 m1 c1) ∧ (convert 28 9 (.slice p1 m1 c1)).run Tryz.prog W = .ok (.string (ba x.bs)) W ∧ (convert 28 9 (.slice pu nu cu)).run Tryz.prog W = .ok (.string (ba bs)) W) W) := hid (fun W hW => by
        obtain ⟨h1, h2, hok⟩ := HL.out.at (below_on BW.out hW) hx
        have h3 := hok.slv
        rw [hxv] at h2 h3
        exact ⟨h1, h2, h3.run9, (HU.out.below (below_on BW.out hW)).run9⟩)
      have HXN : Hid (votC (cps (l.take (kk + 1))) bs = q + if hasC bs x.cp then 1 else 0) := hid (by rw [cps_next hx, vot_snoc, HQ.out])
      clear hok0 hxv hm1 hx
      by_cases hE : x.err = 0
      · rw [hE] at HSF
        have hh : hasC bs x.cp = decide (x.bs = bs) := by unfold hasC; rw [decide_eq_true (show x.cp.err = 0 from hE)]; rfl
        rw [hh] at HXN
        clear hE hh
        go_wp2_with fail
        cases hd : decide (x.bs = bs) with
        | true =>
          rw [hd] at hse HXN
          refine wp_region_held_drew (S := (fun W => W.cell? ⟨b, o + kk * 2, none⟩ = some (i64 0) ∧ W.cell? ⟨b, o + kk * 2 + 1, none⟩ = some (.slice p1 m1 c1) ∧ (convert 28 9 (.slice p1 m1 c1)).run Tryz.prog W = .ok (.string (ba x.bs)) W ∧ (convert 28 9 (.slice pu nu cu)).run Tryz.prog W = .ok (.string (ba bs)) W)) (by kernel_rfl) (HSF.out _ (below_drew _)) (fun hHeld => ?_)
          refine wpAnyH_take (i := 0) (oi := ⟨some 13, .move (.tmp 0), _, _, _, none⟩) (v := .slice (some ⟨b, o, none⟩) n c) rfl (by kernel_rfl) (by kernel_rfl) (by kernel_rfl) (fun _ _ _ h => h) (Or.inl ⟨by kernel_rfl, by intro W hW; obtain ⟨q0, q1, q2, q3⟩ := hW; go_simp⟩) hHeld ?_
          refine wpAnyH_take (i := 1) (oi := ⟨some 14, .move (.tmp 6), _, _, _, none⟩) (v := i64 kk) rfl (by kernel_rfl) (by kernel_rfl) (by kernel_rfl) (fun _ _ _ h => h) (Or.inl ⟨by kernel_rfl, by intro W hW; obtain ⟨q0, q1, q2, q3⟩ := hW; go_simp⟩) hHeld ?_
          refine wpAnyH_take (i := 2) (oi := ⟨some 15, .indexAddr 22 (.tmp 13) (.tmp 14), _, _, _, none⟩) (v := .pointer (some ⟨b, o + kk * 2, none⟩)) rfl (by kernel_rfl) (by kernel_rfl) (by kernel_rfl) (fun _ _ _ h => h) (Or.inl ⟨by kernel_rfl, by intro W hW; obtain ⟨q0, q1, q2, q3⟩ := hW; go_simp⟩) hHeld ?_
          refine wpAnyH_take (i := 3) (oi := ⟨some 16, .fieldAddr 44 (.tmp 15) 0, _, _, _, none⟩) (v := .pointer (some ⟨b, o + kk * 2, none⟩)) rfl (by kernel_rfl) (by kernel_rfl) (by kernel_rfl) (fun _ _ _ h => h) (Or.inl ⟨by kernel_rfl, by intro W hW; obtain ⟨q0, q1, q2, q3⟩ := hW; go_simp⟩) hHeld ?_
          refine wpAnyH_take (i := 4) (oi := ⟨some 17, .load 32 (.tmp 16), _, _, _, none⟩) (v := i64 0) rfl (by kernel_rfl) (by kernel_rfl) (by kernel_rfl) (fun _ _ _ h => h) (Or.inl ⟨by kernel_rfl, by intro W hW; obtain ⟨q0, q1, q2, q3⟩ := hW; go_simp⟩) hHeld ?_
          refine wpAnyH_take (i := 5) (oi := ⟨some 18, .binOp .eql 32 (.tmp 17) (.const (.int .i64 0)) 32, _, _, _, none⟩) (v := .bool true) rfl (by kernel_rfl) (by kernel_rfl) (by kernel_rfl) (fun _ _ _ h => h) (Or.inl ⟨by kernel_rfl, by intro W hW; obtain ⟨q0, q1, q2, q3⟩ := hW; go_simp⟩) hHeld ?_
          refine wpAnyH_take (i := 6) (oi := ⟨some 19, .move (.tmp 18), _, _, _, none⟩) (v := .bool true) rfl (by kernel_rfl) (by kernel_rfl) (by kernel_rfl) (fun _ _ _ h => h) (Or.inl ⟨by kernel_rfl, by intro W hW; obtain ⟨q0, q1, q2, q3⟩ := hW; go_simp⟩) hHeld ?_
          refine wpAnyH_take (i := 7) (oi := ⟨some 20, .move (.tmp 0), _, _, _, some (6, true)⟩) (v := .slice (some ⟨b, o, none⟩) n c) rfl (by kernel_rfl) (by kernel_rfl) (by kernel_rfl) (fun _ _ _ h => h) (Or.inl ⟨by kernel_rfl, by intro W hW; obtain ⟨q0, q1, q2, q3⟩ := hW; go_simp⟩) hHeld ?_
          refine wpAnyH_take (i := 8) (oi := ⟨some 21, .move (.tmp 6), _, _, _, some (6, true)⟩) (v := i64 kk) rfl (by kernel_rfl) (by kernel_rfl) (by kernel_rfl) (fun _ _ _ h => h) (Or.inl ⟨by kernel_rfl, by intro W hW; obtain ⟨q0, q1, q2, q3⟩ := hW; go_simp⟩) hHeld ?_
          refine wpAnyH_take (i := 9) (oi := ⟨some 22, .indexAddr 22 (.tmp 20) (.tmp 21), _, _, _, some (6, true)⟩) (v := .pointer (some ⟨b, o + kk * 2, none⟩)) rfl (by kernel_rfl) (by kernel_rfl) (by kernel_rfl) (fun _ _ _ h => h) (Or.inl ⟨by kernel_rfl, by intro W hW; obtain ⟨q0, q1, q2, q3⟩ := hW; go_simp⟩) hHeld ?_
          refine wpAnyH_take (i := 10) (oi := ⟨some 23, .fieldAddr 44 (.tmp 22) 1, _, _, _, some (6, true)⟩) (v := .pointer (some ⟨b, o + kk * 2 + 1, none⟩)) rfl (by kernel_rfl) (by kernel_rfl) (by kernel_rfl) (fun _ _ _ h => h) (Or.inl ⟨by kernel_rfl, by intro W hW; obtain ⟨q0, q1, q2, q3⟩ := hW; go_simp⟩) hHeld ?_
          refine wpAnyH_take (i := 11) (oi := ⟨some 24, .load 28 (.tmp 23), _, _, _, some (6, true)⟩) (v := .slice p1 m1 c1) rfl (by kernel_rfl) (by kernel_rfl) (by kernel_rfl) (fun _ _ _ h => h) (Or.inl ⟨by kernel_rfl, by intro W hW; obtain ⟨q0, q1, q2, q3⟩ := hW; go_simp⟩) hHeld ?_
          refine wpAnyH_take (i := 12) (oi := ⟨some 25, .convert 28 9 (.tmp 24), _, _, _, some (6, true)⟩) (v := .string (ba x.bs)) rfl (by kernel_rfl) (by kernel_rfl) (by kernel_rfl) (fun _ _ _ h => h) (Or.inl ⟨by kernel_rfl, by intro W hW; obtain ⟨q0, q1, q2, q3⟩ := hW; go_simp⟩) hHeld ?_
          refine wpAnyH_take (i := 13) (oi := ⟨some 26, .move (.tmp 1), _, _, _, some (6, true)⟩) (v := .slice pu nu cu) rfl (by kernel_rfl) (by kernel_rfl) (by kernel_rfl) (fun _ _ _ h => h) (Or.inl ⟨by kernel_rfl, by intro W hW; obtain ⟨q0, q1, q2, q3⟩ := hW; go_simp⟩) hHeld ?_
          refine wpAnyH_take (i := 14) (oi := ⟨some 27, .convert 28 9 (.tmp 26), _, _, _, some (6, true)⟩) (v := .string (ba bs)) rfl (by kernel_rfl) (by kernel_rfl) (by kernel_rfl) (fun _ _ _ h => h) (Or.inl ⟨by kernel_rfl, by intro W hW; obtain ⟨q0, q1, q2, q3⟩ := hW; go_simp⟩) hHeld ?_
          refine wpAnyH_take (i := 15) (oi := ⟨some 28, .binOp .eql 9 (.tmp 25) (.tmp 27) 9, _, _, _, some (6, true)⟩) (v := .bool true) rfl (by kernel_rfl) (by kernel_rfl) (by kernel_rfl) (fun _ _ _ h => h) (Or.inl ⟨by kernel_rfl, by intro W hW; obtain ⟨q0, q1, q2, q3⟩ := hW; go_simp⟩) hHeld ?_
          refine wpAnyH_take (i := 16) (oi := ⟨some 29, .pick (.tmp 19) (.tmp 28) (.const (.bool false)), _, _, _, none⟩) (v := .bool true) rfl (by kernel_rfl) (by kernel_rfl) (by kernel_rfl) (fun _ _ _ h => h) (Or.inl ⟨by kernel_rfl, by intro W hW; obtain ⟨q0, q1, q2, q3⟩ := hW; go_simp⟩) hHeld ?_
          refine wpAnyH_done (by kernel_rfl) ?_ _
          simp only [Act.put, List.setIfInBounds_toArray, List.set_cons_zero, List.set_cons_succ]
          clear hHeld
          go_wp2
          go_roundg (n - (kk + 1))
          case measure => omega
          case rel => exact ⟨kk + 1, q + 1, by omega, by omega, by omega, by go_num, by go_num, HXN, hid (below_on BW.out (below_drew _))⟩
        | false =>
          rw [hd] at hse HXN
          refine wp_region_held_drew (S := (fun W => W.cell? ⟨b, o + kk * 2, none⟩ = some (i64 0) ∧ W.cell? ⟨b, o + kk * 2 + 1, none⟩ = some (.slice p1 m1 c1) ∧ (convert 28 9 (.slice p1 m1 c1)).run Tryz.prog W = .ok (.string (ba x.bs)) W ∧ (convert 28 9 (.slice pu nu cu)).run Tryz.prog W = .ok (.string (ba bs)) W)) (by kernel_rfl) (HSF.out _ (below_drew _)) (fun hHeld => ?_)
          refine wpAnyH_take (i := 0) (oi := ⟨some 13, .move (.tmp 0), _, _, _, none⟩) (v := .slice (some ⟨b, o, none⟩) n c) rfl (by kernel_rfl) (by kernel_rfl) (by kernel_rfl) (fun _ _ _ h => h) (Or.inl ⟨by kernel_rfl, by intro W hW; obtain ⟨q0, q1, q2, q3⟩ := hW; go_simp⟩) hHeld ?_
          refine wpAnyH_take (i := 1) (oi := ⟨some 14, .move (.tmp 6), _, _, _, none⟩) (v := i64 kk) rfl (by kernel_rfl) (by kernel_rfl) (by kernel_rfl) (fun _ _ _ h => h) (Or.inl ⟨by kernel_rfl, by intro W hW; obtain ⟨q0, q1, q2, q3⟩ := hW; go_simp⟩) hHeld ?_
          refine wpAnyH_take (i := 2) (oi := ⟨some 15, .indexAddr 22 (.tmp 13) (.tmp 14), _, _, _, none⟩) (v := .pointer (some ⟨b, o + kk * 2, none⟩)) rfl (by kernel_rfl) (by kernel_rfl) (by kernel_rfl) (fun _ _ _ h => h) (Or.inl ⟨by kernel_rfl, by intro W hW; obtain ⟨q0, q1, q2, q3⟩ := hW; go_simp⟩) hHeld ?_
          refine wpAnyH_take (i := 3) (oi := ⟨some 16, .fieldAddr 44 (.tmp 15) 0, _, _, _, none⟩) (v := .pointer (some ⟨b, o + kk * 2, none⟩)) rfl (by kernel_rfl) (by kernel_rfl) (by kernel_rfl) (fun _ _ _ h => h) (Or.inl ⟨by kernel_rfl, by intro W hW; obtain ⟨q0, q1, q2, q3⟩ := hW; go_simp⟩) hHeld ?_
          refine wpAnyH_take (i := 4) (oi := ⟨some 17, .load 32 (.tmp 16), _, _, _, none⟩) (v := i64 0) rfl (by kernel_rfl) (by kernel_rfl) (by kernel_rfl) (fun _ _ _ h => h) (Or.inl ⟨by kernel_rfl, by intro W hW; obtain ⟨q0, q1, q2, q3⟩ := hW; go_simp⟩) hHeld ?_
          refine wpAnyH_take (i := 5) (oi := ⟨some 18, .binOp .eql 32 (.tmp 17) (.const (.int .i64 0)) 32, _, _, _, none⟩) (v := .bool true) rfl (by kernel_rfl) (by kernel_rfl) (by kernel_rfl) (fun _ _ _ h => h) (Or.inl ⟨by kernel_rfl, by intro W hW; obtain ⟨q0, q1, q2, q3⟩ := hW; go_simp⟩) hHeld ?_
          refine wpAnyH_take (i := 6) (oi := ⟨some 19, .move (.tmp 18), _, _, _, none⟩) (v := .bool true) rfl (by kernel_rfl) (by kernel_rfl) (by kernel_rfl) (fun _ _ _ h => h) (Or.inl ⟨by kernel_rfl, by intro W hW; obtain ⟨q0, q1, q2, q3⟩ := hW; go_simp⟩) hHeld ?_
          refine wpAnyH_take (i := 7) (oi := ⟨some 20, .move (.tmp 0), _, _, _, some (6, true)⟩) (v := .slice (some ⟨b, o, none⟩) n c) rfl (by kernel_rfl) (by kernel_rfl) (by kernel_rfl) (fun _ _ _ h => h) (Or.inl ⟨by kernel_rfl, by intro W hW; obtain ⟨q0, q1, q2, q3⟩ := hW; go_simp⟩) hHeld ?_
          refine wpAnyH_take (i := 8) (oi := ⟨some 21, .move (.tmp 6), _, _, _, some (6, true)⟩) (v := i64 kk) rfl (by kernel_rfl) (by kernel_rfl) (by kernel_rfl) (fun _ _ _ h => h) (Or.inl ⟨by kernel_rfl, by intro W hW; obtain ⟨q0, q1, q2, q3⟩ := hW; go_simp⟩) hHeld ?_
          refine wpAnyH_take (i := 9) (oi := ⟨some 22, .indexAddr 22 (.tmp 20) (.tmp 21), _, _, _, some (6, true)⟩) (v := .pointer (some ⟨b, o + kk * 2, none⟩)) rfl (by kernel_rfl) (by kernel_rfl) (by kernel_rfl) (fun _ _ _ h => h) (Or.inl ⟨by kernel_rfl, by intro W hW; obtain ⟨q0, q1, q2, q3⟩ := hW; go_simp⟩) hHeld ?_
          refine wpAnyH_take (i := 10) (oi := ⟨some 23, .fieldAddr 44 (.tmp 22) 1, _, _, _, some (6, true)⟩) (v := .pointer (some ⟨b, o + kk * 2 + 1, none⟩)) rfl (by kernel_rfl) (by kernel_rfl) (by kernel_rfl) (fun _ _ _ h => h) (Or.inl ⟨by kernel_rfl, by intro W hW; obtain ⟨q0, q1, q2, q3⟩ := hW; go_simp⟩) hHeld ?_
          refine wpAnyH_take (i := 11) (oi := ⟨some 24, .load 28 (.tmp 23), _, _, _, some (6, true)⟩) (v := .slice p1 m1 c1) rfl (by kernel_rfl) (by kernel_rfl) (by kernel_rfl) (fun _ _ _ h => h) (Or.inl ⟨by kernel_rfl, by intro W hW; obtain ⟨q0, q1, q2, q3⟩ := hW; go_simp⟩) hHeld ?_
          refine wpAnyH_take (i := 12) (oi := ⟨some 25, .convert 28 9 (.tmp 24), _, _, _, some (6, true)⟩) (v := .string (ba x.bs)) rfl (by kernel_rfl) (by kernel_rfl) (by kernel_rfl) (fun _ _ _ h => h) (Or.inl ⟨by kernel_rfl, by intro W hW; obtain ⟨q0, q1, q2, q3⟩ := hW; go_simp⟩) hHeld ?_
          refine wpAnyH_take (i := 13) (oi := ⟨some 26, .move (.tmp 1), _, _, _, some (6, true)⟩) (v := .slice pu nu cu) rfl (by kernel_rfl) (by kernel_rfl) (by kernel_rfl) (fun _ _ _ h => h) (Or.inl ⟨by kernel_rfl, by intro W hW; obtain ⟨q0, q1, q2, q3⟩ := hW; go_simp⟩) hHeld ?_
          refine wpAnyH_take (i := 14) (oi := ⟨some 27, .convert 28 9 (.tmp 26), _, _, _, some (6, true)⟩) (v := .string (ba bs)) rfl (by kernel_rfl) (by kernel_rfl) (by kernel_rfl) (fun _ _ _ h => h) (Or.inl ⟨by kernel_rfl, by intro W hW; obtain ⟨q0, q1, q2, q3⟩ := hW; go_simp⟩) hHeld ?_
          refine wpAnyH_take (i := 15) (oi := ⟨some 28, .binOp .eql 9 (.tmp 25) (.tmp 27) 9, _, _, _, some (6, true)⟩) (v := .bool false) rfl (by kernel_rfl) (by kernel_rfl) (by kernel_rfl) (fun _ _ _ h => h) (Or.inl ⟨by kernel_rfl, by intro W hW; obtain ⟨q0, q1, q2, q3⟩ := hW; go_simp⟩) hHeld ?_
          refine wpAnyH_take (i := 16) (oi := ⟨some 29, .pick (.tmp 19) (.tmp 28) (.const (.bool false)), _, _, _, none⟩) (v := .bool false) rfl (by kernel_rfl) (by kernel_rfl) (by kernel_rfl) (fun _ _ _ h => h) (Or.inl ⟨by kernel_rfl, by intro W hW; obtain ⟨q0, q1, q2, q3⟩ := hW; go_simp⟩) hHeld ?_
          refine wpAnyH_done (by kernel_rfl) ?_ _
          simp only [Act.put, List.setIfInBounds_toArray, List.set_cons_zero, List.set_cons_succ]
          clear hHeld
          go_wp2
          go_roundg (n - (kk + 1))
          case measure => omega
          case rel => exact ⟨kk + 1, q, by omega, by omega, by omega, rfl, by go_num, HXN, hid (below_on BW.out (below_drew _))⟩
      · have hz : (x.err == 0) = false := by simpa using hE
        have hh : hasC bs x.cp = false := by unfold hasC; rw [decide_eq_false (show ¬ x.cp.err = 0 from hE)]; rfl
        rw [hh] at HXN
        generalize x.err = E at HSF hz
        clear hE hh hse
        go_wp2_with fail
        refine wp_region_held_drew (S := (fun W => W.cell? ⟨b, o + kk * 2, none⟩ = some (i64 E) ∧ W.cell? ⟨b, o + kk * 2 + 1, none⟩ = some (.slice p1 m1 c1) ∧ (convert 28 9 (.slice p1 m1 c1)).run Tryz.prog W = .ok (.string (ba x.bs)) W ∧ (convert 28 9 (.slice pu nu cu)).run Tryz.prog W = .ok (.string (ba bs)) W)) (by kernel_rfl) (HSF.out _ (below_drew _)) (fun hHeld => ?_)
        refine wpAnyH_take (i := 0) (oi := ⟨some 13, .move (.tmp 0), _, _, _, none⟩) (v := .slice (some ⟨b, o, none⟩) n c) rfl (by kernel_rfl) (by kernel_rfl) (by kernel_rfl) (fun _ _ _ h => h) (Or.inl ⟨by kernel_rfl, by intro W hW; obtain ⟨q0, q1, q2, q3⟩ := hW; go_simp⟩) hHeld ?_
        refine wpAnyH_take (i := 1) (oi := ⟨some 14, .move (.tmp 6), _, _, _, none⟩) (v := i64 kk) rfl (by kernel_rfl) (by kernel_rfl) (by kernel_rfl) (fun _ _ _ h => h) (Or.inl ⟨by kernel_rfl, by intro W hW; obtain ⟨q0, q1, q2, q3⟩ := hW; go_simp⟩) hHeld ?_
        refine wpAnyH_take (i := 2) (oi := ⟨some 15, .indexAddr 22 (.tmp 13) (.tmp 14), _, _, _, none⟩) (v := .pointer (some ⟨b, o + kk * 2, none⟩)) rfl (by kernel_rfl) (by kernel_rfl) (by kernel_rfl) (fun _ _ _ h => h) (Or.inl ⟨by kernel_rfl, by intro W hW; obtain ⟨q0, q1, q2, q3⟩ := hW; go_simp⟩) hHeld ?_
        refine wpAnyH_take (i := 3) (oi := ⟨some 16, .fieldAddr 44 (.tmp 15) 0, _, _, _, none⟩) (v := .pointer (some ⟨b, o + kk * 2, none⟩)) rfl (by kernel_rfl) (by kernel_rfl) (by kernel_rfl) (fun _ _ _ h => h) (Or.inl ⟨by kernel_rfl, by intro W hW; obtain ⟨q0, q1, q2, q3⟩ := hW; go_simp⟩) hHeld ?_
        refine wpAnyH_take (i := 4) (oi := ⟨some 17, .load 32 (.tmp 16), _, _, _, none⟩) (v := i64 E) rfl (by kernel_rfl) (by kernel_rfl) (by kernel_rfl) (fun _ _ _ h => h) (Or.inl ⟨by kernel_rfl, by intro W hW; obtain ⟨q0, q1, q2, q3⟩ := hW; go_simp⟩) hHeld ?_
        refine wpAnyH_take (i := 5) (oi := ⟨some 18, .binOp .eql 32 (.tmp 17) (.const (.int .i64 0)) 32, _, _, _, none⟩) (v := .bool false) rfl (by kernel_rfl) (by kernel_rfl) (by kernel_rfl) (fun _ _ _ h => h) (Or.inl ⟨by kernel_rfl, by intro W hW; obtain ⟨q0, q1, q2, q3⟩ := hW; go_simp⟩) hHeld ?_
        refine wpAnyH_take (i := 6) (oi := ⟨some 19, .move (.tmp 18), _, _, _, none⟩) (v := .bool false) rfl (by kernel_rfl) (by kernel_rfl) (by kernel_rfl) (fun _ _ _ h => h) (Or.inl ⟨by kernel_rfl, by intro W hW; obtain ⟨q0, q1, q2, q3⟩ := hW; go_simp⟩) hHeld ?_
        refine wpAnyH_take (i := 7) (oi := ⟨some 20, .move (.tmp 0), _, _, _, some (6, true)⟩) (v := undef) rfl (by kernel_rfl) (by kernel_rfl) (by kernel_rfl) (fun _ _ _ h => h) (Or.inr ⟨by kernel_rfl, rfl⟩) hHeld ?_
        refine wpAnyH_take (i := 8) (oi := ⟨some 21, .move (.tmp 6), _, _, _, some (6, true)⟩) (v := undef) rfl (by kernel_rfl) (by kernel_rfl) (by kernel_rfl) (fun _ _ _ h => h) (Or.inr ⟨by kernel_rfl, rfl⟩) hHeld ?_
        refine wpAnyH_take (i := 9) (oi := ⟨some 22, .indexAddr 22 (.tmp 20) (.tmp 21), _, _, _, some (6, true)⟩) (v := undef) rfl (by kernel_rfl) (by kernel_rfl) (by kernel_rfl) (fun _ _ _ h => h) (Or.inr ⟨by kernel_rfl, rfl⟩) hHeld ?_
        refine wpAnyH_take (i := 10) (oi := ⟨some 23, .fieldAddr 44 (.tmp 22) 1, _, _, _, some (6, true)⟩) (v := undef) rfl (by kernel_rfl) (by kernel_rfl) (by kernel_rfl) (fun _ _ _ h => h) (Or.inr ⟨by kernel_rfl, rfl⟩) hHeld ?_
        refine wpAnyH_take (i := 11) (oi := ⟨some 24, .load 28 (.tmp 23), _, _, _, some (6, true)⟩) (v := undef) rfl (by kernel_rfl) (by kernel_rfl) (by kernel_rfl) (fun _ _ _ h => h) (Or.inr ⟨by kernel_rfl, rfl⟩) hHeld ?_
        refine wpAnyH_take (i := 12) (oi := ⟨some 25, .convert 28 9 (.tmp 24), _, _, _, some (6, true)⟩) (v := undef) rfl (by kernel_rfl) (by kernel_rfl) (by kernel_rfl) (fun _ _ _ h => h) (Or.inr ⟨by kernel_rfl, rfl⟩) hHeld ?_
        refine wpAnyH_take (i := 13) (oi := ⟨some 26, .move (.tmp 1), _, _, _, some (6, true)⟩) (v := undef) rfl (by kernel_rfl) (by kernel_rfl) (by kernel_rfl) (fun _ _ _ h => h) (Or.inr ⟨by kernel_rfl, rfl⟩) hHeld ?_
        refine wpAnyH_take (i := 14) (oi := ⟨some 27, .convert 28 9 (.tmp 26), _, _, _, some (6, true)⟩) (v := undef) rfl (by kernel_rfl) (by kernel_rfl) (by kernel_rfl) (fun _ _ _ h => h) (Or.inr ⟨by kernel_rfl, rfl⟩) hHeld ?_
        refine wpAnyH_take (i := 15) (oi := ⟨some 28, .binOp .eql 9 (.tmp 25) (.tmp 27) 9, _, _, _, some (6, true)⟩) (v := undef) rfl (by kernel_rfl) (by kernel_rfl) (by kernel_rfl) (fun _ _ _ h => h) (Or.inr ⟨by kernel_rfl, rfl⟩) hHeld ?_
        refine wpAnyH_take (i := 16) (oi := ⟨some 29, .pick (.tmp 19) (.tmp 28) (.const (.bool false)), _, _, _, none⟩) (v := .bool false) rfl (by kernel_rfl) (by kernel_rfl) (by kernel_rfl) (fun _ _ _ h => h) (Or.inl ⟨by kernel_rfl, by intro W hW; obtain ⟨q0, q1, q2, q3⟩ := hW; go_simp⟩) hHeld ?_
        refine wpAnyH_done (by kernel_rfl) ?_ _
        simp only [Act.put, List.setIfInBounds_toArray, List.set_cons_zero, List.set_cons_succ]
        clear hHeld
        go_wp2
        go_roundg (n - (kk + 1))
        case measure => omega
        case rel => exact ⟨kk + 1, q, by omega, by omega, by omega, rfl, by go_num, HXN, hid (below_on BW.out (below_drew _))⟩
    · have hltz : ¬ (kk : Int) < (n : Int) := by omega
      go_wp2
      go_ret
      refine ⟨?_, BW.out⟩
      rw [← HQ.out, List.take_of_length_le (by have := HN.out; omega)]
      rfl
end Go.Proofs.YtelkijiphhoacaaGreatDoor

/- The document's Behind; rows of bools that are appended to. -/
namespace Go.Proofs.YtelkijiphhoacaaGreatDoor
open Go Go.RowKit

/-- Bools in a row of one's own. -/
def BBuf (B : Nat) (w : World) (v : Value) (hs : List Bool) : Prop := w.ownsRow B 4 1 v hs.length (hs.map Value.bool)
theorem BBuf.nil (B : Nat) (w : World) : BBuf B w nilS [] := World.ownsRow_nil w B 4 1
theorem BBuf.form {B : Nat} {w : World} {v : Value} {hs : List Bool} (h : BBuf B w v hs) : ∃ po c, v = .slice po hs.length c := own_form h
theorem BBuf.below {B : Nat} {w w' : World} {v : Value} {hs : List Bool} (h : BBuf B w v hs) (hb : Below w.heap.size w w') : BBuf B w' v hs := ownsRow_keep h fun b hv => hb.block b (own_ge h b hv).2
theorem BBuf.keep {B : Nat} {w w' : World} {v : Value} {hs : List Bool} (h : BBuf B w v hs) (hk : ∀ b, v.ownBlock = some b → w'.heap[b]? = w.heap[b]?) : BBuf B w' v hs := ownsRow_keep h hk
theorem BBuf.bol {B : Nat} {w : World} {v : Value} {hs : List Bool} (h : BBuf B w v hs) : BoL w v hs := by
  rcases h.2 with ⟨rfl, h0⟩ | ⟨g, cap, cur, rfl, _, hg, h1, _, h3, h4⟩
  · obtain rfl := List.eq_nil_of_length_eq_zero h0
    exact BoL.nil w
  · refine ⟨_, cap, rfl, h1, Or.inr ⟨g, 0, rfl, fun i x hx => ?_⟩⟩
    have hc : CAt w g cur 4 := hg
    have hi : i < hs.length := (List.getElem?_eq_some_iff.1 hx).1
    have := congrArg (fun l => l[i]?) h4
    simp only [Nat.mul_one, List.getElem?_take, if_pos hi, List.getElem?_map, hx] at this
    rw [Nat.zero_add, hc.cell]
    simpa using this
theorem BBuf.push {B : Nat} {w : World} {v : Value} {hs : List Bool} (h : BBuf B w v hs) (x : Bool) (hn : hs.length ≤ 1000) (hB : B ≤ w.heap.size) (ty : TypeId) :
    ∃ v' w', (Builtin.append_ #[29, 29] ty #[v, .slice (some ⟨w.heap.size, 0, none⟩) 1 1]).run Tryz.prog (w.alloc (.cells #[.bool x] 4)) = .ok v' w' ∧ BBuf B w' v' (hs ++ [x]) ∧ (w.alloc (.cells #[.bool x] 4)).grownBy w' v.ownBlock ∧ (v'.ownBlock = v.ownBlock ∨ v'.ownBlock = some (w.heap.size + 1)) := by
  obtain ⟨i0, hi0, hz0, hz1, hz2⟩ := info_parts Tryz.info4
  have h2 : (w.alloc (.cells #[.bool x] 4)).ownsRow B 4 1 v hs.length (hs.map Value.bool) := h.alloc _
  have hc : CAt (w.alloc (.cells #[.bool x] 4)) w.heap.size #[.bool x] 4 := CAt.made w _ _
  obtain ⟨v', w', hr, h3, h4, _, h5⟩ := run_append_own_at (P := Tryz.prog) (w.alloc (.cells #[.bool x] 4)) B 29 ty 4 i0 _ 1 1 Tryz.underlying29 hi0 hz0 hz1 hz2 rfl (by decide) v hs.length (hs.map Value.bool) h2 ⟨w.heap.size, 0, none⟩ 1 1 [.bool x] rfl (fun j u hj => by
      rw [add_none, Nat.zero_add, hc.cell]
      rcases j with _ | j
      · simpa using hj
      · simp at hj) (by intro u hu; simp at hu; subst hu; rfl) (by unfold maxLen; omega) (by omega) (by rw [size_al]; omega)
  refine ⟨v', w', hr, ?_, h4, by rw [size_al] at h5; exact h5⟩
  unfold BBuf
  rw [List.map_append, List.length_append]
  exact h3
theorem BBuf.grow {B : Nat} {w w' : World} {v : Value} {hs : List Bool} (h : BBuf B w v hs) {o : Obj} (hg : (w.alloc o).grownBy w' v.ownBlock) (hB : B ≤ w.heap.size) : Below B w w' :=
  below_grown (below_less (below_al w o) hB) hg (by omega) fun b hb => (own_ge h b hb).1
set_option maxRecDepth 100000 in
set_option maxHeartbeats 4000000 in
theorem rbehind_any (v : Value) (l : List Cv) (f : Bool) (s : Int) (rv bv hv : Value) (an vo : Int) (hs : List Bool) (w : World) (hl : CL w v l) (hh : BoL w hv hs) (hhn : hs.length ≤ 100000) : Calls Tryz.prog 10 #[v, .agg (eC f s rv bv hv an vo)] w (BeS w (behE (cps l) f hs)) := by
  have HL := hid hl
  have HH := hid hh
  obtain ⟨po, c, rfl, hc1, hn, -⟩ := hl
  obtain ⟨ph, ch, rfl, -, -⟩ := hh
  obtain ⟨n, hN⟩ : ∃ n, l.length = n := ⟨_, rfl⟩
  have HN := hid hN
  unfold behE
  rw [cps_len, hN]
  rw [hN] at hn HL
  obtain ⟨N2, hN2⟩ : ∃ N2, hs.length = N2 := ⟨_, rfl⟩
  have HN2 := hid hN2
  rw [hN2] at hhn HH ⊢
  obtain ⟨CC, hCC⟩ : ∃ CC, eC f s rv bv (.slice ph N2 ch) an vo = CC := ⟨_, rfl⟩
  have hCb : ∀ W g, CAt W g CC 31 → W.cell? ⟨g, 0, none⟩ = some (.bool f) ∧ W.cell? ⟨g, 4, none⟩ = some (.slice ph N2 ch) := fun W g h => by subst hCC; exact ⟨h.cell 0, h.cell 4⟩
  have HCB := hid hCb
  rw [hCC]
  clear hN hc1 hN2 hCC hCb
  by_cases h16 : (16 : Int) < (n : Int)
  · rw [if_pos (Or.inl (by omega))]
    go_enter Tryz.func10, Tryz.ntmps10
    go_wp2_with ((with_reducible refine wpList_boxT 31 rfl _ rfl CC ?_ ?_); exact rfl; intro w1 g3 hc1 hb1 hg1; have HB1 := hid hb1; clear hb1 hc1 hg1)
    go_ret2
    exact ⟨_, rfl, BoL.nil _, HB1.out⟩
  · by_cases hne : N2 = n
    · rw [if_neg (by rintro (e | e); · omega
                     · exact e hne)]
      subst hne
      have hnn : ((N2 : Int) != (N2 : Int)) = false := by simp
      go_enter Tryz.func10, Tryz.ntmps10
      go_wp2_with ((with_reducible refine wpList_boxT 31 rfl _ rfl CC ?_ ?_); exact rfl; intro w1 g3 hc1 hb1 hg1; have k0 := (HCB.out _ _ hc1).1; have k4 := (HCB.out _ _ hc1).2; have HC1 := hid hc1; have HB1 := hid hb1; clear hb1 hc1 hg1)
      go_loopg [6, 7] N2 (fun gg s6 s7 wr => ∃ kk : Nat, kk ≤ N2 ∧ N2 - kk ≤ gg ∧ s7 = i64 kk ∧ Hid (BBuf w1.heap.size wr s6 ((List.range kk).map (behF (cps l) f hs))) ∧ Hid (Below w1.heap.size w1 wr))
      case atStart => exact ⟨0, Nat.zero_le _, by omega, rfl, hid (BBuf.nil _ _), hid (Below.refl _ _)⟩
      case round =>
        obtain ⟨kk, hkk, hg, rfl, HBB, BW⟩ := hrel
        clear k0 k4
        by_cases hlt : kk < N2
        · have hltz : (kk : Int) < (N2 : Int) := by omega
          obtain ⟨x, hx⟩ : ∃ x, l[kk]? = some x := ⟨_, List.getElem?_eq_getElem (by have := HN.out; omega)⟩
          obtain ⟨b, o, c', e, -⟩ := HL.out.where hx
          rw [HN.out] at e
          cases e
          have BW0 := hid (below_on HB1.out BW.out)
          obtain ⟨p1, m1, c1, -, -, hcl, -⟩ := HL.out.load BW0.out hx
          obtain ⟨h0, hh0⟩ : ∃ h0, hs[kk]? = some h0 := ⟨_, List.getElem?_eq_getElem (by have := HN2.out; omega)⟩
          have HHS := HH.out
          rw [← HN2.out] at HHS
          obtain ⟨bh, oh, ch', eh⟩ := HHS.some (by have := HN2.out; omega)
          cases eh
          have HHK : Hid (∀ W, Below wr.heap.size wr W → W.cell? ⟨bh, oh + kk, none⟩ = some (.bool h0)) := hid (fun W hW => HHS.at (below_on BW0.out hW) hh0)
          have HX : Hid (behF (cps l) f hs kk = (f && ansC x.cp && !h0)) := hid (behF_at (by rw [cps_get, hx]; rfl) hh0)
          have HRG : Hid ((List.range (kk + 1)).map (behF (cps l) f hs) = (List.range kk).map (behF (cps l) f hs) ++ [behF (cps l) f hs kk]) := hid (by rw [List.range_succ, List.map_append]; rfl)
          have HLEN : Hid (((List.range kk).map (behF (cps l) f hs)).length ≤ 1000) := hid (by simp; omega)
          have HCL := hid hcl
          have HAN := hid (ranswers_any x.err (.slice p1 m1 c1))
          rw [← ansC_eq] at HAN
          generalize x.err = E at HCL HAN
          clear hcl hx hh0 HHS
          have hbs : ∀ (y : Bool) (W : World), (Instr.buildSlice 29 1 #[(0, .bool y)]).run Tryz.prog W = .ok (.slice (some ⟨W.heap.size, 0, none⟩) 1 1) (W.alloc (.cells #[.bool y] 4)) := fun y W => by kernel_rfl
          cases ha : ansC x.cp with
          | false =>
            have HX : Hid (behF (cps l) f hs kk = false) := hid (by rw [HX.out, ha]; simp)
            rw [ha] at HAN
            go_wp2_with (first
              | ((with_reducible refine wpList_load_at 44 _ rfl ?_ b (o + kk * 2) ?_ (cC E (.slice p1 m1 c1)) _ ?_ underCp rfl ?_ ?_); exact rfl; exact rfl; exact HCL.out; exact sizeCp)
              | (go_at_call 20; refine (HAN.out _).mono ?_; rintro e w12 ⟨rfl, hb12⟩; have k0 := (HCB.out _ _ (HC1.out.below (below_on BW.out hb12))).1; have k4 := (HCB.out _ _ (HC1.out.below (below_on BW.out hb12))).2; have k7 := HHK.out _ hb12; obtain ⟨v13, w13, hr13, hp13, hg13, -⟩ := (HBB.out.below hb12).push false HLEN.out (below_on BW.out hb12).size 29; have HB13 := hid (below_tr (below_on BW.out hb12) ((HBB.out.below hb12).grow hg13 (below_on BW.out hb12).size)); have HRUN := hid hr13; have HP13 := hid hp13; clear hb12 hr13 hp13 hg13)
              | (at_builtin; refine wpList_append_run _ _ 29 29 rfl rfl _ _ _ rfl rfl HRUN.out ?_))
            go_roundg (N2 - (kk + 1))
            case measure => omega
            case rel => exact ⟨kk + 1, by omega, by omega, by go_num, hid (by rw [HRG.out, HX.out]; exact HP13.out), HB13⟩
          | true =>
            rw [ha] at HAN
            cases f with
            | false =>
              have HX : Hid (behF (cps l) false hs kk = false) := hid (by rw [HX.out]; rfl)
              go_wp2_with (first
                | ((with_reducible refine wpList_load_at 44 _ rfl ?_ b (o + kk * 2) ?_ (cC E (.slice p1 m1 c1)) _ ?_ underCp rfl ?_ ?_); exact rfl; exact rfl; exact HCL.out; exact sizeCp)
                | (go_at_call 20; refine (HAN.out _).mono ?_; rintro e w12 ⟨rfl, hb12⟩; have k0 := (HCB.out _ _ (HC1.out.below (below_on BW.out hb12))).1; have k4 := (HCB.out _ _ (HC1.out.below (below_on BW.out hb12))).2; have k7 := HHK.out _ hb12; obtain ⟨v13, w13, hr13, hp13, hg13, -⟩ := (HBB.out.below hb12).push false HLEN.out (below_on BW.out hb12).size 29; have HB13 := hid (below_tr (below_on BW.out hb12) ((HBB.out.below hb12).grow hg13 (below_on BW.out hb12).size)); have HRUN := hid hr13; have HP13 := hid hp13; clear hb12 hr13 hp13 hg13)
                | (at_builtin; refine wpList_append_run _ _ 29 29 rfl rfl _ _ _ rfl rfl HRUN.out ?_))
              go_roundg (N2 - (kk + 1))
              case measure => omega
              case rel => exact ⟨kk + 1, by omega, by omega, by go_num, hid (by rw [HRG.out, HX.out]; exact HP13.out), HB13⟩
            | true =>
              cases h0 with
              | false =>
                have HX : Hid (behF (cps l) true hs kk = true) := hid (by rw [HX.out, ha]; rfl)
                go_wp2_with (first
                  | ((with_reducible refine wpList_load_at 44 _ rfl ?_ b (o + kk * 2) ?_ (cC E (.slice p1 m1 c1)) _ ?_ underCp rfl ?_ ?_); exact rfl; exact rfl; exact HCL.out; exact sizeCp)
                  | (go_at_call 20; refine (HAN.out _).mono ?_; rintro e w12 ⟨rfl, hb12⟩; have k0 := (HCB.out _ _ (HC1.out.below (below_on BW.out hb12))).1; have k4 := (HCB.out _ _ (HC1.out.below (below_on BW.out hb12))).2; have k7 := HHK.out _ hb12; obtain ⟨v13, w13, hr13, hp13, hg13, -⟩ := (HBB.out.below hb12).push true HLEN.out (below_on BW.out hb12).size 29; have HB13 := hid (below_tr (below_on BW.out hb12) ((HBB.out.below hb12).grow hg13 (below_on BW.out hb12).size)); have HRUN := hid hr13; have HP13 := hid hp13; clear hb12 hr13 hp13 hg13)
                  | (at_builtin; refine wpList_append_run _ _ 29 29 rfl rfl _ _ _ rfl rfl HRUN.out ?_))
                go_roundg (N2 - (kk + 1))
                case measure => omega
                case rel => exact ⟨kk + 1, by omega, by omega, by go_num, hid (by rw [HRG.out, HX.out]; exact HP13.out), HB13⟩
              | true =>
                have HX : Hid (behF (cps l) true hs kk = false) := hid (by rw [HX.out, ha]; rfl)
                go_wp2_with (first
                  | ((with_reducible refine wpList_load_at 44 _ rfl ?_ b (o + kk * 2) ?_ (cC E (.slice p1 m1 c1)) _ ?_ underCp rfl ?_ ?_); exact rfl; exact rfl; exact HCL.out; exact sizeCp)
                  | (go_at_call 20; refine (HAN.out _).mono ?_; rintro e w12 ⟨rfl, hb12⟩; have k0 := (HCB.out _ _ (HC1.out.below (below_on BW.out hb12))).1; have k4 := (HCB.out _ _ (HC1.out.below (below_on BW.out hb12))).2; have k7 := HHK.out _ hb12; obtain ⟨v13, w13, hr13, hp13, hg13, -⟩ := (HBB.out.below hb12).push false HLEN.out (below_on BW.out hb12).size 29; have HB13 := hid (below_tr (below_on BW.out hb12) ((HBB.out.below hb12).grow hg13 (below_on BW.out hb12).size)); have HRUN := hid hr13; have HP13 := hid hp13; clear hb12 hr13 hp13 hg13)
                  | (at_builtin; refine wpList_append_run _ _ 29 29 rfl rfl _ _ _ rfl rfl HRUN.out ?_))
                go_roundg (N2 - (kk + 1))
                case measure => omega
                case rel => exact ⟨kk + 1, by omega, by omega, by go_num, hid (by rw [HRG.out, HX.out]; exact HP13.out), HB13⟩
        · have hltz : ¬ (kk : Int) < (N2 : Int) := by omega
          have hkn : kk = N2 := by omega
          go_wp2
          go_ret2
          refine ⟨_, rfl, ?_, below_on HB1.out BW.out⟩
          rw [← hkn]
          exact HBB.out.bol
    · rw [if_pos (Or.inr hne)]
      have hnn : ((N2 : Int) != (n : Int)) = true := by simp; omega
      go_enter Tryz.func10, Tryz.ntmps10
      go_wp2_with ((with_reducible refine wpList_boxT 31 rfl _ rfl CC ?_ ?_); exact rfl; intro w1 g3 hc1 hb1 hg1; have k4 := (HCB.out _ _ hc1).2; have HB1 := hid hb1; clear hb1 hc1 hg1)
      go_ret2
      exact ⟨_, rfl, BoL.nil _, HB1.out⟩
end Go.Proofs.YtelkijiphhoacaaGreatDoor

/- The document's numbers: rows of ints, and what is read. -/
namespace Go.Proofs.YtelkijiphhoacaaGreatDoor
open Go Go.RowKit

/-- So many numbers from the front. -/
def rdN : Nat → List Nat → Option (List Nat × List Nat)
  | 0, b => some ([], b)
  | n + 1, b => (rdU b).bind fun q => (rdN n q.2).map fun r => (q.1 :: r.1, r.2)
def pairs : List Nat → Ps
  | a :: b :: r => ((a : Int), (b : Int)) :: pairs r
  | _ => []
theorem rdPs_rdN : ∀ (n : Nat) (b : List Nat), rdPs n b = (rdN (2 * n) b).map fun q => (pairs q.1, q.2)
  | 0, b => rfl
  | n + 1, b => by
    rw [rdPs_succ, show 2 * (n + 1) = (2 * n + 1) + 1 by omega, rdN]
    cases rdU b with
    | none => rfl
    | some q =>
      simp only [Option.bind_some]
      rw [rdN]
      cases rdU q.2 with
      | none => rfl
      | some q2 =>
        simp only [Option.bind_some]
        rw [rdPs_rdN n q2.2]
        cases rdN (2 * n) q2.2 with
        | none => rfl
        | some r => rfl
theorem rdN_len : ∀ {n : Nat} {b : List Nat} {xs c : List Nat}, rdN n b = some (xs, c) → xs.length = n
  | 0, b, xs, c, h => by simp [rdN] at h; rw [h.1]; rfl
  | n + 1, b, xs, c, h => by
    rw [rdN] at h
    cases h1 : rdU b with
    | none => rw [h1] at h; cases h
    | some q =>
      rw [h1] at h
      simp only [Option.bind_some] at h
      cases h2 : rdN n q.2 with
      | none => rw [h2] at h; cases h
      | some r =>
        rw [h2] at h
        simp at h
        rw [← h.1, List.length_cons, rdN_len h2]
/-- What is read so far, and what then. -/
def NAcc (n : Nat) (c : List Nat) (k : Nat) (xs : List Nat) (d : List Nat) : Prop := xs.length = k ∧ rdN n c = (rdN (n - k) d).map fun q => (xs ++ q.1, q.2)
theorem NAcc.start (n : Nat) (c : List Nat) : NAcc n c 0 [] c := ⟨rfl, by simp⟩
theorem NAcc.next {n k : Nat} {c d xs : List Nat} (h : NAcc n c k xs d) (hk : k < n) {m : Nat} {r : List Nat} (hx : rdU d = some (m, r)) : NAcc n c (k + 1) (xs ++ [m]) r := by
  refine ⟨by simp [h.1], ?_⟩
  have h2 := h.2
  rw [show n - k = (n - (k + 1)) + 1 by omega, rdN, hx] at h2
  simp only [Option.bind_some] at h2
  rw [h2]
  cases rdN (n - (k + 1)) r with
  | none => rfl
  | some q => simp
theorem NAcc.stop {n k : Nat} {c d xs : List Nat} (h : NAcc n c k xs d) (hk : k < n) (hx : rdU d = none) : rdN n c = none := by
  have h2 := h.2
  rw [show n - k = (n - (k + 1)) + 1 by omega, rdN, hx] at h2
  exact h2
theorem NAcc.last {n : Nat} {c d xs : List Nat} (h : NAcc n c n xs d) : rdN n c = some (xs, d) := by
  have h2 := h.2
  rw [Nat.sub_self] at h2
  rw [h2]; simp [rdN]
/-- Ints in a row of their own. -/
def IBuf (B : Nat) (w : World) (v : Value) (xs : List Nat) : Prop := w.ownsRow B 3 1 v xs.length (xs.map fun n : Nat => i64 n)
theorem Tryz.infoI : (Tryz.prog.info? 3).map (fun i => (i.zero, i.size, i.bytes)) = some (some (.int .i64 0), 1, 8) := by kernel_rfl
theorem IBuf.nil (B : Nat) (w : World) : IBuf B w (.slice none 0 0) [] := World.ownsRow_nil w B 3 1
theorem IBuf.keep {B : Nat} {w w' : World} {v : Value} {xs : List Nat} (h : IBuf B w v xs) (hk : ∀ b, v.ownBlock = some b → w'.heap[b]? = w.heap[b]?) : IBuf B w' v xs := ownsRow_keep h hk
theorem IBuf.below {B : Nat} {w w' : World} {v : Value} {xs : List Nat} (h : IBuf B w v xs) (hb : Below w.heap.size w w') : IBuf B w' v xs := h.keep fun b e => hb.block b (own_ge h b e).2
theorem IBuf.push {B : Nat} {w : World} {v : Value} {xs : List Nat} (h : IBuf B w v xs) (x : Nat) (hn : xs.length ≤ 1000000) (hB : B ≤ w.heap.size) :
    ∃ v' w', (Builtin.append_ #[86, 86] 86 #[v, .slice (some ⟨w.heap.size, 0, none⟩) 1 1]).run Tryz.prog (w.alloc (.cells #[i64 x] 3)) = .ok v' w' ∧ IBuf B w' v' (xs ++ [x]) ∧ (w.alloc (.cells #[i64 x] 3)).grownBy w' v.ownBlock := by
  obtain ⟨i0, hi0, hz0, hz1, hz2⟩ := info_parts Tryz.infoI
  have h2 : (w.alloc (.cells #[i64 x] 3)).ownsRow B 3 1 v xs.length (xs.map fun n : Nat => i64 n) := h.alloc _
  have hc : CAt (w.alloc (.cells #[i64 x] 3)) w.heap.size #[i64 x] 3 := CAt.made w _ _
  obtain ⟨v', w', hr, h3, h4, _, _⟩ := run_append_own_at (P := Tryz.prog) (w.alloc (.cells #[i64 x] 3)) B 86 86 3 i0 _ 1 8 Tryz.underlying86 hi0 hz0 hz1 hz2 rfl (by decide) v xs.length _ h2 ⟨w.heap.size, 0, none⟩ 1 1 [i64 x] rfl (fun j u hj => by
      rw [add_none, Nat.zero_add, hc.cell]
      rcases j with _ | j
      · simpa using hj
      · simp at hj) (by intro u hu; simp at hu; rw [hu]; rfl) (by unfold maxLen; omega) (by omega) (by rw [size_al]; omega)
  refine ⟨v', w', hr, ?_, h4⟩
  unfold IBuf
  rw [show (xs ++ [x]).map (fun n : Nat => i64 n) = xs.map (fun n : Nat => i64 n) ++ [i64 x] by simp]
  simpa using h3
end Go.Proofs.YtelkijiphhoacaaGreatDoor
