/- Contracts of all and Sound of the document's own answer: as the program's; what was there is as it was. -/
import Derived.Test.YtapgdenodhcliaaTd
namespace Go.Proofs.Ytapgdenodhcliaa
open Go.RowKit

set_option maxRecDepth 100000 in
set_option maxHeartbeats 1000000 in
theorem rall_any (n : Nat) (w : World) (hn : n ≤ 1000) :
    Calls Try.prog 51 #[.int .i64 n] w fun e w' => ∃ g, e = .returned (.slice (some ⟨g, 0, none⟩) n n) ∧ OwnB w.heap.size w' g n (fun _ => true) ∧ Below w.heap.size w w' := by
  have hmk := run_make_bools n (by omega) w
  have H0 : Hid (OwnB w.heap.size (w.alloc (.cells (madeCells #[.bool false] n) 4)) w.heap.size n (fun j => decide (j < 0))) := (own_made w 4 (.bool false) n w.heap.size (by omega) (Nat.le_refl _))
  go_enter Try.func51, Try.ntmps51
  go_wp2
  clear hmk
  go_loopw [4] (fun i wr => ∃ r : Nat, r ≤ n ∧ i = .int .i64 r ∧ OwnB w.heap.size wr w.heap.size n (fun j => decide (j < r)) ∧ Below w.heap.size w wr) (fun i _ => (n - intOf i).toNat)
  case atStart => exact ⟨0, by omega, rfl, H0.out, (Below.refl _ _).alloc (Nat.le_refl _) _⟩
  case round =>
    obtain ⟨r, hr, rfl, ho, hb⟩ := hrel
    clear H0
    by_cases hlt : r < n
    · have c1 := own_cell (V := fun j => .bool (decide (j < r))) ho r hlt
      have c2 := World.ownsRow.frozenAt ho r
      have HO := hid ((ho.set r true).congr (H' := fun j => decide (j < r + 1)) (fun j _ => by
        unfold upd
        by_cases e : j = r
        · subst e; simp
        · by_cases q : j < r
          · simp [e, q, show j < r + 1 by omega]
          · simp [e, q, show ¬ j < r + 1 by omega]))
      have HB := hid (hb.setCell (p := ⟨w.heap.size, r, none⟩) (Nat.le_refl _) (.bool true))
      clear ho hb
      go_wp2
      go_roundw
      case rel => exact ⟨r + 1, by omega, by go_num, HO.out, HB.out⟩
      case measure => simp [intOf]; omega
    · have HO := hid (ho.congr (H' := fun _ => true) (fun j hj => by simp; omega))
      have HB := hid hb
      clear ho hb
      go_wp2
      go_ret
      exact ⟨_, rfl, HO.out, HB.out⟩
theorem mdd_full (k N : Nat) (S : Nat → Nat → K) (hk : k ≤ 16) (hN : N ≤ 256) (hkN : k ≤ N) (r j : Nat) : mdd k N (fun _ => true) S r j = pr k (codeX k) S r j := by
  have hc : k ≤ cn (fun _ => true) N := by rw [cn_all (fun _ _ => rfl)]; exact hkN
  refine mend_all k (codeX k) _ S _ (fun i => pl (tk (fun _ => true) k N) i) (tk_left k N _ hk hN hc) r j (fun i hi => ?_)
  have e : pl (tk (fun _ => true) k N) i = i := by
    rw [tk_all k (fun _ _ => rfl) N (Nat.le_refl _)]
    unfold pl
    rw [List.getElem?_range (by omega)]; rfl
  show S (pl (tk (fun _ => true) k N) i) j = pr k (codeX k) S (pl (tk (fun _ => true) k N) i) j
  rw [e, pr_code k S i j hi]

set_option maxRecDepth 100000 in
set_option maxHeartbeats 1000000 in
theorem rsound_err (pS : Option Addr) (ns cS : Nat) (k m : Int) (w : World) (hk : -9223372036854775808 ≤ k) (hk' : k ≤ 9223372036854775807) (hm : -9223372036854775808 ≤ m) (hm' : m ≤ 9223372036854775807) (h : k < 1 ∨ m < 1 ∨ 16 < k + m) :
    Calls Try.prog 26 #[.slice pS ns cS, .int .i64 k, .int .i64 m] w fun e w' => e = .returned (.tuple #[.bool false, .int .i64 5]) ∧ w' = w := by
  go_enter Try.func26, Try.ntmps26
  go_wp2_with fail
  refine (may_bad k m w hk hk' hm hm' h).mono ?_
  rintro e w' ⟨rfl, hw⟩
  have hw2 := hw.symm
  subst hw2
  clear hw h
  go_wp2
  go_ret2
  exact ⟨rfl, rfl⟩
set_option maxRecDepth 100000 in
set_option maxHeartbeats 8000000 in
theorem rsound_any (pS : Option Addr) (ns cS k m : Nat) (AS : Nat → Option Addr) (L CS : Nat → Nat) (S : Nat → Nat → K) (w : World) (hS : MatAt w pS ns AS L CS S) (h0 : 1 ≤ k) (h1 : 1 ≤ m) (h : k + m ≤ 16) :
    Calls Try.prog 26 #[.slice pS ns cS, .int .i64 k, .int .i64 m] w fun e w' => e = .returned (.tuple #[.bool (sndV k m ns L S), .int .i64 (errMt ns ns (k + m) (fun _ => true) L (-1))]) ∧ Below w.heap.size w w' := by
  have RS := hid hS
  clear hS
  by_cases hns : ns = k + m
  · subst hns
    have hne : (((k : Int) + (m : Int)) != ((k : Int) + (m : Int))) = false := by simp
    have HC : Hid (((k : Int) + (m : Int)) = ((k + m : Nat) : Int)) := hid (by omega)
    have hcn : k ≤ cn (fun _ => true) (k + m) := by rw [cn_all (fun _ _ => rfl)]; omega
    have ED : Hid (errMd k m (k + m) (k + m) (fun _ => true) L (-1) = errMt (k + m) (k + m) (k + m) (fun _ => true) L (-1)) := hid (by
      by_cases q : errMt (k + m) (k + m) (k + m) (fun _ => true) L (-1) = 0
      · rw [errMd_ok q hcn, q]
      · exact errMd_bad q)
    have HCN := hid hcn
    clear hcn
    go_enter Try.func26, Try.ntmps26
    go_wp2_with fail
    refine (may_ok k m w h0 h1 h).mono ?_
    rintro e w' ⟨rfl, hw⟩
    have hw2 := hw.symm
    subst hw2
    clear hw
    go_wp2_with fail
    rw [HC.out]
    refine (rall_any (k + m) w (by omega)).mono ?_
    rintro e w1 ⟨gH, rfl, hoH, hb1⟩
    have B1 := hid hb1
    have RH1 := hid hoH.at
    have RS1 := hid (RS.out.keep (Stays.of_below hb1))
    clear hoH hb1
    go_wp2_with fail
    refine (rwrong_any _ _ (k + m) _ (k + m) _ k m AS L CS (fun _ => true) (-1) w1 (by omega) (by omega) RS1.out.top RH1.out).mono ?_
    rintro e w' ⟨rfl, hw⟩
    have hw2 := hw.symm
    subst hw2
    clear hw RH1
    rw [ED.out]
    by_cases he : errMt (k + m) (k + m) (k + m) (fun _ => true) L (-1) = 0
    · obtain ⟨_, _, hL1, hL2⟩ := errMt_zero he
      have hle := lenSt_le (z := -1) (by omega) (k + m) hL1
      have HL : Hid (∀ i, i < k + m → L i = (lenSt (fun _ => true) L (-1) (k + m)).toNat) := hid (fun i hi => by have := hL2 i hi rfl; omega)
      have hll : (lenSt (fun _ => true) L (-1) (k + m)).toNat ≤ 65536 := by omega
      have EV : Hid (sndV k m (k + m) L S = sndB k m (lenSt (fun _ => true) L (-1) (k + m)).toNat S) := hid (by unfold sndV; rw [if_pos he])
      obtain ⟨l, hl⟩ : ∃ l, l = (lenSt (fun _ => true) L (-1) (k + m)).toNat := ⟨_, rfl⟩
      rw [← hl] at HL EV hll
      have HE := hid he
      rw [he]
      clear he hL1 hL2 hle hl
      go_wp2_with fail
      rw [HC.out]
      refine (rall_any (k + m) w1 (by omega)).mono ?_
      rintro e w2 ⟨gH2, rfl, hoH2, hb2⟩
      have B2 := hid (B1.out.then hb2)
      have RH2 := hid hoH2.at
      have RS2 := hid (RS1.out.keep (Stays.of_below hb2))
      clear hoH2 hb2 B1 RS1
      go_wp2_with fail
      refine (rmended_any _ _ k m l _ _ AS L CS S (fun _ => true) w2 RS2.out RH2.out h0 h1 h hll (fun i hi _ => HL.out i hi) HCN.out).mono ?_
      rintro e w3 ⟨g3, c3, G3, rfl, hm3, hb3⟩
      have B3 := hid (B2.out.then hb3)
      have M3 := hid (hm3.congr (Y := pr k (codeX k) S) (fun i _ j _ => mdd_full k (k + m) S (by omega) (by omega) (by omega) i j))
      have RS3 := hid ((RS2.out.keep (Stays.of_below hb3)).even (fun i hi => HL.out i hi))
      clear hm3 hb3 B2 RS2 RH2
      go_wp2_with fail
      go_loopw [10] (fun x wr => ∃ i : Nat, i ≤ k + m ∧ x = .int .i64 i ∧ (∀ r, r < i → ∀ j, j < l → pr k (codeX k) S r j = S r j) ∧ Below w3.heap.size w3 wr) (fun x _ => ((k + m : Nat) - intOf x).toNat)
      case atStart => exact ⟨0, by omega, rfl, fun r hr => absurd hr (by omega), Below.refl _ _⟩
      case round =>
        obtain ⟨i, hi, rfl, hs, hb⟩ := hrel
        by_cases hlt : i < k + m
        · have HS := hid hs
          have HB := hid hb
          have i1 : (i : Int) < (k : Int) + (m : Int) := by omega
          clear hs hb
          go_wp2_with fail
          go_loopw [11] (fun x wr => ∃ j : Nat, j ≤ l ∧ x = .int .i64 j ∧ (∀ q, q < j → pr k (codeX k) S i q = S i q) ∧ Below w3.heap.size w3 wr) (fun x _ => (l - intOf x).toNat)
          case atStart => exact ⟨0, by omega, rfl, fun r hr => absurd hr (by omega), HB.out⟩
          case round =>
            clear HB
            obtain ⟨j, hj, rfl, hs2, hb⟩ := hrel
            have hm := M3.out.stay hb
            have c1 := hm.topCell i hlt
            have HB := hid hb
            by_cases hlt2 : j < l
            · obtain ⟨bS, oS, rfl, bs, os, hc, hr⟩ := RS3.out.at (by omega) (by omega)
              have c2 := hm.cell i j hlt hlt2
              have c3' := Stays.of_below hb _ _ (hc i hlt)
              have c4 := Stays.of_below hb _ _ (hr i hlt j hlt2)
              have i2 : (j : Int) < (l : Int) := by omega
              clear hm hb hc hr M3 RS3
              by_cases hq : pr k (codeX k) S i j = S i j
              · have hq' : ((((pr k (codeX k) S i j).val : Nat) : Int) != (((S i j).val : Nat) : Int)) = false := by rw [hq]; simp
                have HS2 : Hid (∀ q, q < j + 1 → pr k (codeX k) S i q = S i q) := hid (fun q hq9 => by
                  by_cases e : q = j
                  · rw [e]; exact hq
                  · exact hs2 q (by omega))
                clear hs2 hq
                go_wp2_with fail
                go_quiet (fail)
                go_wp2
                go_roundw
                case rel => exact ⟨j + 1, by omega, by go_num, HS2.out, below_drewN HB.out⟩
                case measure => simp [intOf]; omega
              · have hq' : ((((pr k (codeX k) S i j).val : Nat) : Int) != (((S i j).val : Nat) : Int)) = true := by
                  simp; intro e; exact hq (K.ext (by omega))
                have EF : Hid (sndV k m (k + m) L S = false) := hid (by
                  rw [EV.out]
                  refine sndB_false (fun hsn => ?_)
                  by_cases hik : i < k
                  · exact hq (pr_code k S i j hik)
                  · have h9 := hsn (i - k) (by omega) j hlt2
                    rw [show k + (i - k) = i by omega] at h9
                    exact hq h9)
                have BX : Hid (∀ z, Below w.heap.size w (wr.drewN z)) := hid (fun z => below_drewN (B3.out.then HB.out))
                clear hs2 hq
                go_wp2_with fail
                go_quiet (fail)
                go_wp2
                go_ret2
                exact ⟨ret_be EF.out.symm HE.out.symm, BX.out _⟩
            · have HS2 : Hid (∀ r, r < i + 1 → ∀ j, j < l → pr k (codeX k) S r j = S r j) := hid (fun r hr9 q hq9 => by
                by_cases e : r = i
                · rw [e]; exact hs2 q (by omega)
                · exact HS.out r (by omega) q hq9)
              clear hm hb hs2 M3 RS3
              go_wp2
              go_roundw
              case rel => exact ⟨i + 1, by omega, by go_num, HS2.out, HB.out⟩
              case measure => simp [intOf]; omega
        · have ET : Hid (sndV k m (k + m) L S = true) := hid (by
            rw [EV.out]
            exact sndB_true (fun q hq9 j hj => hs (k + q) (by omega) j hj))
          have BX := hid (B3.out.then hb)
          clear hs hb M3 RS3
          go_wp2
          go_ret2
          exact ⟨ret_be ET.out.symm HE.out.symm, BX.out⟩
    · have he' : (errMt (k + m) (k + m) (k + m) (fun _ => true) L (-1) != 0) = true := by simpa using he
      have EV : Hid (sndV k m (k + m) L S = false) := hid (by unfold sndV; rw [if_neg he])
      clear he
      go_wp2
      go_ret2
      exact ⟨ret_be EV.out.symm rfl, B1.out⟩
  · have h9 : errMt ns ns (k + m) (fun _ => true) L (-1) = 2 := by unfold errMt; rw [if_pos (.inl hns)]
    have EV : Hid (sndV k m ns L S = false) := hid (by unfold sndV; rw [h9, if_neg (by decide)])
    have H9 := hid h9
    have hne : ((ns : Int) != (k : Int) + (m : Int)) = true := by simp; omega
    clear h9 hns
    go_enter Try.func26, Try.ntmps26
    go_wp2_with fail
    refine (may_ok k m w h0 h1 h).mono ?_
    rintro e w' ⟨rfl, hw⟩
    have hw2 := hw.symm
    subst hw2
    clear hw
    go_wp2
    go_ret2
    exact ⟨ret_be EV.out.symm H9.out.symm, Below.refl _ _⟩
end Go.Proofs.Ytapgdenodhcliaa
