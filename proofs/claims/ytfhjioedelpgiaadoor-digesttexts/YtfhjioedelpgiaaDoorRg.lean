/- Contracts of digit and Undigits of the document's own answer: a digit's number; the bytes that digits say. -/
import Derived.Test.YtfhjioedelpgiaaDoorRf
namespace Go.Proofs.YtfhjioedelpgiaaDoor
open Go Go.RowKit

def dgt (c : Nat) : Int := if isD c then ((dval c : Nat) : Int) else -1
theorem dgt_y {c : Nat} (h : isD c = true) : dgt c = ((dval c : Nat) : Int) := by unfold dgt; rw [if_pos h]
theorem dgt_n {c : Nat} (h : ¬ isD c = true) : dgt c = -1 := by unfold dgt; rw [if_neg h]
set_option maxHeartbeats 400000 in
theorem digit_any (c : Nat) (hc : c < 256) (w : World) : Calls Tryd.prog 47 #[.int .u8 (c : Int)] w fun e w' => e = .returned (.int .i64 (dgt c)) ∧ w' = w := by
  by_cases h1 : 48 ≤ c ∧ c ≤ 57
  · have e2 : isD c = true := by unfold isD; simp; omega
    have e1 : dgt c = (c : Int) - 48 := by rw [dgt_y e2]; unfold dval; rw [if_pos h1]; omega
    have HH := hid e1
    clear e1 e2
    have k1 : (48 : Int) ≤ (c : Int) := by omega
    have k2 : (c : Int) ≤ 57 := by omega
    go_enter Tryd.func47, Tryd.ntmps47
    go_wp2
    go_ret
    refine ⟨?_, rfl⟩
    rw [HH.out]; rfl
  · by_cases h2 : 97 ≤ c ∧ c ≤ 102
    · have e2 : isD c = true := by unfold isD; simp; omega
      have e1 : dgt c = (c : Int) - 97 + 10 := by rw [dgt_y e2]; unfold dval; rw [if_neg h1, if_pos h2]; omega
      have HH := hid e1
      clear e1 e2
      have k1 : (97 : Int) ≤ (c : Int) := by omega
      have k2 : (c : Int) ≤ 102 := by omega
      have k3 : ¬ (c : Int) ≤ 57 := by omega
      have k4 : (48 : Int) ≤ (c : Int) := by omega
      go_enter Tryd.func47, Tryd.ntmps47
      go_wp2
      go_ret
      refine ⟨?_, rfl⟩
      rw [HH.out]; rfl
    · have e2 : ¬ isD c = true := by unfold isD; simp; omega
      have HH := hid (dgt_n e2)
      clear e2
      go_enter Tryd.func47, Tryd.ntmps47
      go_wp2
      all_goals first | (exfalso; omega) | skip
      all_goals (go_ret; refine ⟨?_, rfl⟩; rw [HH.out]; rfl)
def okU (s : ByteArray) : Bool := decide (s.size % 2 = 0) && allD s.size (sg s)
def UdAt (w : World) (s : ByteArray) (e : Ending) (w' : World) : Prop :=
  ∃ (p : Option Addr) (n c : Nat), e = .returned (.tuple #[.slice p n c, .bool (okU s)]) ∧ StrAt w' p n (sayF (sg s)) ∧ (p = none → n = 0 ∧ c = 0) ∧ (okU s = true → n = s.size / 2) ∧ n ≤ s.size / 2 ∧ Below w.heap.size w w' ∧ ∀ a, p = some a → w.heap.size ≤ a.block
theorem okU_no {s : ByteArray} (j : Nat) (hj : j < s.size) (h : ¬ isD (sg s j) = true) : okU s = false := by
  unfold okU
  cases ha : allD s.size (sg s) with
  | false => simp
  | true => exact absurd ((allD_iff _ _).1 ha j hj) h
set_option maxRecDepth 100000 in
set_option maxHeartbeats 1000000 in
theorem undigits_any (s : ByteArray) (w : World) (hs : s.size ≤ 100000) : Calls Tryd.prog 25 #[.string s] w fun e w' => UdAt w s e w' := by
  by_cases hev : s.size % 2 = 0
  · have hev' : (s.size : Int) % 2 = 0 := by omega
    have hs' : (s.size : Int) ≤ 100000 := by omega
    go_enter Tryd.func25, Tryd.ntmps25
    go_wp2
    go_loopw [4, 5] (fun v i wr => ∃ k a : Nat, a = 2 * k ∧ a ≤ s.size ∧ i = .int .i64 a ∧ (∀ j, j < a → isD (sg s j) = true) ∧ Buf w.heap.size wr v k (sayF (sg s)) ∧ Below w.heap.size w wr) (fun _ i _ => (s.size - intOf i).toNat)
    case atStart => exact ⟨0, 0, rfl, by omega, rfl, fun j hj => by omega, Buf.nil _ _ _, Below.refl _ _⟩
    case round =>
      clear hev'
      obtain ⟨k, a, ha, hle, rfl, hall, hf, hb⟩ := hrel
      by_cases hlt : a < s.size
      · have hlt' : (a : Int) < (s.size : Int) := by omega
        have ha2 : a + 1 < s.size := by omega
        have i1 := run_index_str s a hlt
        have i2 := run_index_str s (a + 1) ha2
        rw [show ((a + 1 : Nat) : Int) = (a : Int) + 1 by omega] at i2
        obtain ⟨c1, hc1⟩ : ∃ c1, c1 = sg s a := ⟨_, rfl⟩
        obtain ⟨c2, hc2⟩ : ∃ c2, c2 = sg s (a + 1) := ⟨_, rfl⟩
        rw [← hc1] at i1
        rw [← hc2] at i2
        have L1 : Hid (c1 < 256) := by rw [hc1]; exact sg_lt s a
        have L2 : Hid (c2 < 256) := by rw [hc2]; exact sg_lt s (a + 1)
        have HA := hid hall
        have HAK := hid ha
        have H1 := hid hc1
        have H2 := hid hc2
        by_cases d1 : isD c1 = true
        · by_cases d2 : isD c2 = true
          · have e1 := dgt_y d1
            have e2 := dgt_y d2
            have b1 := dval_lt c1
            have b2 := dval_lt c2
            obtain ⟨y, hy⟩ : ∃ y, y = sayF (sg s) k := ⟨_, rfl⟩
            have hv : 16 * ((dval c1 : Nat) : Int) + ((dval c2 : Nat) : Int) = (y : Int) := by
              rw [hy, hc1, hc2, ha]; unfold sayF; omega
            have hy2 : (y : Int) ≤ 255 := by omega
            have HYY := hid hy
            clear hy
            have D1 := hid d1
            have D2 := hid d2
            have HF0 := hid hf
            have HB0 := hid hb
            generalize dval c1 = n1 at *
            generalize dval c2 = n2 at *
            have q1 : ¬ ((n1 : Int) < 0) := by omega
            have q2 : ¬ ((n2 : Int) < 0) := by omega
            clear hf hb hall ha hc1 hc2 d1 d2
            go_wp2_with fail
            go_quiet ((go_at_call 47; refine Calls.quiet_of_same (digit_any _ (by first | exact L1.out | exact L2.out) _)))
            have hf4 := HF0.out.below (Below.drewN' (Below.refl wr.heap.size wr) nq)
            have hb4 := Below.drewN' HB0.out nq
            generalize wr.drewN nq = w4 at *
            obtain ⟨v', w2, hr, hf2, hb2⟩ := hf4.push y (by have := HAK.out; omega) hb4.size
            have HR := hid hr
            have HF := hid (hf2.congr (y := sayF (sg s)) (fun i hi => by
              by_cases q : i < k
              · rw [if_pos q]
              · rw [if_neg q, show i = k by omega]; exact HYY.out))
            have HB := hid (hb4.trans hb2)
            clear hr hf2 hb2 hf4 hb4
            go_wp2_with (refine wpList_append_eq rfl _ _ 26 rfl _ _ rfl rfl _ _ HR.out ?_)
            go_roundw
            case rel =>
              refine ⟨k + 1, a + 2, by have := HAK.out; omega, by omega, by go_num, fun j hj => ?_, HF.out, HB.out⟩
              by_cases x1 : j < a
              · exact HA.out j x1
              · by_cases x2 : j = a
                · rw [x2, ← H1.out]; exact D1.out
                · rw [show j = a + 1 by omega, ← H2.out]; exact D2.out
            case measure => simp [intOf]; omega
          · have e1 := dgt_y d1
            have e2 := dgt_n d2
            have hno : okU s = false := okU_no (a + 1) ha2 (by rw [← hc2]; exact d2)
            have HK := hid hno
            have HB0 := hid hb
            generalize dval c1 = n1 at *
            have q1 : ¬ ((n1 : Int) < 0) := by omega
            clear hf hb hall ha hc1 hc2 d1 d2 hno
            go_wp2_with fail
            go_quiet ((go_at_call 47; refine Calls.quiet_of_same (digit_any _ (by first | exact L1.out | exact L2.out) _)))
            go_wp2
            go_ret2
            refine ⟨none, 0, 0, ?_, .inl rfl, fun _ => ⟨rfl, rfl⟩, fun h => ?_, by omega, Below.drewN' HB0.out nq, fun a h => (by cases h)⟩
            · rw [HK.out]; rfl
            · rw [HK.out] at h; cases h
        · have e1 := dgt_n d1
          have hno : okU s = false := okU_no a hlt (by rw [← hc1]; exact d1)
          have HK := hid hno
          have HB0 := hid hb
          clear hf hb hall ha hc1 hc2 d1 hno
          go_wp2_with fail
          go_quiet ((go_at_call 47; refine Calls.quiet_of_same (digit_any _ (by first | exact L1.out | exact L2.out) _)))
          go_wp2
          all_goals (go_ret2; refine ⟨none, 0, 0, ?_, .inl rfl, fun _ => ⟨rfl, rfl⟩, fun h => ?_, by omega, Below.drewN' HB0.out nq, fun a h => (by cases h)⟩)
          all_goals first | (rw [HK.out]; rfl) | (rw [HK.out] at h; cases h)
      · have hge : ¬ (a : Int) < (s.size : Int) := by omega
        have hok : okU s = true := by
          unfold okU; rw [(allD_iff _ _).2 (fun j hj => hall j (by omega))]; simp; exact hev
        obtain ⟨pv, cv, rfl, hcv, hst, hpn, hba⟩ := hf.str2
        have HBA := hid hba
        clear hba
        have HK := hid hok
        have HST := hid hst
        have HPN := hid hpn
        have HB0 := hid hb
        have HAK : Hid (k = s.size / 2) := by show k = s.size / 2; omega
        clear hok hst hpn hcv hf hb hall ha
        go_wp2
        go_ret2
        refine ⟨pv, k, cv, ?_, HST.out, HPN.out, fun _ => HAK.out, (by rw [HAK.out]; omega), HB0.out, HBA.out⟩
        rw [HK.out]; rfl
  · have hev' : ¬ (s.size : Int) % 2 = 0 := by omega
    have hno : okU s = false := by unfold okU; simp [hev]
    have HK := hid hno
    clear hno hev
    go_enter Tryd.func25, Tryd.ntmps25
    go_wp2
    go_ret2
    refine ⟨none, 0, 0, ?_, .inl rfl, fun _ => ⟨rfl, rfl⟩, fun h => ?_, by omega, Below.refl _ _, fun a h => (by cases h)⟩
    · rw [HK.out]; rfl
    · rw [HK.out] at h; cases h
end Go.Proofs.YtfhjioedelpgiaaDoor
