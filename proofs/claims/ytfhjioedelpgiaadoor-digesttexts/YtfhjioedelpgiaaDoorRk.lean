/- Contract of Tags of the document's own answer. -/
import Derived.Test.YtfhjioedelpgiaaDoorRh
namespace Go.Proofs.YtfhjioedelpgiaaDoor
open Go Go.RowKit
theorem okS_no32 {s : ByteArray} (h : ¬ (okU s = true ∧ s.size = 32)) : ¬ okS s 32 = true := fun hk => h (by
  have h2 := hk
  unfold okS at h2
  simp only [Bool.and_eq_true, decide_eq_true_eq] at h2
  exact ⟨by rw [← ok_of32 s h2.1]; exact hk, h2.1⟩)
set_option maxRecDepth 100000 in
set_option maxHeartbeats 1000000 in
theorem rtags_any (p : Option Addr) (n c : Nat) (S : Nat → ByteArray) (w : World) (hn : n ≤ 1000) (hz : ∀ i, i < n → (S i).size ≤ 100000) (hT : TxtAt w p n S) :
    Calls Tryd.prog 13 #[.slice p n c] w fun e w' => e = .returned (.tuple #[.string (tgS n S), .int .i64 (tgE n S)]) ∧ Below w.heap.size w w' := by
  by_cases h32 : 32 < n
  · have e1 : tgE n S = 3 := by unfold tgE; rw [if_pos h32]
    have e2 : tgS n S = ⟨#[]⟩ := by unfold tgS; rw [e1]; rfl
    have HE : Hid (tgE n S = 3 ∧ tgS n S = ⟨#[]⟩) := ⟨e1, e2⟩
    have h32' : (32 : Int) < (n : Int) := by omega
    clear e1 e2 hT hz
    go_enter Tryd.func13, Tryd.ntmps13
    go_wp2
    go_ret2
    refine ⟨?_, Below.refl _ _⟩
    rw [HE.out.1, HE.out.2]; rfl
  · have h32' : ¬ (32 : Int) < (n : Int) := by omega
    have HT := hid hT
    have H32 := hid h32
    have HZ := hid hz
    have hn' : (n : Int) ≤ 32 := by omega
    clear hT h32 hz
    go_enter Tryd.func13, Tryd.ntmps13
    go_wp2
    go_loopw [4, 5] (fun v i wr => ∃ k : Nat, k ≤ n ∧ i = .int .i64 k ∧ (∀ j, j < k → okS (S j) 32 = true) ∧ Buf w.heap.size wr v (16 * k) (allF S) ∧ Below w.heap.size w wr) (fun _ i _ => (n - intOf i).toNat)
    case atStart => exact ⟨0, by omega, rfl, fun j hj => by omega, Buf.nil _ _ _, Below.refl _ _⟩
    case round =>
      obtain ⟨k, hk, rfl, hall, hbuf, hb⟩ := hrel
      have HA := hid hall
      have HF := hid hbuf
      have HB := hid hb
      clear hall hbuf hb
      by_cases hlt : k < n
      · have hlt' : (k : Int) < (n : Int) := by omega
        obtain ⟨b, o, rfl, hc⟩ := str_new (HT.out.below HB.out) k hlt
        have HZk := hid (HZ.out k hlt)
        have HC := hid hc
        obtain ⟨s, hs⟩ : ∃ s, s = S k := ⟨_, rfl⟩
        rw [← hs] at hc HZk HC
        have HS := hid hs
        clear hs
        by_cases hok : okU s = true ∧ s.size = 32
        · have HK : Hid (okU s = true ∧ s.size = 32) := hok
          have h32s : (s.size : Int) = 32 := by omega
          have HK2 : Hid (okS s 32 = true) := by show okS s 32 = true; rw [ok_of32 s hok.2]; exact hok.1
          clear hok
          go_upto_region 8 with (go_at_call 25; refine (undigits_any s _ HZk.out).mono ?_; rintro e w1 ⟨p1, n1, c1, rfl, hst, hpn, hn1, _, hb1, _⟩; rw [HK.out.1])
          have hn16 : n1 = 16 := by have := hn1 HK.out.1; rw [HK.out.2] at this; omega
          subst hn16
          have hF1 := HF.out.below hb1
          have hB1 : w.heap.size ≤ w1.heap.size := Nat.le_trans HB.out.size hb1.size
          have hc1 := (hb1.cell (p := ⟨b, o + k, none⟩) (show b < wr.heap.size from cell_lt hc)).trans hc
          obtain ⟨v', w2, hr, hbuf2, hb2⟩ := hF1.app p1 16 c1 _ hst (fun e => by have := hpn e; omega) (by omega) hB1
          have HF2 := hid (hbuf2.congr (y := allF S) (fun i hi => by rw [HS.out]; exact allF_step S k i hi))
          have HB2 := hid ((HB.out.trans (hb1.mono HB.out.size)).trans hb2)
          have HR := hid hr
          clear hbuf2 hb2 hF1 hB1 hst hpn hn1 hb1 hr hc HC
          go_wp2_with (refine wpList_append_eq rfl _ _ 26 rfl _ _ rfl rfl _ _ HR.out ?_)
          go_roundw
          case rel =>
            refine ⟨k + 1, by omega, by go_num, fun j hj => ?_, ?_, HB2.out⟩
            · by_cases e : j = k
              · rw [e, ← HS.out]; exact HK2.out
              · exact HA.out j (by omega)
            · rw [show 16 * (k + 1) = 16 * k + 16 by omega]; exact HF2.out
          case measure => simp [intOf]; omega
        · have hok' : ¬ okS (S k) 32 = true := by rw [← HS.out]; exact okS_no32 hok
          have e0 : allOk n S = false := by
            cases ha : allOk n S with
            | false => rfl
            | true => exact absurd ((allOk_iff n S).1 ha k hlt) hok'
          have e1 : tgE n S = 4 := by unfold tgE; rw [if_neg H32.out, e0]; rfl
          have e2 : tgS n S = ⟨#[]⟩ := by unfold tgS; rw [e1]; rfl
          have HE : Hid (tgE n S = 4 ∧ tgS n S = ⟨#[]⟩) := ⟨e1, e2⟩
          clear e0 e1 e2 hok'
          cases hu : okU s with
          | false =>
            have HU := hid hu
            clear hok hu
            go_upto_region 8 with (go_at_call 25; refine (undigits_any s _ HZk.out).mono ?_; rintro e w1 ⟨p1, n1, c1, rfl, hst, hpn, hn1, _, hb1, _⟩; rw [HU.out])
            have HB2 := hid (HB.out.trans (hb1.mono HB.out.size))
            clear hb1 hst hpn hn1
            go_wp2
            go_ret2
            refine ⟨?_, HB2.out⟩
            rw [HE.out.1, HE.out.2]; rfl
          | true =>
            have h32s : ¬ (s.size : Int) = 32 := fun h => hok ⟨hu, by omega⟩
            have HU := hid hu
            clear hok hu
            go_upto_region 8 with (go_at_call 25; refine (undigits_any s _ HZk.out).mono ?_; rintro e w1 ⟨p1, n1, c1, rfl, hst, hpn, hn1, _, hb1, _⟩; rw [HU.out])
            have HB2 := hid (HB.out.trans (hb1.mono HB.out.size))
            have hc1 := (hb1.cell (p := ⟨b, o + k, none⟩) (show b < wr.heap.size from cell_lt hc)).trans hc
            clear hb1 hst hpn hn1 hc
            go_wp2
            go_ret2
            refine ⟨?_, HB2.out⟩
            rw [HE.out.1, HE.out.2]; rfl
      · have e : k = n := by omega
        have e0 : allOk n S = true := (allOk_iff n S).2 (fun i hi => HA.out i (by omega))
        have e1 : tgE n S = 0 := by unfold tgE; rw [if_neg H32.out, e0]; rfl
        have e2 : tgS n S = strN 32 (hexF (sha (16 * n) (allF S))) ++ ⟨#[45]⟩ ++ ⟨(Lib.decDigits n).toArray⟩ := by unfold tgS; rw [e1]; rfl
        have HE : Hid (tgE n S = 0 ∧ tgS n S = strN 32 (hexF (sha (16 * n) (allF S))) ++ ⟨#[45]⟩ ++ ⟨(Lib.decDigits n).toArray⟩) := ⟨e1, e2⟩
        obtain ⟨pv, cv, rfl, hcv, hst, hpn⟩ := HF.out.str
        have HS : Hid (StrAt wr pv (16 * n) (allF S) ∧ (pv = none → 16 * n = 0 ∧ cv = 0)) := by rw [← e]; exact ⟨hst, hpn⟩
        have hge : ¬ (k : Int) < (n : Int) := by omega
        have h16 : 16 * k = 16 * n := by omega
        have HN : Hid (n < 100 ∧ 16 * n ≤ 500000) := by constructor <;> (have := H32.out; omega)
        rw [h16]
        have hz1 := strN_size 32 (hexF (sha (16 * n) (allF S)))
        have hz2 := dec_len n HN.out.1
        clear e e0 e1 e2 hst hcv hpn h16 HF
        go_wp2_with (first
          | (go_at_call 27; refine (rtag_any _ _ _ (allF S) _ HN.out.2 HS.out.2 HS.out.1 (fun i _ => allF_lt S i)).mono ?_; rintro e w1 ⟨rfl, hb1⟩; have HB2 := hid (HB.out.trans (hb1.mono HB.out.size)); clear hb1)
          | (go_at_call 28; refine (dec_any n HN.out.1 _).mono ?_; rintro e w' ⟨rfl, rfl⟩))
        go_ret2
        refine ⟨?_, HB2.out⟩
        rw [HE.out.1, HE.out.2]
        rfl
end Go.Proofs.YtfhjioedelpgiaaDoor
