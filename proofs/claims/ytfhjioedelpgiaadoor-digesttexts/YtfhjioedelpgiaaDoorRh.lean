/- Contracts of Read, dec and Tags of the document's own answer. -/
import Derived.Test.YtfhjioedelpgiaaDoorRg
import Derived.Test.YtfhjioedelpgiaaDoorSt
namespace Go.Proofs.YtfhjioedelpgiaaDoor
open Go Go.RowKit
theorem ok_of (s : ByteArray) (h : s.size = 64) : okS s 64 = okU s := by unfold okS okU; rw [h]; simp
theorem ok_of32 (s : ByteArray) (h : s.size = 32) : okS s 32 = okU s := by unfold okS okU; rw [h]; simp
set_option maxRecDepth 100000 in
set_option maxHeartbeats 1000000 in
theorem rread_any (s : ByteArray) (w : World) (hsz : s.size ≤ 100000) :
    Calls Tryd.prog 11 #[.string s] w fun e w' => e = .returned (.tuple #[.agg (aB 32 (rdF s)), .int .i64 (rdE s)]) ∧ Below w.heap.size w w' := by
  have hz1 : (w.alloc (.cells (aB 32 zB) 24)).heap.size = w.heap.size + 1 := by simp
  have hz2 : ((w.alloc (.cells (aB 32 zB) 24)).alloc (.cells (aB 32 zB) 24)).heap.size = w.heap.size + 1 + 1 := by simp
  have R0 := (CAt.new w (aB 32 zB) 24).alloc (.cells (aB 32 zB) 24)
  have D0 := CAt.new' (w.alloc (.cells (aB 32 zB) 24)) (aB 32 zB) 24 _ hz1
  have B0 : Below w.heap.size w ((w.alloc (.cells (aB 32 zB) 24)).alloc (.cells (aB 32 zB) 24)) := ((Below.refl _ _).alloc (by omega) _).alloc (by rw [hz1]; omega) _
  by_cases h64 : s.size = 64
  · have h64' : (s.size : Int) = 64 := by omega
    have HO := hid (ok_of s h64)
    have H64 := hid h64
    by_cases hok : okS s 64 = true
    · have e1 : rdF s = sayF (sg s) := by unfold rdF; rw [if_pos hok]
      have e2 : rdE s = 0 := by unfold rdE; rw [if_pos hok]
      have hu : okU s = true := by rw [← HO.out]; exact hok
      have HE : Hid (rdF s = sayF (sg s) ∧ rdE s = 0 ∧ okU s = true) := ⟨e1, e2, hu⟩
      have HR := hid R0
      have HD := hid D0
      have HB := hid B0
      have HZ := hid hz2
      clear e1 e2 hu hok R0 D0 B0 hz1 hz2 h64
      go_enter Tryd.func11, Tryd.ntmps11
      go_upto_region 5 with (first
        | refine wpList_alloc_row rfl 24 rfl _ zero32 ?_
        | (go_at_call 25; refine (undigits_any s _ hsz).mono ?_; rintro e w1 ⟨p, n, c, rfl, hst, hpn, hn, _, hb, hfar⟩; rw [HE.out.2.2]))
      have hn32 : n = 32 := by have := hn HE.out.2.2; rw [H64.out] at this; omega
      subst hn32
      have HR := hid (HR.out.below hb HR.out.lt)
      have HD := hid (HD.out.below hb HD.out.lt)
      have HB := hid (HB.out.trans (hb.mono HB.out.size))
      obtain ⟨b, o, rfl, hrow⟩ : ∃ b o, p = some ⟨b, o, none⟩ ∧ RowAt w1 b o 32 (sayF (sg s)) := by
        rcases hst with h | h
        · omega
        · exact h
      have hbf : w.heap.size + 1 + 1 ≤ b := by have := hfar _ rfl; rw [HZ.out] at this; exact this
      have HROW := hid hrow
      have HBF := hid hbf
      clear hst hpn hn hb hfar hrow hbf
      go_wp2
      go_loopw [7] (fun v wr => ∃ k : Nat, k ≤ 32 ∧ v = .int .i64 k ∧ CAt wr w.heap.size (aB 32 zB) 24 ∧ CAt wr (w.heap.size + 1) (aB 32 (upTo (sayF (sg s)) k)) 24 ∧ RowAt wr b o 32 (sayF (sg s)) ∧ Below w.heap.size w wr) (fun v _ => (32 - intOf v).toNat)
      case atStart => exact ⟨0, by omega, rfl, HR.out, HD.out.congr (aB_congr 32 fun i _ => upTo_zero _ i), HROW.out, HB.out⟩
      case round =>
        clear HR HD HROW HB
        obtain ⟨k, hk, rfl, hr, hd, hrow, hb⟩ := hrel
        by_cases hlk : k < 32
        · have c1 := hrow k hlk
          have c2 := hd.cellB k hlk
          have c3 := hd.free k
          have hlk' : (k : Int) < 32 := by omega
          generalize hsv : sayF (sg s) k = sv at *
          have HSV := hid hsv
          have HR := hid hr
          have HD := hid hd
          have HROW := hid hrow
          have HB := hid hb
          clear hr hd hrow hb hsv
          go_wp2
          go_roundw
          case rel =>
            have hbf := HBF.out
            refine ⟨k + 1, by omega, by go_num, HR.out.other _ _ (by show w.heap.size ≠ w.heap.size + 1; omega), (HD.out.setB k _).congr (aB_congr 32 fun i _ => ?_), fun i hi => ?_, HB.out.setCell (by show w.heap.size ≤ w.heap.size + 1; omega) _⟩
            · rw [← HSV.out]; exact upTo_step _ k i
            · rw [World.cell?_setCell_other _ _ _ _ (fun he => by have := congrArg Addr.block he; simp at this; omega)]; exact HROW.out i hi
          case measure => simp [intOf]; omega
        · have e : k = 32 := by omega
          have hd2 := hd.congr (cs' := aB 32 (rdF s)) (aB_congr 32 fun i hi => by rw [HE.out.1]; exact upTo_at _ _ _ (by omega))
          have HR := hid hr
          have HD := hid hd2
          have HB := hid hb
          have hgk : ¬ (k : Int) < 32 := by omega
          clear hr hd hd2 hrow hb e
          go_wp2_with (first
            | refine wpList_load_row rfl 24 _ rfl _ rfl _ _ _ _ HD.out Tryd.underlying24 rfl (size32 _) ?_
            | refine wpList_store_row rfl 24 _ _ rfl _ _ rfl rfl _ _ HR.out (size32 _) (by simp only [aB_size]) (aB_one _ _) ?_)
          refine ret_row2 rfl _ _ _ _ _ _ rfl rfl rfl (HR.out.row _) Tryd.underlying24 rfl (size32 _) ⟨?_, below_setRow HB.out (by omega) _⟩
          rw [HE.out.2.1]
          rfl
    · have e1 : rdF s = zB := by unfold rdF; rw [if_neg hok]
      have e2 : rdE s = 4 := by unfold rdE; rw [if_neg hok]
      have hu : okU s = false := by rw [← HO.out]; simpa using hok
      have HE : Hid (rdF s = zB ∧ rdE s = 4 ∧ okU s = false) := ⟨e1, e2, hu⟩
      have HR := hid R0
      have HD := hid D0
      have HB := hid B0
      clear e1 e2 hu hok R0 D0 B0 hz1 hz2 h64
      go_enter Tryd.func11, Tryd.ntmps11
      go_upto_region 5 with (first
        | refine wpList_alloc_row rfl 24 rfl _ zero32 ?_
        | (go_at_call 25; refine (undigits_any s _ hsz).mono ?_; rintro e w1 ⟨p, n, c, rfl, hst, hpn, hn, _, hb, hfar⟩; rw [HE.out.2.2]))
      have HR := hid (HR.out.below hb HR.out.lt)
      have HD := hid (HD.out.below hb HD.out.lt)
      have HB := hid (HB.out.trans (hb.mono HB.out.size))
      clear hst hpn hn hb hfar
      go_wp2_with (first
        | refine wpList_load_row rfl 24 _ rfl _ rfl _ _ _ _ HD.out Tryd.underlying24 rfl (size32 _) ?_
        | refine wpList_store_row rfl 24 _ _ rfl _ _ rfl rfl _ _ HR.out (size32 _) (by simp only [aB_size]) (aB_one _ _) ?_)
      refine ret_row2 rfl _ _ _ _ _ _ rfl rfl rfl (HR.out.row _) Tryd.underlying24 rfl (size32 _) ⟨?_, below_setRow HB.out (by omega) _⟩
      rw [HE.out.1, HE.out.2.1]
      rfl
  · have h64' : ¬ (s.size : Int) = 64 := by omega
    have hok : okS s 64 = false := by unfold okS; simp [h64]
    have e1 : rdF s = zB := by unfold rdF; rw [hok]; rfl
    have e2 : rdE s = 4 := by unfold rdE; rw [hok]; rfl
    have HE : Hid (rdF s = zB ∧ rdE s = 4) := ⟨e1, e2⟩
    have HR := hid R0
    have HD := hid D0
    have HB := hid B0
    clear e1 e2 hok R0 D0 B0 hz1 hz2 h64
    go_enter Tryd.func11, Tryd.ntmps11
    go_wp2_with (first
      | refine wpList_alloc_row rfl 24 rfl _ zero32 ?_
      | refine wpList_load_row rfl 24 _ rfl _ rfl _ _ _ _ HD.out Tryd.underlying24 rfl (size32 _) ?_
      | refine wpList_store_row rfl 24 _ _ rfl _ _ rfl rfl _ _ HR.out (size32 _) (by simp only [aB_size]) (aB_one _ _) ?_)
    refine ret_row2 rfl _ _ _ _ _ _ rfl rfl rfl (HR.out.row _) Tryd.underlying24 rfl (size32 _) ⟨?_, below_setRow HB.out (by omega) _⟩
    rw [HE.out.1, HE.out.2]
    rfl
def dd (v : Nat) : ByteArray := ⟨#[UInt8.ofNat (48 + v)]⟩
theorem dd_size (v : Nat) : (dd v).size = 1 := rfl
theorem run_slice_dec (w : World) : ∀ v : Nat, v < 10 → (Instr.slice 9 (.string ⟨#[48, 49, 50, 51, 52, 53, 54, 55, 56, 57]⟩) (some (.int .i64 (v : Int))) (some (.int .i64 ((v : Int) + 1))) none).run Tryd.prog w = .ok (.string (dd v)) w
  | 0, _ => by kernel_rfl
  | 1, _ => by kernel_rfl
  | 2, _ => by kernel_rfl
  | 3, _ => by kernel_rfl
  | 4, _ => by kernel_rfl
  | 5, _ => by kernel_rfl
  | 6, _ => by kernel_rfl
  | 7, _ => by kernel_rfl
  | 8, _ => by kernel_rfl
  | 9, _ => by kernel_rfl
  | n + 10, h => by omega
set_option maxHeartbeats 400000 in
theorem dec_one (n : Nat) (hn : n < 10) (w : World) : Calls Tryd.prog 28 #[.int .i64 (n : Int)] w fun e w' => e = .returned (.string (dd n)) ∧ w' = w := by
  have h1 := fun w => run_slice_dec w n hn
  have hn' : (n : Int) < 10 := by omega
  go_enter Tryd.func28, Tryd.ntmps28
  go_wp2
  go_ret
  exact ⟨rfl, rfl⟩
set_option maxHeartbeats 400000 in
theorem dec_any (n : Nat) (hn : n < 100) (w : World) : Calls Tryd.prog 28 #[.int .i64 (n : Int)] w fun e w' => e = .returned (.string ⟨(Lib.decDigits n).toArray⟩) ∧ w' = w := by
  by_cases h : n < 10
  · rw [Lib.decDigits_one h]; exact dec_one n h w
  · have hge : ¬ (n : Int) < 10 := by omega
    have HD := hid (Lib.decDigits_two h hn)
    have c1 := fun w => dec_one (n / 10) (by omega) w
    have c2 := fun w => dec_one (n % 10) (by omega) w
    rw [show ((n / 10 : Nat) : Int) = (n : Int) / 10 by omega] at c1
    rw [show ((n % 10 : Nat) : Int) = (n : Int) % 10 by omega] at c2
    have z1 := dd_size (n / 10)
    have z2 := dd_size (n % 10)
    have K1 := hid c1
    have K2 := hid c2
    clear c1 c2
    go_enter Tryd.func28, Tryd.ntmps28
    go_wp2_with fail
    refine (K1.out _).mono ?_
    rintro e w' ⟨rfl, rfl⟩
    go_wp2_with fail
    refine (K2.out _).mono ?_
    rintro e w' ⟨rfl, rfl⟩
    go_wp2
    go_ret
    refine ⟨?_, rfl⟩
    rw [HD.out]; rfl
end Go.Proofs.YtfhjioedelpgiaaDoor
