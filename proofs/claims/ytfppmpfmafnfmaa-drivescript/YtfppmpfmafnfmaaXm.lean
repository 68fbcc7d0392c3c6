/- Texts laid into one: the remark ahead of each part says what is proved there. -/
import Derived.Test.YtfppmpfmafnfmaaXl
/- The walk of DriveScript: two drives that are made. (Written by tools/gen_Mg.py.) -/
namespace Go.Proofs.Ytfppmpfmafnfmaa
open Go Go.RowKit
set_option maxHeartbeats 100000000 in
set_option maxRecDepth 100000 in
theorem script_ok (n1 n2 : Int) (pa0 : Option Addr) (na ca : Nat) (w : World) (hA : IsActs w pa0 na) (h60 : ¬ 60 < na) (c1 : 1 ≤ n1) (g1 : n1 ≤ 100000) (c2 : 1 ≤ n2) (g2 : n2 ≤ 100000) :
    Calls Try.prog 3 #[.int .i64 n1, .int .i64 n2, .slice pa0 na ca] w fun e w' => e = .returned (.bool true) ∧ Below w.heap.size w w' := by
  have h' : ¬ (60 : Int) < (na : Int) := by omega
  have d1 : ¬ 100000 < n1 := by omega
  have d2 : ¬ 100000 < n2 := by omega
  obtain ⟨m1, rfl⟩ : ∃ m1 : Nat, n1 = (m1 : Int) := ⟨n1.toNat, by omega⟩
  obtain ⟨m2, rfl⟩ : ∃ m2 : Nat, n2 = (m2 : Int) := ⟨n2.toNat, by omega⟩
  have HN1 := hid (fun W => new_ok m1 (by omega) (by omega) W)
  have HM1 := hid (fun W => rnew_ok m1 (by omega) (by omega) W)
  have HN2 := hid (fun W => new_ok m2 (by omega) (by omega) W)
  have HM2 := hid (fun W => rnew_ok m2 (by omega) (by omega) W)
  have HA := hid hA
  have HNA := hid h60
  have t1 : True := trivial
  have t2 : True := trivial
  clear c1 g1 c2 g2 hA
  go_enter Try.func3, Try.ntmps3
  go_wp2_with (first
    | (go_at_call 9; have _t := t1; refine (HN1.out _).mono ?_; rintro e w1 ⟨pa, rfl, hd, hb⟩; have HD1 := hid hd; have HB1 := hid hb; clear hd hb t1)
    | (go_at_call 10; have _t := t2; refine (HM1.out _).mono ?_; rintro e w2 ⟨qa, rfl, hd, hb⟩; have HD2 := hid hd; have HB2 := hid hb; clear hd hb t2)
    | (go_at_call 9; refine (HN2.out _).mono ?_; rintro e w3 ⟨pb, rfl, hd, hb⟩; have HD3 := hid hd; have HB3 := hid hb; clear hd hb)
    | (go_at_call 10; refine (HM2.out _).mono ?_; rintro e w4 ⟨qb, rfl, hd, hb⟩; have HJ := hid (jb_start HD1.out HB1.out HD2.out HB2.out HD3.out HB3.out hd hb (fun _ => (0, false))); have HL0 := hid (ls_start HJ.out); clear hd hb HD1 HB1 HD2 HB2 HD3 HB3 HJ))
  clear HN1 HM1 HN2 HM2 h60
  go_loopw [16] (fun v wr => ∃ i p q p2 q2 : Nat, i ≤ na ∧ v = .int .i64 (i : Int) ∧ LS w wr w4.heap.size i p q p2 q2) (fun v _ => (na - intOf v).toNat)
  case atStart => exact ⟨0, pa, qa, pb, qb, by omega, rfl, HL0.out⟩
  case round =>
    obtain ⟨i, p, q, p2, q2, hi, rfl, hls⟩ := hrel
    have HL := hid hls
    clear hls HL0
    by_cases hlt : i < na
    · have hlt' : (i : Int) < (na : Int) := by omega
      rcases HA.out with h0 | ⟨ba, oa, rfl, hx⟩
      · omega
      obtain ⟨x, hxo, hxa⟩ := act_at3 hx hlt
      have HXO := hid hxo
      have hxc := hxa wr HL.out.be
      obtain ⟨XA, hXA, hLA⟩ : ∃ XA : ByteArray, sv x.A = .string XA ∧ XA.size = x.A.length := ⟨⟨x.A.toArray⟩, rfl, by simp [ByteArray.size]⟩
      obtain ⟨XC, hXC, hLC⟩ : ∃ XC : ByteArray, sv x.C = .string XC ∧ XC.size = x.C.length := ⟨⟨x.C.toArray⟩, rfl, by simp [ByteArray.size]⟩
      have HXA := hid hXA
      have HXC := hid hXC
      have x0 : wr.cell? ⟨ba, oa + i * 9, none⟩ = some (.int .i64 x.kind) := hxc 0 (by omega)
      have x1 : wr.cell? ⟨ba, oa + i * 9 + 1, none⟩ = some (.int .i64 x.which) := hxc 1 (by omega)
      have x2 : wr.cell? ⟨ba, oa + i * 9 + 2, none⟩ = some (.int .i64 x.at_) := hxc 2 (by omega)
      have x3 : wr.cell? ⟨ba, oa + i * 9 + 3, none⟩ = some (.string XA) := by rw [← hXA]; exact hxc 3 (by omega)
      have x4 : wr.cell? ⟨ba, oa + i * 9 + 4, none⟩ = some (.string XC) := by rw [← hXC]; exact hxc 4 (by omega)
      have x5 : wr.cell? ⟨ba, oa + i * 9 + 5, none⟩ = some (.slice x.pb x.bs.length x.cb) := hxc 5 (by omega)
      have x6 : wr.cell? ⟨ba, oa + i * 9 + 6, none⟩ = some (.bool x.is_) := hxc 6 (by omega)
      have x7 : wr.cell? ⟨ba, oa + i * 9 + 7, none⟩ = some (.int .u8 x.mask) := hxc 7 (by omega)
      have x8 : wr.cell? ⟨ba, oa + i * 9 + 8, none⟩ = some (.slice x.pk x.ks.length x.ck) := hxc 8 (by omega)
      have HV : Hid (x.val = #[.int .i64 x.kind, .int .i64 x.which, .int .i64 x.at_, .string XA, .string XC, .slice x.pb x.bs.length x.cb, .bool x.is_, .int .u8 x.mask, .slice x.pk x.ks.length x.ck]) := hid (by unfold AV.val; rw [hXA, hXC])
      have HB0 : Hid (Below w.heap.size w (wr.alloc (.cells #[.int .i64 x.kind, .int .i64 x.which, .int .i64 x.at_, .string XA, .string XC, .slice x.pb x.bs.length x.cb, .bool x.is_, .int .u8 x.mask, .slice x.pk x.ks.length x.ck] 36))) := hid (below_on _ _ HL.out.be ((Below.refl _ _).alloc (Nat.le_refl _) _))
      clear hxa hxc hx hxo hXA hXC
      by_cases hB : 2000 < x.bs.length
      · have h5' : (2000 : Int) < (x.bs.length : Int) := by omega
        clear hlt HA hLA hLC
        go_wp2
        go_ret
        exact ⟨rfl, HB0.out⟩
      have hB' : ¬ (2000 : Int) < (x.bs.length : Int) := by omega
      by_cases hAA : 600 < XA.size
      · have h5' : (600 : Int) < (XA.size : Int) := by omega
        clear hlt HA hLA hLC
        go_wp2
        go_ret
        exact ⟨rfl, HB0.out⟩
      have hAA' : ¬ (600 : Int) < (XA.size : Int) := by omega
      by_cases hCC : 600 < XC.size
      · have h5' : (600 : Int) < (XC.size : Int) := by omega
        clear hlt HA hLA hLC
        go_wp2
        go_ret
        exact ⟨rfl, HB0.out⟩
      have hCC' : ¬ (600 : Int) < (XC.size : Int) := by omega
      by_cases hKK : 100 < x.ks.length
      · have h5' : (100 : Int) < (x.ks.length : Int) := by omega
        clear hlt HA hLA hLC
        go_wp2
        go_ret
        exact ⟨rfl, HB0.out⟩
      have hKK' : ¬ (100 : Int) < (x.ks.length : Int) := by omega
      have HNB : Hid (x.bs.length ≤ 2000 ∧ x.A.length ≤ 600 ∧ x.C.length ≤ 600 ∧ x.ks.length ≤ 100) := hid ⟨by omega, by omega, by omega, by omega⟩
      clear hLA hLC hB hAA hCC hKK
      have HLX : Hid (LX w (wr.alloc (.cells #[.int .i64 x.kind, .int .i64 x.which, .int .i64 x.at_, .string XA, .string XC, .slice x.pb x.bs.length x.cb, .bool x.is_, .int .u8 x.mask, .slice x.pk x.ks.length x.ck] 36)) w4.heap.size wr.heap.size x i p q p2 q2) := hid (by have := HL.out.on x; rw [HV.out] at this; exact this)
      have hna : i ≤ 60 := by have := HNA.out; omega
      have HT0 : Hid (∀ W j p q p2 q2, LX w W w4.heap.size wr.heap.size x j p q p2 q2 → j ≤ 1000 → Calls Try.prog 17 #[.agg #[ptr p, ptr q], .string XA] W fun e w' => e = .returned (.bool true) ∧ LX w w' w4.heap.size wr.heap.size x j p q p2 q2) := hid fun W j p q p2 q2 h hj => by
        have := h.told0 hj x.A HNB.out.2.1
        rw [HXA.out] at this; exact this
      have HT1 : Hid (∀ W j p q p2 q2, LX w W w4.heap.size wr.heap.size x j p q p2 q2 → j ≤ 1000 → Calls Try.prog 17 #[.agg #[ptr p2, ptr q2], .string XA] W fun e w' => e = .returned (.bool true) ∧ LX w w' w4.heap.size wr.heap.size x j p q p2 q2) := hid fun W j p q p2 q2 h hj => by
        have := h.told1 hj x.A HNB.out.2.1
        rw [HXA.out] at this; exact this
      have HS : Hid (∀ W j p q p2 q2, LX w W w4.heap.size wr.heap.size x j p q p2 q2 → W.cell? ⟨w4.heap.size, 0, none⟩ = some (ptr p) ∧ W.cell? ⟨w4.heap.size, 1, none⟩ = some (ptr q) ∧ W.cell? ⟨w4.heap.size, 2, none⟩ = some (ptr p2) ∧ W.cell? ⟨w4.heap.size, 3, none⟩ = some (ptr q2) ∧ W.cell? ⟨wr.heap.size, 0, none⟩ = some (.int .i64 x.kind) ∧ W.cell? ⟨wr.heap.size, 1, none⟩ = some (.int .i64 x.which) ∧ W.cell? ⟨wr.heap.size, 2, none⟩ = some (.int .i64 x.at_) ∧ W.cell? ⟨wr.heap.size, 3, none⟩ = some (.string XA) ∧ W.cell? ⟨wr.heap.size, 4, none⟩ = some (.string XC) ∧ W.cell? ⟨wr.heap.size, 5, none⟩ = some (.slice x.pb x.bs.length x.cb) ∧ W.cell? ⟨wr.heap.size, 6, none⟩ = some (.bool x.is_) ∧ W.cell? ⟨wr.heap.size, 7, none⟩ = some (.int .u8 x.mask) ∧ W.cell? ⟨wr.heap.size, 8, none⟩ = some (.slice x.pk x.ks.length x.ck)) := hid fun W j p q p2 q2 h => by
        have k := h.cells
        rw [HV.out] at k
        exact ⟨k.1.cell 0, k.1.cell 1, k.1.cell 2, k.1.cell 3, k.2.cell 0, k.2.cell 1, k.2.cell 2, k.2.cell 3, k.2.cell 4, k.2.cell 5, k.2.cell 6, k.2.cell 7, k.2.cell 8⟩
      have HPK := hid (fun W => pick_any x.which 2 W (by omega) (by omega))
      have hpk := pkN_lt x.which 2 (by omega)
      generalize pkN x.which 2 = kw at *
      by_cases h10 : x.kind = 10
      · have : kw = 0 ∨ kw = 1 := by omega
        rcases this with rfl | rfl
        · have HV : Hid (x.val = #[.int .i64 10, .int .i64 x.which, .int .i64 x.at_, .string XA, .string XC, .slice x.pb x.bs.length x.cb, .bool x.is_, .int .u8 x.mask, .slice x.pk x.ks.length x.ck]) := hid (by have := HV.out; rw [h10] at this; exact this)
          have HLX : Hid (LX w (wr.alloc (.cells #[.int .i64 10, .int .i64 x.which, .int .i64 x.at_, .string XA, .string XC, .slice x.pb x.bs.length x.cb, .bool x.is_, .int .u8 x.mask, .slice x.pk x.ks.length x.ck] 36)) w4.heap.size wr.heap.size x i p q p2 q2) := hid (by have := HLX.out; rw [h10] at this; exact this)
          obtain ⟨fa, fa', fb, fb', d, d2, Z, ZR, T, hj, hr, h1, h2, hg, hT, hw, hxb, hTx⟩ := HLX.out
          rw [HV.out] at hxb
          have HFA : Hid (fa'.map ZR = fa.map Z) := hid hr.fa
          have HM0 := hid (Mid.start hj)
          have HP : Hid (∀ W, Mid w (wr.alloc (.cells #[.int .i64 10, .int .i64 x.which, .int .i64 x.at_, .string XA, .string XC, .slice x.pb x.bs.length x.cb, .bool x.is_, .int .u8 x.mask, .slice x.pk x.ks.length x.ck] 36)) W ⟨p, fa, d⟩ ⟨p2, fb, d2⟩ ⟨q, fa', d⟩ ⟨q2, fb', d2⟩ Z ZR T → Calls Try.prog 12 #[ptr p] W fun e w1 => ∃ pc, e = .returned (ptr pc) ∧ Mid w (wr.alloc (.cells #[.int .i64 10, .int .i64 x.which, .int .i64 x.at_, .string XA, .string XC, .slice x.pb x.bs.length x.cb, .bool x.is_, .int .u8 x.mask, .slice x.pk x.ks.length x.ck] 36)) w1 ⟨pc, none, (d.lit (fa.map Z))⟩ ⟨p2, fb, d2⟩ ⟨q, fa', d⟩ ⟨q2, fb', d2⟩ Z ZR T) := hid fun W hM => hM.clone (by have := h1.len; simp only; omega)
          have HQ : Hid (∀ W pc, Mid w (wr.alloc (.cells #[.int .i64 10, .int .i64 x.which, .int .i64 x.at_, .string XA, .string XC, .slice x.pb x.bs.length x.cb, .bool x.is_, .int .u8 x.mask, .slice x.pk x.ks.length x.ck] 36)) W ⟨pc, none, (d.lit (fa.map Z))⟩ ⟨p2, fb, d2⟩ ⟨q, fa', d⟩ ⟨q2, fb', d2⟩ Z ZR T → Calls Try.prog 13 #[ptr q] W fun e w1 => ∃ qc, e = .returned (ptr qc) ∧ Mid w (wr.alloc (.cells #[.int .i64 10, .int .i64 x.which, .int .i64 x.at_, .string XA, .string XC, .slice x.pb x.bs.length x.cb, .bool x.is_, .int .u8 x.mask, .slice x.pk x.ks.length x.ck] 36)) w1 ⟨pc, none, (d.lit (fa.map Z))⟩ ⟨p2, fb, d2⟩ ⟨qc, none, (d.lit (fa.map Z))⟩ ⟨q2, fb', d2⟩ Z ZR T) := hid fun W pc hM => by
            have := hM.rclone (by have := h1.len; simp only; omega)
            simp only [HFA.out] at this; exact this
          have HSM : Hid (∀ W a b a' b', Mid w (wr.alloc (.cells #[.int .i64 10, .int .i64 x.which, .int .i64 x.at_, .string XA, .string XC, .slice x.pb x.bs.length x.cb, .bool x.is_, .int .u8 x.mask, .slice x.pk x.ks.length x.ck] 36)) W a b a' b' Z ZR T → CAt W w4.heap.size #[ptr p, ptr q, ptr p2, ptr q2] 31 ∧ CAt W wr.heap.size #[.int .i64 10, .int .i64 x.which, .int .i64 x.at_, .string XA, .string XC, .slice x.pb x.bs.length x.cb, .bool x.is_, .int .u8 x.mask, .slice x.pk x.ks.length x.ck] 36) := hid fun W a b a' b' hM => ⟨hM.cat hg hT, hM.cat hxb hTx⟩
          have HFI : Hid (∀ W W' pc qc, Mid w (wr.alloc (.cells #[.int .i64 10, .int .i64 x.which, .int .i64 x.at_, .string XA, .string XC, .slice x.pb x.bs.length x.cb, .bool x.is_, .int .u8 x.mask, .slice x.pk x.ks.length x.ck] 36)) W ⟨pc, none, (d.lit (fa.map Z))⟩ ⟨p2, fb, d2⟩ ⟨qc, none, (d.lit (fa.map Z))⟩ ⟨q2, fb', d2⟩ Z ZR T → Only (fun c => c = w4.heap.size) W W' → CAt W' w4.heap.size #[ptr pc, ptr qc, ptr p2, ptr q2] 31 → LX w W' w4.heap.size wr.heap.size x (i + 1) pc qc p2 q2) := hid fun W W' pc qc hM ho hc => cloned0 hM (hr.none _ pc qc) (lit_few h1.more _) h2.more hg hT hw (by rw [HV.out]; exact hxb) hTx ho hc
          have HC0 := HSM.out _ _ _ _ _ HM0.out
          have HZ := hid HC0
          have c0 : (wr.alloc (.cells #[.int .i64 10, .int .i64 x.which, .int .i64 x.at_, .string XA, .string XC, .slice x.pb x.bs.length x.cb, .bool x.is_, .int .u8 x.mask, .slice x.pk x.ks.length x.ck] 36)).cell? ⟨w4.heap.size, 0, none⟩ = some (ptr p) := HC0.1.cell 0
          have c1 : (wr.alloc (.cells #[.int .i64 10, .int .i64 x.which, .int .i64 x.at_, .string XA, .string XC, .slice x.pb x.bs.length x.cb, .bool x.is_, .int .u8 x.mask, .slice x.pk x.ks.length x.ck] 36)).cell? ⟨w4.heap.size, 1, none⟩ = some (ptr q) := HC0.1.cell 1
          have c2 : (wr.alloc (.cells #[.int .i64 10, .int .i64 x.which, .int .i64 x.at_, .string XA, .string XC, .slice x.pb x.bs.length x.cb, .bool x.is_, .int .u8 x.mask, .slice x.pk x.ks.length x.ck] 36)).cell? ⟨w4.heap.size, 2, none⟩ = some (ptr p2) := HC0.1.cell 2
          have c3 : (wr.alloc (.cells #[.int .i64 10, .int .i64 x.which, .int .i64 x.at_, .string XA, .string XC, .slice x.pb x.bs.length x.cb, .bool x.is_, .int .u8 x.mask, .slice x.pk x.ks.length x.ck] 36)).cell? ⟨w4.heap.size, 3, none⟩ = some (ptr q2) := HC0.1.cell 3
          clear HC0
          have t4 : True := trivial
          clear hlt HA hj hr h1 h2 hg hT hw hxb hTx HFA
          generalize d.lit (fa.map Z) = dl at *
          go_wp2_with (go_at_call 11; refine (HPK.out _).mono ?_; rintro e w' ⟨rfl, hw'⟩; have hw2 := hw'.symm; subst hw2)
          clear h10
          generalize wr.alloc (.cells #[.int .i64 10, .int .i64 x.which, .int .i64 x.at_, .string XA, .string XC, .slice x.pb x.bs.length x.cb, .bool x.is_, .int .u8 x.mask, .slice x.pk x.ks.length x.ck] 36) = B0 at *
          go_region_with (first
            | (go_at_call 12; (first | refine (HP.out _ (HM0.out.below (below_drewN _ _))).mono ?_ | refine (HP.out _ HM0.out).mono ?_); rintro e y1 ⟨pc, rfl, hm⟩; have HM1 := hid hm; have k := HSM.out _ _ _ _ _ hm; have d0 : y1.cell? ⟨w4.heap.size, 0, none⟩ = some (ptr p) := k.1.cell 0; have d1 : y1.cell? ⟨w4.heap.size, 1, none⟩ = some (ptr q) := k.1.cell 1; have d2 : y1.cell? ⟨w4.heap.size, 2, none⟩ = some (ptr p2) := k.1.cell 2; have d3 : y1.cell? ⟨w4.heap.size, 3, none⟩ = some (ptr q2) := k.1.cell 3; clear hm k)
            | (go_at_call 13; (first | refine (HQ.out _ _ (HM1.out.below (below_drewN _ _))).mono ?_ | refine (HQ.out _ _ HM1.out).mono ?_); rintro e y2 ⟨qc, rfl, hm⟩; have HM2 := hid hm; have HK := hid (HSM.out _ _ _ _ _ hm); have k := HK.out; have e0 : y2.cell? ⟨w4.heap.size, 0, none⟩ = some (ptr p) := k.1.cell 0; have f0 : y2.frozen? ⟨w4.heap.size, 0, none⟩ = false := k.1.free 0; have e1 : y2.cell? ⟨w4.heap.size, 1, none⟩ = some (ptr q) := k.1.cell 1; have f1 : y2.frozen? ⟨w4.heap.size, 1, none⟩ = false := k.1.free 1; have e2 : y2.cell? ⟨w4.heap.size, 2, none⟩ = some (ptr p2) := k.1.cell 2; have f2 : y2.frozen? ⟨w4.heap.size, 2, none⟩ = false := k.1.free 2; have e3 : y2.cell? ⟨w4.heap.size, 3, none⟩ = some (ptr q2) := k.1.cell 3; have f3 : y2.frozen? ⟨w4.heap.size, 3, none⟩ = false := k.1.free 3; clear hm k))
          · as_aux_lemma =>
              have HLY := hid (HFI.out y2 ((y2.setCell ⟨w4.heap.size, 0, none⟩ (ptr pc)).setCell ⟨w4.heap.size, 1, none⟩ (ptr qc)) pc qc HM2.out ((Only.set (S := fun c => c = w4.heap.size) y2 ⟨w4.heap.size, 0, none⟩ (ptr pc) rfl).trans (Only.set _ ⟨w4.heap.size, 1, none⟩ (ptr qc) rfl)) ((HK.out.1.set 0 (ptr pc)).set 1 (ptr qc)))
              have HC := hid (HS.out _ _ _ _ _ _ HLY.out)
              clear HFI HK HM2 HM1 HM0 HSM HP HQ HZ HLX e0 e1 e2 e3 f0 f1 f2 f3
              generalize (y2.setCell ⟨w4.heap.size, 0, none⟩ (Value.pointer (some ⟨pc, 0, none⟩))).setCell ⟨w4.heap.size, 1, none⟩ (Value.pointer (some ⟨qc, 0, none⟩)) = Y at *
              have HLY : Hid (LX w Y w4.heap.size wr.heap.size x (i + 1) pc qc p2 q2) := HLY
              go_wp2
              go_region_held3 (fun w' => w'.cell? ⟨w4.heap.size, 0, none⟩ = some (ptr pc) ∧ w'.cell? ⟨w4.heap.size, 1, none⟩ = some (ptr qc) ∧ w'.cell? ⟨w4.heap.size, 2, none⟩ = some (ptr p2) ∧ w'.cell? ⟨w4.heap.size, 3, none⟩ = some (ptr q2) ∧ w'.cell? ⟨wr.heap.size, 0, none⟩ = some (.int .i64 x.kind) ∧ w'.cell? ⟨wr.heap.size, 1, none⟩ = some (.int .i64 x.which) ∧ w'.cell? ⟨wr.heap.size, 2, none⟩ = some (.int .i64 x.at_) ∧ w'.cell? ⟨wr.heap.size, 3, none⟩ = some (.string XA) ∧ w'.cell? ⟨wr.heap.size, 4, none⟩ = some (.string XC) ∧ w'.cell? ⟨wr.heap.size, 5, none⟩ = some (.slice x.pb x.bs.length x.cb) ∧ w'.cell? ⟨wr.heap.size, 6, none⟩ = some (.bool x.is_) ∧ w'.cell? ⟨wr.heap.size, 7, none⟩ = some (.int .u8 x.mask) ∧ w'.cell? ⟨wr.heap.size, 8, none⟩ = some (.slice x.pk x.ks.length x.ck)) (exact HC.out) (first
                | (go_at_call 17; have _t := t4; (first | refine (HT0.out _ _ _ _ _ _ HLY.out (by omega)).mono ?_ | refine (HT0.out _ _ _ _ _ _ (HLY.out.below (below_drewN _ _)) (by omega)).mono ?_); rintro e z1 ⟨rfl, hm⟩; have HLY := hid hm; have HC := hid (HS.out _ _ _ _ _ _ hm); clear hm t4)
                | (go_at_call 17; (first | refine (HT1.out _ _ _ _ _ _ HLY.out (by omega)).mono ?_ | refine (HT1.out _ _ _ _ _ _ (HLY.out.below (below_drewN _ _)) (by omega)).mono ?_); rintro e z2 ⟨rfl, hm⟩; have HLY := hid hm; have HC := hid (HS.out _ _ _ _ _ _ hm); clear hm))
              go_wp2
              go_roundw
              case rel => exact ⟨i + 1, pc, qc, p2, q2, by omega, by go_num, HLY.out.off⟩
              case measure => simp [intOf]; omega
          · as_aux_lemma =>
              have HLY := hid (HFI.out y2 ((y2.setCell ⟨w4.heap.size, 0, none⟩ (ptr pc)).setCell ⟨w4.heap.size, 1, none⟩ (ptr qc)) pc qc HM2.out ((Only.set (S := fun c => c = w4.heap.size) y2 ⟨w4.heap.size, 0, none⟩ (ptr pc) rfl).trans (Only.set _ ⟨w4.heap.size, 1, none⟩ (ptr qc) rfl)) ((HK.out.1.set 0 (ptr pc)).set 1 (ptr qc)))
              have HC := hid (HS.out _ _ _ _ _ _ HLY.out)
              clear HFI HK HM2 HM1 HM0 HSM HP HQ HZ HLX e0 e1 e2 e3 f0 f1 f2 f3
              generalize (y2.setCell ⟨w4.heap.size, 0, none⟩ (Value.pointer (some ⟨pc, 0, none⟩))).setCell ⟨w4.heap.size, 1, none⟩ (Value.pointer (some ⟨qc, 0, none⟩)) = Y at *
              have HLY : Hid (LX w Y w4.heap.size wr.heap.size x (i + 1) pc qc p2 q2) := HLY
              go_wp2
              go_region_held3 (fun w' => w'.cell? ⟨w4.heap.size, 0, none⟩ = some (ptr pc) ∧ w'.cell? ⟨w4.heap.size, 1, none⟩ = some (ptr qc) ∧ w'.cell? ⟨w4.heap.size, 2, none⟩ = some (ptr p2) ∧ w'.cell? ⟨w4.heap.size, 3, none⟩ = some (ptr q2) ∧ w'.cell? ⟨wr.heap.size, 0, none⟩ = some (.int .i64 x.kind) ∧ w'.cell? ⟨wr.heap.size, 1, none⟩ = some (.int .i64 x.which) ∧ w'.cell? ⟨wr.heap.size, 2, none⟩ = some (.int .i64 x.at_) ∧ w'.cell? ⟨wr.heap.size, 3, none⟩ = some (.string XA) ∧ w'.cell? ⟨wr.heap.size, 4, none⟩ = some (.string XC) ∧ w'.cell? ⟨wr.heap.size, 5, none⟩ = some (.slice x.pb x.bs.length x.cb) ∧ w'.cell? ⟨wr.heap.size, 6, none⟩ = some (.bool x.is_) ∧ w'.cell? ⟨wr.heap.size, 7, none⟩ = some (.int .u8 x.mask) ∧ w'.cell? ⟨wr.heap.size, 8, none⟩ = some (.slice x.pk x.ks.length x.ck)) (exact HC.out) (first
                | (go_at_call 17; have _t := t4; (first | refine (HT0.out _ _ _ _ _ _ HLY.out (by omega)).mono ?_ | refine (HT0.out _ _ _ _ _ _ (HLY.out.below (below_drewN _ _)) (by omega)).mono ?_); rintro e z1 ⟨rfl, hm⟩; have HLY := hid hm; have HC := hid (HS.out _ _ _ _ _ _ hm); clear hm t4)
                | (go_at_call 17; (first | refine (HT1.out _ _ _ _ _ _ HLY.out (by omega)).mono ?_ | refine (HT1.out _ _ _ _ _ _ (HLY.out.below (below_drewN _ _)) (by omega)).mono ?_); rintro e z2 ⟨rfl, hm⟩; have HLY := hid hm; have HC := hid (HS.out _ _ _ _ _ _ hm); clear hm))
              go_wp2
              go_roundw
              case rel => exact ⟨i + 1, pc, qc, p2, q2, by omega, by go_num, HLY.out.off⟩
              case measure => simp [intOf]; omega
          · as_aux_lemma =>
              have HLY := hid (HFI.out y2 ((y2.setCell ⟨w4.heap.size, 0, none⟩ (ptr pc)).setCell ⟨w4.heap.size, 1, none⟩ (ptr qc)) pc qc HM2.out ((Only.set (S := fun c => c = w4.heap.size) y2 ⟨w4.heap.size, 0, none⟩ (ptr pc) rfl).trans (Only.set _ ⟨w4.heap.size, 1, none⟩ (ptr qc) rfl)) ((HK.out.1.set 0 (ptr pc)).set 1 (ptr qc)))
              have HC := hid (HS.out _ _ _ _ _ _ HLY.out)
              clear HFI HK HM2 HM1 HM0 HSM HP HQ HZ HLX e0 e1 e2 e3 f0 f1 f2 f3
              generalize (y2.setCell ⟨w4.heap.size, 0, none⟩ (Value.pointer (some ⟨pc, 0, none⟩))).setCell ⟨w4.heap.size, 1, none⟩ (Value.pointer (some ⟨qc, 0, none⟩)) = Y at *
              have HLY : Hid (LX w Y w4.heap.size wr.heap.size x (i + 1) pc qc p2 q2) := HLY
              go_wp2
              go_region_held3 (fun w' => w'.cell? ⟨w4.heap.size, 0, none⟩ = some (ptr pc) ∧ w'.cell? ⟨w4.heap.size, 1, none⟩ = some (ptr qc) ∧ w'.cell? ⟨w4.heap.size, 2, none⟩ = some (ptr p2) ∧ w'.cell? ⟨w4.heap.size, 3, none⟩ = some (ptr q2) ∧ w'.cell? ⟨wr.heap.size, 0, none⟩ = some (.int .i64 x.kind) ∧ w'.cell? ⟨wr.heap.size, 1, none⟩ = some (.int .i64 x.which) ∧ w'.cell? ⟨wr.heap.size, 2, none⟩ = some (.int .i64 x.at_) ∧ w'.cell? ⟨wr.heap.size, 3, none⟩ = some (.string XA) ∧ w'.cell? ⟨wr.heap.size, 4, none⟩ = some (.string XC) ∧ w'.cell? ⟨wr.heap.size, 5, none⟩ = some (.slice x.pb x.bs.length x.cb) ∧ w'.cell? ⟨wr.heap.size, 6, none⟩ = some (.bool x.is_) ∧ w'.cell? ⟨wr.heap.size, 7, none⟩ = some (.int .u8 x.mask) ∧ w'.cell? ⟨wr.heap.size, 8, none⟩ = some (.slice x.pk x.ks.length x.ck)) (exact HC.out) (first
                | (go_at_call 17; have _t := t4; (first | refine (HT0.out _ _ _ _ _ _ HLY.out (by omega)).mono ?_ | refine (HT0.out _ _ _ _ _ _ (HLY.out.below (below_drewN _ _)) (by omega)).mono ?_); rintro e z1 ⟨rfl, hm⟩; have HLY := hid hm; have HC := hid (HS.out _ _ _ _ _ _ hm); clear hm t4)
                | (go_at_call 17; (first | refine (HT1.out _ _ _ _ _ _ HLY.out (by omega)).mono ?_ | refine (HT1.out _ _ _ _ _ _ (HLY.out.below (below_drewN _ _)) (by omega)).mono ?_); rintro e z2 ⟨rfl, hm⟩; have HLY := hid hm; have HC := hid (HS.out _ _ _ _ _ _ hm); clear hm))
              go_wp2
              go_roundw
              case rel => exact ⟨i + 1, pc, qc, p2, q2, by omega, by go_num, HLY.out.off⟩
              case measure => simp [intOf]; omega
        · have HV : Hid (x.val = #[.int .i64 10, .int .i64 x.which, .int .i64 x.at_, .string XA, .string XC, .slice x.pb x.bs.length x.cb, .bool x.is_, .int .u8 x.mask, .slice x.pk x.ks.length x.ck]) := hid (by have := HV.out; rw [h10] at this; exact this)
          have HLX : Hid (LX w (wr.alloc (.cells #[.int .i64 10, .int .i64 x.which, .int .i64 x.at_, .string XA, .string XC, .slice x.pb x.bs.length x.cb, .bool x.is_, .int .u8 x.mask, .slice x.pk x.ks.length x.ck] 36)) w4.heap.size wr.heap.size x i p q p2 q2) := hid (by have := HLX.out; rw [h10] at this; exact this)
          obtain ⟨fa, fa', fb, fb', d, d2, Z, ZR, T, hj, hr, h1, h2, hg, hT, hw, hxb, hTx⟩ := HLX.out.swap
          rw [HV.out] at hxb
          have HFA : Hid (fb'.map ZR = fb.map Z) := hid hr.fa
          have HM0 := hid (Mid.start hj)
          have HP : Hid (∀ W, Mid w (wr.alloc (.cells #[.int .i64 10, .int .i64 x.which, .int .i64 x.at_, .string XA, .string XC, .slice x.pb x.bs.length x.cb, .bool x.is_, .int .u8 x.mask, .slice x.pk x.ks.length x.ck] 36)) W ⟨p2, fb, d2⟩ ⟨p, fa, d⟩ ⟨q2, fb', d2⟩ ⟨q, fa', d⟩ Z ZR T → Calls Try.prog 12 #[ptr p2] W fun e w1 => ∃ pc, e = .returned (ptr pc) ∧ Mid w (wr.alloc (.cells #[.int .i64 10, .int .i64 x.which, .int .i64 x.at_, .string XA, .string XC, .slice x.pb x.bs.length x.cb, .bool x.is_, .int .u8 x.mask, .slice x.pk x.ks.length x.ck] 36)) w1 ⟨pc, none, (d2.lit (fb.map Z))⟩ ⟨p, fa, d⟩ ⟨q2, fb', d2⟩ ⟨q, fa', d⟩ Z ZR T) := hid fun W hM => hM.clone (by have := h2.len; simp only; omega)
          have HQ : Hid (∀ W pc, Mid w (wr.alloc (.cells #[.int .i64 10, .int .i64 x.which, .int .i64 x.at_, .string XA, .string XC, .slice x.pb x.bs.length x.cb, .bool x.is_, .int .u8 x.mask, .slice x.pk x.ks.length x.ck] 36)) W ⟨pc, none, (d2.lit (fb.map Z))⟩ ⟨p, fa, d⟩ ⟨q2, fb', d2⟩ ⟨q, fa', d⟩ Z ZR T → Calls Try.prog 13 #[ptr q2] W fun e w1 => ∃ qc, e = .returned (ptr qc) ∧ Mid w (wr.alloc (.cells #[.int .i64 10, .int .i64 x.which, .int .i64 x.at_, .string XA, .string XC, .slice x.pb x.bs.length x.cb, .bool x.is_, .int .u8 x.mask, .slice x.pk x.ks.length x.ck] 36)) w1 ⟨pc, none, (d2.lit (fb.map Z))⟩ ⟨p, fa, d⟩ ⟨qc, none, (d2.lit (fb.map Z))⟩ ⟨q, fa', d⟩ Z ZR T) := hid fun W pc hM => by
            have := hM.rclone (by have := h2.len; simp only; omega)
            simp only [HFA.out] at this; exact this
          have HSM : Hid (∀ W a b a' b', Mid w (wr.alloc (.cells #[.int .i64 10, .int .i64 x.which, .int .i64 x.at_, .string XA, .string XC, .slice x.pb x.bs.length x.cb, .bool x.is_, .int .u8 x.mask, .slice x.pk x.ks.length x.ck] 36)) W a b a' b' Z ZR T → CAt W w4.heap.size #[ptr p, ptr q, ptr p2, ptr q2] 31 ∧ CAt W wr.heap.size #[.int .i64 10, .int .i64 x.which, .int .i64 x.at_, .string XA, .string XC, .slice x.pb x.bs.length x.cb, .bool x.is_, .int .u8 x.mask, .slice x.pk x.ks.length x.ck] 36) := hid fun W a b a' b' hM => ⟨hM.cat hg hT, hM.cat hxb hTx⟩
          have HFI : Hid (∀ W W' pc qc, Mid w (wr.alloc (.cells #[.int .i64 10, .int .i64 x.which, .int .i64 x.at_, .string XA, .string XC, .slice x.pb x.bs.length x.cb, .bool x.is_, .int .u8 x.mask, .slice x.pk x.ks.length x.ck] 36)) W ⟨pc, none, (d2.lit (fb.map Z))⟩ ⟨p, fa, d⟩ ⟨qc, none, (d2.lit (fb.map Z))⟩ ⟨q, fa', d⟩ Z ZR T → Only (fun c => c = w4.heap.size) W W' → CAt W' w4.heap.size #[ptr p, ptr q, ptr pc, ptr qc] 31 → LX w W' w4.heap.size wr.heap.size x (i + 1) p q pc qc) := hid fun W W' pc qc hM ho hc => cloned1 hM (hr.none _ pc qc) (lit_few h2.more _) h1.more hg hT hw (by rw [HV.out]; exact hxb) hTx ho hc
          have HC0 := HSM.out _ _ _ _ _ HM0.out
          have HZ := hid HC0
          have c0 : (wr.alloc (.cells #[.int .i64 10, .int .i64 x.which, .int .i64 x.at_, .string XA, .string XC, .slice x.pb x.bs.length x.cb, .bool x.is_, .int .u8 x.mask, .slice x.pk x.ks.length x.ck] 36)).cell? ⟨w4.heap.size, 0, none⟩ = some (ptr p) := HC0.1.cell 0
          have c1 : (wr.alloc (.cells #[.int .i64 10, .int .i64 x.which, .int .i64 x.at_, .string XA, .string XC, .slice x.pb x.bs.length x.cb, .bool x.is_, .int .u8 x.mask, .slice x.pk x.ks.length x.ck] 36)).cell? ⟨w4.heap.size, 1, none⟩ = some (ptr q) := HC0.1.cell 1
          have c2 : (wr.alloc (.cells #[.int .i64 10, .int .i64 x.which, .int .i64 x.at_, .string XA, .string XC, .slice x.pb x.bs.length x.cb, .bool x.is_, .int .u8 x.mask, .slice x.pk x.ks.length x.ck] 36)).cell? ⟨w4.heap.size, 2, none⟩ = some (ptr p2) := HC0.1.cell 2
          have c3 : (wr.alloc (.cells #[.int .i64 10, .int .i64 x.which, .int .i64 x.at_, .string XA, .string XC, .slice x.pb x.bs.length x.cb, .bool x.is_, .int .u8 x.mask, .slice x.pk x.ks.length x.ck] 36)).cell? ⟨w4.heap.size, 3, none⟩ = some (ptr q2) := HC0.1.cell 3
          clear HC0
          have t4 : True := trivial
          clear hlt HA hj hr h1 h2 hg hT hw hxb hTx HFA
          generalize d2.lit (fb.map Z) = dl at *
          go_wp2_with (go_at_call 11; refine (HPK.out _).mono ?_; rintro e w' ⟨rfl, hw'⟩; have hw2 := hw'.symm; subst hw2)
          clear h10
          generalize wr.alloc (.cells #[.int .i64 10, .int .i64 x.which, .int .i64 x.at_, .string XA, .string XC, .slice x.pb x.bs.length x.cb, .bool x.is_, .int .u8 x.mask, .slice x.pk x.ks.length x.ck] 36) = B0 at *
          go_region_with (first
            | (go_at_call 12; (first | refine (HP.out _ (HM0.out.below (below_drewN _ _))).mono ?_ | refine (HP.out _ HM0.out).mono ?_); rintro e y1 ⟨pc, rfl, hm⟩; have HM1 := hid hm; have k := HSM.out _ _ _ _ _ hm; have d0 : y1.cell? ⟨w4.heap.size, 0, none⟩ = some (ptr p) := k.1.cell 0; have d1 : y1.cell? ⟨w4.heap.size, 1, none⟩ = some (ptr q) := k.1.cell 1; have d2 : y1.cell? ⟨w4.heap.size, 2, none⟩ = some (ptr p2) := k.1.cell 2; have d3 : y1.cell? ⟨w4.heap.size, 3, none⟩ = some (ptr q2) := k.1.cell 3; clear hm k)
            | (go_at_call 13; (first | refine (HQ.out _ _ (HM1.out.below (below_drewN _ _))).mono ?_ | refine (HQ.out _ _ HM1.out).mono ?_); rintro e y2 ⟨qc, rfl, hm⟩; have HM2 := hid hm; have HK := hid (HSM.out _ _ _ _ _ hm); have k := HK.out; have e0 : y2.cell? ⟨w4.heap.size, 0, none⟩ = some (ptr p) := k.1.cell 0; have f0 : y2.frozen? ⟨w4.heap.size, 0, none⟩ = false := k.1.free 0; have e1 : y2.cell? ⟨w4.heap.size, 1, none⟩ = some (ptr q) := k.1.cell 1; have f1 : y2.frozen? ⟨w4.heap.size, 1, none⟩ = false := k.1.free 1; have e2 : y2.cell? ⟨w4.heap.size, 2, none⟩ = some (ptr p2) := k.1.cell 2; have f2 : y2.frozen? ⟨w4.heap.size, 2, none⟩ = false := k.1.free 2; have e3 : y2.cell? ⟨w4.heap.size, 3, none⟩ = some (ptr q2) := k.1.cell 3; have f3 : y2.frozen? ⟨w4.heap.size, 3, none⟩ = false := k.1.free 3; clear hm k))
          · as_aux_lemma =>
              have HLY := hid (HFI.out y2 ((y2.setCell ⟨w4.heap.size, 2, none⟩ (ptr pc)).setCell ⟨w4.heap.size, 3, none⟩ (ptr qc)) pc qc HM2.out ((Only.set (S := fun c => c = w4.heap.size) y2 ⟨w4.heap.size, 2, none⟩ (ptr pc) rfl).trans (Only.set _ ⟨w4.heap.size, 3, none⟩ (ptr qc) rfl)) ((HK.out.1.set 2 (ptr pc)).set 3 (ptr qc)))
              have HC := hid (HS.out _ _ _ _ _ _ HLY.out)
              clear HFI HK HM2 HM1 HM0 HSM HP HQ HZ HLX e0 e1 e2 e3 f0 f1 f2 f3
              generalize (y2.setCell ⟨w4.heap.size, 2, none⟩ (Value.pointer (some ⟨pc, 0, none⟩))).setCell ⟨w4.heap.size, 3, none⟩ (Value.pointer (some ⟨qc, 0, none⟩)) = Y at *
              have HLY : Hid (LX w Y w4.heap.size wr.heap.size x (i + 1) p q pc qc) := HLY
              go_wp2
              go_region_held3 (fun w' => w'.cell? ⟨w4.heap.size, 0, none⟩ = some (ptr p) ∧ w'.cell? ⟨w4.heap.size, 1, none⟩ = some (ptr q) ∧ w'.cell? ⟨w4.heap.size, 2, none⟩ = some (ptr pc) ∧ w'.cell? ⟨w4.heap.size, 3, none⟩ = some (ptr qc) ∧ w'.cell? ⟨wr.heap.size, 0, none⟩ = some (.int .i64 x.kind) ∧ w'.cell? ⟨wr.heap.size, 1, none⟩ = some (.int .i64 x.which) ∧ w'.cell? ⟨wr.heap.size, 2, none⟩ = some (.int .i64 x.at_) ∧ w'.cell? ⟨wr.heap.size, 3, none⟩ = some (.string XA) ∧ w'.cell? ⟨wr.heap.size, 4, none⟩ = some (.string XC) ∧ w'.cell? ⟨wr.heap.size, 5, none⟩ = some (.slice x.pb x.bs.length x.cb) ∧ w'.cell? ⟨wr.heap.size, 6, none⟩ = some (.bool x.is_) ∧ w'.cell? ⟨wr.heap.size, 7, none⟩ = some (.int .u8 x.mask) ∧ w'.cell? ⟨wr.heap.size, 8, none⟩ = some (.slice x.pk x.ks.length x.ck)) (exact HC.out) (first
                | (go_at_call 17; have _t := t4; (first | refine (HT0.out _ _ _ _ _ _ HLY.out (by omega)).mono ?_ | refine (HT0.out _ _ _ _ _ _ (HLY.out.below (below_drewN _ _)) (by omega)).mono ?_); rintro e z1 ⟨rfl, hm⟩; have HLY := hid hm; have HC := hid (HS.out _ _ _ _ _ _ hm); clear hm t4)
                | (go_at_call 17; (first | refine (HT1.out _ _ _ _ _ _ HLY.out (by omega)).mono ?_ | refine (HT1.out _ _ _ _ _ _ (HLY.out.below (below_drewN _ _)) (by omega)).mono ?_); rintro e z2 ⟨rfl, hm⟩; have HLY := hid hm; have HC := hid (HS.out _ _ _ _ _ _ hm); clear hm))
              go_wp2
              go_roundw
              case rel => exact ⟨i + 1, p, q, pc, qc, by omega, by go_num, HLY.out.off⟩
              case measure => simp [intOf]; omega
          · as_aux_lemma =>
              have HLY := hid (HFI.out y2 ((y2.setCell ⟨w4.heap.size, 2, none⟩ (ptr pc)).setCell ⟨w4.heap.size, 3, none⟩ (ptr qc)) pc qc HM2.out ((Only.set (S := fun c => c = w4.heap.size) y2 ⟨w4.heap.size, 2, none⟩ (ptr pc) rfl).trans (Only.set _ ⟨w4.heap.size, 3, none⟩ (ptr qc) rfl)) ((HK.out.1.set 2 (ptr pc)).set 3 (ptr qc)))
              have HC := hid (HS.out _ _ _ _ _ _ HLY.out)
              clear HFI HK HM2 HM1 HM0 HSM HP HQ HZ HLX e0 e1 e2 e3 f0 f1 f2 f3
              generalize (y2.setCell ⟨w4.heap.size, 2, none⟩ (Value.pointer (some ⟨pc, 0, none⟩))).setCell ⟨w4.heap.size, 3, none⟩ (Value.pointer (some ⟨qc, 0, none⟩)) = Y at *
              have HLY : Hid (LX w Y w4.heap.size wr.heap.size x (i + 1) p q pc qc) := HLY
              go_wp2
              go_region_held3 (fun w' => w'.cell? ⟨w4.heap.size, 0, none⟩ = some (ptr p) ∧ w'.cell? ⟨w4.heap.size, 1, none⟩ = some (ptr q) ∧ w'.cell? ⟨w4.heap.size, 2, none⟩ = some (ptr pc) ∧ w'.cell? ⟨w4.heap.size, 3, none⟩ = some (ptr qc) ∧ w'.cell? ⟨wr.heap.size, 0, none⟩ = some (.int .i64 x.kind) ∧ w'.cell? ⟨wr.heap.size, 1, none⟩ = some (.int .i64 x.which) ∧ w'.cell? ⟨wr.heap.size, 2, none⟩ = some (.int .i64 x.at_) ∧ w'.cell? ⟨wr.heap.size, 3, none⟩ = some (.string XA) ∧ w'.cell? ⟨wr.heap.size, 4, none⟩ = some (.string XC) ∧ w'.cell? ⟨wr.heap.size, 5, none⟩ = some (.slice x.pb x.bs.length x.cb) ∧ w'.cell? ⟨wr.heap.size, 6, none⟩ = some (.bool x.is_) ∧ w'.cell? ⟨wr.heap.size, 7, none⟩ = some (.int .u8 x.mask) ∧ w'.cell? ⟨wr.heap.size, 8, none⟩ = some (.slice x.pk x.ks.length x.ck)) (exact HC.out) (first
                | (go_at_call 17; have _t := t4; (first | refine (HT0.out _ _ _ _ _ _ HLY.out (by omega)).mono ?_ | refine (HT0.out _ _ _ _ _ _ (HLY.out.below (below_drewN _ _)) (by omega)).mono ?_); rintro e z1 ⟨rfl, hm⟩; have HLY := hid hm; have HC := hid (HS.out _ _ _ _ _ _ hm); clear hm t4)
                | (go_at_call 17; (first | refine (HT1.out _ _ _ _ _ _ HLY.out (by omega)).mono ?_ | refine (HT1.out _ _ _ _ _ _ (HLY.out.below (below_drewN _ _)) (by omega)).mono ?_); rintro e z2 ⟨rfl, hm⟩; have HLY := hid hm; have HC := hid (HS.out _ _ _ _ _ _ hm); clear hm))
              go_wp2
              go_roundw
              case rel => exact ⟨i + 1, p, q, pc, qc, by omega, by go_num, HLY.out.off⟩
              case measure => simp [intOf]; omega
          · as_aux_lemma =>
              have HLY := hid (HFI.out y2 ((y2.setCell ⟨w4.heap.size, 2, none⟩ (ptr pc)).setCell ⟨w4.heap.size, 3, none⟩ (ptr qc)) pc qc HM2.out ((Only.set (S := fun c => c = w4.heap.size) y2 ⟨w4.heap.size, 2, none⟩ (ptr pc) rfl).trans (Only.set _ ⟨w4.heap.size, 3, none⟩ (ptr qc) rfl)) ((HK.out.1.set 2 (ptr pc)).set 3 (ptr qc)))
              have HC := hid (HS.out _ _ _ _ _ _ HLY.out)
              clear HFI HK HM2 HM1 HM0 HSM HP HQ HZ HLX e0 e1 e2 e3 f0 f1 f2 f3
              generalize (y2.setCell ⟨w4.heap.size, 2, none⟩ (Value.pointer (some ⟨pc, 0, none⟩))).setCell ⟨w4.heap.size, 3, none⟩ (Value.pointer (some ⟨qc, 0, none⟩)) = Y at *
              have HLY : Hid (LX w Y w4.heap.size wr.heap.size x (i + 1) p q pc qc) := HLY
              go_wp2
              go_region_held3 (fun w' => w'.cell? ⟨w4.heap.size, 0, none⟩ = some (ptr p) ∧ w'.cell? ⟨w4.heap.size, 1, none⟩ = some (ptr q) ∧ w'.cell? ⟨w4.heap.size, 2, none⟩ = some (ptr pc) ∧ w'.cell? ⟨w4.heap.size, 3, none⟩ = some (ptr qc) ∧ w'.cell? ⟨wr.heap.size, 0, none⟩ = some (.int .i64 x.kind) ∧ w'.cell? ⟨wr.heap.size, 1, none⟩ = some (.int .i64 x.which) ∧ w'.cell? ⟨wr.heap.size, 2, none⟩ = some (.int .i64 x.at_) ∧ w'.cell? ⟨wr.heap.size, 3, none⟩ = some (.string XA) ∧ w'.cell? ⟨wr.heap.size, 4, none⟩ = some (.string XC) ∧ w'.cell? ⟨wr.heap.size, 5, none⟩ = some (.slice x.pb x.bs.length x.cb) ∧ w'.cell? ⟨wr.heap.size, 6, none⟩ = some (.bool x.is_) ∧ w'.cell? ⟨wr.heap.size, 7, none⟩ = some (.int .u8 x.mask) ∧ w'.cell? ⟨wr.heap.size, 8, none⟩ = some (.slice x.pk x.ks.length x.ck)) (exact HC.out) (first
                | (go_at_call 17; have _t := t4; (first | refine (HT0.out _ _ _ _ _ _ HLY.out (by omega)).mono ?_ | refine (HT0.out _ _ _ _ _ _ (HLY.out.below (below_drewN _ _)) (by omega)).mono ?_); rintro e z1 ⟨rfl, hm⟩; have HLY := hid hm; have HC := hid (HS.out _ _ _ _ _ _ hm); clear hm t4)
                | (go_at_call 17; (first | refine (HT1.out _ _ _ _ _ _ HLY.out (by omega)).mono ?_ | refine (HT1.out _ _ _ _ _ _ (HLY.out.below (below_drewN _ _)) (by omega)).mono ?_); rintro e z2 ⟨rfl, hm⟩; have HLY := hid hm; have HC := hid (HS.out _ _ _ _ _ _ hm); clear hm))
              go_wp2
              go_roundw
              case rel => exact ⟨i + 1, p, q, pc, qc, by omega, by go_num, HLY.out.off⟩
              case measure => simp [intOf]; omega
      by_cases h11 : x.kind = 11
      · by_cases hz : x.at_ < 0
        · have HV : Hid (x.val = #[.int .i64 11, .int .i64 x.which, .int .i64 x.at_, .string XA, .string XC, .slice x.pb x.bs.length x.cb, .bool x.is_, .int .u8 x.mask, .slice x.pk x.ks.length x.ck]) := hid (by have := HV.out; rw [h11] at this; exact this)
          have HLX : Hid (LX w (wr.alloc (.cells #[.int .i64 11, .int .i64 x.which, .int .i64 x.at_, .string XA, .string XC, .slice x.pb x.bs.length x.cb, .bool x.is_, .int .u8 x.mask, .slice x.pk x.ks.length x.ck] 36)) w4.heap.size wr.heap.size x i p q p2 q2) := hid (by have := HLX.out; rw [h11] at this; exact this)
          have hk3 := HXO.out.k3
          obtain ⟨fa, fa', fb, fb', d, d2, Z, ZR, T, hj, hr, h1, h2, hg, hT, hw, hxb, hTx⟩ := HLX.out
          have hxb2 := hxb
          rw [HV.out] at hxb
          have HFA : Hid (fa'.map ZR = fa.map Z) := hid hr.fa
          have HFB : Hid (fb'.map ZR = fb.map Z) := hid hr.fb
          have HTL := hid hj.tl
          have HM0 := hid (Mid.start hj)
          have HSO : Hid (∀ W, Only T (wr.alloc (.cells #[.int .i64 11, .int .i64 x.which, .int .i64 x.at_, .string XA, .string XC, .slice x.pb x.bs.length x.cb, .bool x.is_, .int .u8 x.mask, .slice x.pk x.ks.length x.ck] 36)) W → W.cell? ⟨w4.heap.size, 0, none⟩ = some (ptr p) ∧ W.cell? ⟨w4.heap.size, 1, none⟩ = some (ptr q) ∧ W.cell? ⟨w4.heap.size, 2, none⟩ = some (ptr p2) ∧ W.cell? ⟨w4.heap.size, 3, none⟩ = some (ptr q2) ∧ W.cell? ⟨wr.heap.size, 2, none⟩ = some (.int .i64 x.at_)) := hid fun W ho => by
            have k1 := hg.keep (ho.block _ hg.lt hT)
            have k2 := hxb.keep (ho.block _ hxb.lt hTx)
            exact ⟨k1.cell 0, k1.cell 1, k1.cell 2, k1.cell 3, k2.cell 2⟩
          have HP : Hid (∀ W bl, Below (wr.alloc (.cells #[.int .i64 11, .int .i64 x.which, .int .i64 x.at_, .string XA, .string XC, .slice x.pb x.bs.length x.cb, .bool x.is_, .int .u8 x.mask, .slice x.pk x.ks.length x.ck] 36)).heap.size (wr.alloc (.cells #[.int .i64 11, .int .i64 x.which, .int .i64 x.at_, .string XA, .string XC, .slice x.pb x.bs.length x.cb, .bool x.is_, .int .u8 x.mask, .slice x.pk x.ks.length x.ck] 36)) W → CAt W bl #[ptr p, ptr p2] 23 → Calls Try.prog 14 #[.slice (some ⟨bl, 0, none⟩) 2 2, .int .i64 x.at_] W fun e w1 => e = .returned (.int .i64 2) ∧ (∀ g cs t, (wr.alloc (.cells #[.int .i64 11, .int .i64 x.which, .int .i64 x.at_, .string XA, .string XC, .slice x.pb x.bs.length x.cb, .bool x.is_, .int .u8 x.mask, .slice x.pk x.ks.length x.ck] 36)).heap.size ≤ g → CAt W g cs t → CAt w1 g cs t) ∧ Mid w (wr.alloc (.cells #[.int .i64 11, .int .i64 x.which, .int .i64 x.at_, .string XA, .string XC, .slice x.pb x.bs.length x.cb, .bool x.is_, .int .u8 x.mask, .slice x.pk x.ks.length x.ck] 36)) w1 ⟨p, fa, d⟩ ⟨p2, fb, d2⟩ ⟨q, fa', d⟩ ⟨q2, fb', d2⟩ Z ZR T) := hid fun W bl hb hc => by
            obtain ⟨Sa, Sb, Ra, Rb, q1, _⟩ := hj.below hb
            obtain ⟨ma, La, qa1⟩ := q1.da
            obtain ⟨mb, Lb, qb1⟩ := q1.db
            exact (fuse2_bad qa1 qb1 bl 2 hc x.at_ hz).mono fun e w1 ⟨e1, hw1⟩ => by subst hw1; exact ⟨e1, fun _ _ _ _ h => h, HM0.out.below hb⟩
          have HQ : Hid (∀ W bl, Mid w (wr.alloc (.cells #[.int .i64 11, .int .i64 x.which, .int .i64 x.at_, .string XA, .string XC, .slice x.pb x.bs.length x.cb, .bool x.is_, .int .u8 x.mask, .slice x.pk x.ks.length x.ck] 36)) W ⟨p, fa, d⟩ ⟨p2, fb, d2⟩ ⟨q, fa', d⟩ ⟨q2, fb', d2⟩ Z ZR T → CAt W bl #[ptr q, ptr q2] 27 → Calls Try.prog 15 #[.slice (some ⟨bl, 0, none⟩) 2 2, .int .i64 x.at_] W fun e w1 => e = .returned (.int .i64 2) ∧ Mid w (wr.alloc (.cells #[.int .i64 11, .int .i64 x.which, .int .i64 x.at_, .string XA, .string XC, .slice x.pb x.bs.length x.cb, .bool x.is_, .int .u8 x.mask, .slice x.pk x.ks.length x.ck] 36)) w1 ⟨p, fa, d⟩ ⟨p2, fb, d2⟩ ⟨q, fa', d⟩ ⟨q2, fb', d2⟩ Z ZR T) := hid fun W bl hM _ => (rlight_bad _ 2 2 x.at_ hz W).mono fun e w1 ⟨e1, hw1⟩ => by subst hw1; exact ⟨e1, hM⟩
          have HFI : Hid (∀ W, Mid w (wr.alloc (.cells #[.int .i64 11, .int .i64 x.which, .int .i64 x.at_, .string XA, .string XC, .slice x.pb x.bs.length x.cb, .bool x.is_, .int .u8 x.mask, .slice x.pk x.ks.length x.ck] 36)) W ⟨p, fa, d⟩ ⟨p2, fb, d2⟩ ⟨q, fa', d⟩ ⟨q2, fb', d2⟩ Z ZR T → LX w W w4.heap.size wr.heap.size x (i + 1) p q p2 q2) := hid fun W hM => lit_pair hM hr h1.more h2.more hg hT hw hxb2 hTx
          have HC := hid (HSO.out _ (Only.refl _ _))
          have t4 : True := trivial
          clear hlt HA hj hr h1 h2 hg hT hw hxb hxb2 hTx HFA HFB hk3 HTL
          go_wp2_with (go_at_call 11; refine (HPK.out _).mono ?_; rintro e w' ⟨rfl, hw'⟩; have hw2 := hw'.symm; subst hw2)
          generalize wr.alloc (.cells #[.int .i64 11, .int .i64 x.which, .int .i64 x.at_, .string XA, .string XC, .slice x.pb x.bs.length x.cb, .bool x.is_, .int .u8 x.mask, .slice x.pk x.ks.length x.ck] 36) = B0 at *
          clear h11 hz
          go_region_held3 (fun w' => w'.cell? ⟨w4.heap.size, 0, none⟩ = some (ptr p) ∧ w'.cell? ⟨w4.heap.size, 1, none⟩ = some (ptr q) ∧ w'.cell? ⟨w4.heap.size, 2, none⟩ = some (ptr p2) ∧ w'.cell? ⟨w4.heap.size, 3, none⟩ = some (ptr q2) ∧ w'.cell? ⟨wr.heap.size, 2, none⟩ = some (.int .i64 x.at_)) (first | with_reducible exact HC.out | (refine HSO.out _ ((HM0.out.below ?_).only); (repeat (with_reducible first | exact Below.refl _ _ | refine below_on _ _ ?_ (below_drewN _ _) | refine below_on _ _ ?_ (Below.refl _ _).drew | refine below_on _ _ ?_ ((Below.refl _ _).alloc (Nat.le_refl _) _))); done) | (refine HSO.out _ ((HM1.out.below ?_).only); (repeat (with_reducible first | exact Below.refl _ _ | refine below_on _ _ ?_ (below_drewN _ _) | refine below_on _ _ ?_ (Below.refl _ _).drew | refine below_on _ _ ?_ ((Below.refl _ _).alloc (Nat.le_refl _) _))); done) | exact HC.out) (first
            | (go_at_call 14; refine (HP.out _ _ (by ((repeat (with_reducible first | exact Below.refl _ _ | refine below_on _ _ ?_ (below_drewN _ _) | refine below_on _ _ ?_ (Below.refl _ _).drew | refine below_on _ _ ?_ ((Below.refl _ _).alloc (Nat.le_refl _) _))); done)) (by ((repeat (first | ((with_reducible refine cat_made _ _ _ _ ?_); (first | rfl | (rw [size_al]; done) | (rw [size_al, size_al]; done))) | (with_reducible refine cat_drewN _ ?_) | (with_reducible refine cat_drew ?_) | (with_reducible refine cat_alloc _ ?_) | ((with_reducible refine HKP.out _ _ _ ?_ ?_); (first | exact Nat.le_refl _ | exact Nat.le_succ _ | omega)))); done))).mono ?_; rintro e w1 ⟨rfl, hkp, hm⟩; have HM1 := hid hm; have HKP := hid hkp; have HC := hid (HSO.out w1 hm.only); clear hm hkp)
            | (go_at_call 15; refine (HQ.out _ _ (HM1.out.below (W' := _) (by ((repeat (with_reducible first | exact Below.refl _ _ | refine below_on _ _ ?_ (below_drewN _ _) | refine below_on _ _ ?_ (Below.refl _ _).drew | refine below_on _ _ ?_ ((Below.refl _ _).alloc (Nat.le_refl _) _))); done))) (by ((repeat (first | ((with_reducible refine cat_made _ _ _ _ ?_); (first | rfl | (rw [size_al]; done) | (rw [size_al, size_al]; done))) | (with_reducible refine cat_drewN _ ?_) | (with_reducible refine cat_drew ?_) | (with_reducible refine cat_alloc _ ?_) | ((with_reducible refine HKP.out _ _ _ ?_ ?_); (first | exact Nat.le_refl _ | exact Nat.le_succ _ | omega)))); done))).mono ?_; rintro e y1 ⟨rfl, hm⟩; have HLY := hid (HFI.out _ hm); have HC := hid (HSO.out y1 hm.only); clear hm))
          · as_aux_lemma =>
              have HC := hid (HS.out _ _ _ _ _ _ HLY.out)
              clear HFI HM1 HM0 HSO HP HQ HLX HKP
              go_wp2
              go_region_held3 (fun w' => w'.cell? ⟨w4.heap.size, 0, none⟩ = some (ptr p) ∧ w'.cell? ⟨w4.heap.size, 1, none⟩ = some (ptr q) ∧ w'.cell? ⟨w4.heap.size, 2, none⟩ = some (ptr p2) ∧ w'.cell? ⟨w4.heap.size, 3, none⟩ = some (ptr q2) ∧ w'.cell? ⟨wr.heap.size, 0, none⟩ = some (.int .i64 x.kind) ∧ w'.cell? ⟨wr.heap.size, 1, none⟩ = some (.int .i64 x.which) ∧ w'.cell? ⟨wr.heap.size, 2, none⟩ = some (.int .i64 x.at_) ∧ w'.cell? ⟨wr.heap.size, 3, none⟩ = some (.string XA) ∧ w'.cell? ⟨wr.heap.size, 4, none⟩ = some (.string XC) ∧ w'.cell? ⟨wr.heap.size, 5, none⟩ = some (.slice x.pb x.bs.length x.cb) ∧ w'.cell? ⟨wr.heap.size, 6, none⟩ = some (.bool x.is_) ∧ w'.cell? ⟨wr.heap.size, 7, none⟩ = some (.int .u8 x.mask) ∧ w'.cell? ⟨wr.heap.size, 8, none⟩ = some (.slice x.pk x.ks.length x.ck)) (exact HC.out) (first
                | (go_at_call 17; have _t := t4; (first | refine (HT0.out _ _ _ _ _ _ HLY.out (by omega)).mono ?_ | refine (HT0.out _ _ _ _ _ _ (HLY.out.below (below_drewN _ _)) (by omega)).mono ?_); rintro e z1 ⟨rfl, hm⟩; have HLY := hid hm; have HC := hid (HS.out _ _ _ _ _ _ hm); clear hm t4)
                | (go_at_call 17; (first | refine (HT1.out _ _ _ _ _ _ HLY.out (by omega)).mono ?_ | refine (HT1.out _ _ _ _ _ _ (HLY.out.below (below_drewN _ _)) (by omega)).mono ?_); rintro e z2 ⟨rfl, hm⟩; have HLY := hid hm; have HC := hid (HS.out _ _ _ _ _ _ hm); clear hm))
              go_wp2
              go_roundw
              case rel => exact ⟨i + 1, p, q, p2, q2, by omega, by go_num, HLY.out.off⟩
              case measure => simp [intOf]; omega
          · as_aux_lemma =>
              have HC := hid (HS.out _ _ _ _ _ _ HLY.out)
              clear HFI HM1 HM0 HSO HP HQ HLX HKP
              go_wp2
              go_region_held3 (fun w' => w'.cell? ⟨w4.heap.size, 0, none⟩ = some (ptr p) ∧ w'.cell? ⟨w4.heap.size, 1, none⟩ = some (ptr q) ∧ w'.cell? ⟨w4.heap.size, 2, none⟩ = some (ptr p2) ∧ w'.cell? ⟨w4.heap.size, 3, none⟩ = some (ptr q2) ∧ w'.cell? ⟨wr.heap.size, 0, none⟩ = some (.int .i64 x.kind) ∧ w'.cell? ⟨wr.heap.size, 1, none⟩ = some (.int .i64 x.which) ∧ w'.cell? ⟨wr.heap.size, 2, none⟩ = some (.int .i64 x.at_) ∧ w'.cell? ⟨wr.heap.size, 3, none⟩ = some (.string XA) ∧ w'.cell? ⟨wr.heap.size, 4, none⟩ = some (.string XC) ∧ w'.cell? ⟨wr.heap.size, 5, none⟩ = some (.slice x.pb x.bs.length x.cb) ∧ w'.cell? ⟨wr.heap.size, 6, none⟩ = some (.bool x.is_) ∧ w'.cell? ⟨wr.heap.size, 7, none⟩ = some (.int .u8 x.mask) ∧ w'.cell? ⟨wr.heap.size, 8, none⟩ = some (.slice x.pk x.ks.length x.ck)) (exact HC.out) (first
                | (go_at_call 17; have _t := t4; (first | refine (HT0.out _ _ _ _ _ _ HLY.out (by omega)).mono ?_ | refine (HT0.out _ _ _ _ _ _ (HLY.out.below (below_drewN _ _)) (by omega)).mono ?_); rintro e z1 ⟨rfl, hm⟩; have HLY := hid hm; have HC := hid (HS.out _ _ _ _ _ _ hm); clear hm t4)
                | (go_at_call 17; (first | refine (HT1.out _ _ _ _ _ _ HLY.out (by omega)).mono ?_ | refine (HT1.out _ _ _ _ _ _ (HLY.out.below (below_drewN _ _)) (by omega)).mono ?_); rintro e z2 ⟨rfl, hm⟩; have HLY := hid hm; have HC := hid (HS.out _ _ _ _ _ _ hm); clear hm))
              go_wp2
              go_roundw
              case rel => exact ⟨i + 1, p, q, p2, q2, by omega, by go_num, HLY.out.off⟩
              case measure => simp [intOf]; omega
          · as_aux_lemma =>
              have HC := hid (HS.out _ _ _ _ _ _ HLY.out)
              clear HFI HM1 HM0 HSO HP HQ HLX HKP
              go_wp2
              go_region_held3 (fun w' => w'.cell? ⟨w4.heap.size, 0, none⟩ = some (ptr p) ∧ w'.cell? ⟨w4.heap.size, 1, none⟩ = some (ptr q) ∧ w'.cell? ⟨w4.heap.size, 2, none⟩ = some (ptr p2) ∧ w'.cell? ⟨w4.heap.size, 3, none⟩ = some (ptr q2) ∧ w'.cell? ⟨wr.heap.size, 0, none⟩ = some (.int .i64 x.kind) ∧ w'.cell? ⟨wr.heap.size, 1, none⟩ = some (.int .i64 x.which) ∧ w'.cell? ⟨wr.heap.size, 2, none⟩ = some (.int .i64 x.at_) ∧ w'.cell? ⟨wr.heap.size, 3, none⟩ = some (.string XA) ∧ w'.cell? ⟨wr.heap.size, 4, none⟩ = some (.string XC) ∧ w'.cell? ⟨wr.heap.size, 5, none⟩ = some (.slice x.pb x.bs.length x.cb) ∧ w'.cell? ⟨wr.heap.size, 6, none⟩ = some (.bool x.is_) ∧ w'.cell? ⟨wr.heap.size, 7, none⟩ = some (.int .u8 x.mask) ∧ w'.cell? ⟨wr.heap.size, 8, none⟩ = some (.slice x.pk x.ks.length x.ck)) (exact HC.out) (first
                | (go_at_call 17; have _t := t4; (first | refine (HT0.out _ _ _ _ _ _ HLY.out (by omega)).mono ?_ | refine (HT0.out _ _ _ _ _ _ (HLY.out.below (below_drewN _ _)) (by omega)).mono ?_); rintro e z1 ⟨rfl, hm⟩; have HLY := hid hm; have HC := hid (HS.out _ _ _ _ _ _ hm); clear hm t4)
                | (go_at_call 17; (first | refine (HT1.out _ _ _ _ _ _ HLY.out (by omega)).mono ?_ | refine (HT1.out _ _ _ _ _ _ (HLY.out.below (below_drewN _ _)) (by omega)).mono ?_); rintro e z2 ⟨rfl, hm⟩; have HLY := hid hm; have HC := hid (HS.out _ _ _ _ _ _ hm); clear hm))
              go_wp2
              go_roundw
              case rel => exact ⟨i + 1, p, q, p2, q2, by omega, by go_num, HLY.out.off⟩
              case measure => simp [intOf]; omega
        · obtain ⟨nn, hnn⟩ : ∃ nn : Nat, x.at_ = (nn : Int) := ⟨x.at_.toNat, by omega⟩
          have HV : Hid (x.val = #[.int .i64 11, .int .i64 x.which, .int .i64 (nn : Int), .string XA, .string XC, .slice x.pb x.bs.length x.cb, .bool x.is_, .int .u8 x.mask, .slice x.pk x.ks.length x.ck]) := hid (by have := HV.out; rw [h11, hnn] at this; exact this)
          have HLX : Hid (LX w (wr.alloc (.cells #[.int .i64 11, .int .i64 x.which, .int .i64 (nn : Int), .string XA, .string XC, .slice x.pb x.bs.length x.cb, .bool x.is_, .int .u8 x.mask, .slice x.pk x.ks.length x.ck] 36)) w4.heap.size wr.heap.size x i p q p2 q2) := hid (by have := HLX.out; rw [h11, hnn] at this; exact this)
          have hk3 := HXO.out.k3
          obtain ⟨fa, fa', fb, fb', d, d2, Z, ZR, T, hj, hr, h1, h2, hg, hT, hw, hxb, hTx⟩ := HLX.out
          have hxb2 := hxb
          rw [HV.out] at hxb
          have HFA : Hid (fa'.map ZR = fa.map Z) := hid hr.fa
          have HFB : Hid (fb'.map ZR = fb.map Z) := hid hr.fb
          have HTL := hid hj.tl
          have HM0 := hid (Mid.start hj)
          have HSO : Hid (∀ W, Only T (wr.alloc (.cells #[.int .i64 11, .int .i64 x.which, .int .i64 (nn : Int), .string XA, .string XC, .slice x.pb x.bs.length x.cb, .bool x.is_, .int .u8 x.mask, .slice x.pk x.ks.length x.ck] 36)) W → W.cell? ⟨w4.heap.size, 0, none⟩ = some (ptr p) ∧ W.cell? ⟨w4.heap.size, 1, none⟩ = some (ptr q) ∧ W.cell? ⟨w4.heap.size, 2, none⟩ = some (ptr p2) ∧ W.cell? ⟨w4.heap.size, 3, none⟩ = some (ptr q2) ∧ W.cell? ⟨wr.heap.size, 2, none⟩ = some (.int .i64 (nn : Int))) := hid fun W ho => by
            have k1 := hg.keep (ho.block _ hg.lt hT)
            have k2 := hxb.keep (ho.block _ hxb.lt hTx)
            exact ⟨k1.cell 0, k1.cell 1, k1.cell 2, k1.cell 3, k2.cell 2⟩
          have HP : Hid (∀ W bl, Below (wr.alloc (.cells #[.int .i64 11, .int .i64 x.which, .int .i64 (nn : Int), .string XA, .string XC, .slice x.pb x.bs.length x.cb, .bool x.is_, .int .u8 x.mask, .slice x.pk x.ks.length x.ck] 36)).heap.size (wr.alloc (.cells #[.int .i64 11, .int .i64 x.which, .int .i64 (nn : Int), .string XA, .string XC, .slice x.pb x.bs.length x.cb, .bool x.is_, .int .u8 x.mask, .slice x.pk x.ks.length x.ck] 36)) W → CAt W bl #[ptr p, ptr p2] 23 → Calls Try.prog 14 #[.slice (some ⟨bl, 0, none⟩) 2 2, .int .i64 (nn : Int)] W fun e w1 => e = .returned (.int .i64 0) ∧ (∀ g cs t, (wr.alloc (.cells #[.int .i64 11, .int .i64 x.which, .int .i64 (nn : Int), .string XA, .string XC, .slice x.pb x.bs.length x.cb, .bool x.is_, .int .u8 x.mask, .slice x.pk x.ks.length x.ck] 36)).heap.size ≤ g → CAt W g cs t → CAt w1 g cs t) ∧ ∃ z, Mid w (wr.alloc (.cells #[.int .i64 11, .int .i64 x.which, .int .i64 (nn : Int), .string XA, .string XC, .slice x.pb x.bs.length x.cb, .bool x.is_, .int .u8 x.mask, .slice x.pk x.ks.length x.ck] 36)) w1 ⟨p, some z, d.lit (fa.map Z)⟩ ⟨p2, some z, d2.lit (fb.map Z)⟩ ⟨q, fa', d⟩ ⟨q2, fb', d2⟩ (litZ Z z nn) ZR T) := hid fun W bl hb hc => ((hj.below hb).fuse2 bl 2 hc nn (by omega)).mono fun e w1 ⟨e1, z, hz, j1, o1⟩ => ⟨e1, fun g cs t hg h => h.keep (o1.block g h.lt fun k => by have := HTL.out g k; omega), z, Mid.next (Only.of_below hb) (fun _ h => Or.inl h) j1 o1⟩
          have HQ : Hid (∀ W bl z, Mid w (wr.alloc (.cells #[.int .i64 11, .int .i64 x.which, .int .i64 (nn : Int), .string XA, .string XC, .slice x.pb x.bs.length x.cb, .bool x.is_, .int .u8 x.mask, .slice x.pk x.ks.length x.ck] 36)) W ⟨p, some z, d.lit (fa.map Z)⟩ ⟨p2, some z, d2.lit (fb.map Z)⟩ ⟨q, fa', d⟩ ⟨q2, fb', d2⟩ (litZ Z z nn) ZR T → CAt W bl #[ptr q, ptr q2] 27 → Calls Try.prog 15 #[.slice (some ⟨bl, 0, none⟩) 2 2, .int .i64 (nn : Int)] W fun e w1 => e = .returned (.int .i64 0) ∧ ∃ z', Mid w (wr.alloc (.cells #[.int .i64 11, .int .i64 x.which, .int .i64 (nn : Int), .string XA, .string XC, .slice x.pb x.bs.length x.cb, .bool x.is_, .int .u8 x.mask, .slice x.pk x.ks.length x.ck] 36)) w1 ⟨p, some z, d.lit (fa.map Z)⟩ ⟨p2, some z, d2.lit (fb.map Z)⟩ ⟨q, some z', d.lit (fa.map Z)⟩ ⟨q2, some z', d2.lit (fb.map Z)⟩ (litZ Z z nn) (litZ ZR z' nn) T) := hid fun W bl z hM hc => by
            have := hM.rfuse2 bl 2 hc nn (by omega)
            simp only [HFA.out, HFB.out] at this; exact this
          have HFI : Hid (∀ W z z', Mid w (wr.alloc (.cells #[.int .i64 11, .int .i64 x.which, .int .i64 (nn : Int), .string XA, .string XC, .slice x.pb x.bs.length x.cb, .bool x.is_, .int .u8 x.mask, .slice x.pk x.ks.length x.ck] 36)) W ⟨p, some z, d.lit (fa.map Z)⟩ ⟨p2, some z, d2.lit (fb.map Z)⟩ ⟨q, some z', d.lit (fa.map Z)⟩ ⟨q2, some z', d2.lit (fb.map Z)⟩ (litZ Z z nn) (litZ ZR z' nn) T → LX w W w4.heap.size wr.heap.size x (i + 1) p q p2 q2) := hid fun W z z' hM => lit_pair hM (Rel.lit2 Z ZR z z' nn _ _ p q p2 q2) (lit_few h1.more _) (lit_few h2.more _) hg hT hw hxb2 hTx
          have HC := hid (HSO.out _ (Only.refl _ _))
          have t4 : True := trivial
          clear hlt HA hj hr h1 h2 hg hT hw hxb hxb2 hTx HFA HFB hk3 HTL
          go_wp2_with (go_at_call 11; refine (HPK.out _).mono ?_; rintro e w' ⟨rfl, hw'⟩; have hw2 := hw'.symm; subst hw2)
          generalize wr.alloc (.cells #[.int .i64 11, .int .i64 x.which, .int .i64 (nn : Int), .string XA, .string XC, .slice x.pb x.bs.length x.cb, .bool x.is_, .int .u8 x.mask, .slice x.pk x.ks.length x.ck] 36) = B0 at *
          clear h11 hnn
          go_region_held3 (fun w' => w'.cell? ⟨w4.heap.size, 0, none⟩ = some (ptr p) ∧ w'.cell? ⟨w4.heap.size, 1, none⟩ = some (ptr q) ∧ w'.cell? ⟨w4.heap.size, 2, none⟩ = some (ptr p2) ∧ w'.cell? ⟨w4.heap.size, 3, none⟩ = some (ptr q2) ∧ w'.cell? ⟨wr.heap.size, 2, none⟩ = some (.int .i64 (nn : Int))) (first | with_reducible exact HC.out | (refine HSO.out _ ((HM0.out.below ?_).only); (repeat (with_reducible first | exact Below.refl _ _ | refine below_on _ _ ?_ (below_drewN _ _) | refine below_on _ _ ?_ (Below.refl _ _).drew | refine below_on _ _ ?_ ((Below.refl _ _).alloc (Nat.le_refl _) _))); done) | (refine HSO.out _ ((HM1.out.below ?_).only); (repeat (with_reducible first | exact Below.refl _ _ | refine below_on _ _ ?_ (below_drewN _ _) | refine below_on _ _ ?_ (Below.refl _ _).drew | refine below_on _ _ ?_ ((Below.refl _ _).alloc (Nat.le_refl _) _))); done) | exact HC.out) (first
            | (go_at_call 14; refine (HP.out _ _ (by ((repeat (with_reducible first | exact Below.refl _ _ | refine below_on _ _ ?_ (below_drewN _ _) | refine below_on _ _ ?_ (Below.refl _ _).drew | refine below_on _ _ ?_ ((Below.refl _ _).alloc (Nat.le_refl _) _))); done)) (by ((repeat (first | ((with_reducible refine cat_made _ _ _ _ ?_); (first | rfl | (rw [size_al]; done) | (rw [size_al, size_al]; done))) | (with_reducible refine cat_drewN _ ?_) | (with_reducible refine cat_drew ?_) | (with_reducible refine cat_alloc _ ?_) | ((with_reducible refine HKP.out _ _ _ ?_ ?_); (first | exact Nat.le_refl _ | exact Nat.le_succ _ | omega)))); done))).mono ?_; rintro e w1 ⟨rfl, hkp, z, hm⟩; have HM1 := hid hm; have HKP := hid hkp; have HC := hid (HSO.out w1 hm.only); clear hm hkp)
            | (go_at_call 15; refine (HQ.out _ _ z (HM1.out.below (W' := _) (by ((repeat (with_reducible first | exact Below.refl _ _ | refine below_on _ _ ?_ (below_drewN _ _) | refine below_on _ _ ?_ (Below.refl _ _).drew | refine below_on _ _ ?_ ((Below.refl _ _).alloc (Nat.le_refl _) _))); done))) (by ((repeat (first | ((with_reducible refine cat_made _ _ _ _ ?_); (first | rfl | (rw [size_al]; done) | (rw [size_al, size_al]; done))) | (with_reducible refine cat_drewN _ ?_) | (with_reducible refine cat_drew ?_) | (with_reducible refine cat_alloc _ ?_) | ((with_reducible refine HKP.out _ _ _ ?_ ?_); (first | exact Nat.le_refl _ | exact Nat.le_succ _ | omega)))); done))).mono ?_; rintro e y1 ⟨rfl, z', hm⟩; have HLY := hid (HFI.out _ z z' hm); have HC := hid (HSO.out y1 hm.only); clear hm))
          · as_aux_lemma =>
              have HC := hid (HS.out _ _ _ _ _ _ HLY.out)
              clear HFI HM1 HM0 HSO HP HQ HLX HKP
              go_wp2
              go_region_held3 (fun w' => w'.cell? ⟨w4.heap.size, 0, none⟩ = some (ptr p) ∧ w'.cell? ⟨w4.heap.size, 1, none⟩ = some (ptr q) ∧ w'.cell? ⟨w4.heap.size, 2, none⟩ = some (ptr p2) ∧ w'.cell? ⟨w4.heap.size, 3, none⟩ = some (ptr q2) ∧ w'.cell? ⟨wr.heap.size, 0, none⟩ = some (.int .i64 x.kind) ∧ w'.cell? ⟨wr.heap.size, 1, none⟩ = some (.int .i64 x.which) ∧ w'.cell? ⟨wr.heap.size, 2, none⟩ = some (.int .i64 x.at_) ∧ w'.cell? ⟨wr.heap.size, 3, none⟩ = some (.string XA) ∧ w'.cell? ⟨wr.heap.size, 4, none⟩ = some (.string XC) ∧ w'.cell? ⟨wr.heap.size, 5, none⟩ = some (.slice x.pb x.bs.length x.cb) ∧ w'.cell? ⟨wr.heap.size, 6, none⟩ = some (.bool x.is_) ∧ w'.cell? ⟨wr.heap.size, 7, none⟩ = some (.int .u8 x.mask) ∧ w'.cell? ⟨wr.heap.size, 8, none⟩ = some (.slice x.pk x.ks.length x.ck)) (exact HC.out) (first
                | (go_at_call 17; have _t := t4; (first | refine (HT0.out _ _ _ _ _ _ HLY.out (by omega)).mono ?_ | refine (HT0.out _ _ _ _ _ _ (HLY.out.below (below_drewN _ _)) (by omega)).mono ?_); rintro e z1 ⟨rfl, hm⟩; have HLY := hid hm; have HC := hid (HS.out _ _ _ _ _ _ hm); clear hm t4)
                | (go_at_call 17; (first | refine (HT1.out _ _ _ _ _ _ HLY.out (by omega)).mono ?_ | refine (HT1.out _ _ _ _ _ _ (HLY.out.below (below_drewN _ _)) (by omega)).mono ?_); rintro e z2 ⟨rfl, hm⟩; have HLY := hid hm; have HC := hid (HS.out _ _ _ _ _ _ hm); clear hm))
              go_wp2
              go_roundw
              case rel => exact ⟨i + 1, p, q, p2, q2, by omega, by go_num, HLY.out.off⟩
              case measure => simp [intOf]; omega
          · as_aux_lemma =>
              have HC := hid (HS.out _ _ _ _ _ _ HLY.out)
              clear HFI HM1 HM0 HSO HP HQ HLX HKP
              go_wp2
              go_region_held3 (fun w' => w'.cell? ⟨w4.heap.size, 0, none⟩ = some (ptr p) ∧ w'.cell? ⟨w4.heap.size, 1, none⟩ = some (ptr q) ∧ w'.cell? ⟨w4.heap.size, 2, none⟩ = some (ptr p2) ∧ w'.cell? ⟨w4.heap.size, 3, none⟩ = some (ptr q2) ∧ w'.cell? ⟨wr.heap.size, 0, none⟩ = some (.int .i64 x.kind) ∧ w'.cell? ⟨wr.heap.size, 1, none⟩ = some (.int .i64 x.which) ∧ w'.cell? ⟨wr.heap.size, 2, none⟩ = some (.int .i64 x.at_) ∧ w'.cell? ⟨wr.heap.size, 3, none⟩ = some (.string XA) ∧ w'.cell? ⟨wr.heap.size, 4, none⟩ = some (.string XC) ∧ w'.cell? ⟨wr.heap.size, 5, none⟩ = some (.slice x.pb x.bs.length x.cb) ∧ w'.cell? ⟨wr.heap.size, 6, none⟩ = some (.bool x.is_) ∧ w'.cell? ⟨wr.heap.size, 7, none⟩ = some (.int .u8 x.mask) ∧ w'.cell? ⟨wr.heap.size, 8, none⟩ = some (.slice x.pk x.ks.length x.ck)) (exact HC.out) (first
                | (go_at_call 17; have _t := t4; (first | refine (HT0.out _ _ _ _ _ _ HLY.out (by omega)).mono ?_ | refine (HT0.out _ _ _ _ _ _ (HLY.out.below (below_drewN _ _)) (by omega)).mono ?_); rintro e z1 ⟨rfl, hm⟩; have HLY := hid hm; have HC := hid (HS.out _ _ _ _ _ _ hm); clear hm t4)
                | (go_at_call 17; (first | refine (HT1.out _ _ _ _ _ _ HLY.out (by omega)).mono ?_ | refine (HT1.out _ _ _ _ _ _ (HLY.out.below (below_drewN _ _)) (by omega)).mono ?_); rintro e z2 ⟨rfl, hm⟩; have HLY := hid hm; have HC := hid (HS.out _ _ _ _ _ _ hm); clear hm))
              go_wp2
              go_roundw
              case rel => exact ⟨i + 1, p, q, p2, q2, by omega, by go_num, HLY.out.off⟩
              case measure => simp [intOf]; omega
          · as_aux_lemma =>
              have HC := hid (HS.out _ _ _ _ _ _ HLY.out)
              clear HFI HM1 HM0 HSO HP HQ HLX HKP
              go_wp2
              go_region_held3 (fun w' => w'.cell? ⟨w4.heap.size, 0, none⟩ = some (ptr p) ∧ w'.cell? ⟨w4.heap.size, 1, none⟩ = some (ptr q) ∧ w'.cell? ⟨w4.heap.size, 2, none⟩ = some (ptr p2) ∧ w'.cell? ⟨w4.heap.size, 3, none⟩ = some (ptr q2) ∧ w'.cell? ⟨wr.heap.size, 0, none⟩ = some (.int .i64 x.kind) ∧ w'.cell? ⟨wr.heap.size, 1, none⟩ = some (.int .i64 x.which) ∧ w'.cell? ⟨wr.heap.size, 2, none⟩ = some (.int .i64 x.at_) ∧ w'.cell? ⟨wr.heap.size, 3, none⟩ = some (.string XA) ∧ w'.cell? ⟨wr.heap.size, 4, none⟩ = some (.string XC) ∧ w'.cell? ⟨wr.heap.size, 5, none⟩ = some (.slice x.pb x.bs.length x.cb) ∧ w'.cell? ⟨wr.heap.size, 6, none⟩ = some (.bool x.is_) ∧ w'.cell? ⟨wr.heap.size, 7, none⟩ = some (.int .u8 x.mask) ∧ w'.cell? ⟨wr.heap.size, 8, none⟩ = some (.slice x.pk x.ks.length x.ck)) (exact HC.out) (first
                | (go_at_call 17; have _t := t4; (first | refine (HT0.out _ _ _ _ _ _ HLY.out (by omega)).mono ?_ | refine (HT0.out _ _ _ _ _ _ (HLY.out.below (below_drewN _ _)) (by omega)).mono ?_); rintro e z1 ⟨rfl, hm⟩; have HLY := hid hm; have HC := hid (HS.out _ _ _ _ _ _ hm); clear hm t4)
                | (go_at_call 17; (first | refine (HT1.out _ _ _ _ _ _ HLY.out (by omega)).mono ?_ | refine (HT1.out _ _ _ _ _ _ (HLY.out.below (below_drewN _ _)) (by omega)).mono ?_); rintro e z2 ⟨rfl, hm⟩; have HLY := hid hm; have HC := hid (HS.out _ _ _ _ _ _ hm); clear hm))
              go_wp2
              go_roundw
              case rel => exact ⟨i + 1, p, q, p2, q2, by omega, by go_num, HLY.out.off⟩
              case measure => simp [intOf]; omega
      have : kw = 0 ∨ kw = 1 := by omega
      rcases this with rfl | rfl
      · as_aux_lemma =>
          have HAC : Hid (∀ W, LX w W w4.heap.size wr.heap.size x i p q p2 q2 → Calls Try.prog 16 #[.agg #[ptr p, ptr q], .agg #[.int .i64 x.kind, .int .i64 x.which, .int .i64 x.at_, .string XA, .string XC, .slice x.pb x.bs.length x.cb, .bool x.is_, .int .u8 x.mask, .slice x.pk x.ks.length x.ck]] W fun e w' => e = .returned (.bool true) ∧ LX w w' w4.heap.size wr.heap.size x (i + 1) p q p2 q2) := hid fun W h => by
            have := h.act0 (by omega) HXO.out HNB.out.1 HNB.out.2.1 HNB.out.2.2.1 HNB.out.2.2.2
            rw [HV.out] at this; exact this
          have HC := hid (HS.out _ _ _ _ _ _ HLX.out)
          have t4 : True := trivial
          clear hlt HA
          go_wp2_with (go_at_call 11; refine (HPK.out _).mono ?_; rintro e w' ⟨rfl, hw'⟩; have hw2 := hw'.symm; subst hw2)
          go_region_held3 (fun w' => w'.cell? ⟨w4.heap.size, 0, none⟩ = some (ptr p) ∧ w'.cell? ⟨w4.heap.size, 1, none⟩ = some (ptr q) ∧ w'.cell? ⟨w4.heap.size, 2, none⟩ = some (ptr p2) ∧ w'.cell? ⟨w4.heap.size, 3, none⟩ = some (ptr q2) ∧ w'.cell? ⟨wr.heap.size, 0, none⟩ = some (.int .i64 x.kind) ∧ w'.cell? ⟨wr.heap.size, 1, none⟩ = some (.int .i64 x.which) ∧ w'.cell? ⟨wr.heap.size, 2, none⟩ = some (.int .i64 x.at_) ∧ w'.cell? ⟨wr.heap.size, 3, none⟩ = some (.string XA) ∧ w'.cell? ⟨wr.heap.size, 4, none⟩ = some (.string XC) ∧ w'.cell? ⟨wr.heap.size, 5, none⟩ = some (.slice x.pb x.bs.length x.cb) ∧ w'.cell? ⟨wr.heap.size, 6, none⟩ = some (.bool x.is_) ∧ w'.cell? ⟨wr.heap.size, 7, none⟩ = some (.int .u8 x.mask) ∧ w'.cell? ⟨wr.heap.size, 8, none⟩ = some (.slice x.pk x.ks.length x.ck)) (exact HC.out) (first
            | (go_at_call 16; (first | refine (HAC.out _ HLX.out).mono ?_ | refine (HAC.out _ (HLX.out.below (below_drewN _ _))).mono ?_); rintro e y1 ⟨rfl, hm⟩; have HLY := hid hm; have HC := hid (HS.out _ _ _ _ _ _ hm); clear hm))
          go_wp2
          go_region_held3 (fun w' => w'.cell? ⟨w4.heap.size, 0, none⟩ = some (ptr p) ∧ w'.cell? ⟨w4.heap.size, 1, none⟩ = some (ptr q) ∧ w'.cell? ⟨w4.heap.size, 2, none⟩ = some (ptr p2) ∧ w'.cell? ⟨w4.heap.size, 3, none⟩ = some (ptr q2) ∧ w'.cell? ⟨wr.heap.size, 0, none⟩ = some (.int .i64 x.kind) ∧ w'.cell? ⟨wr.heap.size, 1, none⟩ = some (.int .i64 x.which) ∧ w'.cell? ⟨wr.heap.size, 2, none⟩ = some (.int .i64 x.at_) ∧ w'.cell? ⟨wr.heap.size, 3, none⟩ = some (.string XA) ∧ w'.cell? ⟨wr.heap.size, 4, none⟩ = some (.string XC) ∧ w'.cell? ⟨wr.heap.size, 5, none⟩ = some (.slice x.pb x.bs.length x.cb) ∧ w'.cell? ⟨wr.heap.size, 6, none⟩ = some (.bool x.is_) ∧ w'.cell? ⟨wr.heap.size, 7, none⟩ = some (.int .u8 x.mask) ∧ w'.cell? ⟨wr.heap.size, 8, none⟩ = some (.slice x.pk x.ks.length x.ck)) (exact HC.out) (first
            | (go_at_call 17; have _t := t4; (first | refine (HT0.out _ _ _ _ _ _ HLY.out (by omega)).mono ?_ | refine (HT0.out _ _ _ _ _ _ (HLY.out.below (below_drewN _ _)) (by omega)).mono ?_); rintro e z1 ⟨rfl, hm⟩; have HLY := hid hm; have HC := hid (HS.out _ _ _ _ _ _ hm); clear hm t4)
            | (go_at_call 17; (first | refine (HT1.out _ _ _ _ _ _ HLY.out (by omega)).mono ?_ | refine (HT1.out _ _ _ _ _ _ (HLY.out.below (below_drewN _ _)) (by omega)).mono ?_); rintro e z2 ⟨rfl, hm⟩; have HLY := hid hm; have HC := hid (HS.out _ _ _ _ _ _ hm); clear hm))
          go_wp2
          go_roundw
          case rel => exact ⟨i + 1, p, q, p2, q2, by omega, by go_num, HLY.out.off⟩
          case measure => simp [intOf]; omega
      · as_aux_lemma =>
          have HAC : Hid (∀ W, LX w W w4.heap.size wr.heap.size x i p q p2 q2 → Calls Try.prog 16 #[.agg #[ptr p2, ptr q2], .agg #[.int .i64 x.kind, .int .i64 x.which, .int .i64 x.at_, .string XA, .string XC, .slice x.pb x.bs.length x.cb, .bool x.is_, .int .u8 x.mask, .slice x.pk x.ks.length x.ck]] W fun e w' => e = .returned (.bool true) ∧ LX w w' w4.heap.size wr.heap.size x (i + 1) p q p2 q2) := hid fun W h => by
            have := h.act1 (by omega) HXO.out HNB.out.1 HNB.out.2.1 HNB.out.2.2.1 HNB.out.2.2.2
            rw [HV.out] at this; exact this
          have HC := hid (HS.out _ _ _ _ _ _ HLX.out)
          have t4 : True := trivial
          clear hlt HA
          go_wp2_with (go_at_call 11; refine (HPK.out _).mono ?_; rintro e w' ⟨rfl, hw'⟩; have hw2 := hw'.symm; subst hw2)
          go_region_held3 (fun w' => w'.cell? ⟨w4.heap.size, 0, none⟩ = some (ptr p) ∧ w'.cell? ⟨w4.heap.size, 1, none⟩ = some (ptr q) ∧ w'.cell? ⟨w4.heap.size, 2, none⟩ = some (ptr p2) ∧ w'.cell? ⟨w4.heap.size, 3, none⟩ = some (ptr q2) ∧ w'.cell? ⟨wr.heap.size, 0, none⟩ = some (.int .i64 x.kind) ∧ w'.cell? ⟨wr.heap.size, 1, none⟩ = some (.int .i64 x.which) ∧ w'.cell? ⟨wr.heap.size, 2, none⟩ = some (.int .i64 x.at_) ∧ w'.cell? ⟨wr.heap.size, 3, none⟩ = some (.string XA) ∧ w'.cell? ⟨wr.heap.size, 4, none⟩ = some (.string XC) ∧ w'.cell? ⟨wr.heap.size, 5, none⟩ = some (.slice x.pb x.bs.length x.cb) ∧ w'.cell? ⟨wr.heap.size, 6, none⟩ = some (.bool x.is_) ∧ w'.cell? ⟨wr.heap.size, 7, none⟩ = some (.int .u8 x.mask) ∧ w'.cell? ⟨wr.heap.size, 8, none⟩ = some (.slice x.pk x.ks.length x.ck)) (exact HC.out) (first
            | (go_at_call 16; (first | refine (HAC.out _ HLX.out).mono ?_ | refine (HAC.out _ (HLX.out.below (below_drewN _ _))).mono ?_); rintro e y1 ⟨rfl, hm⟩; have HLY := hid hm; have HC := hid (HS.out _ _ _ _ _ _ hm); clear hm))
          go_wp2
          go_region_held3 (fun w' => w'.cell? ⟨w4.heap.size, 0, none⟩ = some (ptr p) ∧ w'.cell? ⟨w4.heap.size, 1, none⟩ = some (ptr q) ∧ w'.cell? ⟨w4.heap.size, 2, none⟩ = some (ptr p2) ∧ w'.cell? ⟨w4.heap.size, 3, none⟩ = some (ptr q2) ∧ w'.cell? ⟨wr.heap.size, 0, none⟩ = some (.int .i64 x.kind) ∧ w'.cell? ⟨wr.heap.size, 1, none⟩ = some (.int .i64 x.which) ∧ w'.cell? ⟨wr.heap.size, 2, none⟩ = some (.int .i64 x.at_) ∧ w'.cell? ⟨wr.heap.size, 3, none⟩ = some (.string XA) ∧ w'.cell? ⟨wr.heap.size, 4, none⟩ = some (.string XC) ∧ w'.cell? ⟨wr.heap.size, 5, none⟩ = some (.slice x.pb x.bs.length x.cb) ∧ w'.cell? ⟨wr.heap.size, 6, none⟩ = some (.bool x.is_) ∧ w'.cell? ⟨wr.heap.size, 7, none⟩ = some (.int .u8 x.mask) ∧ w'.cell? ⟨wr.heap.size, 8, none⟩ = some (.slice x.pk x.ks.length x.ck)) (exact HC.out) (first
            | (go_at_call 17; have _t := t4; (first | refine (HT0.out _ _ _ _ _ _ HLY.out (by omega)).mono ?_ | refine (HT0.out _ _ _ _ _ _ (HLY.out.below (below_drewN _ _)) (by omega)).mono ?_); rintro e z1 ⟨rfl, hm⟩; have HLY := hid hm; have HC := hid (HS.out _ _ _ _ _ _ hm); clear hm t4)
            | (go_at_call 17; (first | refine (HT1.out _ _ _ _ _ _ HLY.out (by omega)).mono ?_ | refine (HT1.out _ _ _ _ _ _ (HLY.out.below (below_drewN _ _)) (by omega)).mono ?_); rintro e z2 ⟨rfl, hm⟩; have HLY := hid hm; have HC := hid (HS.out _ _ _ _ _ _ hm); clear hm))
          go_wp2
          go_roundw
          case rel => exact ⟨i + 1, p, q, p2, q2, by omega, by go_num, HLY.out.off⟩
          case measure => simp [intOf]; omega
    · have hlt' : ¬ (i : Int) < (na : Int) := by omega
      have HBE := hid HL.out.be
      clear HA
      go_wp2
      go_ret
      exact ⟨rfl, HBE.out⟩
#print axioms script_ok
end Go.Proofs.Ytfppmpfmafnfmaa
