/- Texts laid into one: the remark ahead of each part says what is proved there. -/
import Derived.Test.YtcbmimjjpkkoeaaGreatDoorQag
/- Contracts of the document's parts, Check and Same. (Written by tools/gen_Vu.py.) -/
namespace Go.Proofs.YtcbmimjjpkkoeaaGreatDoor
open Go Go.RowKit

set_option maxRecDepth 100000 in
set_option maxHeartbeats 1000000 in
theorem rParts_any (v : Value) (ps : Ps) (size : Int) (w : World) (hv : PL w v ps) : Calls Tryz.prog 58 #[v, i64 size] w fun e w' => e = .returned (.bool (okParts ps size)) ∧ w' = w := by
  have HV := hid hv
  obtain ⟨po, c, rfl, hc, hl, _⟩ := hv
  by_cases hbig : 32 < ps.length
  · have hbig' : 32 < (ps.length : Int) := by omega
    have e : Hid (okParts ps size = false) := by unfold okParts Hid; simp; omega
    go_enter Tryz.func58, Tryz.ntmps58
    go_wp2
    go_ret
    exact ⟨by rw [e.out]; rfl, rfl⟩
  have hsm : ¬ 32 < (ps.length : Int) := by omega
  have HE : Hid (okParts ps size = (okPs 0 ps && (ps.isEmpty || decide (sumPs ps = size)))) := hid (by unfold okParts; rw [decide_eq_true (show ps.length ≤ 32 by omega), Bool.true_and])
  go_enter Tryz.func58, Tryz.ntmps58
  go_wp2
  go_loopw [5, 6, 7] (fun sv lv iv wr => ∃ (k : Nat) (last sum : Int), k ≤ ps.length ∧ sv = i64 sum ∧ lv = i64 last ∧ iv = i64 k ∧ 0 ≤ last ∧ last ≤ 10000 ∧ 0 ≤ sum ∧ sum ≤ 65536 * k ∧ okPs 0 ps = okPs last (ps.drop k) ∧ sumPs ps = sum + sumPs (ps.drop k) ∧ w = wr) (fun _ _ iv _ => (ps.length - intOf iv).toNat)
  case atStart => exact ⟨0, 0, 0, by omega, rfl, rfl, rfl, by omega, by omega, by omega, by omega, rfl, by simp, rfl⟩
  case round =>
    clear hsm
    obtain ⟨k, last, sum, hk, rfl, rfl, rfl, hl0, hl1, hs0, hs1, hR, hS, hw⟩ := hrel
    subst hw
    by_cases hlt : k < ps.length
    · have hlt' : (k : Int) < (ps.length : Int) := by omega
      rw [drop_consP hlt] at hR hS
      rw [okPs] at hR
      have hS2 : sumPs (ps.getD k (0, 0) :: ps.drop (k + 1)) = (ps.getD k (0, 0)).2 + sumPs (ps.drop (k + 1)) := by simp [sumPs]
      rw [hS2] at hS
      obtain ⟨b, o, hpo, x1, x2⟩ := HV.out.at hlt
      subst hpo
      have HR := hid hR
      have HS := hid hS
      clear hR hS hS2
      generalize hX1 : (ps.getD k (0, 0)).1 = X1 at *
      generalize hX2 : (ps.getD k (0, 0)).2 = X2 at *
      clear hX1 hX2
      have hbad : okPs 0 ps = false → okParts ps size = false := fun h => by rw [HE.out, h]; rfl
      have HBAD := hid hbad
      clear hbad
      by_cases i1 : X1 ≤ last
      · have e : Hid (okParts ps size = false) := HBAD.out (by rw [HR.out, decide_eq_false (by omega)]; rfl)
        go_wp2
        go_ret
        exact ⟨by rw [e.out]; rfl, by trivial⟩
      by_cases i2 : 10000 < X1
      · have e : Hid (okParts ps size = false) := HBAD.out (by rw [HR.out, decide_eq_false (p := X1 ≤ 10000) (by omega)]; simp)
        go_wp2
        go_ret
        exact ⟨by rw [e.out]; rfl, by trivial⟩
      cases i3 : inR X2 0 65536
      · have e : Hid (okParts ps size = false) := HBAD.out (by rw [HR.out, i3]; simp)
        go_wp2_with (go_at_call 55; refine (from_any _ _ _ _).mono ?_; rintro e w' ⟨rfl, hw'⟩; rw [i3]; have hw2 := hw'.symm; subst hw2)
        go_ret
        exact ⟨by rw [e.out]; rfl, by trivial⟩
      · have hr2 := inR_iff.1 i3
        have hr3 := hr2.1
        have hr4 := hr2.2
        clear hr2
        have HN : Hid (okPs 0 ps = okPs X1 (ps.drop (k + 1))) := by
          unfold Hid
          rw [HR.out, decide_eq_true (p := last < X1) (by omega), decide_eq_true (p := X1 ≤ 10000) (by omega), i3]; rfl
        go_wp2_with (go_at_call 55; refine (from_any _ _ _ _).mono ?_; rintro e w' ⟨rfl, hw'⟩; rw [i3]; have hw2 := hw'.symm; subst hw2)
        exact ⟨⟨k + 1, X1, sum + X2, by omega, rfl, rfl, by simp, by omega, by omega, by omega, by omega, HN.out, by have := HS.out; omega, by trivial⟩, by simp [intOf]; omega⟩
    · have hlt' : ¬ (k : Int) < (ps.length : Int) := by omega
      rw [List.drop_eq_nil_of_le (by omega)] at hR hS
      have hR' : okPs 0 ps = true := hR
      have hS' : sumPs ps = sum := by rw [hS]; simp [sumPs]
      have HR : Hid (okParts ps size = (ps.isEmpty || decide (sum = size))) := by unfold Hid; rw [HE.out, hR', hS']; rfl
      clear hR hS hR' hS' HE
      by_cases h0 : ps = []
      · subst h0
        go_wp2
        go_ret
        exact ⟨by rw [HR.out]; rfl, by trivial⟩
      · have hz : ((ps.length : Int) == 0) = false := by have := List.length_pos_iff.2 h0; simp; omega
        have hie : ps.isEmpty = false := by cases ps <;> simp_all
        rw [hie] at HR
        by_cases he : sum = size
        · have he' : (sum == size) = true := by simpa using he
          go_wp2
          go_ret
          exact ⟨by rw [HR.out, decide_eq_true he]; rfl, by trivial⟩
        · have he' : (sum == size) = false := by simpa using he
          go_wp2
          go_ret
          exact ⟨by rw [HR.out, decide_eq_false he]; rfl, by trivial⟩
theorem rIDb {s : ByteArray} {b : Bool} (h : okId (lst s) = b) (w : World) (hs : s.size ≤ 1000000) : Calls Tryz.prog 54 #[.string s] w fun e w' => e = .returned (.bool b) ∧ w' = w := by rw [← h]; exact rID_any s w hs
theorem zeroD_len : zeroD.length = 32 := by simp [zeroD]
theorem built_zero : Tryz.prog.built 42 [] = some (sumC zeroD) := by kernel_rfl
set_option maxRecDepth 100000 in
theorem neqSum {x y : List Nat} (hx : x.length = 32) (hy : y.length = 32) (w : World) : (binOp .neq 42 (.agg (sumC x)) (.agg (sumC y))).run Tryz.prog w = .ok (.bool (!decide (x = y))) w := by
  rw [run_neq_struct, eqSum_in hx hy 9999 (fun a b w => by
    have := run_equalIn_int (P := Tryz.prog) w 9998 5 .u8 .u8 (a : Int) (b : Int) Tryz.underlying5
    unfold u8
    rw [this]
    congr 1
    rw [Bool.eq_iff_iff]; simp; omega) w]
  rfl
#print axioms rParts_any
end Go.Proofs.YtcbmimjjpkkoeaaGreatDoor

/- The document's Check, some cases. (Written by tools/gen_Vu.py.) -/
namespace Go.Proofs.YtcbmimjjpkkoeaaGreatDoor
open Go Go.RowKit

set_option maxRecDepth 100000 in
set_option maxHeartbeats 1000000 in
theorem rcheck_0 (r : Rv) (hr : r.ok) (ps : Ps) (w : World) (hp : PL w r.pv ps) (h0 : okId (lst r.id) = false) : Calls Tryz.prog 26 #[.agg r.cs] w fun e w' => e = .returned (i64 2) ∧ Below w.heap.size w w' := by
  have HR := hid hr
  have HP := hid hp
  have H0 := hid h0
  clear hr hp h0
  go_enter Tryz.func26, Tryz.ntmps26
  go_wp2_with (first
    | ((with_reducible refine wpList_boxR rfl _ rfl r.cs ?_ ?_); exact rfl; intro w1 g1 hc1 hb1 hg1; have HA := hid (RBox.mk' HR.out hc1); have HB := hid hb1; have HP1 := hid (HP.out.below hb1); have c0 := HA.out.c0; have c1 := HA.out.c1; have c2 := HA.out.c2; clear hc1 hb1)
    | (go_at_call 54; refine (rID_any _ _ (by have := HR.out.i; omega)).mono ?_; rintro e w' ⟨rfl, hw'⟩; rw [H0.out]; have hw2 := hw'.symm; subst hw2))
  go_ret
  exact ⟨rfl, HB.out⟩
set_option maxRecDepth 100000 in
set_option maxHeartbeats 1000000 in
theorem rcheck_1 (r : Rv) (hr : r.ok) (ps : Ps) (w : World) (hp : PL w r.pv ps) (h0 : okId (lst r.id) = true) (h1 : inR r.time 0 1048576 = false) : Calls Tryz.prog 26 #[.agg r.cs] w fun e w' => e = .returned (i64 2) ∧ Below w.heap.size w w' := by
  have HR := hid hr
  have HP := hid hp
  have H0 := hid h0
  have H1 := hid h1
  clear hr hp h0 h1
  go_enter Tryz.func26, Tryz.ntmps26
  go_wp2_with (first
    | ((with_reducible refine wpList_boxR rfl _ rfl r.cs ?_ ?_); exact rfl; intro w1 g1 hc1 hb1 hg1; have HA := hid (RBox.mk' HR.out hc1); have HB := hid hb1; have HP1 := hid (HP.out.below hb1); have c0 := HA.out.c0; have c1 := HA.out.c1; have c2 := HA.out.c2; clear hc1 hb1)
    | (go_at_call 54; refine (rID_any _ _ (by have := HR.out.i; omega)).mono ?_; rintro e w' ⟨rfl, hw'⟩; rw [H0.out]; have hw2 := hw'.symm; subst hw2)
    | (go_at_call 55; refine (from_any _ _ _ _).mono ?_; rintro e w' ⟨rfl, hw'⟩; (first | rw [H1.out]); have hw2 := hw'.symm; subst hw2))
  go_ret
  exact ⟨rfl, HB.out⟩
set_option maxRecDepth 100000 in
set_option maxHeartbeats 1000000 in
theorem rcheck_m0 (r : Rv) (hr : r.ok) (ps : Ps) (w : World) (hp : PL w r.pv ps) (h0 : okId (lst r.id) = true) (h1 : inR r.time 0 1048576 = true) (hm : r.mark = true) (m0 : (r.size == 0) = false) : Calls Tryz.prog 26 #[.agg r.cs] w fun e w' => e = .returned (i64 2) ∧ Below w.heap.size w w' := by
  have HR := hid hr
  have HP := hid hp
  have z0 : ¬ r.size = 0 := by simpa using m0
  clear m0
  have H0 := hid h0
  have H1 := hid h1
  clear hr hp h0 h1
  go_enter Tryz.func26, Tryz.ntmps26
  go_wp2_with (first
    | ((with_reducible refine wpList_boxR rfl _ rfl r.cs ?_ ?_); exact rfl; intro w1 g1 hc1 hb1 hg1; have HA := hid (RBox.mk' HR.out hc1); have HB := hid hb1; have HP1 := hid (HP.out.below hb1); have c0 := HA.out.c0; have c1 := HA.out.c1; have c2 := HA.out.c2; have c3 := HA.out.c3; have c4 := HA.out.c4; have c5 := HA.out.c5; have c6 := HA.out.c6; have c7 := HA.out.c7; have c40 := HA.out.c40; have c41 := HA.out.c41; rw [hm] at c2; clear hc1 hb1)
    | (go_at_call 54; refine (rID_any _ _ (by have := HR.out.i; omega)).mono ?_; rintro e w' ⟨rfl, hw'⟩; rw [H0.out]; have hw2 := hw'.symm; subst hw2)
    | (go_at_call 55; refine (from_any _ _ _ _).mono ?_; rintro e w' ⟨rfl, hw'⟩; (first | rw [H1.out]); have hw2 := hw'.symm; subst hw2))
  go_ret
  exact ⟨rfl, HB.out⟩
set_option maxRecDepth 100000 in
set_option maxHeartbeats 1000000 in
theorem rcheck_m1 (r : Rv) (hr : r.ok) (ps : Ps) (w : World) (hp : PL w r.pv ps) (h0 : okId (lst r.id) = true) (h1 : inR r.time 0 1048576 = true) (hm : r.mark = true) (m0 : (r.size == 0) = true) (m1 : (r.etag.toList.isEmpty) = false) : Calls Tryz.prog 26 #[.agg r.cs] w fun e w' => e = .returned (i64 2) ∧ Below w.heap.size w w' := by
  have HR := hid hr
  have HP := hid hp
  have z0 : r.size = 0 := by simpa using m0
  clear m0
  have H0 := hid h0
  have H1 := hid h1
  clear hr hp h0 h1
  go_enter Tryz.func26, Tryz.ntmps26
  go_wp2_with (first
    | ((with_reducible refine wpList_boxR rfl _ rfl r.cs ?_ ?_); exact rfl; intro w1 g1 hc1 hb1 hg1; have HA := hid (RBox.mk' HR.out hc1); have HB := hid hb1; have HP1 := hid (HP.out.below hb1); have c0 := HA.out.c0; have c1 := HA.out.c1; have c2 := HA.out.c2; have c3 := HA.out.c3; have c4 := HA.out.c4; have c5 := HA.out.c5; have c6 := HA.out.c6; have c7 := HA.out.c7; have c40 := HA.out.c40; have c41 := HA.out.c41; rw [hm] at c2; clear hc1 hb1)
    | (go_at_call 54; refine (rID_any _ _ (by have := HR.out.i; omega)).mono ?_; rintro e w' ⟨rfl, hw'⟩; rw [H0.out]; have hw2 := hw'.symm; subst hw2)
    | (go_at_call 55; refine (from_any _ _ _ _).mono ?_; rintro e w' ⟨rfl, hw'⟩; (first | rw [H1.out]); have hw2 := hw'.symm; subst hw2))
  go_ret
  exact ⟨rfl, HB.out⟩
set_option maxRecDepth 100000 in
set_option maxHeartbeats 1000000 in
theorem rcheck_m2 (r : Rv) (hr : r.ok) (ps : Ps) (w : World) (hp : PL w r.pv ps) (h0 : okId (lst r.id) = true) (h1 : inR r.time 0 1048576 = true) (hm : r.mark = true) (m0 : (r.size == 0) = true) (m1 : (r.etag.toList.isEmpty) = true) (m2 : (r.k == 0) = false) : Calls Tryz.prog 26 #[.agg r.cs] w fun e w' => e = .returned (i64 2) ∧ Below w.heap.size w w' := by
  have HR := hid hr
  have HP := hid hp
  have z0 : r.size = 0 := by simpa using m0
  clear m0
  have z2 : ¬ r.k = 0 := by simpa using m2
  clear m2
  have H0 := hid h0
  have H1 := hid h1
  clear hr hp h0 h1
  go_enter Tryz.func26, Tryz.ntmps26
  go_wp2_with (first
    | ((with_reducible refine wpList_boxR rfl _ rfl r.cs ?_ ?_); exact rfl; intro w1 g1 hc1 hb1 hg1; have HA := hid (RBox.mk' HR.out hc1); have HB := hid hb1; have HP1 := hid (HP.out.below hb1); have c0 := HA.out.c0; have c1 := HA.out.c1; have c2 := HA.out.c2; have c3 := HA.out.c3; have c4 := HA.out.c4; have c5 := HA.out.c5; have c6 := HA.out.c6; have c7 := HA.out.c7; have c40 := HA.out.c40; have c41 := HA.out.c41; rw [hm] at c2; clear hc1 hb1)
    | (go_at_call 54; refine (rID_any _ _ (by have := HR.out.i; omega)).mono ?_; rintro e w' ⟨rfl, hw'⟩; rw [H0.out]; have hw2 := hw'.symm; subst hw2)
    | (go_at_call 55; refine (from_any _ _ _ _).mono ?_; rintro e w' ⟨rfl, hw'⟩; (first | rw [H1.out]); have hw2 := hw'.symm; subst hw2))
  go_ret
  exact ⟨rfl, HB.out⟩
set_option maxRecDepth 100000 in
set_option maxHeartbeats 1000000 in
theorem rcheck_m3 (r : Rv) (hr : r.ok) (ps : Ps) (w : World) (hp : PL w r.pv ps) (h0 : okId (lst r.id) = true) (h1 : inR r.time 0 1048576 = true) (hm : r.mark = true) (m0 : (r.size == 0) = true) (m1 : (r.etag.toList.isEmpty) = true) (m2 : (r.k == 0) = true) (m3 : (r.m == 0) = false) : Calls Tryz.prog 26 #[.agg r.cs] w fun e w' => e = .returned (i64 2) ∧ Below w.heap.size w w' := by
  have HR := hid hr
  have HP := hid hp
  have z0 : r.size = 0 := by simpa using m0
  clear m0
  have z2 : r.k = 0 := by simpa using m2
  clear m2
  have z3 : ¬ r.m = 0 := by simpa using m3
  clear m3
  have H0 := hid h0
  have H1 := hid h1
  clear hr hp h0 h1
  go_enter Tryz.func26, Tryz.ntmps26
  go_wp2_with (first
    | ((with_reducible refine wpList_boxR rfl _ rfl r.cs ?_ ?_); exact rfl; intro w1 g1 hc1 hb1 hg1; have HA := hid (RBox.mk' HR.out hc1); have HB := hid hb1; have HP1 := hid (HP.out.below hb1); have c0 := HA.out.c0; have c1 := HA.out.c1; have c2 := HA.out.c2; have c3 := HA.out.c3; have c4 := HA.out.c4; have c5 := HA.out.c5; have c6 := HA.out.c6; have c7 := HA.out.c7; have c40 := HA.out.c40; have c41 := HA.out.c41; rw [hm] at c2; clear hc1 hb1)
    | (go_at_call 54; refine (rID_any _ _ (by have := HR.out.i; omega)).mono ?_; rintro e w' ⟨rfl, hw'⟩; rw [H0.out]; have hw2 := hw'.symm; subst hw2)
    | (go_at_call 55; refine (from_any _ _ _ _).mono ?_; rintro e w' ⟨rfl, hw'⟩; (first | rw [H1.out]); have hw2 := hw'.symm; subst hw2))
  go_ret
  exact ⟨rfl, HB.out⟩
set_option maxRecDepth 100000 in
set_option maxHeartbeats 1000000 in
theorem rcheck_m4 (r : Rv) (hr : r.ok) (ps : Ps) (w : World) (hp : PL w r.pv ps) (h0 : okId (lst r.id) = true) (h1 : inR r.time 0 1048576 = true) (hm : r.mark = true) (m0 : (r.size == 0) = true) (m1 : (r.etag.toList.isEmpty) = true) (m2 : (r.k == 0) = true) (m3 : (r.m == 0) = true) (m4 : (r.data.toList.isEmpty) = false) : Calls Tryz.prog 26 #[.agg r.cs] w fun e w' => e = .returned (i64 2) ∧ Below w.heap.size w w' := by
  have HR := hid hr
  have HP := hid hp
  have z0 : r.size = 0 := by simpa using m0
  clear m0
  have z2 : r.k = 0 := by simpa using m2
  clear m2
  have z3 : r.m = 0 := by simpa using m3
  clear m3
  have H0 := hid h0
  have H1 := hid h1
  clear hr hp h0 h1
  go_enter Tryz.func26, Tryz.ntmps26
  go_wp2_with (first
    | ((with_reducible refine wpList_boxR rfl _ rfl r.cs ?_ ?_); exact rfl; intro w1 g1 hc1 hb1 hg1; have HA := hid (RBox.mk' HR.out hc1); have HB := hid hb1; have HP1 := hid (HP.out.below hb1); have c0 := HA.out.c0; have c1 := HA.out.c1; have c2 := HA.out.c2; have c3 := HA.out.c3; have c4 := HA.out.c4; have c5 := HA.out.c5; have c6 := HA.out.c6; have c7 := HA.out.c7; have c40 := HA.out.c40; have c41 := HA.out.c41; rw [hm] at c2; clear hc1 hb1)
    | (go_at_call 54; refine (rID_any _ _ (by have := HR.out.i; omega)).mono ?_; rintro e w' ⟨rfl, hw'⟩; rw [H0.out]; have hw2 := hw'.symm; subst hw2)
    | (go_at_call 55; refine (from_any _ _ _ _).mono ?_; rintro e w' ⟨rfl, hw'⟩; (first | rw [H1.out]); have hw2 := hw'.symm; subst hw2))
  go_ret
  exact ⟨rfl, HB.out⟩
set_option maxRecDepth 100000 in
set_option maxHeartbeats 1000000 in
theorem rcheck_m5 (r : Rv) (hr : r.ok) (ps : Ps) (w : World) (hp : PL w r.pv ps) (h0 : okId (lst r.id) = true) (h1 : inR r.time 0 1048576 = true) (hm : r.mark = true) (m0 : (r.size == 0) = true) (m1 : (r.etag.toList.isEmpty) = true) (m2 : (r.k == 0) = true) (m3 : (r.m == 0) = true) (m4 : (r.data.toList.isEmpty) = true) (m5 : decide (r.sum = zeroD) = false) : Calls Tryz.prog 26 #[.agg r.cs] w fun e w' => e = .returned (i64 2) ∧ Below w.heap.size w w' := by
  have HR := hid hr
  have HP := hid hp
  have z0 : r.size = 0 := by simpa using m0
  clear m0
  have z2 : r.k = 0 := by simpa using m2
  clear m2
  have z3 : r.m = 0 := by simpa using m3
  clear m3
  have hsum := neqSum hr.sl zeroD_len
  rw [m5] at hsum
  clear m5
  have H0 := hid h0
  have H1 := hid h1
  clear hr hp h0 h1
  go_enter Tryz.func26, Tryz.ntmps26
  go_wp2_with (first
    | ((with_reducible refine wpList_boxR rfl _ rfl r.cs ?_ ?_); exact rfl; intro w1 g1 hc1 hb1 hg1; have HA := hid (RBox.mk' HR.out hc1); have HB := hid hb1; have HP1 := hid (HP.out.below hb1); have c0 := HA.out.c0; have c1 := HA.out.c1; have c2 := HA.out.c2; have c3 := HA.out.c3; have c4 := HA.out.c4; have c5 := HA.out.c5; have c6 := HA.out.c6; have c7 := HA.out.c7; have c40 := HA.out.c40; have c41 := HA.out.c41; rw [hm] at c2; clear hc1 hb1)
    | (go_at_call 54; refine (rID_any _ _ (by have := HR.out.i; omega)).mono ?_; rintro e w' ⟨rfl, hw'⟩; rw [H0.out]; have hw2 := hw'.symm; subst hw2)
    | (go_at_call 55; refine (from_any _ _ _ _).mono ?_; rintro e w' ⟨rfl, hw'⟩; (first | rw [H1.out]); have hw2 := hw'.symm; subst hw2)
    | ((with_reducible refine wpList_load_at 42 _ rfl ?_ g1 8 ?_ (sumC r.sum) (.array 32 5) ?_ underD rfl ?_ ?_); exact rfl; exact rfl; exact HA.out.cs; (rw [sumC_size, HR.out.sl]; exact sizeD))
    | ((with_reducible refine wpList_build_want 42 _ rfl ?_ (sumC zeroD) ?_ ?_); exact rfl; exact built_zero))
  go_ret
  exact ⟨rfl, HB.out⟩
set_option maxRecDepth 100000 in
set_option maxHeartbeats 1000000 in
theorem rcheck_m6 (r : Rv) (hr : r.ok) (ps : Ps) (w : World) (hp : PL w r.pv ps) (h0 : okId (lst r.id) = true) (h1 : inR r.time 0 1048576 = true) (hm : r.mark = true) (m0 : (r.size == 0) = true) (m1 : (r.etag.toList.isEmpty) = true) (m2 : (r.k == 0) = true) (m3 : (r.m == 0) = true) (m4 : (r.data.toList.isEmpty) = true) (m5 : decide (r.sum = zeroD) = true) (m6 : ps.isEmpty = false) : Calls Tryz.prog 26 #[.agg r.cs] w fun e w' => e = .returned (i64 2) ∧ Below w.heap.size w w' := by
  have HR := hid hr
  have HP := hid hp
  have z0 : r.size = 0 := by simpa using m0
  clear m0
  have z2 : r.k = 0 := by simpa using m2
  clear m2
  have z3 : r.m = 0 := by simpa using m3
  clear m3
  have hsum := neqSum hr.sl zeroD_len
  rw [m5] at hsum
  clear m5
  obtain ⟨pp, pc, hpv, hp1, hp2, hp3⟩ := hp
  have hp : PL w r.pv ps := ⟨pp, pc, hpv, hp1, hp2, hp3⟩
  have hlen : ¬ ps = [] := by cases ps <;> simp_all; try omega
  clear m6 hp1 hp2 hp3
  have H0 := hid h0
  have H1 := hid h1
  clear hr hp h0 h1
  go_enter Tryz.func26, Tryz.ntmps26
  go_wp2_with (first
    | ((with_reducible refine wpList_boxR rfl _ rfl r.cs ?_ ?_); exact rfl; intro w1 g1 hc1 hb1 hg1; have HA := hid (RBox.mk' HR.out hc1); have HB := hid hb1; have HP1 := hid (HP.out.below hb1); have c0 := HA.out.c0; have c1 := HA.out.c1; have c2 := HA.out.c2; have c3 := HA.out.c3; have c4 := HA.out.c4; have c5 := HA.out.c5; have c6 := HA.out.c6; have c7 := HA.out.c7; have c40 := HA.out.c40; have c41 := HA.out.c41; rw [hm] at c2; rw [hpv] at c40; clear hc1 hb1)
    | (go_at_call 54; refine (rID_any _ _ (by have := HR.out.i; omega)).mono ?_; rintro e w' ⟨rfl, hw'⟩; rw [H0.out]; have hw2 := hw'.symm; subst hw2)
    | (go_at_call 55; refine (from_any _ _ _ _).mono ?_; rintro e w' ⟨rfl, hw'⟩; (first | rw [H1.out]); have hw2 := hw'.symm; subst hw2)
    | ((with_reducible refine wpList_load_at 42 _ rfl ?_ g1 8 ?_ (sumC r.sum) (.array 32 5) ?_ underD rfl ?_ ?_); exact rfl; exact rfl; exact HA.out.cs; (rw [sumC_size, HR.out.sl]; exact sizeD))
    | ((with_reducible refine wpList_build_want 42 _ rfl ?_ (sumC zeroD) ?_ ?_); exact rfl; exact built_zero))
  go_ret
  exact ⟨rfl, HB.out⟩
set_option maxRecDepth 100000 in
set_option maxHeartbeats 1000000 in
theorem rcheck_m7 (r : Rv) (hr : r.ok) (ps : Ps) (w : World) (hp : PL w r.pv ps) (h0 : okId (lst r.id) = true) (h1 : inR r.time 0 1048576 = true) (hm : r.mark = true) (m0 : (r.size == 0) = true) (m1 : (r.etag.toList.isEmpty) = true) (m2 : (r.k == 0) = true) (m3 : (r.m == 0) = true) (m4 : (r.data.toList.isEmpty) = true) (m5 : decide (r.sum = zeroD) = true) (m6 : ps.isEmpty = true) (m7 : (r.up.toList.isEmpty) = false) : Calls Tryz.prog 26 #[.agg r.cs] w fun e w' => e = .returned (i64 2) ∧ Below w.heap.size w w' := by
  have HR := hid hr
  have HP := hid hp
  have z0 : r.size = 0 := by simpa using m0
  clear m0
  have z2 : r.k = 0 := by simpa using m2
  clear m2
  have z3 : r.m = 0 := by simpa using m3
  clear m3
  have hsum := neqSum hr.sl zeroD_len
  rw [m5] at hsum
  clear m5
  obtain ⟨pp, pc, hpv, hp1, hp2, hp3⟩ := hp
  have hp : PL w r.pv ps := ⟨pp, pc, hpv, hp1, hp2, hp3⟩
  have hlen : (ps.length : Int) = 0 := by cases ps <;> simp_all; try omega
  clear m6 hp1 hp2 hp3
  have H0 := hid h0
  have H1 := hid h1
  clear hr hp h0 h1
  go_enter Tryz.func26, Tryz.ntmps26
  go_wp2_with (first
    | ((with_reducible refine wpList_boxR rfl _ rfl r.cs ?_ ?_); exact rfl; intro w1 g1 hc1 hb1 hg1; have HA := hid (RBox.mk' HR.out hc1); have HB := hid hb1; have HP1 := hid (HP.out.below hb1); have c0 := HA.out.c0; have c1 := HA.out.c1; have c2 := HA.out.c2; have c3 := HA.out.c3; have c4 := HA.out.c4; have c5 := HA.out.c5; have c6 := HA.out.c6; have c7 := HA.out.c7; have c40 := HA.out.c40; have c41 := HA.out.c41; rw [hm] at c2; rw [hpv] at c40; clear hc1 hb1)
    | (go_at_call 54; refine (rID_any _ _ (by have := HR.out.i; omega)).mono ?_; rintro e w' ⟨rfl, hw'⟩; rw [H0.out]; have hw2 := hw'.symm; subst hw2)
    | (go_at_call 55; refine (from_any _ _ _ _).mono ?_; rintro e w' ⟨rfl, hw'⟩; (first | rw [H1.out]); have hw2 := hw'.symm; subst hw2)
    | ((with_reducible refine wpList_load_at 42 _ rfl ?_ g1 8 ?_ (sumC r.sum) (.array 32 5) ?_ underD rfl ?_ ?_); exact rfl; exact rfl; exact HA.out.cs; (rw [sumC_size, HR.out.sl]; exact sizeD))
    | ((with_reducible refine wpList_build_want 42 _ rfl ?_ (sumC zeroD) ?_ ?_); exact rfl; exact built_zero))
  go_ret
  exact ⟨rfl, HB.out⟩
set_option maxRecDepth 100000 in
set_option maxHeartbeats 1000000 in
theorem rcheck_m8 (r : Rv) (hr : r.ok) (ps : Ps) (w : World) (hp : PL w r.pv ps) (h0 : okId (lst r.id) = true) (h1 : inR r.time 0 1048576 = true) (hm : r.mark = true) (m0 : (r.size == 0) = true) (m1 : (r.etag.toList.isEmpty) = true) (m2 : (r.k == 0) = true) (m3 : (r.m == 0) = true) (m4 : (r.data.toList.isEmpty) = true) (m5 : decide (r.sum = zeroD) = true) (m6 : ps.isEmpty = true) (m7 : (r.up.toList.isEmpty) = true) : Calls Tryz.prog 26 #[.agg r.cs] w fun e w' => e = .returned (i64 0) ∧ Below w.heap.size w w' := by
  have HR := hid hr
  have HP := hid hp
  have z0 : r.size = 0 := by simpa using m0
  clear m0
  have z2 : r.k = 0 := by simpa using m2
  clear m2
  have z3 : r.m = 0 := by simpa using m3
  clear m3
  have hsum := neqSum hr.sl zeroD_len
  rw [m5] at hsum
  clear m5
  obtain ⟨pp, pc, hpv, hp1, hp2, hp3⟩ := hp
  have hp : PL w r.pv ps := ⟨pp, pc, hpv, hp1, hp2, hp3⟩
  have hlen : (ps.length : Int) = 0 := by cases ps <;> simp_all; try omega
  clear m6 hp1 hp2 hp3
  have H0 := hid h0
  have H1 := hid h1
  clear hr hp h0 h1
  go_enter Tryz.func26, Tryz.ntmps26
  go_wp2_with (first
    | ((with_reducible refine wpList_boxR rfl _ rfl r.cs ?_ ?_); exact rfl; intro w1 g1 hc1 hb1 hg1; have HA := hid (RBox.mk' HR.out hc1); have HB := hid hb1; have HP1 := hid (HP.out.below hb1); have c0 := HA.out.c0; have c1 := HA.out.c1; have c2 := HA.out.c2; have c3 := HA.out.c3; have c4 := HA.out.c4; have c5 := HA.out.c5; have c6 := HA.out.c6; have c7 := HA.out.c7; have c40 := HA.out.c40; have c41 := HA.out.c41; rw [hm] at c2; rw [hpv] at c40; clear hc1 hb1)
    | (go_at_call 54; refine (rID_any _ _ (by have := HR.out.i; omega)).mono ?_; rintro e w' ⟨rfl, hw'⟩; rw [H0.out]; have hw2 := hw'.symm; subst hw2)
    | (go_at_call 55; refine (from_any _ _ _ _).mono ?_; rintro e w' ⟨rfl, hw'⟩; (first | rw [H1.out]); have hw2 := hw'.symm; subst hw2)
    | ((with_reducible refine wpList_load_at 42 _ rfl ?_ g1 8 ?_ (sumC r.sum) (.array 32 5) ?_ underD rfl ?_ ?_); exact rfl; exact rfl; exact HA.out.cs; (rw [sumC_size, HR.out.sl]; exact sizeD))
    | ((with_reducible refine wpList_build_want 42 _ rfl ?_ (sumC zeroD) ?_ ?_); exact rfl; exact built_zero))
  go_ret
  exact ⟨rfl, HB.out⟩
end Go.Proofs.YtcbmimjjpkkoeaaGreatDoor

/- The document's Check, some cases. (Written by tools/gen_Vu.py.) -/
namespace Go.Proofs.YtcbmimjjpkkoeaaGreatDoor
open Go Go.RowKit

set_option maxRecDepth 100000 in
set_option maxHeartbeats 1000000 in
theorem rcheck_v0 (r : Rv) (hr : r.ok) (ps : Ps) (w : World) (hp : PL w r.pv ps) (h0 : okId (lst r.id) = true) (h1 : inR r.time 0 1048576 = true) (hm : r.mark = false) (h10 : inR r.size 0 65536 = false) : Calls Tryz.prog 26 #[.agg r.cs] w fun e w' => e = .returned (i64 2) ∧ Below w.heap.size w w' := by
  have HR := hid hr
  have HP := hid hp
  have H0 := hid h0
  have H1 := hid h1
  have H10 := hid h10
  clear hr hp h0 h1 h10
  go_enter Tryz.func26, Tryz.ntmps26
  go_wp2_with (first
    | ((with_reducible refine wpList_boxR rfl _ rfl r.cs ?_ ?_); exact rfl; intro w1 g1 hc1 hb1 hg1; have HA := hid (RBox.mk' HR.out hc1); have HB := hid hb1; have HP1 := hid (HP.out.below hb1); have c0 := HA.out.c0; have c1 := HA.out.c1; have c2 := HA.out.c2; have c3 := HA.out.c3; have c4 := HA.out.c4; have c5 := HA.out.c5; have c6 := HA.out.c6; have c7 := HA.out.c7; have c40 := HA.out.c40; have c41 := HA.out.c41; rw [hm] at c2; clear hc1 hb1)
    | (go_at_call 55; refine (from_any _ _ _ _).mono ?_; rintro e w' ⟨rfl, hw'⟩; (first | rw [H1.out] | rw [H10.out]); have hw2 := hw'.symm; subst hw2)
    | (go_at_call 54; refine (rID_any _ _ (by have := HR.out.i; omega)).mono ?_; rintro e w' ⟨rfl, hw'⟩; rw [H0.out]; have hw2 := hw'.symm; subst hw2))
  go_ret
  exact ⟨rfl, HB.out⟩
set_option maxRecDepth 100000 in
set_option maxHeartbeats 1000000 in
theorem rcheck_v1 (r : Rv) (hr : r.ok) (ps : Ps) (w : World) (hp : PL w r.pv ps) (h0 : okId (lst r.id) = true) (h1 : inR r.time 0 1048576 = true) (hm : r.mark = false) (h10 : inR r.size 0 65536 = true) (h11 : okTag (lst r.etag) = false) : Calls Tryz.prog 26 #[.agg r.cs] w fun e w' => e = .returned (i64 2) ∧ Below w.heap.size w w' := by
  have HR := hid hr
  have HP := hid hp
  have H0 := hid h0
  have H1 := hid h1
  have H10 := hid h10
  have H11 := hid h11
  clear hr hp h0 h1 h10 h11
  go_enter Tryz.func26, Tryz.ntmps26
  go_wp2_with (first
    | ((with_reducible refine wpList_boxR rfl _ rfl r.cs ?_ ?_); exact rfl; intro w1 g1 hc1 hb1 hg1; have HA := hid (RBox.mk' HR.out hc1); have HB := hid hb1; have HP1 := hid (HP.out.below hb1); have c0 := HA.out.c0; have c1 := HA.out.c1; have c2 := HA.out.c2; have c3 := HA.out.c3; have c4 := HA.out.c4; have c5 := HA.out.c5; have c6 := HA.out.c6; have c7 := HA.out.c7; have c40 := HA.out.c40; have c41 := HA.out.c41; rw [hm] at c2; clear hc1 hb1)
    | (go_at_call 55; refine (from_any _ _ _ _).mono ?_; rintro e w' ⟨rfl, hw'⟩; (first | rw [H1.out] | rw [H10.out]); have hw2 := hw'.symm; subst hw2)
    | (go_at_call 54; refine (rID_any _ _ (by have := HR.out.i; omega)).mono ?_; rintro e w' ⟨rfl, hw'⟩; rw [H0.out]; have hw2 := hw'.symm; subst hw2)
    | (go_at_call 56; refine (rTag_any _ _ (by have := HR.out.e; omega)).mono ?_; rintro e w' ⟨rfl, hw'⟩; rw [H11.out]; have hw2 := hw'.symm; subst hw2))
  go_ret
  exact ⟨rfl, HB.out⟩
set_option maxRecDepth 100000 in
set_option maxHeartbeats 1000000 in
theorem rcheck_v2 (r : Rv) (hr : r.ok) (ps : Ps) (w : World) (hp : PL w r.pv ps) (h0 : okId (lst r.id) = true) (h1 : inR r.time 0 1048576 = true) (hm : r.mark = false) (h10 : inR r.size 0 65536 = true) (h11 : okTag (lst r.etag) = true) (h12 : inR r.k 1 15 = false) : Calls Tryz.prog 26 #[.agg r.cs] w fun e w' => e = .returned (i64 2) ∧ Below w.heap.size w w' := by
  have HR := hid hr
  have HP := hid hp
  have H0 := hid h0
  have H1 := hid h1
  have H10 := hid h10
  have H11 := hid h11
  have H12 := hid h12
  clear hr hp h0 h1 h10 h11 h12
  go_enter Tryz.func26, Tryz.ntmps26
  go_wp2_with (first
    | ((with_reducible refine wpList_boxR rfl _ rfl r.cs ?_ ?_); exact rfl; intro w1 g1 hc1 hb1 hg1; have HA := hid (RBox.mk' HR.out hc1); have HB := hid hb1; have HP1 := hid (HP.out.below hb1); have c0 := HA.out.c0; have c1 := HA.out.c1; have c2 := HA.out.c2; have c3 := HA.out.c3; have c4 := HA.out.c4; have c5 := HA.out.c5; have c6 := HA.out.c6; have c7 := HA.out.c7; have c40 := HA.out.c40; have c41 := HA.out.c41; rw [hm] at c2; clear hc1 hb1)
    | (go_at_call 55; refine (from_any _ _ _ _).mono ?_; rintro e w' ⟨rfl, hw'⟩; (first | rw [H1.out] | rw [H10.out] | rw [H12.out]); have hw2 := hw'.symm; subst hw2)
    | (go_at_call 54; refine (rID_any _ _ (by have := HR.out.i; omega)).mono ?_; rintro e w' ⟨rfl, hw'⟩; rw [H0.out]; have hw2 := hw'.symm; subst hw2)
    | (go_at_call 56; refine (rTag_any _ _ (by have := HR.out.e; omega)).mono ?_; rintro e w' ⟨rfl, hw'⟩; rw [H11.out]; have hw2 := hw'.symm; subst hw2))
  go_ret
  exact ⟨rfl, HB.out⟩
set_option maxRecDepth 100000 in
set_option maxHeartbeats 1000000 in
theorem rcheck_v3 (r : Rv) (hr : r.ok) (ps : Ps) (w : World) (hp : PL w r.pv ps) (h0 : okId (lst r.id) = true) (h1 : inR r.time 0 1048576 = true) (hm : r.mark = false) (h10 : inR r.size 0 65536 = true) (h11 : okTag (lst r.etag) = true) (h12 : inR r.k 1 15 = true) (h13 : inR r.m 1 15 = false) : Calls Tryz.prog 26 #[.agg r.cs] w fun e w' => e = .returned (i64 2) ∧ Below w.heap.size w w' := by
  have HR := hid hr
  have HP := hid hp
  have H0 := hid h0
  have H1 := hid h1
  have H10 := hid h10
  have H11 := hid h11
  have H12 := hid h12
  have H13 := hid h13
  clear hr hp h0 h1 h10 h11 h12 h13
  go_enter Tryz.func26, Tryz.ntmps26
  go_wp2_with (first
    | ((with_reducible refine wpList_boxR rfl _ rfl r.cs ?_ ?_); exact rfl; intro w1 g1 hc1 hb1 hg1; have HA := hid (RBox.mk' HR.out hc1); have HB := hid hb1; have HP1 := hid (HP.out.below hb1); have c0 := HA.out.c0; have c1 := HA.out.c1; have c2 := HA.out.c2; have c3 := HA.out.c3; have c4 := HA.out.c4; have c5 := HA.out.c5; have c6 := HA.out.c6; have c7 := HA.out.c7; have c40 := HA.out.c40; have c41 := HA.out.c41; rw [hm] at c2; clear hc1 hb1)
    | (go_at_call 55; refine (from_any _ _ _ _).mono ?_; rintro e w' ⟨rfl, hw'⟩; (first | rw [H1.out] | rw [H10.out] | rw [H12.out] | rw [H13.out]); have hw2 := hw'.symm; subst hw2)
    | (go_at_call 54; refine (rID_any _ _ (by have := HR.out.i; omega)).mono ?_; rintro e w' ⟨rfl, hw'⟩; rw [H0.out]; have hw2 := hw'.symm; subst hw2)
    | (go_at_call 56; refine (rTag_any _ _ (by have := HR.out.e; omega)).mono ?_; rintro e w' ⟨rfl, hw'⟩; rw [H11.out]; have hw2 := hw'.symm; subst hw2))
  go_ret
  exact ⟨rfl, HB.out⟩
set_option maxRecDepth 100000 in
set_option maxHeartbeats 1000000 in
theorem rcheck_v4 (r : Rv) (hr : r.ok) (ps : Ps) (w : World) (hp : PL w r.pv ps) (h0 : okId (lst r.id) = true) (h1 : inR r.time 0 1048576 = true) (hm : r.mark = false) (h10 : inR r.size 0 65536 = true) (h11 : okTag (lst r.etag) = true) (h12 : inR r.k 1 15 = true) (h13 : inR r.m 1 15 = true) (v4 : ¬ r.k + r.m ≤ 16) : Calls Tryz.prog 26 #[.agg r.cs] w fun e w' => e = .returned (i64 2) ∧ Below w.heap.size w w' := by
  have HR := hid hr
  have HP := hid hp
  have hkm :  16 < r.k + r.m := by omega
  have hk1 := (inR_iff.1 h12).1
  have hk2 := (inR_iff.1 h12).2
  have hk3 := (inR_iff.1 h13).1
  have hk4 := (inR_iff.1 h13).2
  have H0 := hid h0
  have H1 := hid h1
  have H10 := hid h10
  have H11 := hid h11
  have H12 := hid h12
  have H13 := hid h13
  clear hr hp h0 h1 h10 h11 h12 h13
  go_enter Tryz.func26, Tryz.ntmps26
  go_wp2_with (first
    | ((with_reducible refine wpList_boxR rfl _ rfl r.cs ?_ ?_); exact rfl; intro w1 g1 hc1 hb1 hg1; have HA := hid (RBox.mk' HR.out hc1); have HB := hid hb1; have HP1 := hid (HP.out.below hb1); have c0 := HA.out.c0; have c1 := HA.out.c1; have c2 := HA.out.c2; have c3 := HA.out.c3; have c4 := HA.out.c4; have c5 := HA.out.c5; have c6 := HA.out.c6; have c7 := HA.out.c7; have c40 := HA.out.c40; have c41 := HA.out.c41; rw [hm] at c2; clear hc1 hb1)
    | (go_at_call 55; refine (from_any _ _ _ _).mono ?_; rintro e w' ⟨rfl, hw'⟩; (first | rw [H1.out] | rw [H10.out] | rw [H12.out] | rw [H13.out]); have hw2 := hw'.symm; subst hw2)
    | (go_at_call 54; refine (rID_any _ _ (by have := HR.out.i; omega)).mono ?_; rintro e w' ⟨rfl, hw'⟩; rw [H0.out]; have hw2 := hw'.symm; subst hw2)
    | (go_at_call 56; refine (rTag_any _ _ (by have := HR.out.e; omega)).mono ?_; rintro e w' ⟨rfl, hw'⟩; rw [H11.out]; have hw2 := hw'.symm; subst hw2))
  go_ret
  exact ⟨rfl, HB.out⟩
set_option maxRecDepth 100000 in
set_option maxHeartbeats 1000000 in
theorem rcheck_v5 (r : Rv) (hr : r.ok) (ps : Ps) (w : World) (hp : PL w r.pv ps) (h0 : okId (lst r.id) = true) (h1 : inR r.time 0 1048576 = true) (hm : r.mark = false) (h10 : inR r.size 0 65536 = true) (h11 : okTag (lst r.etag) = true) (h12 : inR r.k 1 15 = true) (h13 : inR r.m 1 15 = true) (v4 : r.k + r.m ≤ 16) (h15 : okData (lst r.data) = false) : Calls Tryz.prog 26 #[.agg r.cs] w fun e w' => e = .returned (i64 2) ∧ Below w.heap.size w w' := by
  have HR := hid hr
  have HP := hid hp
  have hkm : ¬ 16 < r.k + r.m := by omega
  have hk1 := (inR_iff.1 h12).1
  have hk2 := (inR_iff.1 h12).2
  have hk3 := (inR_iff.1 h13).1
  have hk4 := (inR_iff.1 h13).2
  have H0 := hid h0
  have H1 := hid h1
  have H10 := hid h10
  have H11 := hid h11
  have H12 := hid h12
  have H13 := hid h13
  have H15 := hid h15
  clear hr hp h0 h1 h10 h11 h12 h13 h15
  go_enter Tryz.func26, Tryz.ntmps26
  go_wp2_with (first
    | ((with_reducible refine wpList_boxR rfl _ rfl r.cs ?_ ?_); exact rfl; intro w1 g1 hc1 hb1 hg1; have HA := hid (RBox.mk' HR.out hc1); have HB := hid hb1; have HP1 := hid (HP.out.below hb1); have c0 := HA.out.c0; have c1 := HA.out.c1; have c2 := HA.out.c2; have c3 := HA.out.c3; have c4 := HA.out.c4; have c5 := HA.out.c5; have c6 := HA.out.c6; have c7 := HA.out.c7; have c40 := HA.out.c40; have c41 := HA.out.c41; rw [hm] at c2; clear hc1 hb1)
    | (go_at_call 55; refine (from_any _ _ _ _).mono ?_; rintro e w' ⟨rfl, hw'⟩; (first | rw [H1.out] | rw [H10.out] | rw [H12.out] | rw [H13.out]); have hw2 := hw'.symm; subst hw2)
    | (go_at_call 54; refine (rID_any _ _ (by have := HR.out.i; omega)).mono ?_; rintro e w' ⟨rfl, hw'⟩; rw [H0.out]; have hw2 := hw'.symm; subst hw2)
    | (go_at_call 56; refine (rTag_any _ _ (by have := HR.out.e; omega)).mono ?_; rintro e w' ⟨rfl, hw'⟩; rw [H11.out]; have hw2 := hw'.symm; subst hw2)
    | (go_at_call 57; refine (rData_any _ _ (by have := HR.out.d; omega)).mono ?_; rintro e w' ⟨rfl, hw'⟩; rw [H15.out]; have hw2 := hw'.symm; subst hw2))
  go_ret
  exact ⟨rfl, HB.out⟩
set_option maxRecDepth 100000 in
set_option maxHeartbeats 1000000 in
theorem rcheck_v6 (r : Rv) (hr : r.ok) (ps : Ps) (w : World) (hp : PL w r.pv ps) (h0 : okId (lst r.id) = true) (h1 : inR r.time 0 1048576 = true) (hm : r.mark = false) (h10 : inR r.size 0 65536 = true) (h11 : okTag (lst r.etag) = true) (h12 : inR r.k 1 15 = true) (h13 : inR r.m 1 15 = true) (v4 : r.k + r.m ≤ 16) (h15 : okData (lst r.data) = true) (h16 : okParts ps r.size = false) : Calls Tryz.prog 26 #[.agg r.cs] w fun e w' => e = .returned (i64 2) ∧ Below w.heap.size w w' := by
  have HR := hid hr
  have HP := hid hp
  have hkm : ¬ 16 < r.k + r.m := by omega
  have hk1 := (inR_iff.1 h12).1
  have hk2 := (inR_iff.1 h12).2
  have hk3 := (inR_iff.1 h13).1
  have hk4 := (inR_iff.1 h13).2
  have H0 := hid h0
  have H1 := hid h1
  have H10 := hid h10
  have H11 := hid h11
  have H12 := hid h12
  have H13 := hid h13
  have H15 := hid h15
  have H16 := hid h16
  clear hr hp h0 h1 h10 h11 h12 h13 h15 h16
  go_enter Tryz.func26, Tryz.ntmps26
  go_wp2_with (first
    | ((with_reducible refine wpList_boxR rfl _ rfl r.cs ?_ ?_); exact rfl; intro w1 g1 hc1 hb1 hg1; have HA := hid (RBox.mk' HR.out hc1); have HB := hid hb1; have HP1 := hid (HP.out.below hb1); have c0 := HA.out.c0; have c1 := HA.out.c1; have c2 := HA.out.c2; have c3 := HA.out.c3; have c4 := HA.out.c4; have c5 := HA.out.c5; have c6 := HA.out.c6; have c7 := HA.out.c7; have c40 := HA.out.c40; have c41 := HA.out.c41; rw [hm] at c2; clear hc1 hb1)
    | (go_at_call 55; refine (from_any _ _ _ _).mono ?_; rintro e w' ⟨rfl, hw'⟩; (first | rw [H1.out] | rw [H10.out] | rw [H12.out] | rw [H13.out]); have hw2 := hw'.symm; subst hw2)
    | (go_at_call 54; refine (rID_any _ _ (by have := HR.out.i; omega)).mono ?_; rintro e w' ⟨rfl, hw'⟩; rw [H0.out]; have hw2 := hw'.symm; subst hw2)
    | (go_at_call 56; refine (rTag_any _ _ (by have := HR.out.e; omega)).mono ?_; rintro e w' ⟨rfl, hw'⟩; rw [H11.out]; have hw2 := hw'.symm; subst hw2)
    | (go_at_call 57; refine (rData_any _ _ (by have := HR.out.d; omega)).mono ?_; rintro e w' ⟨rfl, hw'⟩; rw [H15.out]; have hw2 := hw'.symm; subst hw2)
    | (go_at_call 58; refine (rParts_any _ ps _ _ HP1.out).mono ?_; rintro e w' ⟨rfl, hw'⟩; rw [H16.out]; have hw2 := hw'.symm; subst hw2))
  go_ret
  exact ⟨rfl, HB.out⟩
set_option maxRecDepth 100000 in
set_option maxHeartbeats 1000000 in
theorem rcheck_v7a (r : Rv) (hr : r.ok) (ps : Ps) (w : World) (hp : PL w r.pv ps) (h0 : okId (lst r.id) = true) (h1 : inR r.time 0 1048576 = true) (hm : r.mark = false) (h10 : inR r.size 0 65536 = true) (h11 : okTag (lst r.etag) = true) (h12 : inR r.k 1 15 = true) (h13 : inR r.m 1 15 = true) (v4 : r.k + r.m ≤ 16) (h15 : okData (lst r.data) = true) (h16 : okParts ps r.size = true) (u0 : r.up.toList.isEmpty = true) : Calls Tryz.prog 26 #[.agg r.cs] w fun e w' => e = .returned (i64 0) ∧ Below w.heap.size w w' := by
  have HR := hid hr
  have HP := hid hp
  have hkm : ¬ 16 < r.k + r.m := by omega
  have hk1 := (inR_iff.1 h12).1
  have hk2 := (inR_iff.1 h12).2
  have hk3 := (inR_iff.1 h13).1
  have hk4 := (inR_iff.1 h13).2
  have H0 := hid h0
  have H1 := hid h1
  have H10 := hid h10
  have H11 := hid h11
  have H12 := hid h12
  have H13 := hid h13
  have H15 := hid h15
  have H16 := hid h16
  clear hr hp h0 h1 h10 h11 h12 h13 h15 h16
  go_enter Tryz.func26, Tryz.ntmps26
  go_wp2_with (first
    | ((with_reducible refine wpList_boxR rfl _ rfl r.cs ?_ ?_); exact rfl; intro w1 g1 hc1 hb1 hg1; have HA := hid (RBox.mk' HR.out hc1); have HB := hid hb1; have HP1 := hid (HP.out.below hb1); have c0 := HA.out.c0; have c1 := HA.out.c1; have c2 := HA.out.c2; have c3 := HA.out.c3; have c4 := HA.out.c4; have c5 := HA.out.c5; have c6 := HA.out.c6; have c7 := HA.out.c7; have c40 := HA.out.c40; have c41 := HA.out.c41; rw [hm] at c2; clear hc1 hb1)
    | (go_at_call 55; refine (from_any _ _ _ _).mono ?_; rintro e w' ⟨rfl, hw'⟩; (first | rw [H1.out] | rw [H10.out] | rw [H12.out] | rw [H13.out]); have hw2 := hw'.symm; subst hw2)
    | (go_at_call 54; refine (rID_any _ _ (by have := HR.out.i; omega)).mono ?_; rintro e w' ⟨rfl, hw'⟩; rw [H0.out]; have hw2 := hw'.symm; subst hw2)
    | (go_at_call 56; refine (rTag_any _ _ (by have := HR.out.e; omega)).mono ?_; rintro e w' ⟨rfl, hw'⟩; rw [H11.out]; have hw2 := hw'.symm; subst hw2)
    | (go_at_call 57; refine (rData_any _ _ (by have := HR.out.d; omega)).mono ?_; rintro e w' ⟨rfl, hw'⟩; rw [H15.out]; have hw2 := hw'.symm; subst hw2)
    | (go_at_call 58; refine (rParts_any _ ps _ _ HP1.out).mono ?_; rintro e w' ⟨rfl, hw'⟩; rw [H16.out]; have hw2 := hw'.symm; subst hw2))
  go_ret
  exact ⟨rfl, HB.out⟩
set_option maxRecDepth 100000 in
set_option maxHeartbeats 1000000 in
theorem rcheck_v7b (r : Rv) (hr : r.ok) (ps : Ps) (w : World) (hp : PL w r.pv ps) (h0 : okId (lst r.id) = true) (h1 : inR r.time 0 1048576 = true) (hm : r.mark = false) (h10 : inR r.size 0 65536 = true) (h11 : okTag (lst r.etag) = true) (h12 : inR r.k 1 15 = true) (h13 : inR r.m 1 15 = true) (v4 : r.k + r.m ≤ 16) (h15 : okData (lst r.data) = true) (h16 : okParts ps r.size = true) (u0 : r.up.toList.isEmpty = false) (h20 : okId (lst r.up) = true) : Calls Tryz.prog 26 #[.agg r.cs] w fun e w' => e = .returned (i64 0) ∧ Below w.heap.size w w' := by
  have HR := hid hr
  have HP := hid hp
  have hkm : ¬ 16 < r.k + r.m := by omega
  have hk1 := (inR_iff.1 h12).1
  have hk2 := (inR_iff.1 h12).2
  have hk3 := (inR_iff.1 h13).1
  have hk4 := (inR_iff.1 h13).2
  have H0 := hid h0
  have H1 := hid h1
  have H10 := hid h10
  have H11 := hid h11
  have H12 := hid h12
  have H13 := hid h13
  have H15 := hid h15
  have H16 := hid h16
  have H20 := hid h20
  clear hr hp h0 h1 h10 h11 h12 h13 h15 h16 h20
  go_enter Tryz.func26, Tryz.ntmps26
  go_wp2_with (first
    | ((with_reducible refine wpList_boxR rfl _ rfl r.cs ?_ ?_); exact rfl; intro w1 g1 hc1 hb1 hg1; have HA := hid (RBox.mk' HR.out hc1); have HB := hid hb1; have HP1 := hid (HP.out.below hb1); have c0 := HA.out.c0; have c1 := HA.out.c1; have c2 := HA.out.c2; have c3 := HA.out.c3; have c4 := HA.out.c4; have c5 := HA.out.c5; have c6 := HA.out.c6; have c7 := HA.out.c7; have c40 := HA.out.c40; have c41 := HA.out.c41; rw [hm] at c2; clear hc1 hb1)
    | (go_at_call 55; refine (from_any _ _ _ _).mono ?_; rintro e w' ⟨rfl, hw'⟩; (first | rw [H1.out] | rw [H10.out] | rw [H12.out] | rw [H13.out]); have hw2 := hw'.symm; subst hw2)
    | (go_at_call 54; (first | ((with_reducible refine (rIDb H0.out _ (by have := HR.out.i; omega)).mono ?_)) | ((with_reducible refine (rIDb H20.out _ (by have := HR.out.u; omega)).mono ?_))); rintro e w' ⟨rfl, hw'⟩; have hw2 := hw'.symm; subst hw2)
    | (go_at_call 56; refine (rTag_any _ _ (by have := HR.out.e; omega)).mono ?_; rintro e w' ⟨rfl, hw'⟩; rw [H11.out]; have hw2 := hw'.symm; subst hw2)
    | (go_at_call 57; refine (rData_any _ _ (by have := HR.out.d; omega)).mono ?_; rintro e w' ⟨rfl, hw'⟩; rw [H15.out]; have hw2 := hw'.symm; subst hw2)
    | (go_at_call 58; refine (rParts_any _ ps _ _ HP1.out).mono ?_; rintro e w' ⟨rfl, hw'⟩; rw [H16.out]; have hw2 := hw'.symm; subst hw2))
  go_ret
  exact ⟨rfl, HB.out⟩
set_option maxRecDepth 100000 in
set_option maxHeartbeats 1000000 in
theorem rcheck_v7c (r : Rv) (hr : r.ok) (ps : Ps) (w : World) (hp : PL w r.pv ps) (h0 : okId (lst r.id) = true) (h1 : inR r.time 0 1048576 = true) (hm : r.mark = false) (h10 : inR r.size 0 65536 = true) (h11 : okTag (lst r.etag) = true) (h12 : inR r.k 1 15 = true) (h13 : inR r.m 1 15 = true) (v4 : r.k + r.m ≤ 16) (h15 : okData (lst r.data) = true) (h16 : okParts ps r.size = true) (u0 : r.up.toList.isEmpty = false) (h20 : okId (lst r.up) = false) : Calls Tryz.prog 26 #[.agg r.cs] w fun e w' => e = .returned (i64 2) ∧ Below w.heap.size w w' := by
  have HR := hid hr
  have HP := hid hp
  have hkm : ¬ 16 < r.k + r.m := by omega
  have hk1 := (inR_iff.1 h12).1
  have hk2 := (inR_iff.1 h12).2
  have hk3 := (inR_iff.1 h13).1
  have hk4 := (inR_iff.1 h13).2
  have H0 := hid h0
  have H1 := hid h1
  have H10 := hid h10
  have H11 := hid h11
  have H12 := hid h12
  have H13 := hid h13
  have H15 := hid h15
  have H16 := hid h16
  have H20 := hid h20
  clear hr hp h0 h1 h10 h11 h12 h13 h15 h16 h20
  go_enter Tryz.func26, Tryz.ntmps26
  go_wp2_with (first
    | ((with_reducible refine wpList_boxR rfl _ rfl r.cs ?_ ?_); exact rfl; intro w1 g1 hc1 hb1 hg1; have HA := hid (RBox.mk' HR.out hc1); have HB := hid hb1; have HP1 := hid (HP.out.below hb1); have c0 := HA.out.c0; have c1 := HA.out.c1; have c2 := HA.out.c2; have c3 := HA.out.c3; have c4 := HA.out.c4; have c5 := HA.out.c5; have c6 := HA.out.c6; have c7 := HA.out.c7; have c40 := HA.out.c40; have c41 := HA.out.c41; rw [hm] at c2; clear hc1 hb1)
    | (go_at_call 55; refine (from_any _ _ _ _).mono ?_; rintro e w' ⟨rfl, hw'⟩; (first | rw [H1.out] | rw [H10.out] | rw [H12.out] | rw [H13.out]); have hw2 := hw'.symm; subst hw2)
    | (go_at_call 54; (first | ((with_reducible refine (rIDb H0.out _ (by have := HR.out.i; omega)).mono ?_)) | ((with_reducible refine (rIDb H20.out _ (by have := HR.out.u; omega)).mono ?_))); rintro e w' ⟨rfl, hw'⟩; have hw2 := hw'.symm; subst hw2)
    | (go_at_call 56; refine (rTag_any _ _ (by have := HR.out.e; omega)).mono ?_; rintro e w' ⟨rfl, hw'⟩; rw [H11.out]; have hw2 := hw'.symm; subst hw2)
    | (go_at_call 57; refine (rData_any _ _ (by have := HR.out.d; omega)).mono ?_; rintro e w' ⟨rfl, hw'⟩; rw [H15.out]; have hw2 := hw'.symm; subst hw2)
    | (go_at_call 58; refine (rParts_any _ ps _ _ HP1.out).mono ?_; rintro e w' ⟨rfl, hw'⟩; rw [H16.out]; have hw2 := hw'.symm; subst hw2))
  go_ret
  exact ⟨rfl, HB.out⟩
end Go.Proofs.YtcbmimjjpkkoeaaGreatDoor
