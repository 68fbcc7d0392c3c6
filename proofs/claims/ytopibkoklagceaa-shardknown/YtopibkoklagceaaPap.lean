/- Texts laid into one, cut to what is needed: the remark ahead of each part says what is proved there. -/
import Derived.Test.YtopibkoklagceaaPao
/- Which parts may be: contracts of partsMake of package record and of the document's parts. -/
namespace Go.Proofs.Ytopibkoklagceaa
open Go Go.RowKit

def mkP : Int → Int → Ps → Bool
  | _, left, [] => decide (left = 0)
  | last, left, p :: r => inR p.1 (last + 1) 10000 && (inR p.2 0 left && mkP p.1 (left - p.2) r)
theorem okPs_sum : ∀ {last : Int} {ps : Ps}, okPs last ps = true → 0 ≤ sumPs ps ∧ sumPs ps ≤ 65536 * ps.length
  | _, [], _ => by simp [sumPs]
  | last, p :: r, h => by
    simp [okPs, inR] at h
    have := okPs_sum h.2
    unfold sumPs at this ⊢
    simp only [List.map_cons, List.sum_cons, List.length_cons]
    omega
theorem mkP_eq : ∀ (ps : Ps) (last left : Int), 0 ≤ left → left ≤ 65536 → mkP last left ps = (okPs last ps && decide (sumPs ps = left))
  | [], last, left, h0, h1 => by simp [mkP, okPs, sumPs, eq_comm]
  | p :: r, last, left, h0, h1 => by
    have hs : sumPs (p :: r) = p.2 + sumPs r := by simp [sumPs]
    by_cases hb : 0 ≤ p.2 ∧ p.2 ≤ left
    · have ih := mkP_eq r p.1 (left - p.2) (by omega) (by omega)
      have e1 : inR p.2 0 left = true := inR_iff.2 hb
      have e2 : inR p.2 0 65536 = true := inR_iff.2 (by omega)
      have e3 : decide (sumPs r = left - p.2) = decide (sumPs (p :: r) = left) := by rw [hs]; congr 1; rw [eq_iff_iff]; omega
      have e4 : inR p.1 (last + 1) 10000 = (decide (last < p.1) && decide (p.1 ≤ 10000)) := by unfold inR; congr 1
      unfold mkP okPs
      rw [e1, e2, ih, e3, e4]
      simp only [Bool.true_and, Bool.and_true, Bool.and_assoc]
    · have e1 : inR p.2 0 left = false := by unfold inR; simp; omega
      have e5 : (okPs last (p :: r) && decide (sumPs (p :: r) = left)) = false := by
        cases h : okPs last (p :: r)
        · rfl
        · have h2 := h
          simp [okPs, inR] at h2
          have := okPs_sum h2.2
          simp only [Bool.true_and]
          exact decide_eq_false (by rw [hs]; omega)
      rw [e5]; unfold mkP; rw [e1]; simp
theorem okParts_mk {ps : Ps} {size : Int} (h0 : 0 ≤ size) (h1 : size ≤ 65536) (hne : ps ≠ []) (hl : ps.length ≤ 32) : okParts ps size = mkP 0 size ps := by
  rw [mkP_eq ps 0 size h0 h1]
  unfold okParts
  have : ps.isEmpty = false := by cases ps <;> simp_all
  simp [hl, this]
theorem PL.at {w : World} {po : Option Addr} {n c : Nat} {ps : Ps} (h : PL w (.slice po n c) ps) {k : Nat} (hk : k < ps.length) : ∃ b o, po = some ⟨b, o, none⟩ ∧ w.cell? ⟨b, o + k * 2, none⟩ = some (i64 (ps.getD k (0, 0)).1) ∧ w.cell? ⟨b, o + k * 2 + 1, none⟩ = some (i64 (ps.getD k (0, 0)).2) := by
  obtain ⟨po', c', e, _, _, h⟩ := h
  cases e
  rcases h with h | ⟨b, o, hp, h⟩
  · subst h; simp at hk
  · exact ⟨b, o, hp, h k hk⟩
theorem drop_consP {ps : Ps} {i : Nat} (h : i < ps.length) : ps.drop i = ps.getD i (0, 0) :: ps.drop (i + 1) := by
  rw [List.drop_eq_getElem_cons h]; simp [List.getD, h]
theorem mkB {w w1 : World} (h : Below w.heap.size w w1) {o : Obj} : Below w.heap.size w (w1.alloc o) := h.alloc h.size _
set_option maxRecDepth 100000 in
set_option maxHeartbeats 1000000 in
theorem partsMake_any (v : Value) (ps : Ps) (size : Int) (w : World) (hv : PL w v ps) (h0 : 0 ≤ size) (h1 : size ≤ 65536) : Calls Try.prog 54 #[v, i64 size] w fun e w' => e = .returned (.bool (okParts ps size)) ∧ Below w.heap.size w w' := by
  have HV := hid hv
  obtain ⟨po, c, rfl, hc, hl, _⟩ := hv
  by_cases hne : ps = []
  · subst hne
    go_enter Try.func54, Try.ntmps54
    go_wp2
    go_ret
    exact ⟨by simp [okParts, okPs], Below.refl _ _⟩
  have hpos : 0 < ps.length := List.length_pos_iff.2 hne
  have hz : ((ps.length : Int) == 0) = false := by simp; omega
  by_cases hbig : 32 < ps.length
  · have hbig' : 32 < (ps.length : Int) := by omega
    have e : Hid (okParts ps size = false) := by unfold okParts Hid; simp; omega
    go_enter Try.func54, Try.ntmps54
    go_wp2
    go_ret
    exact ⟨by rw [e.out]; rfl, Below.refl _ _⟩
  have hsm : ¬ 32 < (ps.length : Int) := by omega
  have HE := hid (okParts_mk h0 h1 hne (by omega))
  clear hz
  have hz : ¬ (ps.length : Int) = 0 := by omega
  generalize okParts ps size = R at *
  go_enter Try.func54, Try.ntmps54
  go_wp2
  go_loopw [5, 6, 18] (fun lv fv iv wr => ∃ (k : Nat) (last left : Int), k ≤ ps.length ∧ lv = i64 last ∧ fv = i64 left ∧ iv = i64 k ∧ 0 ≤ last ∧ last ≤ 10000 ∧ 0 ≤ left ∧ left ≤ 65536 ∧ R = mkP last left (ps.drop k) ∧ Below w.heap.size w wr) (fun _ _ iv _ => (ps.length - intOf iv).toNat)
  case atStart => exact ⟨0, 0, size, by omega, rfl, rfl, rfl, by omega, by omega, h0, h1, HE.out, Below.refl _ _⟩
  case round =>
    clear HE hz hsm
    obtain ⟨k, last, left, hk, rfl, rfl, rfl, hl0, hl1, hf0, hf1, hR, hw⟩ := hrel
    have HW := hid hw
    by_cases hlt : k < ps.length
    · have hlt' : (k : Int) < (ps.length : Int) := by omega
      rw [drop_consP hlt, mkP] at hR
      obtain ⟨b, o, hpo, x1, x2⟩ := (HV.out.below hw).at hlt
      subst hpo
      have HR := hid hR
      clear hR hw
      generalize hX1 : (ps.getD k (0, 0)).1 = X1 at *
      generalize hX2 : (ps.getD k (0, 0)).2 = X2 at *
      clear hX1 hX2
      cases i1 : inR X1 (last + 1) 10000
      · rw [i1] at HR
        go_wp2_with (go_at_call 38; refine (between_any _ _ _ _).mono ?_; rintro e w' ⟨rfl, hw'⟩; rw [i1]; have hw2 := hw'.symm; subst hw2)
        go_ret
        exact ⟨by rw [HR.out]; rfl, mkB HW.out⟩
      · rw [i1] at HR
        have hr1 := inR_iff.1 i1
        cases i2 : inR X2 0 left
        · rw [i2] at HR
          go_wp2_with (go_at_call 38; refine (between_any _ _ _ _).mono ?_; rintro e w' ⟨rfl, hw'⟩; first | rw [i1] | rw [i2]; have hw2 := hw'.symm; subst hw2)
          go_ret
          exact ⟨by rw [HR.out]; rfl, mkB HW.out⟩
        · rw [i2] at HR
          have hr2 := inR_iff.1 i2
          go_wp2_with (go_at_call 38; refine (between_any _ _ _ _).mono ?_; rintro e w' ⟨rfl, hw'⟩; first | rw [i1] | rw [i2]; have hw2 := hw'.symm; subst hw2)
          go_region
          go_wp2
          exact ⟨⟨k + 1, X1, left - X2, by omega, rfl, rfl, by simp, by omega, by omega, by omega, by omega, by rw [HR.out]; rfl, (mkB HW.out).drew⟩, by simp [intOf]; omega⟩
    · have hlt' : ¬ (k : Int) < (ps.length : Int) := by omega
      rw [List.drop_eq_nil_of_le (by omega), mkP] at hR
      have HR := hid hR
      clear hR hw
      go_wp2
      go_ret
      exact ⟨by rw [HR.out]; rfl, HW.out⟩
end Go.Proofs.Ytopibkoklagceaa

/- Contracts of isVersion and Check of package record. (Written by tools/gen_Vs.py.) -/
namespace Go.Proofs.Ytopibkoklagceaa
open Go Go.RowKit

def upOk (u : ByteArray) : Bool := u.toList.isEmpty || okId (lst u)
def versOk (r : Rv) (ps : Ps) : Bool := inR r.size 0 65536 && (okTag (lst r.etag) && (inR r.k 1 16 && (inR r.m 1 (16 - r.k) && (okData (lst r.data) && (okParts ps r.size && upOk r.up)))))
set_option maxRecDepth 100000 in
set_option maxHeartbeats 1000000 in
theorem vers_0 (r : Rv) (hr : r.ok) (ps : Ps) (w : World) (hp : PL w r.pv ps)  (h0 : inR r.size 0 65536 = false) : Calls Try.prog 40 #[.agg r.cs] w fun e w' => e = .returned (.bool false) ∧ Below w.heap.size w w' := by
  have HR := hid hr
  have HP := hid hp
  have H0 := hid h0
  clear hr hp h0
  go_enter Try.func40, Try.ntmps40
  go_wp2_with (first
    | ((with_reducible refine wpList_boxR rfl _ rfl r.cs ?_ ?_); exact rfl; intro w1 g1 hc1 hb1 hg1; have HA := hid (RBox.mk' HR.out hc1); have HB := hid hb1; have HP1 := hid (HP.out.below hb1); have c3 := HA.out.c3; have c4 := HA.out.c4; have c5 := HA.out.c5; have c6 := HA.out.c6; have c7 := HA.out.c7; have c40 := HA.out.c40; have c41 := HA.out.c41; clear hc1 hb1)
    | (go_at_call 38; refine (between_any _ _ _ _).mono ?_; rintro e w' ⟨rfl, hw'⟩; (first | rw [H0.out]); have hw2 := hw'.symm; subst hw2))
  go_ret
  exact ⟨rfl, HB.out⟩
set_option maxRecDepth 100000 in
set_option maxHeartbeats 1000000 in
theorem vers_1 (r : Rv) (hr : r.ok) (ps : Ps) (w : World) (hp : PL w r.pv ps) (h0 : inR r.size 0 65536 = true) (h1 : okTag (lst r.etag) = false) : Calls Try.prog 40 #[.agg r.cs] w fun e w' => e = .returned (.bool false) ∧ Below w.heap.size w w' := by
  have HR := hid hr
  have HP := hid hp
  have H0 := hid h0
  have H1 := hid h1
  clear hr hp h0 h1
  go_enter Try.func40, Try.ntmps40
  go_wp2_with (first
    | ((with_reducible refine wpList_boxR rfl _ rfl r.cs ?_ ?_); exact rfl; intro w1 g1 hc1 hb1 hg1; have HA := hid (RBox.mk' HR.out hc1); have HB := hid hb1; have HP1 := hid (HP.out.below hb1); have c3 := HA.out.c3; have c4 := HA.out.c4; have c5 := HA.out.c5; have c6 := HA.out.c6; have c7 := HA.out.c7; have c40 := HA.out.c40; have c41 := HA.out.c41; clear hc1 hb1)
    | (go_at_call 38; refine (between_any _ _ _ _).mono ?_; rintro e w' ⟨rfl, hw'⟩; (first | rw [H0.out]); have hw2 := hw'.symm; subst hw2)
    | (go_at_call 52; refine (isTag_any _ _ (by have := HR.out.e; omega)).mono ?_; rintro e w2 ⟨rfl, hb2⟩; rw [H1.out]; replace HA := hid (HA.out.below HR.out hb2); replace HP1 := hid (HP1.out.below hb2); replace HB := hid (below_on HB.out hb2); clear c3 c4 c5 c6 c7 c40 c41; have c3 := HA.out.c3; have c4 := HA.out.c4; have c5 := HA.out.c5; have c6 := HA.out.c6; have c7 := HA.out.c7; have c40 := HA.out.c40; have c41 := HA.out.c41; clear hb2))
  go_ret
  exact ⟨rfl, HB.out⟩
set_option maxRecDepth 100000 in
set_option maxHeartbeats 1000000 in
theorem vers_2 (r : Rv) (hr : r.ok) (ps : Ps) (w : World) (hp : PL w r.pv ps) (h0 : inR r.size 0 65536 = true) (h1 : okTag (lst r.etag) = true) (h2 : inR r.k 1 16 = false) : Calls Try.prog 40 #[.agg r.cs] w fun e w' => e = .returned (.bool false) ∧ Below w.heap.size w w' := by
  have HR := hid hr
  have HP := hid hp
  have H0 := hid h0
  have H1 := hid h1
  have H2 := hid h2
  clear hr hp h0 h1 h2
  go_enter Try.func40, Try.ntmps40
  go_wp2_with (first
    | ((with_reducible refine wpList_boxR rfl _ rfl r.cs ?_ ?_); exact rfl; intro w1 g1 hc1 hb1 hg1; have HA := hid (RBox.mk' HR.out hc1); have HB := hid hb1; have HP1 := hid (HP.out.below hb1); have c3 := HA.out.c3; have c4 := HA.out.c4; have c5 := HA.out.c5; have c6 := HA.out.c6; have c7 := HA.out.c7; have c40 := HA.out.c40; have c41 := HA.out.c41; clear hc1 hb1)
    | (go_at_call 38; refine (between_any _ _ _ _).mono ?_; rintro e w' ⟨rfl, hw'⟩; (first | rw [H0.out] | rw [H2.out]); have hw2 := hw'.symm; subst hw2)
    | (go_at_call 52; refine (isTag_any _ _ (by have := HR.out.e; omega)).mono ?_; rintro e w2 ⟨rfl, hb2⟩; rw [H1.out]; replace HA := hid (HA.out.below HR.out hb2); replace HP1 := hid (HP1.out.below hb2); replace HB := hid (below_on HB.out hb2); clear c3 c4 c5 c6 c7 c40 c41; have c3 := HA.out.c3; have c4 := HA.out.c4; have c5 := HA.out.c5; have c6 := HA.out.c6; have c7 := HA.out.c7; have c40 := HA.out.c40; have c41 := HA.out.c41; clear hb2))
  go_ret
  exact ⟨rfl, HB.out⟩
set_option maxRecDepth 100000 in
set_option maxHeartbeats 1000000 in
theorem vers_3 (r : Rv) (hr : r.ok) (ps : Ps) (w : World) (hp : PL w r.pv ps) (h0 : inR r.size 0 65536 = true) (h1 : okTag (lst r.etag) = true) (h2 : inR r.k 1 16 = true) (h3 : inR r.m 1 (16 - r.k) = false) : Calls Try.prog 40 #[.agg r.cs] w fun e w' => e = .returned (.bool false) ∧ Below w.heap.size w w' := by
  have HR := hid hr
  have HP := hid hp
  have H0 := hid h0
  have H1 := hid h1
  have H2 := hid h2
  have H3 := hid h3
  have hk := inR_iff.1 h2
  have hk1 := hk.1
  have hk2 := hk.2
  clear hk
  clear hr hp h0 h1 h2 h3
  go_enter Try.func40, Try.ntmps40
  go_wp2_with (first
    | ((with_reducible refine wpList_boxR rfl _ rfl r.cs ?_ ?_); exact rfl; intro w1 g1 hc1 hb1 hg1; have HA := hid (RBox.mk' HR.out hc1); have HB := hid hb1; have HP1 := hid (HP.out.below hb1); have c3 := HA.out.c3; have c4 := HA.out.c4; have c5 := HA.out.c5; have c6 := HA.out.c6; have c7 := HA.out.c7; have c40 := HA.out.c40; have c41 := HA.out.c41; clear hc1 hb1)
    | (go_at_call 38; refine (between_any _ _ _ _).mono ?_; rintro e w' ⟨rfl, hw'⟩; (first | rw [H0.out] | rw [H2.out] | rw [H3.out]); have hw2 := hw'.symm; subst hw2)
    | (go_at_call 52; refine (isTag_any _ _ (by have := HR.out.e; omega)).mono ?_; rintro e w2 ⟨rfl, hb2⟩; rw [H1.out]; replace HA := hid (HA.out.below HR.out hb2); replace HP1 := hid (HP1.out.below hb2); replace HB := hid (below_on HB.out hb2); clear c3 c4 c5 c6 c7 c40 c41; have c3 := HA.out.c3; have c4 := HA.out.c4; have c5 := HA.out.c5; have c6 := HA.out.c6; have c7 := HA.out.c7; have c40 := HA.out.c40; have c41 := HA.out.c41; clear hb2))
  go_ret
  exact ⟨rfl, HB.out⟩
set_option maxRecDepth 100000 in
set_option maxHeartbeats 1000000 in
theorem vers_4 (r : Rv) (hr : r.ok) (ps : Ps) (w : World) (hp : PL w r.pv ps) (h0 : inR r.size 0 65536 = true) (h1 : okTag (lst r.etag) = true) (h2 : inR r.k 1 16 = true) (h3 : inR r.m 1 (16 - r.k) = true) (h4 : okData (lst r.data) = false) : Calls Try.prog 40 #[.agg r.cs] w fun e w' => e = .returned (.bool false) ∧ Below w.heap.size w w' := by
  have HR := hid hr
  have HP := hid hp
  have H0 := hid h0
  have H1 := hid h1
  have H2 := hid h2
  have H3 := hid h3
  have H4 := hid h4
  have hk := inR_iff.1 h2
  have hk1 := hk.1
  have hk2 := hk.2
  clear hk
  clear hr hp h0 h1 h2 h3 h4
  go_enter Try.func40, Try.ntmps40
  go_wp2_with (first
    | ((with_reducible refine wpList_boxR rfl _ rfl r.cs ?_ ?_); exact rfl; intro w1 g1 hc1 hb1 hg1; have HA := hid (RBox.mk' HR.out hc1); have HB := hid hb1; have HP1 := hid (HP.out.below hb1); have c3 := HA.out.c3; have c4 := HA.out.c4; have c5 := HA.out.c5; have c6 := HA.out.c6; have c7 := HA.out.c7; have c40 := HA.out.c40; have c41 := HA.out.c41; clear hc1 hb1)
    | (go_at_call 38; refine (between_any _ _ _ _).mono ?_; rintro e w' ⟨rfl, hw'⟩; (first | rw [H0.out] | rw [H2.out] | rw [H3.out]); have hw2 := hw'.symm; subst hw2)
    | (go_at_call 52; refine (isTag_any _ _ (by have := HR.out.e; omega)).mono ?_; rintro e w2 ⟨rfl, hb2⟩; rw [H1.out]; replace HA := hid (HA.out.below HR.out hb2); replace HP1 := hid (HP1.out.below hb2); replace HB := hid (below_on HB.out hb2); clear c3 c4 c5 c6 c7 c40 c41; have c3 := HA.out.c3; have c4 := HA.out.c4; have c5 := HA.out.c5; have c6 := HA.out.c6; have c7 := HA.out.c7; have c40 := HA.out.c40; have c41 := HA.out.c41; clear hb2)
    | (go_at_call 53; refine (isDataName_any _ _ (by have := HR.out.d; omega)).mono ?_; rintro e w3 ⟨rfl, hb3⟩; rw [H4.out]; replace HA := hid (HA.out.below HR.out hb3); replace HP1 := hid (HP1.out.below hb3); replace HB := hid (below_on HB.out hb3); clear c3 c4 c5 c6 c7 c40 c41; have c3 := HA.out.c3; have c4 := HA.out.c4; have c5 := HA.out.c5; have c6 := HA.out.c6; have c7 := HA.out.c7; have c40 := HA.out.c40; have c41 := HA.out.c41; clear hb3))
  go_ret
  exact ⟨rfl, HB.out⟩
set_option maxRecDepth 100000 in
set_option maxHeartbeats 1000000 in
theorem vers_5 (r : Rv) (hr : r.ok) (ps : Ps) (w : World) (hp : PL w r.pv ps) (h0 : inR r.size 0 65536 = true) (h1 : okTag (lst r.etag) = true) (h2 : inR r.k 1 16 = true) (h3 : inR r.m 1 (16 - r.k) = true) (h4 : okData (lst r.data) = true) (h5 : okParts ps r.size = false) : Calls Try.prog 40 #[.agg r.cs] w fun e w' => e = .returned (.bool false) ∧ Below w.heap.size w w' := by
  have HR := hid hr
  have HP := hid hp
  have H0 := hid h0
  have H1 := hid h1
  have H2 := hid h2
  have H3 := hid h3
  have H4 := hid h4
  have H5 := hid h5
  have hk := inR_iff.1 h2
  have hk1 := hk.1
  have hk2 := hk.2
  clear hk
  have hz := inR_iff.1 h0
  have hz1 := hz.1
  have hz2 := hz.2
  clear hz
  clear hr hp h0 h1 h2 h3 h4 h5
  go_enter Try.func40, Try.ntmps40
  go_wp2_with (first
    | ((with_reducible refine wpList_boxR rfl _ rfl r.cs ?_ ?_); exact rfl; intro w1 g1 hc1 hb1 hg1; have HA := hid (RBox.mk' HR.out hc1); have HB := hid hb1; have HP1 := hid (HP.out.below hb1); have c3 := HA.out.c3; have c4 := HA.out.c4; have c5 := HA.out.c5; have c6 := HA.out.c6; have c7 := HA.out.c7; have c40 := HA.out.c40; have c41 := HA.out.c41; clear hc1 hb1)
    | (go_at_call 38; refine (between_any _ _ _ _).mono ?_; rintro e w' ⟨rfl, hw'⟩; (first | rw [H0.out] | rw [H2.out] | rw [H3.out]); have hw2 := hw'.symm; subst hw2)
    | (go_at_call 52; refine (isTag_any _ _ (by have := HR.out.e; omega)).mono ?_; rintro e w2 ⟨rfl, hb2⟩; rw [H1.out]; replace HA := hid (HA.out.below HR.out hb2); replace HP1 := hid (HP1.out.below hb2); replace HB := hid (below_on HB.out hb2); clear c3 c4 c5 c6 c7 c40 c41; have c3 := HA.out.c3; have c4 := HA.out.c4; have c5 := HA.out.c5; have c6 := HA.out.c6; have c7 := HA.out.c7; have c40 := HA.out.c40; have c41 := HA.out.c41; clear hb2)
    | (go_at_call 53; refine (isDataName_any _ _ (by have := HR.out.d; omega)).mono ?_; rintro e w3 ⟨rfl, hb3⟩; rw [H4.out]; replace HA := hid (HA.out.below HR.out hb3); replace HP1 := hid (HP1.out.below hb3); replace HB := hid (below_on HB.out hb3); clear c3 c4 c5 c6 c7 c40 c41; have c3 := HA.out.c3; have c4 := HA.out.c4; have c5 := HA.out.c5; have c6 := HA.out.c6; have c7 := HA.out.c7; have c40 := HA.out.c40; have c41 := HA.out.c41; clear hb3)
    | (go_at_call 54; refine (partsMake_any _ ps _ _ HP1.out hz1 hz2).mono ?_; rintro e w4 ⟨rfl, hb4⟩; rw [H5.out]; replace HA := hid (HA.out.below HR.out hb4); replace HP1 := hid (HP1.out.below hb4); replace HB := hid (below_on HB.out hb4); clear c3 c4 c5 c6 c7 c40 c41; have c3 := HA.out.c3; have c4 := HA.out.c4; have c5 := HA.out.c5; have c6 := HA.out.c6; have c7 := HA.out.c7; have c40 := HA.out.c40; have c41 := HA.out.c41; clear hb4))
  go_ret
  exact ⟨rfl, HB.out⟩
set_option maxRecDepth 100000 in
set_option maxHeartbeats 1000000 in
theorem vers_6a (r : Rv) (hr : r.ok) (ps : Ps) (w : World) (hp : PL w r.pv ps) (h0 : inR r.size 0 65536 = true) (h1 : okTag (lst r.etag) = true) (h2 : inR r.k 1 16 = true) (h3 : inR r.m 1 (16 - r.k) = true) (h4 : okData (lst r.data) = true) (h5 : okParts ps r.size = true) (h6 : r.up.toList.isEmpty = true) : Calls Try.prog 40 #[.agg r.cs] w fun e w' => e = .returned (.bool true) ∧ Below w.heap.size w w' := by
  have HR := hid hr
  have HP := hid hp
  have H0 := hid h0
  have H1 := hid h1
  have H2 := hid h2
  have H3 := hid h3
  have H4 := hid h4
  have H5 := hid h5
  have hk := inR_iff.1 h2
  have hk1 := hk.1
  have hk2 := hk.2
  clear hk
  have hz := inR_iff.1 h0
  have hz1 := hz.1
  have hz2 := hz.2
  clear hz
  clear hr hp h0 h1 h2 h3 h4 h5
  go_enter Try.func40, Try.ntmps40
  go_wp2_with (first
    | ((with_reducible refine wpList_boxR rfl _ rfl r.cs ?_ ?_); exact rfl; intro w1 g1 hc1 hb1 hg1; have HA := hid (RBox.mk' HR.out hc1); have HB := hid hb1; have HP1 := hid (HP.out.below hb1); have c3 := HA.out.c3; have c4 := HA.out.c4; have c5 := HA.out.c5; have c6 := HA.out.c6; have c7 := HA.out.c7; have c40 := HA.out.c40; have c41 := HA.out.c41; clear hc1 hb1)
    | (go_at_call 38; refine (between_any _ _ _ _).mono ?_; rintro e w' ⟨rfl, hw'⟩; (first | rw [H0.out] | rw [H2.out] | rw [H3.out]); have hw2 := hw'.symm; subst hw2)
    | (go_at_call 52; refine (isTag_any _ _ (by have := HR.out.e; omega)).mono ?_; rintro e w2 ⟨rfl, hb2⟩; rw [H1.out]; replace HA := hid (HA.out.below HR.out hb2); replace HP1 := hid (HP1.out.below hb2); replace HB := hid (below_on HB.out hb2); clear c3 c4 c5 c6 c7 c40 c41; have c3 := HA.out.c3; have c4 := HA.out.c4; have c5 := HA.out.c5; have c6 := HA.out.c6; have c7 := HA.out.c7; have c40 := HA.out.c40; have c41 := HA.out.c41; clear hb2)
    | (go_at_call 53; refine (isDataName_any _ _ (by have := HR.out.d; omega)).mono ?_; rintro e w3 ⟨rfl, hb3⟩; rw [H4.out]; replace HA := hid (HA.out.below HR.out hb3); replace HP1 := hid (HP1.out.below hb3); replace HB := hid (below_on HB.out hb3); clear c3 c4 c5 c6 c7 c40 c41; have c3 := HA.out.c3; have c4 := HA.out.c4; have c5 := HA.out.c5; have c6 := HA.out.c6; have c7 := HA.out.c7; have c40 := HA.out.c40; have c41 := HA.out.c41; clear hb3)
    | (go_at_call 54; refine (partsMake_any _ ps _ _ HP1.out hz1 hz2).mono ?_; rintro e w4 ⟨rfl, hb4⟩; rw [H5.out]; replace HA := hid (HA.out.below HR.out hb4); replace HP1 := hid (HP1.out.below hb4); replace HB := hid (below_on HB.out hb4); clear c3 c4 c5 c6 c7 c40 c41; have c3 := HA.out.c3; have c4 := HA.out.c4; have c5 := HA.out.c5; have c6 := HA.out.c6; have c7 := HA.out.c7; have c40 := HA.out.c40; have c41 := HA.out.c41; clear hb4))
  go_ret
  exact ⟨rfl, HB.out⟩
set_option maxRecDepth 100000 in
set_option maxHeartbeats 1000000 in
theorem vers_6b (r : Rv) (hr : r.ok) (ps : Ps) (w : World) (hp : PL w r.pv ps) (h0 : inR r.size 0 65536 = true) (h1 : okTag (lst r.etag) = true) (h2 : inR r.k 1 16 = true) (h3 : inR r.m 1 (16 - r.k) = true) (h4 : okData (lst r.data) = true) (h5 : okParts ps r.size = true) (h6 : r.up.toList.isEmpty = false) (h7 : okId (lst r.up) = true) : Calls Try.prog 40 #[.agg r.cs] w fun e w' => e = .returned (.bool true) ∧ Below w.heap.size w w' := by
  have HR := hid hr
  have HP := hid hp
  have H0 := hid h0
  have H1 := hid h1
  have H2 := hid h2
  have H3 := hid h3
  have H4 := hid h4
  have H5 := hid h5
  have hk := inR_iff.1 h2
  have hk1 := hk.1
  have hk2 := hk.2
  clear hk
  have hz := inR_iff.1 h0
  have hz1 := hz.1
  have hz2 := hz.2
  clear hz
  have H7 := hid h7
  clear hr hp h0 h1 h2 h3 h4 h5 h7
  go_enter Try.func40, Try.ntmps40
  go_wp2_with (first
    | ((with_reducible refine wpList_boxR rfl _ rfl r.cs ?_ ?_); exact rfl; intro w1 g1 hc1 hb1 hg1; have HA := hid (RBox.mk' HR.out hc1); have HB := hid hb1; have HP1 := hid (HP.out.below hb1); have c3 := HA.out.c3; have c4 := HA.out.c4; have c5 := HA.out.c5; have c6 := HA.out.c6; have c7 := HA.out.c7; have c40 := HA.out.c40; have c41 := HA.out.c41; clear hc1 hb1)
    | (go_at_call 38; refine (between_any _ _ _ _).mono ?_; rintro e w' ⟨rfl, hw'⟩; (first | rw [H0.out] | rw [H2.out] | rw [H3.out]); have hw2 := hw'.symm; subst hw2)
    | (go_at_call 52; refine (isTag_any _ _ (by have := HR.out.e; omega)).mono ?_; rintro e w2 ⟨rfl, hb2⟩; rw [H1.out]; replace HA := hid (HA.out.below HR.out hb2); replace HP1 := hid (HP1.out.below hb2); replace HB := hid (below_on HB.out hb2); clear c3 c4 c5 c6 c7 c40 c41; have c3 := HA.out.c3; have c4 := HA.out.c4; have c5 := HA.out.c5; have c6 := HA.out.c6; have c7 := HA.out.c7; have c40 := HA.out.c40; have c41 := HA.out.c41; clear hb2)
    | (go_at_call 53; refine (isDataName_any _ _ (by have := HR.out.d; omega)).mono ?_; rintro e w3 ⟨rfl, hb3⟩; rw [H4.out]; replace HA := hid (HA.out.below HR.out hb3); replace HP1 := hid (HP1.out.below hb3); replace HB := hid (below_on HB.out hb3); clear c3 c4 c5 c6 c7 c40 c41; have c3 := HA.out.c3; have c4 := HA.out.c4; have c5 := HA.out.c5; have c6 := HA.out.c6; have c7 := HA.out.c7; have c40 := HA.out.c40; have c41 := HA.out.c41; clear hb3)
    | (go_at_call 54; refine (partsMake_any _ ps _ _ HP1.out hz1 hz2).mono ?_; rintro e w4 ⟨rfl, hb4⟩; rw [H5.out]; replace HA := hid (HA.out.below HR.out hb4); replace HP1 := hid (HP1.out.below hb4); replace HB := hid (below_on HB.out hb4); clear c3 c4 c5 c6 c7 c40 c41; have c3 := HA.out.c3; have c4 := HA.out.c4; have c5 := HA.out.c5; have c6 := HA.out.c6; have c7 := HA.out.c7; have c40 := HA.out.c40; have c41 := HA.out.c41; clear hb4)
    | (go_at_call 37; refine (isID_any _ _ (by have := HR.out.u; omega)).mono ?_; rintro e w5 ⟨rfl, hb5⟩; rw [H7.out]; replace HA := hid (HA.out.below HR.out hb5); replace HP1 := hid (HP1.out.below hb5); replace HB := hid (below_on HB.out hb5); clear c3 c4 c5 c6 c7 c40 c41; have c3 := HA.out.c3; have c4 := HA.out.c4; have c5 := HA.out.c5; have c6 := HA.out.c6; have c7 := HA.out.c7; have c40 := HA.out.c40; have c41 := HA.out.c41; clear hb5))
  go_ret
  exact ⟨rfl, HB.out⟩
set_option maxRecDepth 100000 in
set_option maxHeartbeats 1000000 in
theorem vers_6c (r : Rv) (hr : r.ok) (ps : Ps) (w : World) (hp : PL w r.pv ps) (h0 : inR r.size 0 65536 = true) (h1 : okTag (lst r.etag) = true) (h2 : inR r.k 1 16 = true) (h3 : inR r.m 1 (16 - r.k) = true) (h4 : okData (lst r.data) = true) (h5 : okParts ps r.size = true) (h6 : r.up.toList.isEmpty = false) (h7 : okId (lst r.up) = false) : Calls Try.prog 40 #[.agg r.cs] w fun e w' => e = .returned (.bool false) ∧ Below w.heap.size w w' := by
  have HR := hid hr
  have HP := hid hp
  have H0 := hid h0
  have H1 := hid h1
  have H2 := hid h2
  have H3 := hid h3
  have H4 := hid h4
  have H5 := hid h5
  have hk := inR_iff.1 h2
  have hk1 := hk.1
  have hk2 := hk.2
  clear hk
  have hz := inR_iff.1 h0
  have hz1 := hz.1
  have hz2 := hz.2
  clear hz
  have H7 := hid h7
  clear hr hp h0 h1 h2 h3 h4 h5 h7
  go_enter Try.func40, Try.ntmps40
  go_wp2_with (first
    | ((with_reducible refine wpList_boxR rfl _ rfl r.cs ?_ ?_); exact rfl; intro w1 g1 hc1 hb1 hg1; have HA := hid (RBox.mk' HR.out hc1); have HB := hid hb1; have HP1 := hid (HP.out.below hb1); have c3 := HA.out.c3; have c4 := HA.out.c4; have c5 := HA.out.c5; have c6 := HA.out.c6; have c7 := HA.out.c7; have c40 := HA.out.c40; have c41 := HA.out.c41; clear hc1 hb1)
    | (go_at_call 38; refine (between_any _ _ _ _).mono ?_; rintro e w' ⟨rfl, hw'⟩; (first | rw [H0.out] | rw [H2.out] | rw [H3.out]); have hw2 := hw'.symm; subst hw2)
    | (go_at_call 52; refine (isTag_any _ _ (by have := HR.out.e; omega)).mono ?_; rintro e w2 ⟨rfl, hb2⟩; rw [H1.out]; replace HA := hid (HA.out.below HR.out hb2); replace HP1 := hid (HP1.out.below hb2); replace HB := hid (below_on HB.out hb2); clear c3 c4 c5 c6 c7 c40 c41; have c3 := HA.out.c3; have c4 := HA.out.c4; have c5 := HA.out.c5; have c6 := HA.out.c6; have c7 := HA.out.c7; have c40 := HA.out.c40; have c41 := HA.out.c41; clear hb2)
    | (go_at_call 53; refine (isDataName_any _ _ (by have := HR.out.d; omega)).mono ?_; rintro e w3 ⟨rfl, hb3⟩; rw [H4.out]; replace HA := hid (HA.out.below HR.out hb3); replace HP1 := hid (HP1.out.below hb3); replace HB := hid (below_on HB.out hb3); clear c3 c4 c5 c6 c7 c40 c41; have c3 := HA.out.c3; have c4 := HA.out.c4; have c5 := HA.out.c5; have c6 := HA.out.c6; have c7 := HA.out.c7; have c40 := HA.out.c40; have c41 := HA.out.c41; clear hb3)
    | (go_at_call 54; refine (partsMake_any _ ps _ _ HP1.out hz1 hz2).mono ?_; rintro e w4 ⟨rfl, hb4⟩; rw [H5.out]; replace HA := hid (HA.out.below HR.out hb4); replace HP1 := hid (HP1.out.below hb4); replace HB := hid (below_on HB.out hb4); clear c3 c4 c5 c6 c7 c40 c41; have c3 := HA.out.c3; have c4 := HA.out.c4; have c5 := HA.out.c5; have c6 := HA.out.c6; have c7 := HA.out.c7; have c40 := HA.out.c40; have c41 := HA.out.c41; clear hb4)
    | (go_at_call 37; refine (isID_any _ _ (by have := HR.out.u; omega)).mono ?_; rintro e w5 ⟨rfl, hb5⟩; rw [H7.out]; replace HA := hid (HA.out.below HR.out hb5); replace HP1 := hid (HP1.out.below hb5); replace HB := hid (below_on HB.out hb5); clear c3 c4 c5 c6 c7 c40 c41; have c3 := HA.out.c3; have c4 := HA.out.c4; have c5 := HA.out.c5; have c6 := HA.out.c6; have c7 := HA.out.c7; have c40 := HA.out.c40; have c41 := HA.out.c41; clear hb5))
  go_ret
  exact ⟨rfl, HB.out⟩
theorem isVersion_any (r : Rv) (hr : r.ok) (ps : Ps) (w : World) (hp : PL w r.pv ps) : Calls Try.prog 40 #[.agg r.cs] w fun e w' => e = .returned (.bool (versOk r ps)) ∧ Below w.heap.size w w' := by
  unfold versOk upOk
  cases h0 : inR r.size 0 65536
  · exact vers_0 r hr ps w hp h0
  cases h1 : okTag (lst r.etag)
  · exact vers_1 r hr ps w hp h0 h1
  cases h2 : inR r.k 1 16
  · exact vers_2 r hr ps w hp h0 h1 h2
  cases h3 : inR r.m 1 (16 - r.k)
  · exact vers_3 r hr ps w hp h0 h1 h2 h3
  cases h4 : okData (lst r.data)
  · exact vers_4 r hr ps w hp h0 h1 h2 h3 h4
  cases h5 : okParts ps r.size
  · exact vers_5 r hr ps w hp h0 h1 h2 h3 h4 h5
  cases h6 : r.up.toList.isEmpty
  · cases h7 : okId (lst r.up)
    · exact vers_6c r hr ps w hp h0 h1 h2 h3 h4 h5 h6 h7
    · exact vers_6b r hr ps w hp h0 h1 h2 h3 h4 h5 h6 h7
  · exact vers_6a r hr ps w hp h0 h1 h2 h3 h4 h5 h6
end Go.Proofs.Ytopibkoklagceaa

/- Contract of Same of package record. (Written by tools/gen_Vn.py.) -/
namespace Go.Proofs.Ytopibkoklagceaa
open Go Go.RowKit

theorem rc_eq (r s : Rv) (ps qs : Ps) : r.rc ps = s.rc qs ↔ (r.id.toList == s.id.toList) = true ∧ (r.time == s.time) = true ∧ (r.mark == s.mark) = true ∧ (r.size == s.size) = true ∧ (r.etag.toList == s.etag.toList) = true ∧ (r.k == s.k) = true ∧ (r.m == s.m) = true ∧ (r.data.toList == s.data.toList) = true ∧ decide (r.sum = s.sum) = true ∧ decide (ps = qs) = true ∧ (r.up.toList == s.up.toList) = true := by
  simp only [lst_beq, decide_eq_true_eq, beq_iff_eq]
  unfold Rv.rc
  simp only [Rc.mk.injEq]
theorem rc_ne {r s : Rv} {ps qs : Ps} (h : ¬ ((r.id.toList == s.id.toList) = true ∧ (r.time == s.time) = true ∧ (r.mark == s.mark) = true ∧ (r.size == s.size) = true ∧ (r.etag.toList == s.etag.toList) = true ∧ (r.k == s.k) = true ∧ (r.m == s.m) = true ∧ (r.data.toList == s.data.toList) = true ∧ decide (r.sum = s.sum) = true ∧ decide (ps = qs) = true ∧ (r.up.toList == s.up.toList) = true)) : decide (r.rc ps = s.rc qs) = false := decide_eq_false fun e => h ((rc_eq r s ps qs).1 e)
theorem underD : Try.prog.underlying 38 = some (.array 32 5) := by kernel_rfl
end Go.Proofs.Ytopibkoklagceaa

/- Contract of Same of package record, some cases. (Written by tools/gen_Vn.py.) -/
namespace Go.Proofs.Ytopibkoklagceaa
open Go Go.RowKit

set_option maxRecDepth 100000 in
set_option maxHeartbeats 1000000 in
theorem same_0 (r s : Rv) (hr : r.ok) (hs : s.ok) (ps qs : Ps) (w : World) (hp : PL w r.pv ps) (hq : PL w s.pv qs)  (h0 : (r.id.toList == s.id.toList) = false) : Calls Try.prog 39 #[.agg r.cs, .agg s.cs] w fun e w' => e = .returned (.bool (decide (r.rc ps = s.rc qs))) ∧ Below w.heap.size w w' := by
  have HD : Hid (decide (r.rc ps = s.rc qs) = false) := rc_ne (by rintro ⟨k0, k1, k2, k3, k4, k5, k6, k7, k8, k9, k10⟩; rw [k0] at h0; cases h0)
  have HR := hid hr
  have HS := hid hs
  have HP := hid hp
  have HQ := hid hq
  clear hr hs hp hq
  generalize decide (r.rc ps = s.rc qs) = dd at *
  go_enter Try.func39, Try.ntmps39
  go_wp2_with (first
    | ((with_reducible refine wpList_boxR rfl _ rfl s.cs ?_ ?_); exact rfl; intro w2 g2 hc2 hb2 hg2; have HA := hid (HA0.out.below HR.out hb2); have HC := hid (RBox.mk' HS.out hc2); have a0 := HA.out.c0; have b0 := HC.out.c0; have HB := hid (below_on HB0.out hb2); have HP2 := hid ((HP.out.below HB0.out).below hb2); have HQ2 := hid ((HQ.out.below HB0.out).below hb2); clear hc2 hb2 HA0)
    | ((with_reducible refine wpList_boxR rfl _ rfl r.cs ?_ ?_); exact rfl; intro w1 g1 hc1 hb1 hg1; have HA0 := hid (RBox.mk' HR.out hc1); have HB0 := hid hb1; clear hc1 hb1))
  go_ret
  exact ⟨by rw [HD.out]; rfl, HB.out⟩
set_option maxRecDepth 100000 in
set_option maxHeartbeats 1000000 in
theorem same_1 (r s : Rv) (hr : r.ok) (hs : s.ok) (ps qs : Ps) (w : World) (hp : PL w r.pv ps) (hq : PL w s.pv qs) (h0 : (r.id.toList == s.id.toList) = true) (h1 : (r.time == s.time) = false) : Calls Try.prog 39 #[.agg r.cs, .agg s.cs] w fun e w' => e = .returned (.bool (decide (r.rc ps = s.rc qs))) ∧ Below w.heap.size w w' := by
  have HD : Hid (decide (r.rc ps = s.rc qs) = false) := rc_ne (by rintro ⟨k0, k1, k2, k3, k4, k5, k6, k7, k8, k9, k10⟩; rw [k1] at h1; cases h1)
  have HR := hid hr
  have HS := hid hs
  have HP := hid hp
  have HQ := hid hq
  clear hr hs hp hq
  generalize decide (r.rc ps = s.rc qs) = dd at *
  go_enter Try.func39, Try.ntmps39
  go_wp2_with (first
    | ((with_reducible refine wpList_boxR rfl _ rfl s.cs ?_ ?_); exact rfl; intro w2 g2 hc2 hb2 hg2; have HA := hid (HA0.out.below HR.out hb2); have HC := hid (RBox.mk' HS.out hc2); have a0 := HA.out.c0; have b0 := HC.out.c0; have a1 := HA.out.c1; have b1 := HC.out.c1; have HB := hid (below_on HB0.out hb2); have HP2 := hid ((HP.out.below HB0.out).below hb2); have HQ2 := hid ((HQ.out.below HB0.out).below hb2); clear hc2 hb2 HA0)
    | ((with_reducible refine wpList_boxR rfl _ rfl r.cs ?_ ?_); exact rfl; intro w1 g1 hc1 hb1 hg1; have HA0 := hid (RBox.mk' HR.out hc1); have HB0 := hid hb1; clear hc1 hb1))
  go_ret
  exact ⟨by rw [HD.out]; rfl, HB.out⟩
set_option maxRecDepth 100000 in
set_option maxHeartbeats 1000000 in
theorem same_2 (r s : Rv) (hr : r.ok) (hs : s.ok) (ps qs : Ps) (w : World) (hp : PL w r.pv ps) (hq : PL w s.pv qs) (h0 : (r.id.toList == s.id.toList) = true) (h1 : (r.time == s.time) = true) (h2 : (r.mark == s.mark) = false) : Calls Try.prog 39 #[.agg r.cs, .agg s.cs] w fun e w' => e = .returned (.bool (decide (r.rc ps = s.rc qs))) ∧ Below w.heap.size w w' := by
  have HD : Hid (decide (r.rc ps = s.rc qs) = false) := rc_ne (by rintro ⟨k0, k1, k2, k3, k4, k5, k6, k7, k8, k9, k10⟩; rw [k2] at h2; cases h2)
  have HR := hid hr
  have HS := hid hs
  have HP := hid hp
  have HQ := hid hq
  clear hr hs hp hq
  generalize decide (r.rc ps = s.rc qs) = dd at *
  go_enter Try.func39, Try.ntmps39
  go_wp2_with (first
    | ((with_reducible refine wpList_boxR rfl _ rfl s.cs ?_ ?_); exact rfl; intro w2 g2 hc2 hb2 hg2; have HA := hid (HA0.out.below HR.out hb2); have HC := hid (RBox.mk' HS.out hc2); have a0 := HA.out.c0; have b0 := HC.out.c0; have a1 := HA.out.c1; have b1 := HC.out.c1; have a2 := HA.out.c2; have b2 := HC.out.c2; have HB := hid (below_on HB0.out hb2); have HP2 := hid ((HP.out.below HB0.out).below hb2); have HQ2 := hid ((HQ.out.below HB0.out).below hb2); clear hc2 hb2 HA0)
    | ((with_reducible refine wpList_boxR rfl _ rfl r.cs ?_ ?_); exact rfl; intro w1 g1 hc1 hb1 hg1; have HA0 := hid (RBox.mk' HR.out hc1); have HB0 := hid hb1; clear hc1 hb1))
  go_ret
  exact ⟨by rw [HD.out]; rfl, HB.out⟩
set_option maxRecDepth 100000 in
set_option maxHeartbeats 1000000 in
theorem same_3 (r s : Rv) (hr : r.ok) (hs : s.ok) (ps qs : Ps) (w : World) (hp : PL w r.pv ps) (hq : PL w s.pv qs) (h0 : (r.id.toList == s.id.toList) = true) (h1 : (r.time == s.time) = true) (h2 : (r.mark == s.mark) = true) (h3 : (r.size == s.size) = false) : Calls Try.prog 39 #[.agg r.cs, .agg s.cs] w fun e w' => e = .returned (.bool (decide (r.rc ps = s.rc qs))) ∧ Below w.heap.size w w' := by
  have HD : Hid (decide (r.rc ps = s.rc qs) = false) := rc_ne (by rintro ⟨k0, k1, k2, k3, k4, k5, k6, k7, k8, k9, k10⟩; rw [k3] at h3; cases h3)
  have HR := hid hr
  have HS := hid hs
  have HP := hid hp
  have HQ := hid hq
  clear hr hs hp hq
  generalize decide (r.rc ps = s.rc qs) = dd at *
  go_enter Try.func39, Try.ntmps39
  go_wp2_with (first
    | ((with_reducible refine wpList_boxR rfl _ rfl s.cs ?_ ?_); exact rfl; intro w2 g2 hc2 hb2 hg2; have HA := hid (HA0.out.below HR.out hb2); have HC := hid (RBox.mk' HS.out hc2); have a0 := HA.out.c0; have b0 := HC.out.c0; have a1 := HA.out.c1; have b1 := HC.out.c1; have a2 := HA.out.c2; have b2 := HC.out.c2; have a3 := HA.out.c3; have b3 := HC.out.c3; have HB := hid (below_on HB0.out hb2); have HP2 := hid ((HP.out.below HB0.out).below hb2); have HQ2 := hid ((HQ.out.below HB0.out).below hb2); clear hc2 hb2 HA0)
    | ((with_reducible refine wpList_boxR rfl _ rfl r.cs ?_ ?_); exact rfl; intro w1 g1 hc1 hb1 hg1; have HA0 := hid (RBox.mk' HR.out hc1); have HB0 := hid hb1; clear hc1 hb1))
  go_ret
  exact ⟨by rw [HD.out]; rfl, HB.out⟩
set_option maxRecDepth 100000 in
set_option maxHeartbeats 1000000 in
theorem same_4 (r s : Rv) (hr : r.ok) (hs : s.ok) (ps qs : Ps) (w : World) (hp : PL w r.pv ps) (hq : PL w s.pv qs) (h0 : (r.id.toList == s.id.toList) = true) (h1 : (r.time == s.time) = true) (h2 : (r.mark == s.mark) = true) (h3 : (r.size == s.size) = true) (h4 : (r.etag.toList == s.etag.toList) = false) : Calls Try.prog 39 #[.agg r.cs, .agg s.cs] w fun e w' => e = .returned (.bool (decide (r.rc ps = s.rc qs))) ∧ Below w.heap.size w w' := by
  have HD : Hid (decide (r.rc ps = s.rc qs) = false) := rc_ne (by rintro ⟨k0, k1, k2, k3, k4, k5, k6, k7, k8, k9, k10⟩; rw [k4] at h4; cases h4)
  have HR := hid hr
  have HS := hid hs
  have HP := hid hp
  have HQ := hid hq
  clear hr hs hp hq
  generalize decide (r.rc ps = s.rc qs) = dd at *
  go_enter Try.func39, Try.ntmps39
  go_wp2_with (first
    | ((with_reducible refine wpList_boxR rfl _ rfl s.cs ?_ ?_); exact rfl; intro w2 g2 hc2 hb2 hg2; have HA := hid (HA0.out.below HR.out hb2); have HC := hid (RBox.mk' HS.out hc2); have a0 := HA.out.c0; have b0 := HC.out.c0; have a1 := HA.out.c1; have b1 := HC.out.c1; have a2 := HA.out.c2; have b2 := HC.out.c2; have a3 := HA.out.c3; have b3 := HC.out.c3; have a4 := HA.out.c4; have b4 := HC.out.c4; have HB := hid (below_on HB0.out hb2); have HP2 := hid ((HP.out.below HB0.out).below hb2); have HQ2 := hid ((HQ.out.below HB0.out).below hb2); clear hc2 hb2 HA0)
    | ((with_reducible refine wpList_boxR rfl _ rfl r.cs ?_ ?_); exact rfl; intro w1 g1 hc1 hb1 hg1; have HA0 := hid (RBox.mk' HR.out hc1); have HB0 := hid hb1; clear hc1 hb1))
  go_ret
  exact ⟨by rw [HD.out]; rfl, HB.out⟩
set_option maxRecDepth 100000 in
set_option maxHeartbeats 1000000 in
theorem same_5 (r s : Rv) (hr : r.ok) (hs : s.ok) (ps qs : Ps) (w : World) (hp : PL w r.pv ps) (hq : PL w s.pv qs) (h0 : (r.id.toList == s.id.toList) = true) (h1 : (r.time == s.time) = true) (h2 : (r.mark == s.mark) = true) (h3 : (r.size == s.size) = true) (h4 : (r.etag.toList == s.etag.toList) = true) (h5 : (r.k == s.k) = false) : Calls Try.prog 39 #[.agg r.cs, .agg s.cs] w fun e w' => e = .returned (.bool (decide (r.rc ps = s.rc qs))) ∧ Below w.heap.size w w' := by
  have HD : Hid (decide (r.rc ps = s.rc qs) = false) := rc_ne (by rintro ⟨k0, k1, k2, k3, k4, k5, k6, k7, k8, k9, k10⟩; rw [k5] at h5; cases h5)
  have HR := hid hr
  have HS := hid hs
  have HP := hid hp
  have HQ := hid hq
  clear hr hs hp hq
  generalize decide (r.rc ps = s.rc qs) = dd at *
  go_enter Try.func39, Try.ntmps39
  go_wp2_with (first
    | ((with_reducible refine wpList_boxR rfl _ rfl s.cs ?_ ?_); exact rfl; intro w2 g2 hc2 hb2 hg2; have HA := hid (HA0.out.below HR.out hb2); have HC := hid (RBox.mk' HS.out hc2); have a0 := HA.out.c0; have b0 := HC.out.c0; have a1 := HA.out.c1; have b1 := HC.out.c1; have a2 := HA.out.c2; have b2 := HC.out.c2; have a3 := HA.out.c3; have b3 := HC.out.c3; have a4 := HA.out.c4; have b4 := HC.out.c4; have a5 := HA.out.c5; have b5 := HC.out.c5; have HB := hid (below_on HB0.out hb2); have HP2 := hid ((HP.out.below HB0.out).below hb2); have HQ2 := hid ((HQ.out.below HB0.out).below hb2); clear hc2 hb2 HA0)
    | ((with_reducible refine wpList_boxR rfl _ rfl r.cs ?_ ?_); exact rfl; intro w1 g1 hc1 hb1 hg1; have HA0 := hid (RBox.mk' HR.out hc1); have HB0 := hid hb1; clear hc1 hb1))
  go_ret
  exact ⟨by rw [HD.out]; rfl, HB.out⟩
end Go.Proofs.Ytopibkoklagceaa

/- Contract of Same of package record, some cases. (Written by tools/gen_Vn.py.) -/
namespace Go.Proofs.Ytopibkoklagceaa
open Go Go.RowKit

set_option maxRecDepth 100000 in
set_option maxHeartbeats 1000000 in
theorem same_6 (r s : Rv) (hr : r.ok) (hs : s.ok) (ps qs : Ps) (w : World) (hp : PL w r.pv ps) (hq : PL w s.pv qs) (h0 : (r.id.toList == s.id.toList) = true) (h1 : (r.time == s.time) = true) (h2 : (r.mark == s.mark) = true) (h3 : (r.size == s.size) = true) (h4 : (r.etag.toList == s.etag.toList) = true) (h5 : (r.k == s.k) = true) (h6 : (r.m == s.m) = false) : Calls Try.prog 39 #[.agg r.cs, .agg s.cs] w fun e w' => e = .returned (.bool (decide (r.rc ps = s.rc qs))) ∧ Below w.heap.size w w' := by
  have HD : Hid (decide (r.rc ps = s.rc qs) = false) := rc_ne (by rintro ⟨k0, k1, k2, k3, k4, k5, k6, k7, k8, k9, k10⟩; rw [k6] at h6; cases h6)
  have HR := hid hr
  have HS := hid hs
  have HP := hid hp
  have HQ := hid hq
  clear hr hs hp hq
  generalize decide (r.rc ps = s.rc qs) = dd at *
  go_enter Try.func39, Try.ntmps39
  go_wp2_with (first
    | ((with_reducible refine wpList_boxR rfl _ rfl s.cs ?_ ?_); exact rfl; intro w2 g2 hc2 hb2 hg2; have HA := hid (HA0.out.below HR.out hb2); have HC := hid (RBox.mk' HS.out hc2); have a0 := HA.out.c0; have b0 := HC.out.c0; have a1 := HA.out.c1; have b1 := HC.out.c1; have a2 := HA.out.c2; have b2 := HC.out.c2; have a3 := HA.out.c3; have b3 := HC.out.c3; have a4 := HA.out.c4; have b4 := HC.out.c4; have a5 := HA.out.c5; have b5 := HC.out.c5; have a6 := HA.out.c6; have b6 := HC.out.c6; have HB := hid (below_on HB0.out hb2); have HP2 := hid ((HP.out.below HB0.out).below hb2); have HQ2 := hid ((HQ.out.below HB0.out).below hb2); clear hc2 hb2 HA0)
    | ((with_reducible refine wpList_boxR rfl _ rfl r.cs ?_ ?_); exact rfl; intro w1 g1 hc1 hb1 hg1; have HA0 := hid (RBox.mk' HR.out hc1); have HB0 := hid hb1; clear hc1 hb1))
  go_ret
  exact ⟨by rw [HD.out]; rfl, HB.out⟩
set_option maxRecDepth 100000 in
set_option maxHeartbeats 1000000 in
theorem same_7 (r s : Rv) (hr : r.ok) (hs : s.ok) (ps qs : Ps) (w : World) (hp : PL w r.pv ps) (hq : PL w s.pv qs) (h0 : (r.id.toList == s.id.toList) = true) (h1 : (r.time == s.time) = true) (h2 : (r.mark == s.mark) = true) (h3 : (r.size == s.size) = true) (h4 : (r.etag.toList == s.etag.toList) = true) (h5 : (r.k == s.k) = true) (h6 : (r.m == s.m) = true) (h7 : (r.data.toList == s.data.toList) = false) : Calls Try.prog 39 #[.agg r.cs, .agg s.cs] w fun e w' => e = .returned (.bool (decide (r.rc ps = s.rc qs))) ∧ Below w.heap.size w w' := by
  have HD : Hid (decide (r.rc ps = s.rc qs) = false) := rc_ne (by rintro ⟨k0, k1, k2, k3, k4, k5, k6, k7, k8, k9, k10⟩; rw [k7] at h7; cases h7)
  have HR := hid hr
  have HS := hid hs
  have HP := hid hp
  have HQ := hid hq
  clear hr hs hp hq
  generalize decide (r.rc ps = s.rc qs) = dd at *
  go_enter Try.func39, Try.ntmps39
  go_wp2_with (first
    | ((with_reducible refine wpList_boxR rfl _ rfl s.cs ?_ ?_); exact rfl; intro w2 g2 hc2 hb2 hg2; have HA := hid (HA0.out.below HR.out hb2); have HC := hid (RBox.mk' HS.out hc2); have a0 := HA.out.c0; have b0 := HC.out.c0; have a1 := HA.out.c1; have b1 := HC.out.c1; have a2 := HA.out.c2; have b2 := HC.out.c2; have a3 := HA.out.c3; have b3 := HC.out.c3; have a4 := HA.out.c4; have b4 := HC.out.c4; have a5 := HA.out.c5; have b5 := HC.out.c5; have a6 := HA.out.c6; have b6 := HC.out.c6; have a7 := HA.out.c7; have b7 := HC.out.c7; have HB := hid (below_on HB0.out hb2); have HP2 := hid ((HP.out.below HB0.out).below hb2); have HQ2 := hid ((HQ.out.below HB0.out).below hb2); clear hc2 hb2 HA0)
    | ((with_reducible refine wpList_boxR rfl _ rfl r.cs ?_ ?_); exact rfl; intro w1 g1 hc1 hb1 hg1; have HA0 := hid (RBox.mk' HR.out hc1); have HB0 := hid hb1; clear hc1 hb1))
  go_ret
  exact ⟨by rw [HD.out]; rfl, HB.out⟩
set_option maxRecDepth 100000 in
set_option maxHeartbeats 1000000 in
theorem same_8 (r s : Rv) (hr : r.ok) (hs : s.ok) (ps qs : Ps) (w : World) (hp : PL w r.pv ps) (hq : PL w s.pv qs) (h0 : (r.id.toList == s.id.toList) = true) (h1 : (r.time == s.time) = true) (h2 : (r.mark == s.mark) = true) (h3 : (r.size == s.size) = true) (h4 : (r.etag.toList == s.etag.toList) = true) (h5 : (r.k == s.k) = true) (h6 : (r.m == s.m) = true) (h7 : (r.data.toList == s.data.toList) = true) (h8 : decide (r.sum = s.sum) = false) : Calls Try.prog 39 #[.agg r.cs, .agg s.cs] w fun e w' => e = .returned (.bool (decide (r.rc ps = s.rc qs))) ∧ Below w.heap.size w w' := by
  have HD : Hid (decide (r.rc ps = s.rc qs) = false) := rc_ne (by rintro ⟨k0, k1, k2, k3, k4, k5, k6, k7, k8, k9, k10⟩; rw [k8] at h8; cases h8)
  have HR := hid hr
  have HS := hid hs
  have HP := hid hp
  have HQ := hid hq
  have hsum := eqSum hr.sl hs.sl
  rw [h8] at hsum
  clear h8
  clear hr hs hp hq
  generalize decide (r.rc ps = s.rc qs) = dd at *
  go_enter Try.func39, Try.ntmps39
  go_wp2_with (first
    | ((with_reducible refine wpList_boxR rfl _ rfl s.cs ?_ ?_); exact rfl; intro w2 g2 hc2 hb2 hg2; have HA := hid (HA0.out.below HR.out hb2); have HC := hid (RBox.mk' HS.out hc2); have a0 := HA.out.c0; have b0 := HC.out.c0; have a1 := HA.out.c1; have b1 := HC.out.c1; have a2 := HA.out.c2; have b2 := HC.out.c2; have a3 := HA.out.c3; have b3 := HC.out.c3; have a4 := HA.out.c4; have b4 := HC.out.c4; have a5 := HA.out.c5; have b5 := HC.out.c5; have a6 := HA.out.c6; have b6 := HC.out.c6; have a7 := HA.out.c7; have b7 := HC.out.c7; have HB := hid (below_on HB0.out hb2); have HP2 := hid ((HP.out.below HB0.out).below hb2); have HQ2 := hid ((HQ.out.below HB0.out).below hb2); clear hc2 hb2 HA0)
    | ((with_reducible refine wpList_boxR rfl _ rfl r.cs ?_ ?_); exact rfl; intro w1 g1 hc1 hb1 hg1; have HA0 := hid (RBox.mk' HR.out hc1); have HB0 := hid hb1; clear hc1 hb1)
    | ((with_reducible refine wpList_load_at 38 _ rfl ?_ g1 8 ?_ (sumC r.sum) (.array 32 5) ?_ underD rfl ?_ ?_); exact rfl; exact rfl; exact HA.out.cs; (rw [sumC_size, HR.out.sl]; exact sizeD))
    | ((with_reducible refine wpList_load_at 38 _ rfl ?_ g2 8 ?_ (sumC s.sum) (.array 32 5) ?_ underD rfl ?_ ?_); exact rfl; exact rfl; exact HC.out.cs; (rw [sumC_size, HS.out.sl]; exact sizeD)))
  go_ret
  exact ⟨by rw [HD.out]; rfl, HB.out⟩
end Go.Proofs.Ytopibkoklagceaa
