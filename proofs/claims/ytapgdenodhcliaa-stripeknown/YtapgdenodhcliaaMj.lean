/- Contracts of Invert and Rank of package matrix: the inverse is read out of the sweep and lies in new memory, or the error's number is told; what was there is as it was. -/
import Derived.Test.YtapgdenodhcliaaMi
namespace Go.Proofs.Ytapgdenodhcliaa
open Go.RowKit

theorem MatAt.even {w : World} {p : Option Addr} {n m : Nat} {A : Nat → Option Addr} {L C : Nat → Nat} {X : Nat → Nat → K} (h : MatAt w p n A L C X) (e : ∀ i, i < n → L i = m) : MatAt w p n A (fun _ => m) C X where
  top := by
    rcases h.top with q | ⟨b, o, hp, hc⟩
    · exact .inl q
    · exact .inr ⟨b, o, hp, fun i hi => by rw [hc i hi, e i hi]⟩
  row := fun i hi => by have := h.row i hi; rwa [e i hi] at this
  le := fun i hi => by have := h.le i hi; rwa [e i hi] at this
theorem MatAt.uneven {w : World} {p : Option Addr} {n m : Nat} {A : Nat → Option Addr} {L C : Nat → Nat} {X : Nat → Nat → K} (h : MatAt w p n A (fun _ => m) C X) (e : ∀ i, i < n → L i = m) : MatAt w p n A L C X where
  top := by
    rcases h.top with q | ⟨b, o, hp, hc⟩
    · exact .inl q
    · exact .inr ⟨b, o, hp, fun i hi => by rw [hc i hi, e i hi]⟩
  row := fun i hi => by have := h.row i hi; rwa [← e i hi] at this
  le := fun i hi => by have := h.le i hi; rwa [← e i hi] at this

/-- Invert's error. -/
def errI (n : Nat) (L : Nat → Nat) (X : Nat → Nat → K) : Int := if errC n L ≠ 0 then errC n L else if n ≠ L 0 then 2 else if (sw X n n).l.length < n then 120 else 0

set_option maxRecDepth 100000 in
set_option maxHeartbeats 1000000 in
theorem invert_bad (p : Option Addr) (n c : Nat) (A : Nat → Option Addr) (L C : Nat → Nat) (X : Nat → Nat → K) (w : World) (hn : n ≤ 100) (h : MatAt w p n A L C X) (he : errC n L ≠ 0 ∨ n ≠ L 0) :
    Calls Try.prog 61 #[.slice p n c] w fun e w' => e = .returned (.tuple #[.slice none 0 0, .int .i64 (errI n L X)]) ∧ w' = w := by
  have T := hid h.top
  by_cases h1 : errC n L = 0
  · have h3 : n ≠ L 0 := he.elim (fun q => absurd h1 q) id
    have HE : Hid (errI n L X = 2) := by unfold errI; rw [h1]; simp [h3]; trivial
    have ok := errC_zero h1
    obtain ⟨b, o, rfl, hc⟩ := h.top.pos (by omega)
    have c0 := hc 0 (by omega)
    rw [Nat.add_zero] at c0
    have h3' : ((n : Int) != ((L 0 : Nat) : Int)) = true := by simp; omega
    have hpos := ok.1
    clear hc he h3 ok h
    go_enter Try.func61, Try.ntmps61
    go_wp2_with fail
    refine (check_any _ _ _ _ _ _ _ hn T.out).mono ?_
    rintro e w' ⟨rfl, hw⟩
    have hw2 := hw.symm
    subst hw2
    clear hw
    rw [h1]
    clear h1
    go_wp2
    go_ret2
    exact ⟨ret_se rfl HE.out.symm, rfl⟩
  · have HE : Hid (errI n L X = errC n L) := by unfold errI; rw [if_pos h1]; trivial
    have h1' : (errC n L != 0) = true := by simpa using h1
    clear he h1 h
    go_enter Try.func61, Try.ntmps61
    go_wp2_with fail
    refine (check_any _ _ _ _ _ _ _ hn T.out).mono ?_
    rintro e w' ⟨rfl, hw⟩
    have hw2 := hw.symm
    subst hw2
    clear hw
    go_wp2
    go_ret2
    exact ⟨ret_se rfl HE.out.symm, rfl⟩

theorem pl_piv (s : Sw) : pl s.l = piv s := rfl

set_option maxRecDepth 100000 in
set_option maxHeartbeats 2000000 in
theorem invert_square (p : Option Addr) (n c : Nat) (A : Nat → Option Addr) (C : Nat → Nat) (X : Nat → Nat → K) (w : World) (h0 : 1 ≤ n) (hn : n ≤ 32) (h : MatAt w p n A (fun _ => n) C X) :
    Calls Try.prog 61 #[.slice p n c] w fun e w' => Below w.heap.size w w' ∧ (((sw X n n).l.length < n ∧ e = .returned (.tuple #[.slice none 0 0, .int .i64 120])) ∨
      ((sw X n n).l.length = n ∧ ∃ g G Y, e = .returned (.tuple #[.slice (some ⟨g, 0, none⟩) n n, .int .i64 0]) ∧ OwnMat w.heap.size w' g n n n G (fun _ => n) Y ∧ IsOrd (sw X n n) n Y)) := by
  have T := hid h.top
  have H := hid h
  have HE : Hid (errC n (fun _ => n) = 0) := errC_ok h0 hn h0 hn (fun _ _ => rfl)
  obtain ⟨b, o, rfl, hc⟩ := h.top.pos (by omega)
  have c0 := hc 0 (by omega)
  rw [Nat.add_zero] at c0
  clear hc h
  go_enter Try.func61, Try.ntmps61
  go_wp2_with fail
  refine (check_any _ _ _ _ _ _ _ (by omega) T.out).mono ?_
  rintro e w' ⟨rfl, hw⟩
  have hw2 := hw.symm
  subst hw2
  clear hw
  rw [HE.out]
  go_wp2_with fail
  refine (clone_any _ n n c A C X w H.out h0 hn h0 hn).mono ?_
  rintro e w1 ⟨g1, c1, G1, Q1, rfl, hm1, hb1⟩
  have HM1 := hid hm1
  have HB1 := hid hb1
  clear hm1 hb1 c0
  go_wp2_with fail
  refine (sweep_any _ g1 c1 n n G1 Q1 X w1 HM1.out hn h0 hn).mono ?_
  rintro e w2 ⟨v, rfl, hm2, hv2, hb2⟩
  obtain ⟨pv, cv, rfl, hcv⟩ := own_len hv2
  have hlen := (sw_inv X n n n (Nat.le_refl _)).len
  have HM2 := hid hm2
  have HV2 := hid hv2
  have HB2 := hid (HB1.out.trans hb2)
  clear hm2 hv2 hb2 HM1 HB1
  by_cases hlt : (sw X n n).l.length < n
  · go_wp2
    go_ret2
    exact ⟨HB2.out, .inl ⟨by first | assumption | trivial, rfl⟩⟩
  · have hfull : (sw X n n).l.length = n := by omega
    have HF := hid hfull
    have hv3 := HV2.out
    rw [hfull] at hv3
    have HV3 := hid hv3
    obtain ⟨gp, cp, hform, _⟩ := hv3.form (by omega)
    cases hform
    clear hv3 hfull
    rw [HF.out]
    have hself : ¬ ((n : Int) < (n : Int)) := by omega
    go_wp2_with fail
    refine (ordered_any _ _ g1 c1 n gp cv G1 Q1 (sw X n n).T (sw X n n).l w2 HM2.out HV3.out HF.out h0 hn (fun i hi => by rw [pl_piv]; exact full_lt HF.out i hi) (fun i j hi hj q => by rw [pl_piv] at q; exact full_inj HF.out i j hi hj q)).mono ?_
    rintro e w3 ⟨g, G, Y, rfl, hm3, hY, hb3⟩
    have hsz := HB2.out.size
    have HM3 := hid (hm3.base hsz)
    have HB3 := hid (HB2.out.trans (hb3.mono hsz))
    have HY := hid hY
    clear hm3 hb3 hY HM2 HV2 HV3
    go_wp2
    go_ret2
    exact ⟨HB3.out, .inr ⟨HF.out, g, G, Y, rfl, HM3.out, HY.out⟩⟩

end Go.Proofs.Ytapgdenodhcliaa
