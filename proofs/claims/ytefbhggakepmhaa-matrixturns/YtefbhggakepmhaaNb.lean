/- The walk of MatrixTurns: of any matrix that is not large what an inverse and its matrix make is the one, on either side, and there is an inverse just if the rank is full. No conditions. -/
import Derived.Test.YtefbhggakepmhaaMo
namespace Go.Proofs.Ytefbhggakepmhaa
open Go.RowKit

set_option maxRecDepth 100000 in
set_option maxHeartbeats 4000000 in
theorem turns_any (a : Option Addr) (n c : Nat) (w : World) (h : IsMat w a n) :
    Calls Try.prog 6 #[.slice a n c] w fun e w' => e = .returned (.bool true) ∧ Below w.heap.size w w' := by
  obtain ⟨A, L, C, X, m1⟩ := h
  have M1 := hid m1
  clear m1
  go_enter Try.func6, Try.ntmps6
  go_wp2_with fail
  refine (known_any w).mono ?_
  rintro e w1 ⟨rfl, hb1⟩
  have N1 := hid (M1.out.keep (Stays.of_below hb1))
  have B1 := hid hb1
  clear M1 hb1
  go_wp2_with fail
  refine (large_any a n c A L C w1 N1.out.top).mono ?_
  rintro e w' ⟨rfl, hw⟩
  have hw2 := hw.symm
  subst hw2
  clear hw
  cases g1 : big n L with
  | true =>
    go_wp2
    go_ret
    exact ⟨rfl, B1.out⟩
  | false =>
    have q1 := big_not g1
    have l1 := q1.1
    clear q1 g1
    go_wp2_with fail
    refine (check_any a n c A L C w1 l1 N1.out.top).mono ?_
    rintro e w' ⟨rfl, hw⟩
    have hw2 := hw.symm
    subst hw2
    clear hw
    by_cases he : errC n L = 0
    · have ok := errC_zero he
      rw [he]
      have hpos := ok.1
      have hn32 := ok.2.1
      have EV := hid ok.2.2.2.2
      obtain ⟨b, o, rfl, hc⟩ := N1.out.top.pos (by omega)
      have c0 := hc 0 (by omega)
      rw [Nat.add_zero] at c0
      clear hc ok he
      by_cases hsq : n = L 0
      · have EV2 : Hid (∀ i, i < n → L i = n) := fun i hi => by rw [EV.out i hi, ← hsq]
        rw [← hsq] at c0
        have N2 := hid (N1.out.even EV2.out)
        clear hsq EV EV2 N1
        have hlen := (sw_inv X n n n (Nat.le_refl _)).len
        by_cases hl : (sw X n n).l.length < n
        · have hl' : ((((sw X n n).l.length : Nat) : Int) == (n : Int)) = false := by simp; omega
          go_wp2_with fail
          refine (rank_ok _ n n c A C X w1 hpos hn32 hpos hn32 N2.out).mono ?_
          rintro e w2 ⟨rfl, hb2⟩
          have B2 := hid (B1.out.then hb2)
          have N3 := hid (N2.out.keep (Stays.of_below hb2))
          clear hb2
          go_wp2_with fail
          refine (invert_square _ n c A C X w2 hpos hn32 N3.out).mono ?_
          rintro e w3 ⟨hb3, ⟨_, rfl⟩ | ⟨hf, _⟩⟩
          rotate_left
          · exact absurd hf (by omega)
          have B3 := hid (B2.out.then hb3)
          clear hb3
          go_wp2
          go_ret
          exact ⟨rfl, B3.out⟩
        · have hfull : (sw X n n).l.length = n := by omega
          have HF := hid hfull
          clear hfull hl hlen
          go_wp2_with fail
          refine (rank_ok _ n n c A C X w1 hpos hn32 hpos hn32 N2.out).mono ?_
          rintro e w2 ⟨rfl, hb2⟩
          rw [HF.out]
          have B2 := hid (B1.out.then hb2)
          have N3 := hid (N2.out.keep (Stays.of_below hb2))
          clear hb2
          go_wp2_with fail
          refine (invert_square _ n c A C X w2 hpos hn32 N3.out).mono ?_
          rintro e w3 ⟨hb3, ⟨hf, _⟩ | ⟨_, g, G, Y, rfl, hmY, hY⟩⟩
          · exact absurd hf (by rw [HF.out]; omega)
          have B3 := hid (B2.out.then hb3)
          have N4 := hid (N3.out.keep (Stays.of_below hb3))
          have MY := hid hmY.toMat
          have HY := hid hY
          clear hb3 hmY hY
          have e1 : ((n : Int) == (n : Int)) = true := by simp
          go_wp2_with fail
          refine (one_any n w3 hpos hn32).mono ?_
          rintro e w4 ⟨g1, G1, rfl, hm1, hb4⟩
          have B4 := hid (B3.out.then hb4)
          have N5 := hid (N4.out.keep (Stays.of_below hb4))
          have MY5 := hid (MY.out.keep (Stays.of_below hb4))
          have MO := hid hm1.toMat
          clear hb4 hm1
          go_wp2_with fail
          refine (mul_ok _ _ n n n _ _ _ _ _ _ X Y w4 N5.out MY5.out hpos hn32 hpos hn32 hpos hn32).mono ?_
          rintro e w5 ⟨g2, G2, rfl, hm2, hb5⟩
          have B5 := hid (B4.out.then hb5)
          have N6 := hid (N5.out.keep (Stays.of_below hb5))
          have MY6 := hid (MY5.out.keep (Stays.of_below hb5))
          have MO6 := hid (MO.out.keep (Stays.of_below hb5))
          have MX := hid hm2.toMat
          clear hb5 hm2
          go_wp2_with fail
          refine (mul_ok _ _ n n n _ _ _ _ _ _ Y X w5 MY6.out N6.out hpos hn32 hpos hn32 hpos hn32).mono ?_
          rintro e w6 ⟨g3, G3, rfl, hm3, hb6⟩
          have B6 := hid (B5.out.then hb6)
          have MO7 := hid (MO6.out.keep (Stays.of_below hb6))
          have MX7 := hid (MX.out.keep (Stays.of_below hb6))
          have MZ := hid hm3.toMat
          clear hb6 hm3
          go_wp2_with fail
          refine (makes_true _ _ n _ _ _ _ (fun _ => n) _ _ _ on w6 l1 MX7.out MO7.out (fun i hi j hj => full_right HF.out HY.out i j hi hj)).mono ?_
          rintro e w7 ⟨rfl, hb7⟩
          have B7 := hid (B6.out.then hb7)
          have MO8 := hid (MO7.out.keep (Stays.of_below hb7))
          have MZ8 := hid (MZ.out.keep (Stays.of_below hb7))
          clear hb7
          go_wp2_with fail
          refine (makes_true _ _ n _ _ _ _ (fun _ => n) _ _ _ on w7 l1 MZ8.out MO8.out (fun i hi j hj => full_left HF.out HY.out i j hi hj)).mono ?_
          rintro e w8 ⟨rfl, hb8⟩
          have B8 := hid (B7.out.then hb8)
          clear hb8
          go_wp2
          go_ret
          exact ⟨rfl, B8.out⟩
      · have hsq' : ((n : Int) != ((L 0 : Nat) : Int)) = true := by simp; omega
        clear hsq EV
        go_wp2
        go_ret
        exact ⟨rfl, B1.out⟩
    · have he' : (errC n L != 0) = true := by simpa using he
      clear he
      go_wp2
      go_ret
      exact ⟨rfl, B1.out⟩
end Go.Proofs.Ytefbhggakepmhaa
