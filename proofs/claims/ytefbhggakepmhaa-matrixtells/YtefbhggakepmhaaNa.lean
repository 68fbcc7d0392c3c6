/- The walk of MatrixJoins: of any three matrices that are not large the products may be put together in any way. No conditions. -/
import Derived.Test.YtefbhggakepmhaaMo
namespace Go.Proofs.Ytefbhggakepmhaa
open Go.RowKit

theorem errMul_zero {n n' : Nat} {L L' : Nat → Nat} (h : errMul n L n' L' = 0) : errC n L = 0 ∧ errC n' L' = 0 ∧ n' = L 0 := by
  unfold errMul at h
  by_cases h1 : errC n L = 0
  · rw [if_neg (fun q => q h1)] at h
    by_cases h2 : errC n' L' = 0
    · rw [if_neg (fun q => q h2)] at h
      by_cases h3 : n' = L 0
      · exact ⟨h1, h2, h3⟩
      · rw [if_neg h3] at h; exact absurd h (by decide)
    · rw [if_pos h2] at h; exact absurd h h2
  · rw [if_pos h1] at h; exact absurd h h1

theorem errMul_ok {n n' : Nat} {L L' : Nat → Nat} (h1 : errC n L = 0) (h2 : errC n' L' = 0) (h3 : n' = L 0) : errMul n L n' L' = 0 := by
  unfold errMul; rw [if_neg (fun q => q h1), if_neg (fun q => q h2), if_pos h3]
/-- Mul, whatever comes in. -/
theorem mul_all (p q : Option Addr) (n n' c d : Nat) (A A' : Nat → Option Addr) (L L' C C' : Nat → Nat) (X Y : Nat → Nat → K) (w : World) (hn : n ≤ 100) (hn' : n' ≤ 100) (h : MatAt w p n A L C X) (h' : MatAt w q n' A' L' C' Y) :
    Calls Try.prog 11 #[.slice p n c, .slice q n' d] w fun e w' => Below w.heap.size w w' ∧ ((errMul n L n' L' ≠ 0 ∧ e = .returned (.tuple #[.slice none 0 0, .int .i64 (errMul n L n' L')])) ∨
      (errMul n L n' L' = 0 ∧ ∃ g G, e = .returned (.tuple #[.slice (some ⟨g, 0, none⟩) n n, .int .i64 0]) ∧ OwnMat w.heap.size w' g n n (L' 0) G (fun _ => L' 0) (pr (L 0) X Y))) := by
  by_cases he : errMul n L n' L' = 0
  · obtain ⟨h1, h2, h3⟩ := errMul_zero he
    have o1 := errC_zero h1
    have o2 := errC_zero h2
    subst h3
    refine (mul_ok p q n (L 0) (L' 0) c d A A' C C' X Y w (h.even o1.2.2.2.2) (h'.even o2.2.2.2.2) o1.1 o1.2.1 o1.2.2.1 o1.2.2.2.1 o2.2.2.1 o2.2.2.2.1).mono ?_
    rintro e w' ⟨g, G, rfl, hm, hb⟩
    exact ⟨hb, .inr ⟨he, g, G, rfl, hm⟩⟩
  · refine (mul_err p q n n' c d A A' L L' C C' w hn hn' h.top h'.top he).mono ?_
    rintro e w' ⟨rfl, rfl⟩
    exact ⟨Below.refl _ _, .inl ⟨he, rfl⟩⟩

set_option maxRecDepth 100000 in
set_option maxHeartbeats 4000000 in
theorem joins_any (a b c : Option Addr) (n1 c1 n2 c2 n3 c3 : Nat) (w : World) (h1 : IsMat w a n1) (h2 : IsMat w b n2) (h3 : IsMat w c n3) :
    Calls Try.prog 7 #[.slice a n1 c1, .slice b n2 c2, .slice c n3 c3] w fun e w' => e = .returned (.bool true) ∧ Below w.heap.size w w' := by
  obtain ⟨A1, L1, C1, X1, m1⟩ := h1
  obtain ⟨A2, L2, C2, X2, m2⟩ := h2
  obtain ⟨A3, L3, C3, X3, m3⟩ := h3
  have M1 := hid m1
  have M2 := hid m2
  have M3 := hid m3
  clear m1 m2 m3
  go_enter Try.func7, Try.ntmps7
  go_wp2_with fail
  refine (known_any w).mono ?_
  rintro e w1 ⟨rfl, hb1⟩
  have N1 := hid (M1.out.keep (Stays.of_below hb1))
  have N2 := hid (M2.out.keep (Stays.of_below hb1))
  have N3 := hid (M3.out.keep (Stays.of_below hb1))
  have B1 := hid hb1
  clear M1 M2 M3 hb1
  go_wp2_with fail
  refine (large_any a n1 c1 A1 L1 C1 w1 N1.out.top).mono ?_
  rintro e w' ⟨rfl, hw⟩
  have hw2 := hw.symm
  subst hw2
  clear hw
  cases g1 : big n1 L1 with
  | true =>
    go_wp2
    go_ret
    exact ⟨rfl, B1.out⟩
  | false =>
    have q1 := big_not g1
    go_wp2_with fail
    refine (large_any b n2 c2 A2 L2 C2 w1 N2.out.top).mono ?_
    rintro e w' ⟨rfl, hw⟩
    have hw2 := hw.symm
    subst hw2
    clear hw
    cases g2 : big n2 L2 with
    | true =>
      go_wp2
      go_ret
      exact ⟨rfl, B1.out⟩
    | false =>
      have q2 := big_not g2
      go_wp2_with fail
      refine (large_any c n3 c3 A3 L3 C3 w1 N3.out.top).mono ?_
      rintro e w' ⟨rfl, hw⟩
      have hw2 := hw.symm
      subst hw2
      clear hw
      cases g3 : big n3 L3 with
      | true =>
        go_wp2
        go_ret
        exact ⟨rfl, B1.out⟩
      | false =>
        have q3 := big_not g3
        have Q1 := hid q1.2
        have Q2 := hid q2.2
        have Q3 := hid q3.2
        have l1 := q1.1
        have l2 := q2.1
        have l3 := q3.1
        clear q1 q2 q3 g1 g2 g3
        go_wp2_with fail
        refine (mul_all a b n1 n2 c1 c2 A1 A2 L1 L2 C1 C2 X1 X2 w1 l1 l2 N1.out N2.out).mono ?_
        rintro e w2 ⟨hb2, ⟨he, rfl⟩ | ⟨he, gx, Gx, rfl, hmx⟩⟩
        · have he' : (errMul n1 L1 n2 L2 != 0) = true := by simpa using he
          have B2 := hid (B1.out.then hb2)
          have N2' := hid (N2.out.keep (Stays.of_below hb2))
          have N3' := hid (N3.out.keep (Stays.of_below hb2))
          clear hb2 he
          go_wp2_with fail
          refine (mul_all b c n2 n3 c2 c3 A2 A3 L2 L3 C2 C3 X2 X3 w2 l2 l3 N2'.out N3'.out).mono ?_
          rintro e w3 ⟨hb3, ⟨_, rfl⟩ | ⟨_, gy, Gy, rfl, _⟩⟩
          · have B3 := hid (B2.out.then hb3)
            clear hb3
            go_wp2
            go_ret
            exact ⟨rfl, B3.out⟩
          · have B3 := hid (B2.out.then hb3)
            clear hb3
            go_wp2
            go_ret
            exact ⟨rfl, B3.out⟩
        · have B2 := hid (B1.out.then hb2)
          have N1' := hid (N1.out.keep (Stays.of_below hb2))
          have N2' := hid (N2.out.keep (Stays.of_below hb2))
          have N3' := hid (N3.out.keep (Stays.of_below hb2))
          have HE := hid he
          have HX := hid hmx
          clear hb2 he hmx
          go_wp2_with fail
          refine (mul_all b c n2 n3 c2 c3 A2 A3 L2 L3 C2 C3 X2 X3 w2 l2 l3 N2'.out N3'.out).mono ?_
          rintro e w3 ⟨hb3, ⟨he2, rfl⟩ | ⟨he2, gy, Gy, rfl, hmy⟩⟩
          · have he2' : (errMul n2 L2 n3 L3 != 0) = true := by simpa using he2
            have B3 := hid (B2.out.then hb3)
            clear hb3 he2
            go_wp2
            go_ret
            exact ⟨rfl, B3.out⟩
          · have B3 := hid (B2.out.then hb3)
            obtain ⟨z1, z2, z3⟩ := errMul_zero HE.out
            obtain ⟨z4, z5, z6⟩ := errMul_zero he2
            have o1 := errC_zero z1
            have o2 := errC_zero z2
            have o3 := errC_zero z5
            have MX := hid ((HX.out.stay hb3).toMat)
            have MC := hid (N3'.out.keep (Stays.of_below hb3))
            have MA := hid (N1'.out.keep (Stays.of_below hb3))
            have MY := hid hmy.toMat
            have F1 : Hid (errMul n1 (fun _ => L2 0) n3 L3 = 0) := errMul_ok (errC_ok o1.1 o1.2.1 o2.2.2.1 o2.2.2.2.1 (fun _ _ => rfl)) z5 z6
            have F2 : Hid (errMul n1 L1 n2 (fun _ => L3 0) = 0) := errMul_ok z1 (errC_ok o2.1 o2.2.1 o3.2.2.1 o3.2.2.2.1 (fun _ _ => rfl)) z3
            clear hb3 he2 hmy z1 z2 z3 z4 z5 z6 o1 o2 o3
            go_wp2_with fail
            refine (mul_all _ c n1 n3 _ c3 _ A3 (fun _ => L2 0) L3 _ C3 (pr (L1 0) X1 X2) X3 w3 l1 l3 MX.out MC.out).mono ?_
            rintro e w4 ⟨hb4, ⟨he, _⟩ | ⟨_, gu, Gu, rfl, hmu⟩⟩
            · exact absurd F1.out he
            have B4 := hid (B3.out.then hb4)
            have MA4 := hid (MA.out.keep (Stays.of_below hb4))
            have MY4 := hid (MY.out.keep (Stays.of_below hb4))
            have MU := hid hmu
            clear hb4 hmu
            go_wp2_with fail
            refine (mul_all a _ n1 n2 c1 _ A1 _ L1 (fun _ => L3 0) C1 _ X1 (pr (L2 0) X2 X3) w4 l1 l2 MA4.out MY4.out).mono ?_
            rintro e w5 ⟨hb5, ⟨he, _⟩ | ⟨_, gv, Gv, rfl, hmv⟩⟩
            · exact absurd F2.out he
            have B5 := hid (B4.out.then hb5)
            have MU5 := hid ((MU.out.stay hb5).toMat)
            have MV5 := hid hmv.toMat
            clear hb5 hmv
            go_wp2_with fail
            refine (sameLists_true _ _ n1 _ _ _ _ (fun _ => L3 0) _ _ _ _ w5 l1 MU5.out MV5.out (fun i _ j _ => pr_assoc (L1 0) (L2 0) X1 X2 X3 i j)).mono ?_
            rintro e w6 ⟨rfl, hb6⟩
            have B6 := hid (B5.out.then hb6)
            clear hb6
            go_wp2
            go_ret
            exact ⟨rfl, B6.out⟩
end Go.Proofs.Ytefbhggakepmhaa
