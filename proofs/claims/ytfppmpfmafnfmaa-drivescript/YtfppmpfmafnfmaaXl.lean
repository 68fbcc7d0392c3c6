/- Texts laid into one: the remark ahead of each part says what is proved there. -/
import Derived.Test.YtfppmpfmafnfmaaXk
/- The walk of DriveScript. (Written by tools/gen_Mf.py.) -/
namespace Go.Proofs.Ytfppmpfmafnfmaa
open Go Go.RowKit

theorem act_at3 {w : World} {b o len i : Nat} (h : ∀ i, i < len → ∃ x : AV, x.ok w ∧ ∀ j, j < 9 → w.cell? ⟨b, o + i * 9 + j, none⟩ = x.val[j]?) (hi : i < len) : ∃ x : AV, x.ok w ∧ ∀ wr, Below w.heap.size w wr → ∀ j, j < 9 → wr.cell? ⟨b, o + i * 9 + j, none⟩ = x.val[j]? := by
  obtain ⟨x, hx, hc⟩ := h i hi
  refine ⟨x, hx, fun wr hb j hj => ?_⟩
  have hl : b < w.heap.size := cell_lt' (a := ⟨b, o + i * 9 + j, none⟩) (by
    rw [hc j hj]
    have : j = 0 ∨ j = 1 ∨ j = 2 ∨ j = 3 ∨ j = 4 ∨ j = 5 ∨ j = 6 ∨ j = 7 ∨ j = 8 := by omega
    rcases this with rfl | rfl | rfl | rfl | rfl | rfl | rfl | rfl | rfl <;> simp [AV.val])
  exact (World.cell?_of_block (hb.block b hl)).trans (hc j hj)
set_option maxHeartbeats 8000000 in
set_option maxRecDepth 100000 in
theorem script_long (n1 n2 : Int) (pa0 : Option Addr) (na ca : Nat) (w : World) (h : 60 < na) :
    Calls Try.prog 3 #[.int .i64 n1, .int .i64 n2, .slice pa0 na ca] w fun e w' => e = .returned (.bool true) ∧ Below w.heap.size w w' := by
  have h' : (60 : Int) < (na : Int) := by omega
  go_enter Try.func3, Try.ntmps3
  go_wp2
  go_ret
  exact ⟨rfl, Below.refl _ _⟩
set_option maxHeartbeats 8000000 in
set_option maxRecDepth 100000 in
theorem script_one (n1 n2 : Int) (pa0 : Option Addr) (na ca : Nat) (w : World) (h60 : ¬ 60 < na) (h1 : 100000 < n1) (h2 : n1 ≤ 67108864) :
    Calls Try.prog 3 #[.int .i64 n1, .int .i64 n2, .slice pa0 na ca] w fun e w' => e = .returned (.bool true) ∧ Below w.heap.size w w' := by
  have h' : ¬ (60 : Int) < (na : Int) := by omega
  go_enter Try.func3, Try.ntmps3
  go_wp2
  go_ret
  exact ⟨rfl, Below.refl _ _⟩
set_option maxHeartbeats 8000000 in
set_option maxRecDepth 100000 in
theorem script_two1 (n1 n2 : Int) (pa0 : Option Addr) (na ca : Nat) (w : World) (h60 : ¬ 60 < na) (h0 : ¬ 100000 < n1) (h1 : 100000 < n2) (h2 : n2 ≤ 67108864) :
    Calls Try.prog 3 #[.int .i64 n1, .int .i64 n2, .slice pa0 na ca] w fun e w' => e = .returned (.bool true) ∧ Below w.heap.size w w' := by
  have h' : ¬ (60 : Int) < (na : Int) := by omega
  go_enter Try.func3, Try.ntmps3
  go_wp2
  go_ret
  exact ⟨rfl, Below.refl _ _⟩
set_option maxHeartbeats 8000000 in
set_option maxRecDepth 100000 in
theorem script_two2 (n1 n2 : Int) (pa0 : Option Addr) (na ca : Nat) (w : World) (h60 : ¬ 60 < na) (h0 : 100000 < n1) (h3 : ¬ n1 ≤ 67108864) (h1 : 100000 < n2) (h2 : n2 ≤ 67108864) :
    Calls Try.prog 3 #[.int .i64 n1, .int .i64 n2, .slice pa0 na ca] w fun e w' => e = .returned (.bool true) ∧ Below w.heap.size w w' := by
  have h' : ¬ (60 : Int) < (na : Int) := by omega
  go_enter Try.func3, Try.ntmps3
  go_wp2
  go_ret
  exact ⟨rfl, Below.refl _ _⟩
set_option maxHeartbeats 8000000 in
set_option maxRecDepth 100000 in
theorem script_low_low (n1 n2 : Int) (pa0 : Option Addr) (na ca : Nat) (w : World) (h60 : ¬ 60 < na) (c1 : n1 < 1) (c2 : n2 < 1) :
    Calls Try.prog 3 #[.int .i64 n1, .int .i64 n2, .slice pa0 na ca] w fun e w' => e = .returned (.bool true) ∧ Below w.heap.size w w' := by
  have h' : ¬ (60 : Int) < (na : Int) := by omega
  have d1 : ¬ 100000 < n1 := by omega
  have e1 : n1 < 1 ∨ 67108864 < n1 := Or.inl c1
  have d2 : ¬ 100000 < n2 := by omega
  have e2 : n2 < 1 ∨ 67108864 < n2 := Or.inl c2
  have HN1 := hid (fun W => new_bad n1 e1 W)
  have HM1 := hid (fun W => rnew_bad n1 e1 W)
  have HB := hid (Below.refl w.heap.size w)
  have HN2 := hid (fun W => new_bad n2 e2 W)
  have HM2 := hid (fun W => rnew_bad n2 e2 W)
  have t1 : True := trivial
  have t2 : True := trivial
  clear h60
  go_enter Try.func3, Try.ntmps3
  go_wp2_with (first
    | (go_at_call 9; have _t := t1; refine (HN1.out _).mono ?_; rintro e w' ⟨rfl, hw'⟩; have hw2 := hw'.symm; subst hw2; clear t1)
    | (go_at_call 10; have _t := t2; refine (HM1.out _).mono ?_; rintro e w' ⟨rfl, hw'⟩; have hw2 := hw'.symm; subst hw2; clear t2)
    | (go_at_call 9; refine (HN2.out _).mono ?_; rintro e w' ⟨rfl, hw'⟩; have hw2 := hw'.symm; subst hw2)
    | (go_at_call 10; refine (HM2.out _).mono ?_; rintro e w' ⟨rfl, hw'⟩; have hw2 := hw'.symm; subst hw2))
  go_ret
  exact ⟨rfl, HB.out⟩
set_option maxHeartbeats 8000000 in
set_option maxRecDepth 100000 in
theorem script_low_high (n1 n2 : Int) (pa0 : Option Addr) (na ca : Nat) (w : World) (h60 : ¬ 60 < na) (c1 : n1 < 1) (c2 : 67108864 < n2) :
    Calls Try.prog 3 #[.int .i64 n1, .int .i64 n2, .slice pa0 na ca] w fun e w' => e = .returned (.bool true) ∧ Below w.heap.size w w' := by
  have h' : ¬ (60 : Int) < (na : Int) := by omega
  have d1 : ¬ 100000 < n1 := by omega
  have e1 : n1 < 1 ∨ 67108864 < n1 := Or.inl c1
  have d2 : 100000 < n2 := by omega
  have f2 : ¬ n2 ≤ 67108864 := by omega
  have e2 : n2 < 1 ∨ 67108864 < n2 := Or.inr c2
  have HN1 := hid (fun W => new_bad n1 e1 W)
  have HM1 := hid (fun W => rnew_bad n1 e1 W)
  have HB := hid (Below.refl w.heap.size w)
  have HN2 := hid (fun W => new_bad n2 e2 W)
  have HM2 := hid (fun W => rnew_bad n2 e2 W)
  have t1 : True := trivial
  have t2 : True := trivial
  clear h60
  go_enter Try.func3, Try.ntmps3
  go_wp2_with (first
    | (go_at_call 9; have _t := t1; refine (HN1.out _).mono ?_; rintro e w' ⟨rfl, hw'⟩; have hw2 := hw'.symm; subst hw2; clear t1)
    | (go_at_call 10; have _t := t2; refine (HM1.out _).mono ?_; rintro e w' ⟨rfl, hw'⟩; have hw2 := hw'.symm; subst hw2; clear t2)
    | (go_at_call 9; refine (HN2.out _).mono ?_; rintro e w' ⟨rfl, hw'⟩; have hw2 := hw'.symm; subst hw2)
    | (go_at_call 10; refine (HM2.out _).mono ?_; rintro e w' ⟨rfl, hw'⟩; have hw2 := hw'.symm; subst hw2))
  go_ret
  exact ⟨rfl, HB.out⟩
set_option maxHeartbeats 8000000 in
set_option maxRecDepth 100000 in
theorem script_low_ok (n1 n2 : Int) (pa0 : Option Addr) (na ca : Nat) (w : World) (h60 : ¬ 60 < na) (c1 : n1 < 1) (c2 : 1 ≤ n2) (g2 : n2 ≤ 100000) :
    Calls Try.prog 3 #[.int .i64 n1, .int .i64 n2, .slice pa0 na ca] w fun e w' => e = .returned (.bool true) ∧ Below w.heap.size w w' := by
  have h' : ¬ (60 : Int) < (na : Int) := by omega
  have d1 : ¬ 100000 < n1 := by omega
  have e1 : n1 < 1 ∨ 67108864 < n1 := Or.inl c1
  have d2 : ¬ 100000 < n2 := by omega
  have HN1 := hid (fun W => new_bad n1 e1 W)
  have HM1 := hid (fun W => rnew_bad n1 e1 W)
  have HB := hid (Below.refl w.heap.size w)
  obtain ⟨m2, rfl⟩ : ∃ m2 : Nat, n2 = (m2 : Int) := ⟨n2.toNat, by omega⟩
  have HN2 := hid (fun W => new_ok m2 (by omega) (by omega) W)
  have HM2 := hid (fun W => rnew_ok m2 (by omega) (by omega) W)
  have t1 : True := trivial
  have t2 : True := trivial
  clear h60
  clear c2 g2
  go_enter Try.func3, Try.ntmps3
  go_wp2_with (first
    | (go_at_call 9; have _t := t1; refine (HN1.out _).mono ?_; rintro e w' ⟨rfl, hw'⟩; have hw2 := hw'.symm; subst hw2; clear t1)
    | (go_at_call 10; have _t := t2; refine (HM1.out _).mono ?_; rintro e w' ⟨rfl, hw'⟩; have hw2 := hw'.symm; subst hw2; clear t2)
    | (go_at_call 9; refine (HN2.out _).mono ?_; rintro e w3 ⟨pb, rfl, hd, hb⟩; have HB := hid (below_on _ _ HB.out hb); clear hd hb)
    | (go_at_call 10; refine (HM2.out _).mono ?_; rintro e w4 ⟨qb, rfl, hd, hb⟩; have HB := hid (below_on _ _ HB.out hb); clear hd hb))
  go_ret
  exact ⟨rfl, HB.out⟩
set_option maxHeartbeats 8000000 in
set_option maxRecDepth 100000 in
theorem script_high_low (n1 n2 : Int) (pa0 : Option Addr) (na ca : Nat) (w : World) (h60 : ¬ 60 < na) (c1 : 67108864 < n1) (c2 : n2 < 1) :
    Calls Try.prog 3 #[.int .i64 n1, .int .i64 n2, .slice pa0 na ca] w fun e w' => e = .returned (.bool true) ∧ Below w.heap.size w w' := by
  have h' : ¬ (60 : Int) < (na : Int) := by omega
  have d1 : 100000 < n1 := by omega
  have f1 : ¬ n1 ≤ 67108864 := by omega
  have e1 : n1 < 1 ∨ 67108864 < n1 := Or.inr c1
  have d2 : ¬ 100000 < n2 := by omega
  have e2 : n2 < 1 ∨ 67108864 < n2 := Or.inl c2
  have HN1 := hid (fun W => new_bad n1 e1 W)
  have HM1 := hid (fun W => rnew_bad n1 e1 W)
  have HB := hid (Below.refl w.heap.size w)
  have HN2 := hid (fun W => new_bad n2 e2 W)
  have HM2 := hid (fun W => rnew_bad n2 e2 W)
  have t1 : True := trivial
  have t2 : True := trivial
  clear h60
  go_enter Try.func3, Try.ntmps3
  go_wp2_with (first
    | (go_at_call 9; have _t := t1; refine (HN1.out _).mono ?_; rintro e w' ⟨rfl, hw'⟩; have hw2 := hw'.symm; subst hw2; clear t1)
    | (go_at_call 10; have _t := t2; refine (HM1.out _).mono ?_; rintro e w' ⟨rfl, hw'⟩; have hw2 := hw'.symm; subst hw2; clear t2)
    | (go_at_call 9; refine (HN2.out _).mono ?_; rintro e w' ⟨rfl, hw'⟩; have hw2 := hw'.symm; subst hw2)
    | (go_at_call 10; refine (HM2.out _).mono ?_; rintro e w' ⟨rfl, hw'⟩; have hw2 := hw'.symm; subst hw2))
  go_ret
  exact ⟨rfl, HB.out⟩
set_option maxHeartbeats 8000000 in
set_option maxRecDepth 100000 in
theorem script_high_high (n1 n2 : Int) (pa0 : Option Addr) (na ca : Nat) (w : World) (h60 : ¬ 60 < na) (c1 : 67108864 < n1) (c2 : 67108864 < n2) :
    Calls Try.prog 3 #[.int .i64 n1, .int .i64 n2, .slice pa0 na ca] w fun e w' => e = .returned (.bool true) ∧ Below w.heap.size w w' := by
  have h' : ¬ (60 : Int) < (na : Int) := by omega
  have d1 : 100000 < n1 := by omega
  have f1 : ¬ n1 ≤ 67108864 := by omega
  have e1 : n1 < 1 ∨ 67108864 < n1 := Or.inr c1
  have d2 : 100000 < n2 := by omega
  have f2 : ¬ n2 ≤ 67108864 := by omega
  have e2 : n2 < 1 ∨ 67108864 < n2 := Or.inr c2
  have HN1 := hid (fun W => new_bad n1 e1 W)
  have HM1 := hid (fun W => rnew_bad n1 e1 W)
  have HB := hid (Below.refl w.heap.size w)
  have HN2 := hid (fun W => new_bad n2 e2 W)
  have HM2 := hid (fun W => rnew_bad n2 e2 W)
  have t1 : True := trivial
  have t2 : True := trivial
  clear h60
  go_enter Try.func3, Try.ntmps3
  go_wp2_with (first
    | (go_at_call 9; have _t := t1; refine (HN1.out _).mono ?_; rintro e w' ⟨rfl, hw'⟩; have hw2 := hw'.symm; subst hw2; clear t1)
    | (go_at_call 10; have _t := t2; refine (HM1.out _).mono ?_; rintro e w' ⟨rfl, hw'⟩; have hw2 := hw'.symm; subst hw2; clear t2)
    | (go_at_call 9; refine (HN2.out _).mono ?_; rintro e w' ⟨rfl, hw'⟩; have hw2 := hw'.symm; subst hw2)
    | (go_at_call 10; refine (HM2.out _).mono ?_; rintro e w' ⟨rfl, hw'⟩; have hw2 := hw'.symm; subst hw2))
  go_ret
  exact ⟨rfl, HB.out⟩
set_option maxHeartbeats 8000000 in
set_option maxRecDepth 100000 in
theorem script_high_ok (n1 n2 : Int) (pa0 : Option Addr) (na ca : Nat) (w : World) (h60 : ¬ 60 < na) (c1 : 67108864 < n1) (c2 : 1 ≤ n2) (g2 : n2 ≤ 100000) :
    Calls Try.prog 3 #[.int .i64 n1, .int .i64 n2, .slice pa0 na ca] w fun e w' => e = .returned (.bool true) ∧ Below w.heap.size w w' := by
  have h' : ¬ (60 : Int) < (na : Int) := by omega
  have d1 : 100000 < n1 := by omega
  have f1 : ¬ n1 ≤ 67108864 := by omega
  have e1 : n1 < 1 ∨ 67108864 < n1 := Or.inr c1
  have d2 : ¬ 100000 < n2 := by omega
  have HN1 := hid (fun W => new_bad n1 e1 W)
  have HM1 := hid (fun W => rnew_bad n1 e1 W)
  have HB := hid (Below.refl w.heap.size w)
  obtain ⟨m2, rfl⟩ : ∃ m2 : Nat, n2 = (m2 : Int) := ⟨n2.toNat, by omega⟩
  have HN2 := hid (fun W => new_ok m2 (by omega) (by omega) W)
  have HM2 := hid (fun W => rnew_ok m2 (by omega) (by omega) W)
  have t1 : True := trivial
  have t2 : True := trivial
  clear h60
  clear c2 g2
  go_enter Try.func3, Try.ntmps3
  go_wp2_with (first
    | (go_at_call 9; have _t := t1; refine (HN1.out _).mono ?_; rintro e w' ⟨rfl, hw'⟩; have hw2 := hw'.symm; subst hw2; clear t1)
    | (go_at_call 10; have _t := t2; refine (HM1.out _).mono ?_; rintro e w' ⟨rfl, hw'⟩; have hw2 := hw'.symm; subst hw2; clear t2)
    | (go_at_call 9; refine (HN2.out _).mono ?_; rintro e w3 ⟨pb, rfl, hd, hb⟩; have HB := hid (below_on _ _ HB.out hb); clear hd hb)
    | (go_at_call 10; refine (HM2.out _).mono ?_; rintro e w4 ⟨qb, rfl, hd, hb⟩; have HB := hid (below_on _ _ HB.out hb); clear hd hb))
  go_ret
  exact ⟨rfl, HB.out⟩
set_option maxHeartbeats 8000000 in
set_option maxRecDepth 100000 in
theorem script_ok_low (n1 n2 : Int) (pa0 : Option Addr) (na ca : Nat) (w : World) (h60 : ¬ 60 < na) (c1 : 1 ≤ n1) (g1 : n1 ≤ 100000) (c2 : n2 < 1) :
    Calls Try.prog 3 #[.int .i64 n1, .int .i64 n2, .slice pa0 na ca] w fun e w' => e = .returned (.bool true) ∧ Below w.heap.size w w' := by
  have h' : ¬ (60 : Int) < (na : Int) := by omega
  have d1 : ¬ 100000 < n1 := by omega
  have d2 : ¬ 100000 < n2 := by omega
  have e2 : n2 < 1 ∨ 67108864 < n2 := Or.inl c2
  obtain ⟨m1, rfl⟩ : ∃ m1 : Nat, n1 = (m1 : Int) := ⟨n1.toNat, by omega⟩
  have HN1 := hid (fun W => new_ok m1 (by omega) (by omega) W)
  have HM1 := hid (fun W => rnew_ok m1 (by omega) (by omega) W)
  have HN2 := hid (fun W => new_bad n2 e2 W)
  have HM2 := hid (fun W => rnew_bad n2 e2 W)
  have t1 : True := trivial
  have t2 : True := trivial
  clear h60
  clear c1 g1
  go_enter Try.func3, Try.ntmps3
  go_wp2_with (first
    | (go_at_call 9; have _t := t1; refine (HN1.out _).mono ?_; rintro e w1 ⟨pa, rfl, hd, hb⟩; have HB := hid hb; clear hd hb t1)
    | (go_at_call 10; have _t := t2; refine (HM1.out _).mono ?_; rintro e w2 ⟨qa, rfl, hd, hb⟩; have HB := hid (below_on _ _ HB.out hb); clear hd hb t2)
    | (go_at_call 9; refine (HN2.out _).mono ?_; rintro e w' ⟨rfl, hw'⟩; have hw2 := hw'.symm; subst hw2)
    | (go_at_call 10; refine (HM2.out _).mono ?_; rintro e w' ⟨rfl, hw'⟩; have hw2 := hw'.symm; subst hw2))
  go_ret
  exact ⟨rfl, HB.out⟩
set_option maxHeartbeats 8000000 in
set_option maxRecDepth 100000 in
theorem script_ok_high (n1 n2 : Int) (pa0 : Option Addr) (na ca : Nat) (w : World) (h60 : ¬ 60 < na) (c1 : 1 ≤ n1) (g1 : n1 ≤ 100000) (c2 : 67108864 < n2) :
    Calls Try.prog 3 #[.int .i64 n1, .int .i64 n2, .slice pa0 na ca] w fun e w' => e = .returned (.bool true) ∧ Below w.heap.size w w' := by
  have h' : ¬ (60 : Int) < (na : Int) := by omega
  have d1 : ¬ 100000 < n1 := by omega
  have d2 : 100000 < n2 := by omega
  have f2 : ¬ n2 ≤ 67108864 := by omega
  have e2 : n2 < 1 ∨ 67108864 < n2 := Or.inr c2
  obtain ⟨m1, rfl⟩ : ∃ m1 : Nat, n1 = (m1 : Int) := ⟨n1.toNat, by omega⟩
  have HN1 := hid (fun W => new_ok m1 (by omega) (by omega) W)
  have HM1 := hid (fun W => rnew_ok m1 (by omega) (by omega) W)
  have HN2 := hid (fun W => new_bad n2 e2 W)
  have HM2 := hid (fun W => rnew_bad n2 e2 W)
  have t1 : True := trivial
  have t2 : True := trivial
  clear h60
  clear c1 g1
  go_enter Try.func3, Try.ntmps3
  go_wp2_with (first
    | (go_at_call 9; have _t := t1; refine (HN1.out _).mono ?_; rintro e w1 ⟨pa, rfl, hd, hb⟩; have HB := hid hb; clear hd hb t1)
    | (go_at_call 10; have _t := t2; refine (HM1.out _).mono ?_; rintro e w2 ⟨qa, rfl, hd, hb⟩; have HB := hid (below_on _ _ HB.out hb); clear hd hb t2)
    | (go_at_call 9; refine (HN2.out _).mono ?_; rintro e w' ⟨rfl, hw'⟩; have hw2 := hw'.symm; subst hw2)
    | (go_at_call 10; refine (HM2.out _).mono ?_; rintro e w' ⟨rfl, hw'⟩; have hw2 := hw'.symm; subst hw2))
  go_ret
  exact ⟨rfl, HB.out⟩
end Go.Proofs.Ytfppmpfmafnfmaa
