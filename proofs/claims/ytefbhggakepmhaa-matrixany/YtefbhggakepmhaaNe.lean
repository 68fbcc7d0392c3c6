/- The walk of MatrixAny, whatever comes in: where there is no code, or the choice is too long, it answers true too. No conditions. -/
import Derived.Test.YtefbhggakepmhaaNd
namespace Go.Proofs.Ytefbhggakepmhaa
open Go.RowKit

set_option maxRecDepth 100000 in
set_option maxHeartbeats 1000000 in
theorem any_err (k m : Int) (q : Option Addr) (nc cc : Nat) (w : World) (hk : -9223372036854775808 ≤ k) (hk' : k ≤ 9223372036854775807) (hm : -9223372036854775808 ≤ m) (hm' : m ≤ 9223372036854775807) (h : k < 1 ∨ m < 1 ∨ 16 < k + m) :
    Calls Try.prog 8 #[.int .i64 k, .int .i64 m, .slice q nc cc] w fun e w' => e = .returned (.bool true) ∧ Below w.heap.size w w' := by
  go_enter Try.func8, Try.ntmps8
  go_wp2_with fail
  refine (known_any w).mono ?_
  rintro e w1 ⟨rfl, hb1⟩
  have B1 := hid hb1
  clear hb1
  go_wp2_with fail
  refine (code_err k m w1 hk hk' hm hm' h).mono ?_
  rintro e w' ⟨rfl, hw⟩
  have hw2 := hw.symm
  subst hw2
  clear hw h
  go_wp2
  go_ret
  exact ⟨rfl, B1.out⟩

set_option maxRecDepth 100000 in
set_option maxHeartbeats 1000000 in
theorem any_long (k m : Nat) (q : Option Addr) (nc cc : Nat) (w : World) (h0 : 1 ≤ k) (h1 : 1 ≤ m) (h : k + m ≤ 16) (hnc : 100 < nc) :
    Calls Try.prog 8 #[.int .i64 k, .int .i64 m, .slice q nc cc] w fun e w' => e = .returned (.bool true) ∧ Below w.heap.size w w' := by
  go_enter Try.func8, Try.ntmps8
  go_wp2_with fail
  refine (known_any w).mono ?_
  rintro e w1 ⟨rfl, hb1⟩
  have B1 := hid hb1
  clear hb1
  go_wp2_with fail
  refine (code_any k m w1 h0 h1 h).mono ?_
  rintro e w2 ⟨gC, cC, GC, QC, rfl, hmC, hb2⟩
  have B2 := hid (B1.out.then hb2)
  clear hb2 hmC
  go_wp2
  go_ret
  exact ⟨rfl, B2.out⟩

theorem any_all (k m : Int) (q : Option Addr) (nc cc : Nat) (w : World) (hk : (Lit.int .i64 k).wf = true) (hm : (Lit.int .i64 m).wf = true) (hR : IsInts w q nc) :
    Calls Try.prog 8 #[.int .i64 k, .int .i64 m, .slice q nc cc] w fun e w' => e = .returned (.bool true) ∧ Below w.heap.size w w' := by
  obtain ⟨b1, b2⟩ := bounds_i64 hk
  obtain ⟨b3, b4⟩ := bounds_i64 hm
  by_cases h : k < 1 ∨ m < 1 ∨ 16 < k + m
  · exact any_err k m q nc cc w b1 b2 b3 b4 h
  · obtain ⟨K1, rfl⟩ : ∃ K1 : Nat, k = K1 := ⟨k.toNat, by omega⟩
    obtain ⟨M1, rfl⟩ : ∃ M1 : Nat, m = M1 := ⟨m.toNat, by omega⟩
    by_cases hnc : 100 < nc
    · exact any_long K1 M1 q nc cc w (by omega) (by omega) (by omega) hnc
    · obtain ⟨R, _, hI⟩ := hR
      exact any_ok K1 M1 q nc cc R w (by omega) (by omega) (by omega) (by omega) hI
end Go.Proofs.Ytefbhggakepmhaa
