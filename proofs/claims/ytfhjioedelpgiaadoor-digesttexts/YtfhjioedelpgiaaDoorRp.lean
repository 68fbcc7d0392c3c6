/- Walk of DigestTexts: which digits a digest has, which digest digits are, which digests and tags lists have. -/
import Derived.Test.YtfhjioedelpgiaaDoorRo
namespace Go.Proofs.YtfhjioedelpgiaaDoor
open Go Go.RowKit
set_option maxRecDepth 100000 in
set_option maxHeartbeats 1000000 in
theorem texts_far (p q : Option Addr) (n c m d : Nat) (x : Nat → Nat) (s : ByteArray) (w : World) (h : 5000 < n ∨ 100 < m ∨ 1000 < s.size) :
    Calls Tryd.prog 3 #[.slice p n c, .agg (aB 32 x), .string s, .slice q m d] w fun e w' => e = .returned (.bool true) ∧ Below w.heap.size w w' := by
  have HB0 : Hid (Below w.heap.size w (w.alloc (.cells (aB 32 x) 24))) := (Below.refl _ _).alloc (by omega) _
  by_cases h1 : 5000 < n
  · have h1' : (5000 : Int) < (n : Int) := by omega
    clear h
    go_enter Tryd.func3, Tryd.ntmps3
    go_wp2
    go_ret
    exact ⟨rfl, HB0.out⟩
  · have h1' : ¬ (5000 : Int) < (n : Int) := by omega
    by_cases h2 : 100 < m
    · have h2' : (100 : Int) < (m : Int) := by omega
      clear h
      go_enter Tryd.func3, Tryd.ntmps3
      go_wp2
      go_ret
      exact ⟨rfl, HB0.out⟩
    · have h2' : ¬ (100 : Int) < (m : Int) := by omega
      have h3' : (1000 : Int) < (s.size : Int) := by omega
      clear h
      go_enter Tryd.func3, Tryd.ntmps3
      go_wp2
      go_ret
      exact ⟨rfl, HB0.out⟩
end Go.Proofs.YtfhjioedelpgiaaDoor
