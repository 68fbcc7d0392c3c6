/- Texts laid into one: the remark ahead of each part says what is proved there. -/
import Derived.Test.YtfppmpfmafnfmaaXm
/- The walk of DriveScript. -/
namespace Go.Proofs.Ytfppmpfmafnfmaa
open Go Go.RowKit
theorem driveScript_walk (n1 n2 : Int) (pa0 : Option Addr) (na ca : Nat) (w : World) (hA : IsActs w pa0 na) :
    Calls Try.prog 3 #[.int .i64 n1, .int .i64 n2, .slice pa0 na ca] w fun e w' => e = .returned (.bool true) ∧ Below w.heap.size w w' := by
  by_cases h60 : 60 < na
  · exact script_long n1 n2 pa0 na ca w h60
  by_cases a1 : n1 < 1
  · by_cases a2 : n2 < 1
    · exact script_low_low n1 n2 pa0 na ca w h60 a1 a2
    by_cases b2 : n2 ≤ 100000
    · exact script_low_ok n1 n2 pa0 na ca w h60 a1 (by omega) b2
    by_cases c2 : n2 ≤ 67108864
    · exact script_two1 n1 n2 pa0 na ca w h60 (by omega) (by omega) c2
    · exact script_low_high n1 n2 pa0 na ca w h60 a1 (by omega)
  by_cases b1 : n1 ≤ 100000
  · by_cases a2 : n2 < 1
    · exact script_ok_low n1 n2 pa0 na ca w h60 (by omega) b1 a2
    by_cases b2 : n2 ≤ 100000
    · exact script_ok n1 n2 pa0 na ca w hA h60 (by omega) b1 (by omega) b2
    by_cases c2 : n2 ≤ 67108864
    · exact script_two1 n1 n2 pa0 na ca w h60 (by omega) (by omega) c2
    · exact script_ok_high n1 n2 pa0 na ca w h60 (by omega) b1 (by omega)
  by_cases c1 : n1 ≤ 67108864
  · exact script_one n1 n2 pa0 na ca w h60 (by omega) c1
  by_cases a2 : n2 < 1
  · exact script_high_low n1 n2 pa0 na ca w h60 (by omega) a2
  by_cases b2 : n2 ≤ 100000
  · exact script_high_ok n1 n2 pa0 na ca w h60 (by omega) (by omega) b2
  by_cases c2 : n2 ≤ 67108864
  · exact script_two2 n1 n2 pa0 na ca w h60 (by omega) c1 (by omega) c2
  · exact script_high_high n1 n2 pa0 na ca w h60 (by omega) (by omega)
#print axioms driveScript_walk
end Go.Proofs.Ytfppmpfmafnfmaa
