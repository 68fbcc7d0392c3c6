/- Texts laid into one, cut to what is needed: the remark ahead of each part says what is proved there. -/
import Derived.Test.YtopibkoklagceaaGreatPbd
import Derived.Test.YtopibkoklagceaaGreatPav
/- ShardLays, whatever is handed in. -/
namespace Go.Proofs.YtopibkoklagceaaGreat
open Go Go.RowKit

set_option maxRecDepth 100000 in
set_option maxHeartbeats 2000000 in
theorem lays_far (po : Option Addr) (n c : Nat) (k m : Int) (p d : ByteArray) (w : World) (h : (n > 3000 ∧ n ≤ 65536) ∨ 66000 < n ∨ 500 < p.size ∨ 100 < d.size) :
    Calls Tryz.prog 3 #[.slice po n c, .int .i64 k, .int .i64 m, .string p, .string d] w fun e w' => e = .returned (.bool true) ∧ Below w.heap.size w w' := by
  by_cases h1 : (n : Int) > 3000
  · by_cases h2 : (n : Int) ≤ 65536
    · clear h
      go_enter Tryz.func3, Tryz.ntmps3
      go_wp2
      go_ret
      exact ⟨rfl, Below.refl _ _⟩
    · by_cases h3 : (n : Int) > 66000
      · clear h
        go_enter Tryz.func3, Tryz.ntmps3
        go_wp2
        go_ret
        exact ⟨rfl, Below.refl _ _⟩
      · by_cases h4 : (p.size : Int) > 500
        · clear h
          go_enter Tryz.func3, Tryz.ntmps3
          go_wp2
          go_ret
          exact ⟨rfl, Below.refl _ _⟩
        · have h5 : (d.size : Int) > 100 := by omega
          clear h
          go_enter Tryz.func3, Tryz.ntmps3
          go_wp2
          go_ret
          exact ⟨rfl, Below.refl _ _⟩
  · have h3 : ¬ (n : Int) > 66000 := by omega
    by_cases h4 : (p.size : Int) > 500
    · clear h
      go_enter Tryz.func3, Tryz.ntmps3
      go_wp2
      go_ret
      exact ⟨rfl, Below.refl _ _⟩
    · have h5 : (d.size : Int) > 100 := by omega
      clear h
      go_enter Tryz.func3, Tryz.ntmps3
      go_wp2
      go_ret
      exact ⟨rfl, Below.refl _ _⟩
theorem lays11_all (po : Option Addr) (n c : Nat) (k m : Int) (p d : ByteArray) (w : World) (hb : IsB w po n c) (hk : (Lit.int .i64 k).wf = true) (hm : (Lit.int .i64 m).wf = true) :
    Calls Tryz.prog 3 #[.slice po n c, .int .i64 k, .int .i64 m, .string p, .string d] w fun e w' => e = .returned (.bool true) ∧ Below w.heap.size w w' := by
  by_cases h : (n > 3000 ∧ n ≤ 65536) ∨ 66000 < n ∨ 500 < p.size ∨ 100 < d.size
  · exact lays_far po n c k m p d w h
  · obtain ⟨bs, rfl, _, h1, h2, _⟩ := hb
    exact lays_core po c k m bs p d w hk hm h1 h2 (by omega) (by omega) (by omega) (by omega)
end Go.Proofs.YtopibkoklagceaaGreat
