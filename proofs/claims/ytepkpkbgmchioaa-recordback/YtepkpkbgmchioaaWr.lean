/- Contract of large. -/
import Derived.Test.YtepkpkbgmchioaaWm
namespace Go.Proofs.Ytepkpkbgmchioaa
open Go Go.RowKit

theorem Rv.pv_at {r : Rv} (h : r.sum.length = 32) : r.cs[40]? = some r.pv := by
  unfold Rv.cs
  rw [Array.getElem?_append_right (by simp), Array.getElem?_append_right (by rw [sumC_size, h]; simp), sumC_size, h]
  rfl
theorem Rv.up_at {r : Rv} (h : r.sum.length = 32) : r.cs[41]? = some (.string r.up) := by
  unfold Rv.cs
  rw [Array.getElem?_append_right (by simp), Array.getElem?_append_right (by rw [sumC_size, h]; simp), sumC_size, h]
  rfl
/-- Is a record more than is gone through? -/
def bigR (r : Rv) (n : Nat) : Bool := decide (100 < n) || decide (1000 < r.id.size) || decide (1000 < r.etag.size) || decide (1000 < r.data.size) || decide (1000 < r.up.size)
set_option maxRecDepth 100000 in
theorem large_0 (r : Rv) (hs : r.sum.length = 32) (a : Option Addr) (n c : Nat) (hp : r.pv = .slice a n c) (w : World) (x0 : 100 < n) : Calls Try.prog 21 #[.agg r.cs] w fun e w' => e = .returned (.bool true) ∧ Below w.heap.size w w' := by
  have HS := hid hs
  have HP := hid hp
  have y0 : 100 < (n : Int) := by omega
  clear hs hp
  go_enter Try.func21, Try.ntmps21
  go_wp2_with (((with_reducible refine wpList_boxR rfl _ rfl r.cs ?_ ?_); exact rfl; intro w1 g1 hc1 hb1 hg1; have c0 := hc1.cell 0; rw [r.get8 0 (by omega)] at c0; have c4 := hc1.cell 4; rw [r.get8 4 (by omega)] at c4; have c7 := hc1.cell 7; rw [r.get8 7 (by omega)] at c7; simp at c0 c4 c7; have c40 := hc1.cell 40; rw [Rv.pv_at HS.out, HP.out] at c40; have c41 := hc1.cell 41; rw [Rv.up_at HS.out] at c41; have HB := hid hb1; clear hc1 hb1))
  go_ret
  exact ⟨rfl, HB.out⟩
set_option maxRecDepth 100000 in
theorem large_1 (r : Rv) (hs : r.sum.length = 32) (a : Option Addr) (n c : Nat) (hp : r.pv = .slice a n c) (w : World) (x0 : ¬ 100 < n) (x1 : 1000 < r.id.size) : Calls Try.prog 21 #[.agg r.cs] w fun e w' => e = .returned (.bool true) ∧ Below w.heap.size w w' := by
  have HS := hid hs
  have HP := hid hp
  have y0 : ¬ 100 < (n : Int) := by omega
  have y1 : 1000 < (r.id.size : Int) := by omega
  clear hs hp
  go_enter Try.func21, Try.ntmps21
  go_wp2_with (((with_reducible refine wpList_boxR rfl _ rfl r.cs ?_ ?_); exact rfl; intro w1 g1 hc1 hb1 hg1; have c0 := hc1.cell 0; rw [r.get8 0 (by omega)] at c0; have c4 := hc1.cell 4; rw [r.get8 4 (by omega)] at c4; have c7 := hc1.cell 7; rw [r.get8 7 (by omega)] at c7; simp at c0 c4 c7; have c40 := hc1.cell 40; rw [Rv.pv_at HS.out, HP.out] at c40; have c41 := hc1.cell 41; rw [Rv.up_at HS.out] at c41; have HB := hid hb1; clear hc1 hb1))
  go_ret
  exact ⟨rfl, HB.out⟩
set_option maxRecDepth 100000 in
theorem large_2 (r : Rv) (hs : r.sum.length = 32) (a : Option Addr) (n c : Nat) (hp : r.pv = .slice a n c) (w : World) (x0 : ¬ 100 < n) (x1 : ¬ 1000 < r.id.size) (x2 : 1000 < r.etag.size) : Calls Try.prog 21 #[.agg r.cs] w fun e w' => e = .returned (.bool true) ∧ Below w.heap.size w w' := by
  have HS := hid hs
  have HP := hid hp
  have y0 : ¬ 100 < (n : Int) := by omega
  have y1 : ¬ 1000 < (r.id.size : Int) := by omega
  have y2 : 1000 < (r.etag.size : Int) := by omega
  clear hs hp
  go_enter Try.func21, Try.ntmps21
  go_wp2_with (((with_reducible refine wpList_boxR rfl _ rfl r.cs ?_ ?_); exact rfl; intro w1 g1 hc1 hb1 hg1; have c0 := hc1.cell 0; rw [r.get8 0 (by omega)] at c0; have c4 := hc1.cell 4; rw [r.get8 4 (by omega)] at c4; have c7 := hc1.cell 7; rw [r.get8 7 (by omega)] at c7; simp at c0 c4 c7; have c40 := hc1.cell 40; rw [Rv.pv_at HS.out, HP.out] at c40; have c41 := hc1.cell 41; rw [Rv.up_at HS.out] at c41; have HB := hid hb1; clear hc1 hb1))
  go_ret
  exact ⟨rfl, HB.out⟩
set_option maxRecDepth 100000 in
theorem large_3 (r : Rv) (hs : r.sum.length = 32) (a : Option Addr) (n c : Nat) (hp : r.pv = .slice a n c) (w : World) (x0 : ¬ 100 < n) (x1 : ¬ 1000 < r.id.size) (x2 : ¬ 1000 < r.etag.size) (x3 : 1000 < r.data.size) : Calls Try.prog 21 #[.agg r.cs] w fun e w' => e = .returned (.bool true) ∧ Below w.heap.size w w' := by
  have HS := hid hs
  have HP := hid hp
  have y0 : ¬ 100 < (n : Int) := by omega
  have y1 : ¬ 1000 < (r.id.size : Int) := by omega
  have y2 : ¬ 1000 < (r.etag.size : Int) := by omega
  have y3 : 1000 < (r.data.size : Int) := by omega
  clear hs hp
  go_enter Try.func21, Try.ntmps21
  go_wp2_with (((with_reducible refine wpList_boxR rfl _ rfl r.cs ?_ ?_); exact rfl; intro w1 g1 hc1 hb1 hg1; have c0 := hc1.cell 0; rw [r.get8 0 (by omega)] at c0; have c4 := hc1.cell 4; rw [r.get8 4 (by omega)] at c4; have c7 := hc1.cell 7; rw [r.get8 7 (by omega)] at c7; simp at c0 c4 c7; have c40 := hc1.cell 40; rw [Rv.pv_at HS.out, HP.out] at c40; have c41 := hc1.cell 41; rw [Rv.up_at HS.out] at c41; have HB := hid hb1; clear hc1 hb1))
  go_ret
  exact ⟨rfl, HB.out⟩
set_option maxRecDepth 100000 in
theorem large_4 (r : Rv) (hs : r.sum.length = 32) (a : Option Addr) (n c : Nat) (hp : r.pv = .slice a n c) (w : World) (x0 : ¬ 100 < n) (x1 : ¬ 1000 < r.id.size) (x2 : ¬ 1000 < r.etag.size) (x3 : ¬ 1000 < r.data.size) (x4 : 1000 < r.up.size) : Calls Try.prog 21 #[.agg r.cs] w fun e w' => e = .returned (.bool true) ∧ Below w.heap.size w w' := by
  have HS := hid hs
  have HP := hid hp
  have y0 : ¬ 100 < (n : Int) := by omega
  have y1 : ¬ 1000 < (r.id.size : Int) := by omega
  have y2 : ¬ 1000 < (r.etag.size : Int) := by omega
  have y3 : ¬ 1000 < (r.data.size : Int) := by omega
  have y4 : 1000 < (r.up.size : Int) := by omega
  clear hs hp
  go_enter Try.func21, Try.ntmps21
  go_wp2_with (((with_reducible refine wpList_boxR rfl _ rfl r.cs ?_ ?_); exact rfl; intro w1 g1 hc1 hb1 hg1; have c0 := hc1.cell 0; rw [r.get8 0 (by omega)] at c0; have c4 := hc1.cell 4; rw [r.get8 4 (by omega)] at c4; have c7 := hc1.cell 7; rw [r.get8 7 (by omega)] at c7; simp at c0 c4 c7; have c40 := hc1.cell 40; rw [Rv.pv_at HS.out, HP.out] at c40; have c41 := hc1.cell 41; rw [Rv.up_at HS.out] at c41; have HB := hid hb1; clear hc1 hb1))
  go_ret
  exact ⟨rfl, HB.out⟩
set_option maxRecDepth 100000 in
theorem large_5 (r : Rv) (hs : r.sum.length = 32) (a : Option Addr) (n c : Nat) (hp : r.pv = .slice a n c) (w : World) (x0 : ¬ 100 < n) (x1 : ¬ 1000 < r.id.size) (x2 : ¬ 1000 < r.etag.size) (x3 : ¬ 1000 < r.data.size) (x4 : ¬ 1000 < r.up.size) : Calls Try.prog 21 #[.agg r.cs] w fun e w' => e = .returned (.bool false) ∧ Below w.heap.size w w' := by
  have HS := hid hs
  have HP := hid hp
  have y0 : ¬ 100 < (n : Int) := by omega
  have y1 : ¬ 1000 < (r.id.size : Int) := by omega
  have y2 : ¬ 1000 < (r.etag.size : Int) := by omega
  have y3 : ¬ 1000 < (r.data.size : Int) := by omega
  have y4 : ¬ 1000 < (r.up.size : Int) := by omega
  clear hs hp
  go_enter Try.func21, Try.ntmps21
  go_wp2_with (((with_reducible refine wpList_boxR rfl _ rfl r.cs ?_ ?_); exact rfl; intro w1 g1 hc1 hb1 hg1; have c0 := hc1.cell 0; rw [r.get8 0 (by omega)] at c0; have c4 := hc1.cell 4; rw [r.get8 4 (by omega)] at c4; have c7 := hc1.cell 7; rw [r.get8 7 (by omega)] at c7; simp at c0 c4 c7; have c40 := hc1.cell 40; rw [Rv.pv_at HS.out, HP.out] at c40; have c41 := hc1.cell 41; rw [Rv.up_at HS.out] at c41; have HB := hid hb1; clear hc1 hb1))
  go_ret
  exact ⟨rfl, HB.out⟩
theorem large_any (r : Rv) (hs : r.sum.length = 32) (a : Option Addr) (n c : Nat) (hp : r.pv = .slice a n c) (w : World) : Calls Try.prog 21 #[.agg r.cs] w fun e w' => e = .returned (.bool (bigR r n)) ∧ Below w.heap.size w w' := by
  by_cases x0 : 100 < n
  · rw [show bigR r n = true by simp [bigR, x0]]; exact large_0 r hs a n c hp w x0
  by_cases x1 : 1000 < r.id.size
  · rw [show bigR r n = true by simp [bigR, x1]]; exact large_1 r hs a n c hp w x0 x1
  by_cases x2 : 1000 < r.etag.size
  · rw [show bigR r n = true by simp [bigR, x2]]; exact large_2 r hs a n c hp w x0 x1 x2
  by_cases x3 : 1000 < r.data.size
  · rw [show bigR r n = true by simp [bigR, x3]]; exact large_3 r hs a n c hp w x0 x1 x2 x3
  by_cases x4 : 1000 < r.up.size
  · rw [show bigR r n = true by simp [bigR, x4]]; exact large_4 r hs a n c hp w x0 x1 x2 x3 x4
  rw [show bigR r n = false by simp [bigR]; omega]
  exact large_5 r hs a n c hp w x0 x1 x2 x3 x4
#print axioms large_any
end Go.Proofs.Ytepkpkbgmchioaa
