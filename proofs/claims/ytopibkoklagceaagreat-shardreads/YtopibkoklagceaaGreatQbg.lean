/- Texts laid into one, cut to what is needed: the remark ahead of each part says what is proved there. -/
import Derived.Test.YtopibkoklagceaaGreatQal
import Derived.Test.YtopibkoklagceaaGreatQbf
import Derived.Test.YtopibkoklagceaaGreatQbb
import Derived.Test.YtopibkoklagceaaGreatQba
import Derived.Test.YtopibkoklagceaaGreatQab
/- large of the statements on shard. -/
namespace Go.Proofs.YtopibkoklagceaaGreat
open Go Go.RowKit

def bigX5 (x : Cv) : Bool := decide (5000 < x.bs.length)
def bigH (k : Nat) (r : Rv) (n : Nat) : Bool := decide (20 < k) || decide (100 < n) || decide (1000 < r.id.size) || decide (1000 < r.etag.size) || decide (1000 < r.data.size) || decide (1000 < r.up.size) || (decide (3000 < r.size) && decide (r.size ≤ 65536))
def bigQ (l : List Cv) (r : Rv) (n : Nat) : Bool := bigH l.length r n || l.any bigX5
theorem any5_take {l : List Cv} {k : Nat} {x : Cv} (hx : l[k]? = some x) : (l.take (k + 1)).any bigX5 = ((l.take k).any bigX5 || bigX5 x) := by
 rw [take_next hx]; simp
theorem any5_of {l : List Cv} {k : Nat} {x : Cv} (hx : l[k]? = some x) (hb : bigX5 x = true) : l.any bigX5 = true := List.any_eq_true.2 ⟨x, List.mem_of_getElem? hx, hb⟩

set_option maxRecDepth 100000 in
theorem large11_0 (r : Rv) (hs : r.sum.length = 32) (a : Option Addr) (n c : Nat) (hp : r.pv = .slice a n c) (po : Option Addr) (k d : Nat) (w : World) (x0 : 20 < k) : Calls Tryz.prog 14 #[.slice po k d, .agg r.cs] w fun e w' => e = .returned (.bool true) ∧ Below w.heap.size w w' := by
 have HS := hid hs
 have HP := hid hp
 have y0 : 20 < (k : Int) := by omega
 clear hs hp
 go_enter Tryz.func14, Tryz.ntmps14
 go_wp2_with (((with_reducible refine wpList_boxR rfl _ rfl r.cs ?_ ?_); exact rfl; intro w1 g1 hc1 hb1 hg1; have c0 := hc1.cell 0; rw [r.get8 0 (by omega)] at c0; have c3 := hc1.cell 3; rw [r.get8 3 (by omega)] at c3; have c4 := hc1.cell 4; rw [r.get8 4 (by omega)] at c4; have c7 := hc1.cell 7; rw [r.get8 7 (by omega)] at c7; simp at c0 c3 c4 c7; have c40 := hc1.cell 40; rw [Rv.pv_at HS.out, HP.out] at c40; have c41 := hc1.cell 41; rw [Rv.up_at HS.out] at c41; have HB := hid hb1; clear hc1 hb1))
 go_ret
 exact ⟨rfl, HB.out⟩

set_option maxRecDepth 100000 in
theorem large11_1 (r : Rv) (hs : r.sum.length = 32) (a : Option Addr) (n c : Nat) (hp : r.pv = .slice a n c) (po : Option Addr) (k d : Nat) (w : World) (x0 : ¬ 20 < k) (x1 : 100 < n) : Calls Tryz.prog 14 #[.slice po k d, .agg r.cs] w fun e w' => e = .returned (.bool true) ∧ Below w.heap.size w w' := by
 have HS := hid hs
 have HP := hid hp
 have y0 : ¬ 20 < (k : Int) := by omega
 have y1 : 100 < (n : Int) := by omega
 clear hs hp
 go_enter Tryz.func14, Tryz.ntmps14
 go_wp2_with (((with_reducible refine wpList_boxR rfl _ rfl r.cs ?_ ?_); exact rfl; intro w1 g1 hc1 hb1 hg1; have c0 := hc1.cell 0; rw [r.get8 0 (by omega)] at c0; have c3 := hc1.cell 3; rw [r.get8 3 (by omega)] at c3; have c4 := hc1.cell 4; rw [r.get8 4 (by omega)] at c4; have c7 := hc1.cell 7; rw [r.get8 7 (by omega)] at c7; simp at c0 c3 c4 c7; have c40 := hc1.cell 40; rw [Rv.pv_at HS.out, HP.out] at c40; have c41 := hc1.cell 41; rw [Rv.up_at HS.out] at c41; have HB := hid hb1; clear hc1 hb1))
 go_ret
 exact ⟨rfl, HB.out⟩

set_option maxRecDepth 100000 in
theorem large11_2 (r : Rv) (hs : r.sum.length = 32) (a : Option Addr) (n c : Nat) (hp : r.pv = .slice a n c) (po : Option Addr) (k d : Nat) (w : World) (x0 : ¬ 20 < k) (x1 : ¬ 100 < n) (x2 : 1000 < r.id.size) : Calls Tryz.prog 14 #[.slice po k d, .agg r.cs] w fun e w' => e = .returned (.bool true) ∧ Below w.heap.size w w' := by
 have HS := hid hs
 have HP := hid hp
 have y0 : ¬ 20 < (k : Int) := by omega
 have y1 : ¬ 100 < (n : Int) := by omega
 have y2 : 1000 < (r.id.size : Int) := by omega
 clear hs hp
 go_enter Tryz.func14, Tryz.ntmps14
 go_wp2_with (((with_reducible refine wpList_boxR rfl _ rfl r.cs ?_ ?_); exact rfl; intro w1 g1 hc1 hb1 hg1; have c0 := hc1.cell 0; rw [r.get8 0 (by omega)] at c0; have c3 := hc1.cell 3; rw [r.get8 3 (by omega)] at c3; have c4 := hc1.cell 4; rw [r.get8 4 (by omega)] at c4; have c7 := hc1.cell 7; rw [r.get8 7 (by omega)] at c7; simp at c0 c3 c4 c7; have c40 := hc1.cell 40; rw [Rv.pv_at HS.out, HP.out] at c40; have c41 := hc1.cell 41; rw [Rv.up_at HS.out] at c41; have HB := hid hb1; clear hc1 hb1))
 go_ret
 exact ⟨rfl, HB.out⟩

set_option maxRecDepth 100000 in
theorem large11_3 (r : Rv) (hs : r.sum.length = 32) (a : Option Addr) (n c : Nat) (hp : r.pv = .slice a n c) (po : Option Addr) (k d : Nat) (w : World) (x0 : ¬ 20 < k) (x1 : ¬ 100 < n) (x2 : ¬ 1000 < r.id.size) (x3 : 1000 < r.etag.size) : Calls Tryz.prog 14 #[.slice po k d, .agg r.cs] w fun e w' => e = .returned (.bool true) ∧ Below w.heap.size w w' := by
 have HS := hid hs
 have HP := hid hp
 have y0 : ¬ 20 < (k : Int) := by omega
 have y1 : ¬ 100 < (n : Int) := by omega
 have y2 : ¬ 1000 < (r.id.size : Int) := by omega
 have y3 : 1000 < (r.etag.size : Int) := by omega
 clear hs hp
 go_enter Tryz.func14, Tryz.ntmps14
 go_wp2_with (((with_reducible refine wpList_boxR rfl _ rfl r.cs ?_ ?_); exact rfl; intro w1 g1 hc1 hb1 hg1; have c0 := hc1.cell 0; rw [r.get8 0 (by omega)] at c0; have c3 := hc1.cell 3; rw [r.get8 3 (by omega)] at c3; have c4 := hc1.cell 4; rw [r.get8 4 (by omega)] at c4; have c7 := hc1.cell 7; rw [r.get8 7 (by omega)] at c7; simp at c0 c3 c4 c7; have c40 := hc1.cell 40; rw [Rv.pv_at HS.out, HP.out] at c40; have c41 := hc1.cell 41; rw [Rv.up_at HS.out] at c41; have HB := hid hb1; clear hc1 hb1))
 go_ret
 exact ⟨rfl, HB.out⟩

set_option maxRecDepth 100000 in
theorem large11_4 (r : Rv) (hs : r.sum.length = 32) (a : Option Addr) (n c : Nat) (hp : r.pv = .slice a n c) (po : Option Addr) (k d : Nat) (w : World) (x0 : ¬ 20 < k) (x1 : ¬ 100 < n) (x2 : ¬ 1000 < r.id.size) (x3 : ¬ 1000 < r.etag.size) (x4 : 1000 < r.data.size) : Calls Tryz.prog 14 #[.slice po k d, .agg r.cs] w fun e w' => e = .returned (.bool true) ∧ Below w.heap.size w w' := by
 have HS := hid hs
 have HP := hid hp
 have y0 : ¬ 20 < (k : Int) := by omega
 have y1 : ¬ 100 < (n : Int) := by omega
 have y2 : ¬ 1000 < (r.id.size : Int) := by omega
 have y3 : ¬ 1000 < (r.etag.size : Int) := by omega
 have y4 : 1000 < (r.data.size : Int) := by omega
 clear hs hp
 go_enter Tryz.func14, Tryz.ntmps14
 go_wp2_with (((with_reducible refine wpList_boxR rfl _ rfl r.cs ?_ ?_); exact rfl; intro w1 g1 hc1 hb1 hg1; have c0 := hc1.cell 0; rw [r.get8 0 (by omega)] at c0; have c3 := hc1.cell 3; rw [r.get8 3 (by omega)] at c3; have c4 := hc1.cell 4; rw [r.get8 4 (by omega)] at c4; have c7 := hc1.cell 7; rw [r.get8 7 (by omega)] at c7; simp at c0 c3 c4 c7; have c40 := hc1.cell 40; rw [Rv.pv_at HS.out, HP.out] at c40; have c41 := hc1.cell 41; rw [Rv.up_at HS.out] at c41; have HB := hid hb1; clear hc1 hb1))
 go_ret
 exact ⟨rfl, HB.out⟩

set_option maxRecDepth 100000 in
theorem large11_5 (r : Rv) (hs : r.sum.length = 32) (a : Option Addr) (n c : Nat) (hp : r.pv = .slice a n c) (po : Option Addr) (k d : Nat) (w : World) (x0 : ¬ 20 < k) (x1 : ¬ 100 < n) (x2 : ¬ 1000 < r.id.size) (x3 : ¬ 1000 < r.etag.size) (x4 : ¬ 1000 < r.data.size) (x5 : 1000 < r.up.size) : Calls Tryz.prog 14 #[.slice po k d, .agg r.cs] w fun e w' => e = .returned (.bool true) ∧ Below w.heap.size w w' := by
 have HS := hid hs
 have HP := hid hp
 have y0 : ¬ 20 < (k : Int) := by omega
 have y1 : ¬ 100 < (n : Int) := by omega
 have y2 : ¬ 1000 < (r.id.size : Int) := by omega
 have y3 : ¬ 1000 < (r.etag.size : Int) := by omega
 have y4 : ¬ 1000 < (r.data.size : Int) := by omega
 have y5 : 1000 < (r.up.size : Int) := by omega
 clear hs hp
 go_enter Tryz.func14, Tryz.ntmps14
 go_wp2_with (((with_reducible refine wpList_boxR rfl _ rfl r.cs ?_ ?_); exact rfl; intro w1 g1 hc1 hb1 hg1; have c0 := hc1.cell 0; rw [r.get8 0 (by omega)] at c0; have c3 := hc1.cell 3; rw [r.get8 3 (by omega)] at c3; have c4 := hc1.cell 4; rw [r.get8 4 (by omega)] at c4; have c7 := hc1.cell 7; rw [r.get8 7 (by omega)] at c7; simp at c0 c3 c4 c7; have c40 := hc1.cell 40; rw [Rv.pv_at HS.out, HP.out] at c40; have c41 := hc1.cell 41; rw [Rv.up_at HS.out] at c41; have HB := hid hb1; clear hc1 hb1))
 go_ret
 exact ⟨rfl, HB.out⟩

set_option maxRecDepth 100000 in
theorem large11_6 (r : Rv) (hs : r.sum.length = 32) (a : Option Addr) (n c : Nat) (hp : r.pv = .slice a n c) (po : Option Addr) (k d : Nat) (w : World) (x0 : ¬ 20 < k) (x1 : ¬ 100 < n) (x2 : ¬ 1000 < r.id.size) (x3 : ¬ 1000 < r.etag.size) (x4 : ¬ 1000 < r.data.size) (x5 : ¬ 1000 < r.up.size) (x6 : 3000 < r.size) (x7 : r.size ≤ 65536) : Calls Tryz.prog 14 #[.slice po k d, .agg r.cs] w fun e w' => e = .returned (.bool true) ∧ Below w.heap.size w w' := by
 have HS := hid hs
 have HP := hid hp
 have y0 : ¬ 20 < (k : Int) := by omega
 have y1 : ¬ 100 < (n : Int) := by omega
 have y2 : ¬ 1000 < (r.id.size : Int) := by omega
 have y3 : ¬ 1000 < (r.etag.size : Int) := by omega
 have y4 : ¬ 1000 < (r.data.size : Int) := by omega
 have y5 : ¬ 1000 < (r.up.size : Int) := by omega
 clear hs hp
 go_enter Tryz.func14, Tryz.ntmps14
 go_wp2_with (((with_reducible refine wpList_boxR rfl _ rfl r.cs ?_ ?_); exact rfl; intro w1 g1 hc1 hb1 hg1; have c0 := hc1.cell 0; rw [r.get8 0 (by omega)] at c0; have c3 := hc1.cell 3; rw [r.get8 3 (by omega)] at c3; have c4 := hc1.cell 4; rw [r.get8 4 (by omega)] at c4; have c7 := hc1.cell 7; rw [r.get8 7 (by omega)] at c7; simp at c0 c3 c4 c7; have c40 := hc1.cell 40; rw [Rv.pv_at HS.out, HP.out] at c40; have c41 := hc1.cell 41; rw [Rv.up_at HS.out] at c41; have HB := hid hb1; clear hc1 hb1))
 go_ret
 exact ⟨rfl, HB.out⟩

set_option maxRecDepth 100000 in
set_option maxHeartbeats 2000000 in
theorem large11_f0 (r : Rv) (hs : r.sum.length = 32) (a : Option Addr) (n c : Nat) (hp : r.pv = .slice a n c) (po : Option Addr) (k d : Nat) (w : World) (l : List Cv) (hlk : l.length = k) (hcell : l = [] ∨ ∃ b o, po = some ⟨b, o, none⟩ ∧ CCells w b o l) (heach : ∀ x ∈ l, IsCp w x) (x0 : ¬ 20 < k) (x1 : ¬ 100 < n) (x2 : ¬ 1000 < r.id.size) (x3 : ¬ 1000 < r.etag.size) (x4 : ¬ 1000 < r.data.size) (x5 : ¬ 1000 < r.up.size) (x6 : ¬ 3000 < r.size) : Calls Tryz.prog 14 #[.slice po k d, .agg r.cs] w fun e w' => e = .returned (.bool (l.any bigX5)) ∧ Below w.heap.size w w' := by
 obtain ⟨R, hR⟩ : ∃ R : Bool, l.any bigX5 = R := ⟨_, rfl⟩
 rw [hR]
 have HRR := hid hR
 have HN := hid hlk
 have HC := hid hcell
 have HE := hid heach
 have HS := hid hs
 have HP := hid hp
 have y0 : ¬ 20 < (k : Int) := by omega
 have y1 : ¬ 100 < (n : Int) := by omega
 have y2 : ¬ 1000 < (r.id.size : Int) := by omega
 have y3 : ¬ 1000 < (r.etag.size : Int) := by omega
 have y4 : ¬ 1000 < (r.data.size : Int) := by omega
 have y5 : ¬ 1000 < (r.up.size : Int) := by omega
 clear hs hp hR hlk hcell heach
 go_enter Tryz.func14, Tryz.ntmps14
 go_wp2_with (((with_reducible refine wpList_boxR rfl _ rfl r.cs ?_ ?_); exact rfl; intro w1 g1 hc1 hb1 hg1; have c0 := hc1.cell 0; rw [r.get8 0 (by omega)] at c0; have c3 := hc1.cell 3; rw [r.get8 3 (by omega)] at c3; have c4 := hc1.cell 4; rw [r.get8 4 (by omega)] at c4; have c7 := hc1.cell 7; rw [r.get8 7 (by omega)] at c7; simp at c0 c3 c4 c7; have c40 := hc1.cell 40; rw [Rv.pv_at HS.out, HP.out] at c40; have c41 := hc1.cell 41; rw [Rv.up_at HS.out] at c41; have HB := hid hb1; clear hc1 hb1))
 clear x6
 clear c0 c3 c4 c7 c40 c41
 clear y0 y1 y2 y3 y4 y5
 go_loopg [5] k (fun gg s3 wr => ∃ kk : Nat, kk ≤ k ∧ k - kk ≤ gg ∧ s3 = i64 kk ∧ Hid (w1 = wr) ∧ Hid ((l.take kk).any bigX5 = false))
 case atStart => exact ⟨0, Nat.zero_le _, by omega, rfl, hid rfl, hid rfl⟩
 case round =>
  obtain ⟨kk, hkk, hg, rfl, BW, A⟩ := hrel
  have hwr := BW.out
  subst hwr
  by_cases hlt : kk < k
  ·have hltz : (kk : Int) < (k : Int) := by omega
   obtain ⟨x, hx⟩ : ∃ x, l[kk]? = some x := ⟨_, List.getElem?_eq_getElem (by have := HN.out; omega)⟩
   obtain ⟨b, o, hpo, hcells⟩ : ∃ b o, po = some ⟨b, o, none⟩ ∧ CCells w b o l := by
    rcases HC.out with h | h
    ·rw [h] at hx; simp at hx
    ·exact h
   subst hpo
   obtain ⟨p1, c1, hxv, -⟩ := (HE.out x (List.mem_of_getElem? hx)).sl
   have k1 := (hcells kk x hx).2
   rw [hxv] at k1
   replace k1 := (World.cell?_of_block (HB.out.block b (World.block_lt_of_cell? _ _ k1))).trans k1
   have HX := hid hx
   have HA2 := hid (any5_take hx)
   rw [A.out] at HA2
   obtain ⟨m1, hm1⟩ : ∃ m, x.bs.length = m := ⟨_, rfl⟩
   rw [hm1] at k1
   have HM1 := hid hm1
   clear hcells hx hxv hm1
   by_cases hbig : (5000 : Int) < (m1 : Int)
   ·have HBX : Hid (bigX5 x = true) := hid (by unfold bigX5; rw [HM1.out]; exact decide_eq_true (by omega))
    go_wp2
    go_ret
    rw [show R = true from HRR.out.symm.trans (any5_of HX.out HBX.out)]
    exact ⟨rfl, HB.out⟩
   ·have HBX : Hid (bigX5 x = false) := hid (by unfold bigX5; rw [HM1.out]; exact decide_eq_false (by omega))
    go_wp2
    go_roundg (k - (kk + 1))
    case measure => omega
    case rel => exact ⟨kk + 1, by omega, by omega, by go_num, hid rfl, hid (by rw [HA2.out, HBX.out]; rfl)⟩
  ·have hltz : ¬ (kk : Int) < (k : Int) := by omega
   have HAL : Hid (l.any bigX5 = false) := hid (by have := A.out; rwa [List.take_of_length_le (by have := HN.out; omega)] at this)
   go_wp2
   go_ret
   rw [show R = false from HRR.out.symm.trans HAL.out]
   exact ⟨rfl, HB.out⟩

set_option maxRecDepth 100000 in
set_option maxHeartbeats 2000000 in
theorem large11_f1 (r : Rv) (hs : r.sum.length = 32) (a : Option Addr) (n c : Nat) (hp : r.pv = .slice a n c) (po : Option Addr) (k d : Nat) (w : World) (l : List Cv) (hlk : l.length = k) (hcell : l = [] ∨ ∃ b o, po = some ⟨b, o, none⟩ ∧ CCells w b o l) (heach : ∀ x ∈ l, IsCp w x) (x0 : ¬ 20 < k) (x1 : ¬ 100 < n) (x2 : ¬ 1000 < r.id.size) (x3 : ¬ 1000 < r.etag.size) (x4 : ¬ 1000 < r.data.size) (x5 : ¬ 1000 < r.up.size) (x6 : 3000 < r.size) (x7 : ¬ r.size ≤ 65536) : Calls Tryz.prog 14 #[.slice po k d, .agg r.cs] w fun e w' => e = .returned (.bool (l.any bigX5)) ∧ Below w.heap.size w w' := by
 obtain ⟨R, hR⟩ : ∃ R : Bool, l.any bigX5 = R := ⟨_, rfl⟩
 rw [hR]
 have HRR := hid hR
 have HN := hid hlk
 have HC := hid hcell
 have HE := hid heach
 have HS := hid hs
 have HP := hid hp
 have y0 : ¬ 20 < (k : Int) := by omega
 have y1 : ¬ 100 < (n : Int) := by omega
 have y2 : ¬ 1000 < (r.id.size : Int) := by omega
 have y3 : ¬ 1000 < (r.etag.size : Int) := by omega
 have y4 : ¬ 1000 < (r.data.size : Int) := by omega
 have y5 : ¬ 1000 < (r.up.size : Int) := by omega
 clear hs hp hR hlk hcell heach
 go_enter Tryz.func14, Tryz.ntmps14
 go_wp2_with (((with_reducible refine wpList_boxR rfl _ rfl r.cs ?_ ?_); exact rfl; intro w1 g1 hc1 hb1 hg1; have c0 := hc1.cell 0; rw [r.get8 0 (by omega)] at c0; have c3 := hc1.cell 3; rw [r.get8 3 (by omega)] at c3; have c4 := hc1.cell 4; rw [r.get8 4 (by omega)] at c4; have c7 := hc1.cell 7; rw [r.get8 7 (by omega)] at c7; simp at c0 c3 c4 c7; have c40 := hc1.cell 40; rw [Rv.pv_at HS.out, HP.out] at c40; have c41 := hc1.cell 41; rw [Rv.up_at HS.out] at c41; have HB := hid hb1; clear hc1 hb1))
 clear x6 x7
 clear c0 c3 c4 c7 c40 c41
 clear y0 y1 y2 y3 y4 y5
 go_loopg [5] k (fun gg s3 wr => ∃ kk : Nat, kk ≤ k ∧ k - kk ≤ gg ∧ s3 = i64 kk ∧ Hid (w1 = wr) ∧ Hid ((l.take kk).any bigX5 = false))
 case atStart => exact ⟨0, Nat.zero_le _, by omega, rfl, hid rfl, hid rfl⟩
 case round =>
  obtain ⟨kk, hkk, hg, rfl, BW, A⟩ := hrel
  have hwr := BW.out
  subst hwr
  by_cases hlt : kk < k
  ·have hltz : (kk : Int) < (k : Int) := by omega
   obtain ⟨x, hx⟩ : ∃ x, l[kk]? = some x := ⟨_, List.getElem?_eq_getElem (by have := HN.out; omega)⟩
   obtain ⟨b, o, hpo, hcells⟩ : ∃ b o, po = some ⟨b, o, none⟩ ∧ CCells w b o l := by
    rcases HC.out with h | h
    ·rw [h] at hx; simp at hx
    ·exact h
   subst hpo
   obtain ⟨p1, c1, hxv, -⟩ := (HE.out x (List.mem_of_getElem? hx)).sl
   have k1 := (hcells kk x hx).2
   rw [hxv] at k1
   replace k1 := (World.cell?_of_block (HB.out.block b (World.block_lt_of_cell? _ _ k1))).trans k1
   have HX := hid hx
   have HA2 := hid (any5_take hx)
   rw [A.out] at HA2
   obtain ⟨m1, hm1⟩ : ∃ m, x.bs.length = m := ⟨_, rfl⟩
   rw [hm1] at k1
   have HM1 := hid hm1
   clear hcells hx hxv hm1
   by_cases hbig : (5000 : Int) < (m1 : Int)
   ·have HBX : Hid (bigX5 x = true) := hid (by unfold bigX5; rw [HM1.out]; exact decide_eq_true (by omega))
    go_wp2
    go_ret
    rw [show R = true from HRR.out.symm.trans (any5_of HX.out HBX.out)]
    exact ⟨rfl, HB.out⟩
   ·have HBX : Hid (bigX5 x = false) := hid (by unfold bigX5; rw [HM1.out]; exact decide_eq_false (by omega))
    go_wp2
    go_roundg (k - (kk + 1))
    case measure => omega
    case rel => exact ⟨kk + 1, by omega, by omega, by go_num, hid rfl, hid (by rw [HA2.out, HBX.out]; rfl)⟩
  ·have hltz : ¬ (kk : Int) < (k : Int) := by omega
   have HAL : Hid (l.any bigX5 = false) := hid (by have := A.out; rwa [List.take_of_length_le (by have := HN.out; omega)] at this)
   go_wp2
   go_ret
   rw [show R = false from HRR.out.symm.trans HAL.out]
   exact ⟨rfl, HB.out⟩

theorem large11_any (r : Rv) (hs : r.sum.length = 32) (a : Option Addr) (n c : Nat) (hp : r.pv = .slice a n c) (v : Value) (l : List Cv) (w : World) (hl : IsC w v l) : Calls Tryz.prog 14 #[v, .agg r.cs] w fun e w' => e = .returned (.bool (bigQ l r n)) ∧ Below w.heap.size w w' := by
 obtain ⟨po, d, rfl, _, _, _, hcell, heach⟩ := hl
 by_cases x0 : 20 < l.length
 ·rw [show bigQ l r n = true by simp [bigQ, bigH, x0]]; exact large11_0 r hs a n c hp po l.length d w x0
 by_cases x1 : 100 < n
 ·rw [show bigQ l r n = true by simp [bigQ, bigH, x1]]; exact large11_1 r hs a n c hp po l.length d w x0 x1
 by_cases x2 : 1000 < r.id.size
 ·rw [show bigQ l r n = true by simp [bigQ, bigH, x2]]; exact large11_2 r hs a n c hp po l.length d w x0 x1 x2
 by_cases x3 : 1000 < r.etag.size
 ·rw [show bigQ l r n = true by simp [bigQ, bigH, x3]]; exact large11_3 r hs a n c hp po l.length d w x0 x1 x2 x3
 by_cases x4 : 1000 < r.data.size
 ·rw [show bigQ l r n = true by simp [bigQ, bigH, x4]]; exact large11_4 r hs a n c hp po l.length d w x0 x1 x2 x3 x4
 by_cases x5 : 1000 < r.up.size
 ·rw [show bigQ l r n = true by simp [bigQ, bigH, x5]]; exact large11_5 r hs a n c hp po l.length d w x0 x1 x2 x3 x4 x5
 by_cases x6 : 3000 < r.size
 ·by_cases x7 : r.size ≤ 65536
  ·rw [show bigQ l r n = true by simp [bigQ, bigH, x6, x7]]; exact large11_6 r hs a n c hp po l.length d w x0 x1 x2 x3 x4 x5 x6 x7
  ·rw [show bigQ l r n = l.any bigX5 by simp [bigQ, bigH, x0, x1, x2, x3, x4, x5, x7]]
   exact large11_f1 r hs a n c hp po l.length d w l rfl hcell heach x0 x1 x2 x3 x4 x5 x6 x7
 ·rw [show bigQ l r n = l.any bigX5 by simp [bigQ, bigH, x0, x1, x2, x3, x4, x5, x6]]
  exact large11_f0 r hs a n c hp po l.length d w l rfl hcell heach x0 x1 x2 x3 x4 x5 x6
end Go.Proofs.YtopibkoklagceaaGreat

/- Bytes all of whose room may be written over; bytes.Clone and Part of package shard tell such. (Part is written by tools/gen_Zzd.py.) -/
namespace Go.Proofs.YtopibkoklagceaaGreat
open Go Go.RowKit

/-- A byte's value. -/
def Q11 (u : Value) : Prop := ∃ k : Nat, u = .int .u8 (k : Int) ∧ k < 256
/-- Bytes in a block from B on, all of whose cells are bytes. -/
def OvS (B : Nat) (w : World) (v : Value) : Prop := v = .slice none 0 0 ∨ ∃ (g n : Nat) (cs : Array Value), v = .slice (some ⟨g, 0, none⟩) n cs.size ∧ B ≤ g ∧ cs.size ≤ maxLen ∧ CAt w g cs 5 ∧ ∀ u ∈ cs.toList, Q11 u
theorem OvS.nil (B : Nat) (w : World) : OvS B w (.slice none 0 0) := .inl rfl
theorem OvS.base {B C : Nat} {w : World} {v : Value} (h : OvS B w v) (hC : C ≤ B) : OvS C w v := by
 rcases h with h | ⟨g, n, cs, h1, h2, h3⟩
 ·exact .inl h
 ·exact .inr ⟨g, n, cs, h1, by omega, h3⟩
theorem OvS.only {B : Nat} {w w' : World} {v : Value} {S : Nat → Prop} (h : OvS B w v) (ho : Only S w w') (hS : ∀ i, S i → i < B) : OvS B w' v := by
 rcases h with h | ⟨g, n, cs, h1, h2, h3, h4, h5⟩
 ·exact .inl h
 ·exact .inr ⟨g, n, cs, h1, h2, h3, h4.keep (ho.block g h4.lt fun k => by have := hS _ k; omega), h5⟩
theorem OvS.below {B : Nat} {w w' : World} {v : Value} (h : OvS B w v) (hb : Below w.heap.size w w') : OvS B w' v := by
 rcases h with h | ⟨g, n, cs, h1, h2, h3, h4, h5⟩
 ·exact .inl h
 ·exact .inr ⟨g, n, cs, h1, h2, h3, h4.below hb, h5⟩
theorem CAt.cellsU11 {w : World} {g : Nat} {cs : Array Value} (h : CAt w g cs 5) (hq : ∀ u ∈ cs.toList, Q11 u) : CellsU w g cs.size := by
 refine ⟨fun i hi => ?_, fun i => h.free i⟩
 obtain ⟨z, e, hz⟩ := hq cs[i] (by simp)
 exact ⟨z, hz, by rw [h.cell, Array.getElem?_eq_getElem hi, e]⟩
/-- What OverBytes of such turns. -/
theorem overS_any {B : Nat} {w : World} {v : Value} (h : OvS B w v) : Calls Tryz.prog 11 #[v] w fun e w' => e = .returned (.tuple #[]) ∧ Only (fun b => v.ownBlock = some b ∧ B ≤ b) w w' := by
 rcases h with rfl | ⟨g, n, cs, rfl, h2, h3, h4, h5⟩
 ·exact (over2_nil w).mono fun e w' ⟨h1, h2⟩ => ⟨h1, by rw [h2]; exact Only.refl _ _⟩
 ·exact (over2_any g n cs.size w h3 (h4.cellsU11 h5)).mono fun e w' ⟨h1, h6⟩ => ⟨h1, h6.mono fun i e => ⟨by rw [e]; rfl, by rw [e]; exact h2⟩⟩
/-- All cells of the row that a slice leads to, its spare room too, are bytes. -/
def All11 (w : World) (v : Value) : Prop := ∀ g, v.ownBlock = some g → ∀ cur, w.heap[g]? = some (.cells cur 5 (0, 0)) → ∀ u ∈ cur.toList, Q11 u
theorem All11.ovs {B : Nat} {w : World} {v : Value} {L : List Nat} (h : All11 w v) (hb : Buf B w v L) : OvS B w v := by
 rcases hb.2 with ⟨e, h0⟩ | ⟨g, cap, cur, e, hB, hg, _, hcm, hcs, _⟩
 ·left; rw [e]
 ·right
  have e2 : cur.size = cap := by rw [hcs, Nat.mul_one]
  exact ⟨g, L.length, cur, by rw [e, e2], hB, by omega, hg, h g (by rw [e]; rfl) cur hg⟩
theorem mem_zero11 {k : Nat} {u : Value} (h : u ∈ (Builtin.zeroCells (Value.int .u8 0).cells k).toList) : u = .int .u8 0 := by
 unfold Builtin.zeroCells at h
 simp [Value.cells] at h
 obtain ⟨i, _, rfl⟩ := h
 simp [Nat.mod_one]
/-- Bytes appended to a new empty row: all of the room is bytes. -/
theorem app_all11 (w : World) (a : Addr) (x : List Nat) (c : Nat) (hb : BL w (some a) x) (h8 : ∀ z ∈ x, z < 256) (hn : x.length ≤ 1000000) {v' : Value} {w' : World}
  (hr : (Builtin.append_ #[22, 22] 22 #[.slice (some ⟨w.heap.size, 0, none⟩) 0 0, .slice (some a) x.length c]).run Tryz.prog (w.alloc (.cells #[] 5)) = .ok v' w') : All11 w' v' := by
 obtain ⟨i0, hi0, hz0, hz1, hz2⟩ := info_parts Tryz.info5
 have hm : CAt (w.alloc (.cells #[] 5)) w.heap.size #[] 5 := CAt.made w _ _
 have hbl := hb.below (below_al w (.cells #[] 5))
 have hnews : ∀ j u, (x.map u8)[j]? = some u → (w.alloc (.cells #[] 5)).cell? (a.add j) = some u := fun j u hj => by
  have hjl : j < x.length := by
   rcases Nat.lt_or_ge j x.length with q | q
   ·exact q
   ·rw [List.getElem?_eq_none (by simpa using q)] at hj; cases hj
  have e : u = u8 (x.getD j 0) := by simp [hjl] at hj; rw [← hj]; simp [List.getD, hjl]
  rcases hbl with h | ⟨b, o, e2, h⟩
  ·subst h; simp at hjl
  ·cases e2
   rw [add_none, e]; exact h j hjl
 have hq : ∀ u ∈ x.map u8, Q11 u := fun u hu => by
  obtain ⟨k, hk, rfl⟩ := List.mem_map.1 hu
  exact ⟨k, rfl, h8 k hk⟩
 by_cases h0 : x.length = 0
 ·have hx : x = [] := List.length_eq_zero_iff.1 h0
  subst hx
  have he := run_append_room (P := Tryz.prog) (w.alloc (.cells #[] 5)) 22 22 5 i0 Tryz.underlying22 hi0 w.heap.size 0 0 #[] hm a 0 c [] (by simp) (fun j u hj => by simp at hj) (by simp) (Nat.le_refl _) (by simp)
  rw [show ([] : List Nat).length = 0 from rfl, he] at hr
  cases hr
  intro g2 hg2 cur2 hc2 u hu
  cases hg2
  rw [setRow_heap _ _ _ _ 5 _ hm] at hc2
  cases hc2
  simp at hu
 ·have he := run_append_grow (P := Tryz.prog) (w.alloc (.cells #[] 5)) 22 22 5 i0 (.int .u8 0) Tryz.underlying22 hi0 hz0 ⟨w.heap.size, 0, none⟩ 0 0 [] (by simp) (fun j u hj => by simp at hj) a x.length c (x.map u8) (by rw [hz1]; simp) hnews (by omega) (by omega) (growslice_fits (by omega) (by rw [hz2]; omega))
  rw [he] at hr
  cases hr
  intro g2 hg2 cur2 hc2 u hu
  cases hg2
  have h2 := CAt.made (w.alloc (.cells #[] 5)).drew (([] : List Value).toArray ++ (x.map u8).toArray ++ Builtin.zeroCells (Value.int .u8 0).cells (grownCap (w.alloc (.cells #[] 5)) (0 + x.length) 0 5 - (0 + x.length))) 5
  unfold CAt at h2
  have h3 := h2.symm.trans hc2
  cases h3
  simp only [Array.toList_append, List.mem_append] at hu
  rcases hu with (hu | hu) | hu
  ·simp at hu
  ·exact hq u (by simpa using hu)
  ·rw [mem_zero11 hu]; exact ⟨0, rfl, by omega⟩
theorem cloneW_any (po : Option Addr) (n c : Nat) (x : List Nat) (w : World) (hx : x.length = n) (h8 : ∀ z ∈ x, z < 256) (hb : BL w po x) (hn : n ≤ 1000000) (hp : po = none → c = 0) (hp2 : po = none → n = 0) :
  Calls Tryz.prog 43 #[.slice po n c] w fun e w' => ∃ v, e = .returned v ∧ Buf w.heap.size w' v x ∧ OvS w.heap.size w' v ∧ Below w.heap.size w w' := by
 subst hx
 cases po with
 | none =>
  have h0 := hp2 rfl
  have hx0 : x = [] := List.length_eq_zero_iff.1 h0
  subst hx0
  have hc := hp rfl
  subst hc
  have hq : ∀ W : World, (binOp .eql 22 (.slice none 0 0) (.slice none 0 0)).run Tryz.prog W = .ok (.bool true) W := fun W => by
   first | exact Lib.run_eql_slice_nil W 22 _ none 0 0 0 0 Tryz.underlying22 | exact Lib.run_eql_slice_nil W 22 _ none 0 0 Tryz.underlying22
  go_enter Tryz.func43, Tryz.ntmps43
  go_wp2
  go_ret
  exact ⟨_, rfl, Buf.nil _ _, OvS.nil _ _, Below.refl _ _⟩
 | some a =>
  obtain ⟨v', w', hr, hbf, hg⟩ := (Buf.made0 w w.heap.size (Nat.le_refl _)).app (some a) c x (hb.below (below_al _ _)) (fun e => by cases e) (by simp; omega) (by rw [size_al]; omega)
  have HALL := hid (app_all11 w a x c hb h8 hn hr)
  have HRUN := hid hr
  have hq : ∀ W : World, (binOp .eql 22 (.slice (some a) x.length c) (.slice none 0 0)).run Tryz.prog W = .ok (.bool false) W := fun W => by
   first | exact Lib.run_eql_slice_nil W 22 _ (some a) x.length c 0 0 Tryz.underlying22 | exact Lib.run_eql_slice_nil W 22 _ (some a) x.length c Tryz.underlying22
  clear hr
  go_enter Tryz.func43, Tryz.ntmps43
  go_wp2_with (at_builtin; refine wpList_append_run _ _ 22 22 rfl rfl _ _ _ rfl rfl HRUN.out ?_)
  go_ret
  have hbf2 : Buf w.heap.size w' v' x := by simpa using hbf
  exact ⟨v', rfl, hbf2, HALL.out.ovs hbf2, below_grown (below_al _ _) hg (Nat.le_refl _) (fun b hb => by cases hb; exact Nat.le_refl _)⟩
/-- Bytes of the call's own that may be written over, and an error's number. -/
def PtW (w : World) (E : Int) (B : List Nat) (e : Ending) (w' : World) : Prop := ∃ v, e = .returned (.tuple #[v, .int .i64 E]) ∧ Buf w.heap.size w' v B ∧ OvS w.heap.size w' v ∧ Below w.heap.size w w'
set_option maxRecDepth 100000 in
set_option maxHeartbeats 1000000 in
theorem partW_any (r : Rv) (hr : r.ok) (ps : Ps) (v : Value) (l : List Cv) (a b : Int) (w : World) (hp : PL w r.pv ps) (hl : CL w v l) (ha : (Lit.int .i64 a).wf = true) (hb : (Lit.int .i64 b).wf = true) :
  Calls Tryz.prog 19 #[v, .agg r.cs, .int .i64 a, .int .i64 b] w (PtW w (prtE r ps (cps l) a b) (prtB r ps (cps l) a b)) := by
 have HCH := hid (fun (w' : World) (hb : Below w.heap.size w w') (po : Option Addr) (c : Nat) => chk_any r hr ps po l.length c w' (hp.below hb))
 have HL := hid hl
 obtain ⟨po, c, rfl, _⟩ := hl
 have HR := hid hr
 unfold prtE prtB
 rw [cps_len]
 unfold mayE at HCH
 cases hq : mayB r ps l.length
 ·rw [hq] at HCH
  simp only [if_neg (show ¬ (false = true) by decide)] at HCH ⊢
  clear hr hp hq
  go_enter Tryz.func19, Tryz.ntmps19
  go_wp2_with (first
   | ((with_reducible refine wpList_boxR rfl _ rfl r.cs ?_ ?_); exact rfl; intro w1 g1 hc1 hb1 hg1; have HA := hid (RBox.mk' HR.out hc1); have HB := hid hb1; clear hc1 hb1)
   | ((with_reducible refine wpList_load_at 40 _ rfl ?_ g1 0 ?_ r.cs (.struct (Tryz.prog.fieldsOf 40)) ?_ underRec rfl ?_ ?_); exact rfl; exact rfl; exact HA.out.whole; (rw [HR.out.size]; exact sizeR))
   | (go_at_call 36; refine (HCH.out _ HB.out _ _).mono ?_; rintro e w4 ⟨rfl, hb4⟩; have HB4 := hid (below_on HB.out hb4); clear hb4))
  go_ret2
  exact ⟨_, rfl, Buf.nil _ _, OvS.nil _ _, HB4.out⟩
 ·have e1 : rdrE r ps (cps l) = whE r.k.toNat r.m.toNat r.size.toNat r.sum (cps l) := by unfold rdrE; rw [cps_len, hq, if_pos rfl]
  have e2 : rdrB r ps (cps l) = whB r.k.toNat r.m.toNat r.size.toNat r.sum (cps l) := by unfold rdrB; rw [cps_len, hq, if_pos rfl]
  rw [hq] at HCH
  simp only [if_true] at HCH ⊢
  obtain ⟨k, m, s, hk, hm, hs, h0, h1, h, hs', hn⟩ := mayB_parts hq
  have HWH := hid (fun (w' : World) (hb : Below w.heap.size w w') => whole_any r hr k m s hk hm hs h0 h1 h hs' (.slice po l.length c) l w' (HL.out.below hb) hn)
  rw [e1, e2, hk, hm, hs]
  simp only [Int.toNat_natCast]
  have HLB : Hid (whE k m s r.sum (cps l) = 0 → (whB k m s r.sum (cps l)).length = s) := fun q => by unfold whB; rw [if_pos q]; exact jnB_len _ _ _ _
  have HLN : Hid (whE k m s r.sum (cps l) ≠ 0 → whB k m s r.sum (cps l) = []) := fun q => by unfold whB; rw [if_neg q]
  have HL8 : Hid (∀ z ∈ whB k m s r.sum (cps l), z < 256) := by
   intro z hz
   unfold whB at hz
   split at hz
   ·exact jnB_lt _ _ _ _ z hz
   ·cases hz
  generalize whE k m s r.sum (cps l) = E at HWH HLB HLN ⊢
  generalize whB k m s r.sum (cps l) = L at HWH HLB HLN HL8 ⊢
  have HS := hid hs
  clear hr hp hq hn hk hm hs e1 e2
  by_cases hr1 : a < 0
  ·rw [if_pos (.inl hr1), if_pos (.inl hr1)]
   go_enter Tryz.func19, Tryz.ntmps19
   go_wp2_with (first
    | ((with_reducible refine wpList_boxR rfl _ rfl r.cs ?_ ?_); exact rfl; intro w1 g1 hc1 hb1 hg1; have HA := hid (RBox.mk' HR.out hc1); have HB := hid hb1; clear hc1 hb1)
    | ((with_reducible refine wpList_load_at 40 _ rfl ?_ g1 0 ?_ r.cs (.struct (Tryz.prog.fieldsOf 40)) ?_ underRec rfl ?_ ?_); exact rfl; exact rfl; exact HA.out.whole; (rw [HR.out.size]; exact sizeR))
    | (go_at_call 36; refine (HCH.out _ HB.out _ _).mono ?_; rintro e w4 ⟨rfl, hb4⟩; replace HA := hid (HA.out.below HR.out hb4); have HB4 := hid (below_on HB.out hb4); have c3 := HA.out.c3; rw [HS.out] at c3; clear hb4))
   go_ret2
   exact ⟨_, rfl, Buf.nil _ _, OvS.nil _ _, HB4.out⟩
  ·by_cases hr2 : b < a
   ·rw [if_pos (.inr (.inl hr2)), if_pos (.inr (.inl hr2))]
    go_enter Tryz.func19, Tryz.ntmps19
    go_wp2_with (first
     | ((with_reducible refine wpList_boxR rfl _ rfl r.cs ?_ ?_); exact rfl; intro w1 g1 hc1 hb1 hg1; have HA := hid (RBox.mk' HR.out hc1); have HB := hid hb1; clear hc1 hb1)
     | ((with_reducible refine wpList_load_at 40 _ rfl ?_ g1 0 ?_ r.cs (.struct (Tryz.prog.fieldsOf 40)) ?_ underRec rfl ?_ ?_); exact rfl; exact rfl; exact HA.out.whole; (rw [HR.out.size]; exact sizeR))
     | (go_at_call 36; refine (HCH.out _ HB.out _ _).mono ?_; rintro e w4 ⟨rfl, hb4⟩; replace HA := hid (HA.out.below HR.out hb4); have HB4 := hid (below_on HB.out hb4); have c3 := HA.out.c3; rw [HS.out] at c3; clear hb4))
    go_ret2
    exact ⟨_, rfl, Buf.nil _ _, OvS.nil _ _, HB4.out⟩
   ·by_cases hr3 : (s : Int) < b
    ·rw [if_pos (.inr (.inr hr3)), if_pos (.inr (.inr hr3))]
     have hr3' : b > (s : Int) := hr3
     go_enter Tryz.func19, Tryz.ntmps19
     go_wp2_with (first
      | ((with_reducible refine wpList_boxR rfl _ rfl r.cs ?_ ?_); exact rfl; intro w1 g1 hc1 hb1 hg1; have HA := hid (RBox.mk' HR.out hc1); have HB := hid hb1; clear hc1 hb1)
      | ((with_reducible refine wpList_load_at 40 _ rfl ?_ g1 0 ?_ r.cs (.struct (Tryz.prog.fieldsOf 40)) ?_ underRec rfl ?_ ?_); exact rfl; exact rfl; exact HA.out.whole; (rw [HR.out.size]; exact sizeR))
      | (go_at_call 36; refine (HCH.out _ HB.out _ _).mono ?_; rintro e w4 ⟨rfl, hb4⟩; replace HA := hid (HA.out.below HR.out hb4); have HB4 := hid (below_on HB.out hb4); have c3 := HA.out.c3; rw [HS.out] at c3; clear hb4))
     go_ret2
     exact ⟨_, rfl, Buf.nil _ _, OvS.nil _ _, HB4.out⟩
    ·rw [if_neg (by omega), if_neg (by omega)]
     obtain ⟨x, rfl⟩ : ∃ x : Nat, a = x := ⟨a.toNat, by omega⟩
     obtain ⟨y, rfl⟩ : ∃ y : Nat, b = y := ⟨b.toNat, by omega⟩
     simp only [Int.toNat_natCast]
     have hr3' : ¬ (y : Int) > (s : Int) := by omega
     by_cases hE : E = 0
     ·have hLs := HLB.out hE
      subst hE
      obtain ⟨L2, hL2⟩ : ∃ L2, (L.drop x).take (y - x) = L2 := ⟨_, rfl⟩
      rw [hL2]
      have HL2 := hid (show L2.length = y - x by rw [← hL2]; simp; omega)
      have HL28 := hid (show ∀ z ∈ L2, z < 256 by rw [← hL2]; exact fun z hz => HL8.out z (List.mem_of_mem_drop (List.mem_of_mem_take hz)))
      unfold WhU at HWH
      rw [hLs] at HWH
      have HXY := hid (And.intro (show x ≤ y by omega) (show y ≤ s by omega))
      have HCUT := hid (fun pq => H.run_cut pq s s x y (by omega) (by omega))
      have HBC := hid (fun (W : World) (pq p2 : Option Addr) (h2 : ∀ g o, pq = some ⟨g, o, none⟩ → x < s → p2 = some ⟨g, o + x, none⟩) (hb : BL W pq L) => (by rw [← hL2]; exact bl_cut HXY.out.1 (by rw [hLs]; exact HXY.out.2) (by rw [hLs]; exact h2) hb : BL W p2 L2))
      have HSS := hid hs'
      clear hL2 hLs hs' HLB
      go_enter Tryz.func19, Tryz.ntmps19
      go_wp2_with (first
       | ((with_reducible refine wpList_boxR rfl _ rfl r.cs ?_ ?_); exact rfl; intro w1 g1 hc1 hb1 hg1; have HA := hid (RBox.mk' HR.out hc1); have HB := hid hb1; clear hc1 hb1)
       | ((with_reducible refine wpList_load_at 40 _ rfl ?_ g1 0 ?_ r.cs (.struct (Tryz.prog.fieldsOf 40)) ?_ underRec rfl ?_ ?_); exact rfl; exact rfl; exact HA.out.whole; (rw [HR.out.size]; exact sizeR))
       | (go_at_call 36; refine (HCH.out _ HB.out _ _).mono ?_; rintro e w4 ⟨rfl, hb4⟩; replace HA := hid (HA.out.below HR.out hb4); have HB4 := hid (below_on HB.out hb4); have c3 := HA.out.c3; rw [HS.out] at c3; clear hb4)
       | (go_at_call 37; refine (HWH.out _ HB4.out).mono ?_; rintro e w5 ⟨pq, rfl, ho, hb5⟩; obtain ⟨p2, hcut, hp2, hpn⟩ := HCUT.out pq; have HO := hid ho; have HB5 := hid (below_on HB4.out hb5); have HCL := hid (cloneW_any p2 (y - x) (s - x) L2 w5 HL2.out HL28.out (HBC.out w5 pq p2 hp2 ho.bl) (by have := HXY.out; have := HSS.out; omega) (fun e => by have h9 := hpn e; subst h9; have := (buf_none ho).1; omega) (fun e => by have h9 := hpn e; subst h9; have := (buf_none ho).1; have := HXY.out; omega)); clear ho hb5 hp2 hpn)
       | (go_at_call 43; refine HCL.out.mono ?_; rintro e w6 ⟨v6, rfl, ho6, hq6, hb6⟩; have HO6 := hid ho6; have HQ6 := hid hq6; have HB6 := hid hb6; clear ho6 hq6 hb6))
      go_ret2
      exact ⟨_, rfl, own_base HO6.out HB5.out.size, HQ6.out.base HB5.out.size, below_on HB5.out HB6.out⟩
     ·have hE' : (E != 0) = true := by simpa using hE
      have hLn := HLN.out hE
      subst hLn
      rw [show ((([] : List Nat).drop x).take (y - x)) = [] by simp]
      clear HLB HLN hE
      go_enter Tryz.func19, Tryz.ntmps19
      go_wp2_with (first
       | ((with_reducible refine wpList_boxR rfl _ rfl r.cs ?_ ?_); exact rfl; intro w1 g1 hc1 hb1 hg1; have HA := hid (RBox.mk' HR.out hc1); have HB := hid hb1; clear hc1 hb1)
       | ((with_reducible refine wpList_load_at 40 _ rfl ?_ g1 0 ?_ r.cs (.struct (Tryz.prog.fieldsOf 40)) ?_ underRec rfl ?_ ?_); exact rfl; exact rfl; exact HA.out.whole; (rw [HR.out.size]; exact sizeR))
       | (go_at_call 36; refine (HCH.out _ HB.out _ _).mono ?_; rintro e w4 ⟨rfl, hb4⟩; replace HA := hid (HA.out.below HR.out hb4); have HB4 := hid (below_on HB.out hb4); have c3 := HA.out.c3; rw [HS.out] at c3; clear hb4)
       | (go_at_call 37; refine (HWH.out _ HB4.out).mono ?_; rintro e w5 ⟨pq, rfl, ho, hb5⟩; have HB5 := hid (below_on HB4.out hb5); clear ho hb5))
      go_ret2
      exact ⟨_, rfl, Buf.nil _ _, OvS.nil _ _, HB5.out⟩
end Go.Proofs.YtopibkoklagceaaGreat

/- What drives answer of the files of bytes: any k that are as they were tell the bytes; fewer tell nothing. No conditions but bounds. -/
namespace Go.Proofs.YtopibkoklagceaaGreat
open Go Go.RowKit

theorem okRc_of {n k m : Int} {d : List Nat} (hd : d.length = 32) (hn : 0 ≤ n) (hn2 : n ≤ 65536) (h0 : 1 ≤ k) (h1 : 1 ≤ m) (h : k + m ≤ 16) : okRc ((ofR n k m d).rc []) = true := by
 have e1 : okId (lst ⟨#[110, 117, 108, 108]⟩) = true := by decide
 have e2 : okTag (lst ⟨#[48]⟩) = true := by decide
 have e3 : lst (⟨#[]⟩ : ByteArray) = [] := rfl
 have e4 : okData (lst dat0) = true := by decide
 unfold okRc ofR Rv.rc
 simp only [e1, e2, e3, e4]
 simp [inR, okParts, okPs, hd]
 omega
theorem mayB_of {n k m : Int} {d : List Nat} {l : Nat} (hd : d.length = 32) (hn : 0 ≤ n) (hn2 : n ≤ 65536) (h0 : 1 ≤ k) (h1 : 1 ≤ m) (h : k + m ≤ 16) (hl : (l : Int) = k + m) : mayB (ofR n k m d) [] l = true := by
 unfold mayB
 rw [okRc_of hd hn hn2 h0 h1 h]
 simp [ofR, hl]
/-- A drive's file is as it was, or is not sound. -/
def Wl (k : Nat) (b : List Nat) (l : List Cp) : Prop := ∀ i c, l[i]? = some c → c = ⟨0, flL (shd k b i)⟩ ∨ sdB (U.lgt b.length k) c = false
theorem sd_well {k : Nat} {b : List Nat} (h0 : 1 ≤ k) (hb : b.length ≤ 65536) (i : Nat) : sdB (U.lgt b.length k) ⟨0, flL (shd k b i)⟩ = true ∧ rdB (flL (shd k b i)) (U.lgt b.length k) = shd k b i := by
 have h1 := rd_fl (shd k b i) (by rw [shd_len]; exact U.lgt_le _ _ hb h0)
 rw [shd_len] at h1
 refine ⟨?_, h1.2⟩
 unfold sdB
 simp [h1.1]
theorem read_well {k m : Nat} {b : List Nat} {l : List Cp} (h8 : ∀ z ∈ b, z < 256) (h0 : 1 ≤ k) (h1 : 1 ≤ m) (h : k + m ≤ 16) (hb : b.length ≤ 65536) (hl : l.length = k + m) (hw : Wl k b l) (hc : k ≤ csN (U.lgt b.length k) l l.length) :
  rdrE (ofR b.length k m (dig b)) [] l = 0 ∧ rdrB (ofR b.length k m (dig b)) [] l = b := by
 have hj : jnB k m b.length l = b := jn_all h8 h0 h hl hc fun i c hi hs => by
  rcases hw i c hi with rfl | q
  ·exact (sd_well h0 hb i).2
  ·rw [q] at hs; cases hs
 have hmay : mayB (ofR b.length k m (dig b)) [] l.length = true := mayB_of (dig_len b) (by omega) (by omega) (by omega) (by omega) (by omega) (by rw [hl]; omega)
 have e : whE k m b.length (dig b) l = 0 := by unfold whE; rw [if_neg (by omega), hj, if_pos rfl]
 unfold rdrE rdrB
 rw [hmay, if_pos rfl, if_pos rfl]
 show whE ((k : Int).toNat) ((m : Int).toNat) ((b.length : Int).toNat) (dig b) l = 0 ∧ whB ((k : Int).toNat) ((m : Int).toNat) ((b.length : Int).toNat) (dig b) l = b
 simp only [Int.toNat_natCast]
 refine ⟨e, ?_⟩
 unfold whB
 rw [if_pos e, hj]
/-- The chapter's example. -/
def abc : List Nat := [97, 98, 99]
theorem abc8 : ∀ z ∈ abc, z < 256 := by decide
theorem abc_fls_len : ∀ i, (flL (shd 2 abc i)).length = 34 := fun i => by
 rw [flL_len, shd_len]; decide
theorem fls3 : fls 2 1 abc = [flL (shd 2 abc 0), flL (shd 2 abc 1), flL (shd 2 abc 2)] := rfl
theorem sd_off (n : Nat) (e : Int) (b : List Nat) (h : e ≠ 0) : sdB n ⟨e, b⟩ = false := by unfold sdB; simp [h]
theorem cs3 (n : Nat) (a b c : Cp) : csN n [a, b, c] 3 = (if sdB n a = true then 1 else 0) + (if sdB n b = true then 1 else 0) + (if sdB n c = true then 1 else 0) := by
 show 0 + _ + _ + _ = _
 simp
theorem wl3 {a b c : Cp} (h0 : a = ⟨0, flL (shd 2 abc 0)⟩ ∨ sdB (U.lgt abc.length 2) a = false) (h1 : b = ⟨0, flL (shd 2 abc 1)⟩ ∨ sdB (U.lgt abc.length 2) b = false) (h2 : c = ⟨0, flL (shd 2 abc 2)⟩ ∨ sdB (U.lgt abc.length 2) c = false) : Wl 2 abc [a, b, c] := by
 intro i x hx
 match i, hx with
 | 0, hx => cases hx; exact h0
 | 1, hx => cases hx; exact h1
 | 2, hx => cases hx; exact h2
 | n + 3, hx => simp at hx
theorem of3 : ofR ((abc.length : Nat) : Int) ((2 : Nat) : Int) ((1 : Nat) : Int) (dig abc) = ofR 3 2 1 (dig abc) := by
 generalize dig abc = d
 rfl
theorem ab_read (l : List Cp) (hl : l.length = 3) (hw : Wl 2 abc l) (hc : 2 ≤ csN (U.lgt abc.length 2) l 3) : rdrE (ofR 3 2 1 (dig abc)) [] l = 0 ∧ rdrB (ofR 3 2 1 (dig abc)) [] l = abc := by
 have h := read_well (k := 2) (m := 1) (b := abc) (l := l) abc8 (by omega) (by omega) (by omega) (by decide) hl hw (by rw [hl]; exact hc)
 rw [of3] at h
 exact h
theorem ab_all : rdrE (ofR 3 2 1 (dig abc)) [] ((fls 2 1 abc).map fun L => ⟨0, L⟩) = 0 ∧ rdrB (ofR 3 2 1 (dig abc)) [] ((fls 2 1 abc).map fun L => ⟨0, L⟩) = abc := by
 have hs := fun i => (sd_well (k := 2) (b := abc) (by omega) (by decide) i).1
 rw [fls3]
 simp only [List.map_cons, List.map_nil]
 refine ab_read _ rfl (wl3 (.inl rfl) (.inl rfl) (.inl rfl)) ?_
 rw [cs3, hs 0, hs 1, hs 2]; decide
theorem ab_gone (e : Int) (x : List Nat) (h : e ≠ 0 ∨ sdB (U.lgt abc.length 2) ⟨e, x⟩ = false) : rdrE (ofR 3 2 1 (dig abc)) [] [⟨e, x⟩, ⟨0, flL (shd 2 abc 1)⟩, ⟨0, flL (shd 2 abc 2)⟩] = 0 ∧ rdrB (ofR 3 2 1 (dig abc)) [] [⟨e, x⟩, ⟨0, flL (shd 2 abc 1)⟩, ⟨0, flL (shd 2 abc 2)⟩] = abc := by
 have hs := fun i => (sd_well (k := 2) (b := abc) (by omega) (by decide) i).1
 have hx : sdB (U.lgt abc.length 2) ⟨e, x⟩ = false := h.elim (sd_off _ e x) id
 refine ab_read _ rfl (wl3 (.inr hx) (.inl rfl) (.inl rfl)) ?_
 rw [cs3, hx, hs 1, hs 2]; decide
end Go.Proofs.YtopibkoklagceaaGreat
