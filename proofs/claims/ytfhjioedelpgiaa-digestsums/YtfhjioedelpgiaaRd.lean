/- Walk of DigestSums: which digest and tag bytes have; what is handed in stays. -/
import Derived.Test.YtfhjioedelpgiaaRc
import Derived.Test.YtfhjioedelpgiaaSl
import Derived.Test.YtfhjioedelpgiaaSu
namespace Go.Proofs.Ytfhjioedelpgiaa
open Go Go.RowKit
set_option maxRecDepth 100000 in
set_option maxHeartbeats 1000000 in
theorem sums_ok (p : Option Addr) (n c : Nat) (x : Nat → Nat) (w : World) (hn : n ≤ 5000) (hc : n ≤ c) (hp : p = none → n = 0 ∧ c = 0) (hx : StrAt w p n x) (hb : ∀ i, i < n → x i < 256) :
    Calls Try.prog 3 #[.slice p n c] w fun e w' => e = .returned (.bool true) ∧ Below w.heap.size w w' := by
  have HX := hid hx
  have HB := hid hb
  have HN := hid hn
  have HC := hid hc
  have HP := hid hp
  have hn' : ¬ (5000 : Int) < (n : Int) := by omega
  obtain ⟨D, hD⟩ : ∃ D : Nat → Nat, D = sha n x := ⟨_, rfl⟩
  obtain ⟨T, hT⟩ : ∃ T : ByteArray, T = strN 32 (hexF (sha n x)) := ⟨_, rfl⟩
  have HD := hid hD
  have HT := hid hT
  clear hD hT
  have heq := fun w => run_eqDig D D w
  simp only [eqD_self] at heq
  clear hx hb hn hc hp
  go_enter Try.func3, Try.ntmps3
  go_wp2_with fail
  refine (lent_any p n c x w (by have := HN.out; omega) HX.out).mono ?_
  rintro e w1 ⟨rfl, hnew⟩
  have hR1 : RowAt w1 w.heap.size 0 (n + 3) (lentN n x) := hnew.row
  have hS1 : StrAt w1 (some ⟨w.heap.size, 0, none⟩) n x := .inr ⟨_, _, rfl, fun i hi => by
    have := hR1 i (by omega)
    rw [this]; unfold lentN; rw [if_pos hi]⟩
  have hB1 : Below w.heap.size w w1 := hnew.below
  have HR1 := hid hR1
  have HS1 := hid hS1
  have HB1 := hid hB1
  have hlt1 : w.heap.size < w1.heap.size := cell_lt (hR1 0 (by omega))
  have HL1 := hid hlt1
  clear hnew hR1 hS1 hB1 hlt1
  have HX1 := hid (HX.out.below HB1.out)
  go_wp2_with (first
    | (go_at_call 5; refine (sum_any _ n _ x _ (by have := HN.out; omega) (by omega) HS1.out HB.out).mono ?_; rintro e w2 ⟨rfl, hb2⟩; rw [← HD.out]; have HS1 := hid (HS1.out.below hb2); have HR1 := hid (HR1.out.below hb2 HL1.out); have HL1 := hid (Nat.lt_of_lt_of_le HL1.out hb2.size); have HX1 := hid (HX1.out.below hb2); have HB1 := hid (HB1.out.trans (hb2.mono HB1.out.size)); clear hb2)
    | (go_at_call 6; refine (rsum_any p n c x _ (by have := HN.out; omega) HP.out HX1.out HB.out).mono ?_; rintro e w2 ⟨rfl, hb2⟩; rw [← HD.out]; have HS1 := hid (HS1.out.below hb2); have HR1 := hid (HR1.out.below hb2 HL1.out); have HL1 := hid (Nat.lt_of_lt_of_le HL1.out hb2.size); have HX1 := hid (HX1.out.below hb2); have HB1 := hid (HB1.out.trans (hb2.mono HB1.out.size)); clear hb2)
    | (go_at_call 7; refine (tag_any _ n _ x _ (by have := HN.out; omega) (by omega) HS1.out HB.out).mono ?_; rintro e w2 ⟨rfl, hb2⟩; rw [← HT.out]; have HS1 := hid (HS1.out.below hb2); have HR1 := hid (HR1.out.below hb2 HL1.out); have HL1 := hid (Nat.lt_of_lt_of_le HL1.out hb2.size); have HX1 := hid (HX1.out.below hb2); have HB1 := hid (HB1.out.trans (hb2.mono HB1.out.size)); clear hb2)
    | (go_at_call 8; refine (rtag_any p n c x _ (by have := HN.out; omega) HP.out HX1.out HB.out).mono ?_; rintro e w2 ⟨rfl, hb2⟩; rw [← HT.out]; have HS1 := hid (HS1.out.below hb2); have HR1 := hid (HR1.out.below hb2 HL1.out); have HL1 := hid (Nat.lt_of_lt_of_le HL1.out hb2.size); have HX1 := hid (HX1.out.below hb2); have HB1 := hid (HB1.out.trans (hb2.mono HB1.out.size)); clear hb2)
    | (go_at_call 9; refine (kept_any _ n c p x _ (by have := HN.out; omega) HL1.out HR1.out HX1.out).mono ?_; rintro e w2 ⟨rfl, hb2⟩; have HS1 := hid (HS1.out.below hb2); have HR1 := hid (HR1.out.below hb2 HL1.out); have HL1 := hid (Nat.lt_of_lt_of_le HL1.out hb2.size); have HX1 := hid (HX1.out.below hb2); have HB1 := hid (HB1.out.trans (hb2.mono HB1.out.size)); clear hb2)
    | (go_at_call 10; refine (awake_any _).mono ?_; rintro e w2 ⟨rfl, hb2⟩; have HS1 := hid (HS1.out.below hb2); have HR1 := hid (HR1.out.below hb2 HL1.out); have HL1 := hid (Nat.lt_of_lt_of_le HL1.out hb2.size); have HX1 := hid (HX1.out.below hb2); have HB1 := hid (HB1.out.trans (hb2.mono HB1.out.size)); clear hb2))
  go_ret
  exact ⟨rfl, HB1.out⟩
set_option maxHeartbeats 400000 in
theorem sums_far (p : Option Addr) (n c : Nat) (w : World) (hn : 5000 < n) :
    Calls Try.prog 3 #[.slice p n c] w fun e w' => e = .returned (.bool true) ∧ Below w.heap.size w w' := by
  have hn' : (5000 : Int) < (n : Int) := by omega
  clear hn
  go_enter Try.func3, Try.ntmps3
  go_wp2
  go_ret
  exact ⟨rfl, Below.refl _ _⟩
/-- What is told of a list of bytes that came in. -/
def IsBytes (w : World) (a : Option Addr) (len cap : Nat) : Prop := len ≤ cap ∧ (a = none → len = 0 ∧ cap = 0) ∧ ∃ x : Nat → Nat, StrAt w a len x ∧ ∀ i, i < len → x i < 256
theorem sums_all (a : Option Addr) (n c : Nat) (w : World) (h : IsBytes w a n c) : Calls Try.prog 3 #[.slice a n c] w fun e w' => e = .returned (.bool true) ∧ Below w.heap.size w w' := by
  obtain ⟨hc, hp, x, hx, hb⟩ := h
  by_cases hn : n ≤ 5000
  · exact sums_ok a n c x w hn hc hp hx hb
  · exact sums_far a n c w (by omega)
end Go.Proofs.Ytfhjioedelpgiaa
