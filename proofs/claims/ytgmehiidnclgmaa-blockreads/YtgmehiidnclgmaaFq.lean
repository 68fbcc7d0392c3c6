/- Walk of BlockLays: which file bytes have. -/
import Derived.Test.YtgmehiidnclgmaaFp
namespace Go.Proofs.Ytgmehiidnclgmaa
open Go Go.RowKit

theorem NewRow.lent {w w' : World} {n : Nat} {x : Nat → Nat} (h : NewRow w w' (n + 3) (lentN n x)) : StrAt w' (some ⟨w.heap.size, 0, none⟩) n x :=
  .inr ⟨_, 0, rfl, fun i hi => by have := h.row i (by omega); rw [this]; unfold lentN; rw [if_pos hi]⟩
set_option maxRecDepth 100000 in
set_option maxHeartbeats 1000000 in
theorem lays_ok (p : Option Addr) (n c : Nat) (x : Nat → Nat) (z : Int) (w : World) (hn : n ≤ 2000) (hc : n ≤ c) (hp : p = none → n = 0 ∧ c = 0) (hx : StrAt w p n x) (hb : ∀ i, i < n → x i < 256) :
    Calls Try.prog 3 #[.slice p n c, .int .i64 z] w fun e w' => e = .returned (.bool true) ∧ Below w.heap.size w w' := by
  have hn' : ¬ (2000 : Int) < (n : Int) := by omega
  have hn2 : ¬ (70000 : Int) < (n : Int) := by omega
  have HX := hid hx
  have HB := hid hb
  have HP := hid hp
  have HFL := hid (fileL_len n x)
  have HLT := hid (fileL_lt n x hb)
  have HLEN : Hid ((fileL n x).length ≤ 100000) := by show _ ≤ _; rw [fileL_len]; unfold cnt; omega
  clear hx hb hp
  go_enter Try.func3, Try.ntmps3
  go_wp2_with fail
  refine (lent_any p n c x w (by omega) HX.out).mono ?_
  rintro e w1 ⟨rfl, hr1⟩
  have HR1 := hid hr1
  have HB1 := hid hr1.below
  clear hr1
  go_wp2_with fail
  refine (lay_g _ n (n + 3) x w1 (by omega) (by omega) (fun h => by cases h) HR1.out.lent HB.out).mono ?_
  rintro e w2 ⟨g, rfl, hg, hrow, _, hb2⟩
  have HROW := hid hrow
  have HG := hid hg
  have HB2 := hid hb2
  have HBW2 := hid (HB1.out.trans (hb2.mono HB1.out.size))
  clear hrow hb2 hg
  generalize hF : fileL n x = F at *
  have HF := hid hF
  clear hF
  generalize hk : F.length = k at *
  have HK := hid hk
  clear hk
  go_wp2_with fail
  refine (rlay_ok p n c x w2 (by omega) hc HP.out (HX.out.below HBW2.out) HB.out).mono ?_
  rintro e w3 ⟨v, rfl, f3, hb3⟩
  rw [HF.out] at f3
  obtain ⟨p3, c3, rfl, _, s3, _⟩ := f3.str
  rw [HK.out] at s3 ⊢
  have HB3 := hid hb3
  have HS3 := hid s3
  clear f3 hb3 s3
  go_wp2_with fail
  refine (size_any z _).mono ?_
  rintro e w' ⟨rfl, hw⟩
  have h3 := hw.symm
  subst h3
  go_wp2_with fail
  refine (rsize_any z _).mono ?_
  rintro e w' ⟨rfl, hw⟩
  have h3 := hw.symm
  subst h3
  go_wp2_with fail
  refine (same_true _ _ k _ _ (fun i => F.getD i 0) _ (by have := (HROW.out.below HB3.out HROW.out.lt).str; rwa [HK.out] at this) HS3.out).mono ?_
  rintro e w' ⟨rfl, hw⟩
  have h3 := hw.symm
  subst h3
  go_wp2_with fail
  refine (over_any g k k F w3 HK.out (by have := HLEN.out; omega) ⟨HROW.out.below HB3.out HROW.out.lt, HLT.out⟩).mono ?_
  rintro e w4 ⟨rfl, ho, _⟩
  have hg3 : w1.heap.size + 1 ≤ g := HG.out
  have hw1 : w1.heap.size = w.heap.size + 1 := HR1.out.size
  have HB4 : Hid (Below w1.heap.size w1 w4) := ho.below (HB2.out.trans (HB3.out.mono HB2.out.size)) (by omega)
  have HBW4 := hid (HB1.out.trans (HB4.out.mono HB1.out.size))
  clear ho
  go_wp2_with fail
  refine (kept_any w.heap.size n c p x w4 (by omega) (by have := HB4.out.size; omega) (HR1.out.row.below HB4.out (by omega)) (HX.out.below HBW4.out)).mono ?_
  rintro e w5 ⟨rfl, hb5⟩
  have HBW5 := hid (HBW4.out.trans (hb5.mono HBW4.out.size))
  clear hb5
  go_wp2_with fail
  refine (awake_any _).mono ?_
  rintro e w6 ⟨rfl, hb6⟩
  have HBW6 := hid (HBW5.out.trans (hb6.mono HBW5.out.size))
  clear hb6
  go_wp2
  go_ret
  exact ⟨rfl, HBW6.out⟩
set_option maxRecDepth 100000 in
set_option maxHeartbeats 1000000 in
theorem lays_long (p : Option Addr) (n c : Nat) (x : Nat → Nat) (z : Int) (w : World) (hn : 65536 < n) (hm : n ≤ 70000) (hx : StrAt w p n x) :
    Calls Try.prog 3 #[.slice p n c, .int .i64 z] w fun e w' => e = .returned (.bool true) ∧ Below w.heap.size w w' := by
  have hn' : (2000 : Int) < (n : Int) := by omega
  have hn3 : ¬ (n : Int) ≤ 65536 := by omega
  have hn2 : ¬ (70000 : Int) < (n : Int) := by omega
  have HX := hid hx
  clear hx
  go_enter Try.func3, Try.ntmps3
  go_wp2_with fail
  refine (lent_any p n c x w (by omega) HX.out).mono ?_
  rintro e w1 ⟨rfl, hr1⟩
  have HR1 := hid hr1
  have HB1 := hid hr1.below
  clear hr1
  go_wp2_with fail
  refine (lay_bad _ n (n + 3) w1 (by omega) (by omega)).mono ?_
  rintro e w2 ⟨rfl, hb2⟩
  have HB2 := hid hb2
  have HBW2 := hid (HB1.out.trans (hb2.mono HB1.out.size))
  clear hb2
  go_wp2_with fail
  refine (rlay_bad p n c w2 (by omega) (by omega)).mono ?_
  rintro e w' ⟨rfl, hw⟩
  have h3 := hw.symm
  subst h3
  go_wp2_with fail
  refine (size_any z _).mono ?_
  rintro e w' ⟨rfl, hw⟩
  have h3 := hw.symm
  subst h3
  go_wp2_with fail
  refine (rsize_any z _).mono ?_
  rintro e w' ⟨rfl, hw⟩
  have h3 := hw.symm
  subst h3
  go_wp2_with fail
  refine (same_true _ _ 0 _ _ (fun _ => 0) _ (.inl rfl) (.inl rfl)).mono ?_
  rintro e w' ⟨rfl, hw⟩
  have h3 := hw.symm
  subst h3
  go_wp2_with fail
  refine (over_nil _).mono ?_
  rintro e w' ⟨rfl, hw⟩
  have h3 := hw.symm
  subst h3
  go_wp2_with fail
  have hw1 : w1.heap.size = w.heap.size + 1 := HR1.out.size
  refine (kept_any w.heap.size n c p x w2 (by omega) (by have := HB2.out.size; omega) (HR1.out.row.below HB2.out (by omega)) (HX.out.below HBW2.out)).mono ?_
  rintro e w5 ⟨rfl, hb5⟩
  have HBW5 := hid (HBW2.out.trans (hb5.mono HBW2.out.size))
  clear hb5
  go_wp2_with fail
  refine (awake_any _).mono ?_
  rintro e w6 ⟨rfl, hb6⟩
  have HBW6 := hid (HBW5.out.trans (hb6.mono HBW5.out.size))
  clear hb6
  go_wp2
  go_ret
  exact ⟨rfl, HBW6.out⟩
theorem lays_far (p : Option Addr) (n c : Nat) (z : Int) (w : World) (h : 2000 < n ∧ n ≤ 65536 ∨ 70000 < n) :
    Calls Try.prog 3 #[.slice p n c, .int .i64 z] w fun e w' => e = .returned (.bool true) ∧ Below w.heap.size w w' := by
  have h1 : (2000 : Int) < (n : Int) := by omega
  by_cases h2 : n ≤ 65536
  · have h2' : (n : Int) ≤ 65536 := by omega
    go_enter Try.func3, Try.ntmps3
    go_wp2
    go_ret
    exact ⟨rfl, Below.refl _ _⟩
  · have h2' : ¬ (n : Int) ≤ 65536 := by omega
    have h3 : (70000 : Int) < (n : Int) := by omega
    go_enter Try.func3, Try.ntmps3
    go_wp2
    go_ret
    exact ⟨rfl, Below.refl _ _⟩
theorem lays_all (a : Option Addr) (n c : Nat) (z : Int) (w : World) (h : IsBytes w a n c) : Calls Try.prog 3 #[.slice a n c, .int .i64 z] w fun e w' => e = .returned (.bool true) ∧ Below w.heap.size w w' := by
  obtain ⟨hc, hp, x, hx, hb⟩ := h
  by_cases hn : n ≤ 2000
  · exact lays_ok a n c x z w hn hc hp hx hb
  · by_cases h2 : 65536 < n ∧ n ≤ 70000
    · exact lays_long a n c x z w h2.1 h2.2 hx
    · exact lays_far a n c z w (by omega)
end Go.Proofs.Ytgmehiidnclgmaa
