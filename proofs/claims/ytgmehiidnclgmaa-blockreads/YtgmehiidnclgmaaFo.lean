/- Contract of BlockKnown: the chapter's examples are answered as it says. -/
import Derived.Test.YtgmehiidnclgmaaFn
namespace Go.Proofs.Ytgmehiidnclgmaa
open Go Go.RowKit

theorem size_at (z V E : Int) (hV : szV z = V) (hE : szE z = E) (w : World) : Calls Try.prog 12 #[.int .i64 z] w fun e w' => e = .returned (.tuple #[.int .i64 V, .int .i64 E]) ∧ w' = w := by
  rw [← hV, ← hE]; exact size_any z w
theorem fileL_nil (x : Nat → Nat) : fileL 0 x = [] := rfl
/-- What is carried along: the two files, and that what was there is as it was. -/
structure KnM (w W : World) (pf pt : Option Addr) : Prop where
  f : StrAt W pf 35 fA
  t : StrAt W pt 35 tA
  below : Below w.heap.size w W
theorem KnM.on {w W W' : World} {pf pt : Option Addr} (h : KnM w W pf pt) (hb : Below W.heap.size W W') : KnM w W' pf pt :=
  ⟨h.f.below hb, h.t.below hb, h.below.trans (hb.mono h.below.size)⟩
set_option maxRecDepth 100000 in
set_option maxHeartbeats 1000000 in
theorem known_any (w : World) : Calls Try.prog 5 #[] w fun e w' => e = .returned (.bool true) ∧ Below w.heap.size w w' := by
  have kc := fun (w : World) (C : Array Value) (n c : Nat) => Lib.run_convert_bytes_const (P := Try.prog) w 22 5 C n c Try.underlying22 Try.underlying5
  go_enter Try.func5, Try.ntmps5
  go_wp2_with fail
  refine (abc_any w).mono ?_
  rintro e w1 ⟨pf, cf, pt, ct, rfl, hcf, hct, hpf, hpt, sf, st, b1⟩
  have HM : Hid (KnM w w1 pf pt) := ⟨sf, st, b1⟩
  have HPF := hid hpf
  have HPT := hid hpt
  clear sf st b1 hpf hpt
  go_wp2_with fail
  refine (awake_any _).mono ?_
  rintro e w2 ⟨rfl, hb⟩
  have HM := hid (HM.out.on hb)
  clear hb
  go_wp2_with fail
  refine (size_at 0 0 0 (by decide) (by decide) _).mono ?_
  rintro e w' ⟨rfl, hw⟩
  have h3 := hw.symm
  subst h3
  go_wp2_with fail
  refine (size_at 256 288 0 (by decide) (by decide) _).mono ?_
  rintro e w' ⟨rfl, hw⟩
  have h3 := hw.symm
  subst h3
  go_wp2_with fail
  refine (size_at 257 321 0 (by decide) (by decide) _).mono ?_
  rintro e w' ⟨rfl, hw⟩
  have h3 := hw.symm
  subst h3
  go_wp2_with fail
  refine (size_at (-1) 0 5 (by decide) (by decide) _).mono ?_
  rintro e w' ⟨rfl, hw⟩
  have h3 := hw.symm
  subst h3
  go_wp2_with fail
  refine (lay_ok none 0 0 (fun _ => 0) _ (by omega) (by omega) (fun _ => ⟨rfl, rfl⟩) (.inl rfl) (fun i hi => by omega)).mono ?_
  rintro e w3 ⟨v0, rfl, f0, hb⟩
  rw [fileL_nil] at f0
  obtain ⟨p0, c0, rfl⟩ := f0.form
  have HM := hid (HM.out.on hb)
  clear hb f0
  have h1 := read_any pf 35 cf fA 4 _ hcf (fun h => absurd h HPF.out) HM.out.f fAbc_lt
  rw [rf4L, rf4E] at h1
  have H1 := hid h1
  clear h1
  go_wp2_with fail
  refine H1.out.mono ?_
  intro e w4 h
  obtain ⟨q4, rfl, hb, hs⟩ := h.str
  have HM := hid (HM.out.on hb)
  clear hb h hs H1
  have h1 := part_any pf 35 cf fA 3 1 2 _ hcf (fun h => absurd h HPF.out) HM.out.f fAbc_lt
  rw [pf12L, pf12E] at h1
  have H1 := hid h1
  clear h1
  go_wp2_with fail
  refine H1.out.mono ?_
  intro e w5 h
  obtain ⟨q5, rfl, hb, hs⟩ := h.str
  have HS := hid hs
  have HM := hid (HM.out.on hb)
  clear hb h hs H1
  have h1 := part_any pf 35 cf fA 3 2 4 _ hcf (fun h => absurd h HPF.out) HM.out.f fAbc_lt
  rw [pf24L, pf24E] at h1
  have H1 := hid h1
  clear h1
  go_wp2_with fail
  refine H1.out.mono ?_
  intro e w6 h
  obtain ⟨q6, rfl, hb, hs⟩ := h.str
  have HS := hid (HS.out.below hb)
  have HM := hid (HM.out.on hb)
  clear hb h hs H1
  have h1 := part_any pt 35 ct tA 3 1 1 _ hct (fun h => absurd h HPT.out) HM.out.t tAbc_lt
  rw [pt11L, pt11E] at h1
  have H1 := hid h1
  clear h1
  go_wp2_with fail
  refine H1.out.mono ?_
  intro e w7 h
  obtain ⟨q7, rfl, hb, hs⟩ := h.str
  have HS := hid (HS.out.below hb)
  have HM := hid (HM.out.on hb)
  clear hb h hs H1
  have h1 := bad_any pt 35 ct tA 3 _ (by omega) hct HM.out.t tAbc_lt
  rw [bt3L, sE3] at h1
  have H1 := hid h1
  clear h1
  go_wp2_with fail
  refine H1.out.mono ?_
  rintro e w8 ⟨v, rfl, fi, hb⟩
  obtain ⟨q8, c8, rfl, hi⟩ := fi.ints
  have HI8 := hid hi
  have HS := hid (HS.out.below hb)
  have HM := hid (HM.out.on hb)
  clear hb fi hi H1
  have h1 := bad_any none 0 0 (fun _ => 0) 300 w8 (by omega) (by omega) (.inl rfl) (fun i hi => by omega)
  rw [bn300L, sE300] at h1
  have H1 := hid h1
  clear h1
  go_wp2_with fail
  refine H1.out.mono ?_
  rintro e w9 ⟨v, rfl, fi, hb⟩
  obtain ⟨q9, c9, rfl, hi⟩ := fi.ints
  have HI9 := hid hi
  have HS := hid (HS.out.below hb)
  have HI8 := hid (HI8.out.below hb)
  have HM := hid (HM.out.on hb)
  clear hb fi hi H1
  have HW1 : Hid (Below w9.heap.size w9 (w9.alloc (.cells #[.int .u8 98] 5 (1, 2)))) := (Below.refl _ _).alloc (by omega) _
  have H14 : Hid (Calls Try.prog 14 #[.slice q5 1 1, .slice (some ⟨w9.heap.size, 0, none⟩) 1 1] (w9.alloc (.cells #[.int .u8 98] 5 (1, 2))) fun e w' => e = .returned (.bool true) ∧ w' = (w9.alloc (.cells #[.int .u8 98] 5 (1, 2)))) :=
    same_true _ _ 1 _ _ (fun i => [98].getD i 0) _ (HS.out.below HW1.out) (str_alloc _ _ _ _ 1 _ litB)
  have H24 : Hid (∀ W, Below w9.heap.size w9 W → Calls Try.prog 24 #[.slice q8 1 c8, .slice (some ⟨W.heap.size, 0, none⟩) 1 1] (W.alloc (.cells #[.int .i64 0] 3)) fun e w' => e = .returned (.bool true) ∧ Below w9.heap.size w9 w') := fun W hW => by
    refine (sameInts_true _ _ 1 _ _ (fun i => [0].getD i 0) _ (by omega) (HI8.out.below (hW.alloc hW.size _)) (ints_new _ _ _ _ [0] rfl)).mono ?_
    rintro e w' ⟨rfl, k, rfl⟩
    exact ⟨rfl, Below.drewN' (hW.alloc hW.size _) k⟩
  have H25 : Hid (∀ W, Below w9.heap.size w9 W → Calls Try.prog 24 #[.slice q9 2 c9, .slice (some ⟨W.heap.size, 0, none⟩) 2 2] (W.alloc (.cells #[.int .i64 0, .int .i64 1] 3)) fun e w' => e = .returned (.bool true) ∧ Below w9.heap.size w9 w') := fun W hW => by
    refine (sameInts_true _ _ 2 _ _ (fun i => [0, 1].getD i 0) _ (by omega) (HI9.out.below (hW.alloc hW.size _)) (ints_new _ _ _ _ [0, 1] rfl)).mono ?_
    rintro e w' ⟨rfl, k, rfl⟩
    exact ⟨rfl, Below.drewN' (hW.alloc hW.size _) k⟩
  have h24 := H24.out _ HW1.out
  simp only [World.size_alloc] at h24
  have H24 := hid h24
  clear h24
  go_wp2_with (first
    | (go_at_call 14; refine H14.out.mono ?_; rintro e w' ⟨rfl, rfl⟩)
    | (go_at_call 24; refine H24.out.mono ?_; clear H24; rintro e w10 ⟨rfl, hw10⟩; have HW2 := hid hw10; clear hw10)
    | (go_at_call 24; refine (H25.out _ HW2.out).mono ?_; rintro e w11 ⟨rfl, hw11⟩; have HW3 := hid hw11; clear hw11))
  go_ret
  exact ⟨rfl, HM.out.below.trans (HW3.out.mono HM.out.below.size)⟩
end Go.Proofs.Ytgmehiidnclgmaa
