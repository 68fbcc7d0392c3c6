/- Walk of BlockTurned: a turned byte is told, and its block. -/
import Derived.Test.YtgmehiidnclgmaaFt
namespace Go.Proofs.Ytgmehiidnclgmaa
open Go Go.RowKit

theorem xor_ne (a b : Nat) (h : b ≠ 0) : a ^^^ b ≠ a := fun e => by
  have h1 : a ^^^ (a ^^^ b) = a ^^^ a := by rw [e]
  rw [← Nat.xor_assoc, Nat.xor_self, Nat.zero_xor] at h1
  exact h h1
theorem set_getD (L : List Nat) (i v k : Nat) (hk : k < L.length) : (L.set i v).getD k 0 = if k = i then v else L.getD k 0 := by
  rw [List.getD_eq_getElem?_getD, List.getD_eq_getElem?_getD, List.getElem?_set]
  by_cases e : k = i
  · subst e; simp [hk]
  · rw [if_neg (fun h => e h.symm), if_neg e]
theorem w64s (i : Nat) (h : i ≤ 1000000) : wrap64 (i : Int) = i := by unfold wrap64; omega
theorem div288 (a i : Nat) (h : a / 288 = i) : (a : Int) / 288 = (i : Int) := by omega
theorem at_block (n a : Nat) (ha : a < n + 32 * cnt n) : a / 288 < cnt n := by
  have hc : cnt n = (n + 255) / 256 := rfl
  generalize cnt n = C at *
  have h1 : n ≤ 256 * C := by omega
  have h2 : a < 288 * C := by omega
  omega
theorem block_nums (n i : Nat) (hi : i < cnt n) : 256 * i < bend n i ∧ bend n i ≤ n ∧ bend n i - 256 * i ≤ 256 ∧ bend n i = min (256 * i + 256) n ∧ 288 * i + 32 + (bend n i - 256 * i) ≤ n + 32 * cnt n := by
  have hc : cnt n = (n + 255) / 256 := rfl
  have hb : bend n i = min (256 * i + 256) n := rfl
  generalize cnt n = C at *
  generalize bend n i = r at *
  refine ⟨by omega, by omega, by omega, hb, by omega⟩
theorem not_clash {n : Nat} {x y : Nat → Nat} (h : clashB n x y = false) : ¬ ((∃ j, j < n ∧ x j ≠ y j) ∧ ∀ j, j < 32 → sha n x j = sha n y j) := by
  rintro ⟨⟨j, hj, hne⟩, hall⟩
  unfold clashB at h
  rw [(eqD_iff 32 _ _).2 hall, Bool.and_true] at h
  have h2 : sameB n x n y = true := by simpa using h
  exact hne (((sameB_iff n x n y).1 h2).2 j hj)
set_option maxRecDepth 100000 in
set_option maxHeartbeats 2000000 in
theorem turned_ok (p : Option Addr) (n c : Nat) (x : Nat → Nat) (z : Int) (tv : Nat) (w : World) (hn : n ≤ 2500) (h0 : n ≠ 0) (ht : tv < 256) (ht0 : tv ≠ 0) (hc : n ≤ c) (hp : p = none → n = 0 ∧ c = 0) (hx : StrAt w p n x) (hb : ∀ i, i < n → x i < 256) :
    Calls Try.prog 7 #[.slice p n c, .int .i64 z, .int .u8 (tv : Int)] w fun e w' => e = .returned (.bool true) ∧ Below w.heap.size w w' := by
  have hn' : ¬ (2500 : Int) < (n : Int) := by omega
  have hn0 : ((n : Int) == 0) = false := by simp; omega
  have ht' : ((tv : Int) == 0) = false := by simp; omega
  have HX := hid hx
  have HB := hid hb
  have HP := hid hp
  have HCN : Hid (cnt n = (n + 255) / 256) := rfl
  have HFL := hid (fil_lt n x hb)
  have HLEN := hid (fileL_len n x)
  clear hx hb hp
  go_enter Try.func7, Try.ntmps7
  go_wp2_with fail
  refine (known_any _).mono ?_
  rintro e w1 ⟨rfl, hb1⟩
  have HB1 := hid hb1
  clear hb1
  go_wp2_with fail
  refine (lay_g p n c x w1 (by omega) hc HP.out (HX.out.below HB1.out) HB.out).mono ?_
  rintro e w2 ⟨g, rfl, hg, hrow, _, hb2⟩
  have HROW := hid hrow
  have HG := hid hg
  have HB2 := hid (HB1.out.trans (hb2.mono HB1.out.size))
  clear hrow hb2 hg
  rw [HLEN.out]
  obtain ⟨k, hk⟩ : ∃ k, n + 32 * cnt n = k := ⟨_, rfl⟩
  rw [hk] at HFL HLEN ⊢
  have hk2 : k ≤ 3000 ∧ n < k := by have := HCN.out; omega
  have HK := hid hk
  clear hk
  have hk3 : ¬ (k : Int) ≤ (n : Int) := by omega
  go_wp2_with fail
  refine (pick_any z k w2 (by omega) (by omega)).mono ?_
  rintro e w' ⟨⟨at', hat, rfl⟩, hw⟩
  have h3 := hw.symm
  subst h3
  have hcell := HROW.out.cellAt at' (by rw [HLEN.out]; exact hat)
  have hfree := HROW.out.free at'
  have hF : (fileL n x).getD at' 0 = fil n x at' := rfl
  rw [hF] at hcell
  have hFb := HFL.out at' hat
  have hxor := u8_xor_nat (fil n x at') tv hFb ht
  have HV : Hid (fil n x at' ^^^ tv ≠ fil n x at') := xor_ne _ _ ht0
  have HVL : Hid (fil n x at' ^^^ tv < 256) := xor_lt8 _ _ hFb ht
  have HSET := hid (HROW.out.set at' (fil n x at' ^^^ tv))
  generalize hv : fil n x at' ^^^ tv = v at *
  generalize hu : fil n x at' = u at *
  have HU := hid hu
  have hat' : (at' : Int) < (k : Int) := by omega
  have HBW : Hid (Below w.heap.size w (w2.setCell ⟨g, at', none⟩ (.int .u8 (v : Int)))) := HB2.out.setCell (p := ⟨g, at', none⟩) (by show w.heap.size ≤ g; have := HB1.out.size; have := HG.out; omega) _
  clear hu hv hF
  obtain ⟨i, hi⟩ : ∃ i, at' / 288 = i := ⟨_, rfl⟩
  have hic : i < cnt n := by rw [← hi]; exact at_block n at' (by rw [HK.out]; exact hat)
  have hnums := block_nums n i hic
  rw [HK.out] at hnums
  have hi9 : i ≤ 9 := by have := HCN.out; omega
  have hdiv : at' = 288 * i + at' % 288 := by omega
  have HDIV := hid hdiv
  have HI := hid hi
  clear hdiv
  have a1 : IntKind.i64.wrap (((at' : Int)).tdiv 288) = (i : Int) := by rw [IntWalk.i64_quo _ _ ⟨by omega, by omega, by omega⟩]; exact div288 at' i hi
  have a1' : wrap64 ((at' : Int) / 288) = (i : Int) := by rw [div288 at' i hi]; exact w64s i (by omega)
  have HA1 := hid a1'
  clear hi a1'
  obtain ⟨q, hq⟩ : ∃ q, 256 * i = q := ⟨_, rfl⟩
  obtain ⟨r, hr⟩ : ∃ r, bend n i = r := ⟨_, rfl⟩
  obtain ⟨f, hf⟩ : ∃ f, 288 * i + 32 = f := ⟨_, rfl⟩
  rw [hq, hr, hf] at hnums
  have hqr : q < r ∧ r ≤ n ∧ r - q ≤ 256 ∧ r = min (q + 256) n := ⟨hnums.1, hnums.2.1, hnums.2.2.1, hnums.2.2.2.1⟩
  have hnk := hnums.2.2.2.2
  clear hnums
  obtain ⟨l, hl⟩ : ∃ l, r - q = l := ⟨_, rfl⟩
  have a2 : IntKind.i64.wrap ((i : Int) * 256) = (q : Int) := by rw [IntWalk.i64_in _ ⟨by omega, by omega⟩]; omega
  have a3 : ¬ (n : Int) ≤ (q : Int) := by omega
  have a4 : IntKind.i64.wrap ((i : Int) + 1) = (i : Int) + 1 := IntWalk.i64_in _ ⟨by omega, by omega⟩
  have a5 : IntKind.i64.wrap (((i : Int) + 1) * 256) = (q : Int) + 256 := by rw [IntWalk.i64_in _ ⟨by omega, by omega⟩]; omega
  have a6 : (if (n : Int) < (q : Int) + 256 then (n : Int) else (q : Int) + 256) = (r : Int) := by split <;> omega
  have a7 : IntKind.i64.wrap ((i : Int) * 288) = ((288 * i : Nat) : Int) := by rw [IntWalk.i64_in _ ⟨by omega, by omega⟩]; omega
  obtain ⟨o, ho⟩ : ∃ o, 288 * i = o := ⟨_, rfl⟩
  rw [ho] at a7
  have a8 : IntKind.i64.wrap ((o : Int) + 32) = (f : Int) := by rw [IntWalk.i64_in _ ⟨by omega, by omega⟩]; omega
  obtain ⟨fe, hfe⟩ : ∃ fe, f + l = fe := ⟨_, rfl⟩
  have a9 : IntKind.i64.wrap ((f : Int) + (l : Int)) = (fe : Int) := by rw [IntWalk.i64_in _ ⟨by omega, by omega⟩]; omega
  have hfk : fe ≤ k := by omega
  have a10 : ¬ (k : Int) < (fe : Int) := by omega
  obtain ⟨p2, hcut, hp2, _⟩ := run_cut p n c q r (by omega) (by omega)
  obtain ⟨p3, hcut3, hp3, _⟩ := run_cut (some ⟨g, 0, none⟩) k k f fe (by omega) hfk
  have hfl : fe - f = l := by omega
  rw [hl] at hcut
  rw [hfl] at hcut3
  have HS2 : Hid (∀ W', Below w.heap.size w W' → StrAt W' p2 l (fun j => x (q + j))) := fun W' hW' => by
    have := (HX.out.below hW').cut (h := r) hc hqr.2.1 hp2
    rwa [hl] at this
  have HFB : Hid (∀ j, j < k → ((fileL n x).set at' v).getD j 0 = if j = at' then v else fil n x j) := fun j hj => by
    rw [set_getD _ _ _ _ (by rw [HLEN.out]; exact hj)]; rfl
  have HSTR : Hid (StrAt (w2.setCell ⟨g, at', none⟩ (.int .u8 (v : Int))) (some ⟨g, 0, none⟩) k (fun j => ((fileL n x).set at' v).getD j 0)) := by
    have := HSET.out.str
    rwa [List.length_set, HLEN.out] at this
  have HYB : Hid (∀ j, j < k → ((fileL n x).set at' v).getD j 0 < 256) := fun j hj => by
    rw [HFB.out j hj]
    split
    · exact HVL.out
    · exact HFL.out j hj
  obtain ⟨y, hy⟩ : ∃ y : Nat → Nat, (fun j => ((fileL n x).set at' v).getD j 0) = y := ⟨_, rfl⟩
  rw [hy] at HSTR
  have HFB : Hid (∀ j, j < k → y j = if j = at' then v else fil n x j) := fun j hj => by rw [← hy]; exact HFB.out j hj
  have HYB : Hid (∀ j, j < k → y j < 256) := fun j hj => by rw [← hy]; exact HYB.out j hj
  have HS3 : Hid (∀ W', Below (w2.setCell ⟨g, at', none⟩ (.int .u8 (v : Int))).heap.size (w2.setCell ⟨g, at', none⟩ (.int .u8 (v : Int))) W' → StrAt W' p3 l (fun j => y (f + j))) := fun W' hW' => by
    have := (HSTR.out.below hW').cut (h := fe) (Nat.le_refl _) hfk hp3
    rwa [hfl] at this
  have HTOLD : Hid (clashB l (fun j => x (q + j)) (fun j => y (f + j)) = false → partL y k n 0 n = [] ∧ partE y k n 0 n = 14 ∧ bdL y k n = [i]) := fun hcl => by
    have hk' := HK.out
    subst hk'
    refine turned_told n y i (by omega) hic (fun j hj => ?_)
    have hv' : v ≠ fil n x at' := by rw [HU.out]; exact HV.out
    have h9 := snd_turned n x y at' v hat hv' HFB.out j hj (by
      rw [HI.out, hq, hr, hf, hl]
      exact not_clash hcl)
    rw [HI.out] at h9
    exact h9
  have HCL : Hid (∀ W', Below (w2.setCell ⟨g, at', none⟩ (.int .u8 (v : Int))).heap.size (w2.setCell ⟨g, at', none⟩ (.int .u8 (v : Int))) W' → Calls Try.prog 28 #[.slice p2 l (c - q), .slice p3 l (k - f)] W' fun e w' => e = .returned (.bool (clashB l (fun j => x (q + j)) (fun j => y (f + j)))) ∧ Below W'.heap.size W' w') := fun W' hW' =>
    clash_any p2 p3 l (c - q) (k - f) _ _ W' (by omega) (by omega) (by omega) (HS2.out _ (HBW.out.trans (hW'.mono HBW.out.size))) (HS3.out _ hW') (fun j hj => HB.out _ (by omega)) (fun j hj => HYB.out _ (by omega))
  generalize clashB l (fun j => x (q + j)) (fun j => y (f + j)) = cl at *
  have a1' := HA1.out
  have HRD : Hid (∀ W', Below (w2.setCell ⟨g, at', none⟩ (.int .u8 (v : Int))).heap.size (w2.setCell ⟨g, at', none⟩ (.int .u8 (v : Int))) W' → Calls Try.prog 18 #[.slice (some ⟨g, 0, none⟩) k k, .int .i64 (n : Int)] W' (PartU W' (partL y k n 0 n) (partE y k n 0 n))) := fun W' hW' =>
    read_any _ k k y n W' (Nat.le_refl _) (fun h => by cases h) (HSTR.out.below hW') HYB.out
  have HBD : Hid (∀ W', Below (w2.setCell ⟨g, at', none⟩ (.int .u8 (v : Int))).heap.size (w2.setCell ⟨g, at', none⟩ (.int .u8 (v : Int))) W' → Calls Try.prog 22 #[.slice (some ⟨g, 0, none⟩) k k, .int .i64 (n : Int)] W' (BadU W' (bdL y k n) (szE n))) := fun W' hW' =>
    bad_any _ k k y n W' (by omega) (Nat.le_refl _) (HSTR.out.below hW') HYB.out
  rw [szE_nat n (by omega)] at HBD
  clear hy hqr hnk hfe hfl hfk hl hf hr hq ho hp2 hp3 hic hi9 hk2 hat HS2 HS3 HSET HFB HROW
  go_wp2_with fail
  refine (HCL.out _ (Below.refl _ _)).mono ?_
  rintro e w4 ⟨rfl, hb4⟩
  have HB4 := hid hb4
  have HBW4 := hid (HBW.out.trans (hb4.mono HBW.out.size))
  clear hb4 HCL hcut hcut3 hcell hfree hxor a1 a1' a2 a4 a5 a6 a7 a8 a9
  cases cl with
  | true =>
    go_wp2
    go_ret
    exact ⟨rfl, HBW4.out⟩
  | false =>
    obtain ⟨hL, hE, hD⟩ := HTOLD.out rfl
    have h1 := HRD.out w4 HB4.out
    rw [hL, hE] at h1
    have H1 := hid h1
    have HBD2 : Hid (∀ W', Below w4.heap.size w4 W' → Calls Try.prog 22 #[.slice (some ⟨g, 0, none⟩) k k, .int .i64 (n : Int)] W' (BadU W' [i] 0)) := fun W' hW' => by
      have := HBD.out W' (HB4.out.trans (hW'.mono HB4.out.size))
      rwa [hD] at this
    clear h1 hL hE hD HTOLD HRD HBD
    go_wp2_with fail
    refine H1.out.mono ?_
    intro e w5 h
    obtain ⟨p6, rfl, hb, _⟩ := h.str
    have HB5 := hid hb
    have HBW5 := hid (HBW4.out.trans (hb.mono HBW4.out.size))
    clear h hb H1
    go_wp2_with fail
    refine (HBD2.out w5 HB5.out).mono ?_
    rintro e w6 ⟨v6, rfl, fi, hb⟩
    obtain ⟨q6, c6, rfl, hi6⟩ := fi.ints
    have HI6 := hid hi6
    have HBW6 := hid (HBW5.out.trans (hb.mono HBW5.out.size))
    clear fi hb hi6
    have H24 : Hid (Calls Try.prog 24 #[.slice q6 1 c6, .slice (some ⟨w6.heap.size, 0, none⟩) 1 1] (w6.alloc (.cells #[.int .i64 (i : Int)] 3)) fun e w' => e = .returned (.bool true) ∧ Below w.heap.size w w') := by
      refine (sameInts_true _ _ 1 _ _ (fun j => [i].getD j 0) _ (by omega) (HI6.out.below ((Below.refl _ _).alloc (by omega) _)) (ints_new _ _ _ _ [i] rfl)).mono ?_
      rintro e w' ⟨rfl, k9, rfl⟩
      exact ⟨rfl, Below.drewN' (HBW6.out.alloc HBW6.out.size _) k9⟩
    have h24 := H24.out
    rw [← HA1.out] at h24
    have H24 := hid h24
    clear h24
    go_wp2_with (go_at_call 24; refine H24.out.mono ?_; rintro e w7 ⟨rfl, hw7⟩; have HW7 := hid hw7; clear hw7)
    go_ret
    exact ⟨rfl, HW7.out⟩
set_option maxRecDepth 100000 in
theorem turned_far (p : Option Addr) (n c : Nat) (z : Int) (tv : Nat) (w : World) (h : 2500 < n ∨ n = 0 ∨ tv = 0) :
    Calls Try.prog 7 #[.slice p n c, .int .i64 z, .int .u8 (tv : Int)] w fun e w' => e = .returned (.bool true) ∧ Below w.heap.size w w' := by
  by_cases h1 : 2500 < n
  · have h1' : (2500 : Int) < (n : Int) := by omega
    clear h
    go_enter Try.func7, Try.ntmps7
    go_wp2_with fail
    refine (known_any _).mono ?_
    rintro e w1 ⟨rfl, hb1⟩
    have HB1 := hid hb1
    clear hb1
    go_wp2
    go_ret
    exact ⟨rfl, HB1.out⟩
  · have h1' : ¬ (2500 : Int) < (n : Int) := by omega
    by_cases h2 : n = 0
    · subst h2
      clear h h1
      go_enter Try.func7, Try.ntmps7
      go_wp2_with fail
      refine (known_any _).mono ?_
      rintro e w1 ⟨rfl, hb1⟩
      have HB1 := hid hb1
      clear hb1
      go_wp2
      go_ret
      exact ⟨rfl, HB1.out⟩
    · have h3 : tv = 0 := by omega
      subst h3
      have h2' : ((n : Int) == 0) = false := by simp; omega
      clear h
      go_enter Try.func7, Try.ntmps7
      go_wp2_with fail
      refine (known_any _).mono ?_
      rintro e w1 ⟨rfl, hb1⟩
      have HB1 := hid hb1
      clear hb1
      go_wp2
      go_ret
      exact ⟨rfl, HB1.out⟩
theorem turned_all (a : Option Addr) (n c : Nat) (z t : Int) (w : World) (h : IsBytes w a n c) (ht : (Lit.int .u8 t).wf = true) :
    Calls Try.prog 7 #[.slice a n c, .int .i64 z, .int .u8 t] w fun e w' => e = .returned (.bool true) ∧ Below w.heap.size w w' := by
  obtain ⟨hc, hp, x, hx, hb⟩ := h
  have hbd := bounds_u8 ht
  obtain ⟨tv, rfl⟩ : ∃ tv : Nat, t = tv := ⟨t.toNat, by omega⟩
  by_cases hf : 2500 < n ∨ n = 0 ∨ tv = 0
  · exact turned_far a n c z tv w hf
  · exact turned_ok a n c x z tv w (by omega) (by omega) (by omega) (by omega) hc hp hx hb
end Go.Proofs.Ytgmehiidnclgmaa
