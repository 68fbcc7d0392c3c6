/- Contract of Pick of the statements' kit; walk of BlockBack. -/
import Derived.Test.YtgmehiidnclgmaaFq
import Derived.Test.YtgmehiidnclgmaaFr
namespace Go.Proofs.Ytgmehiidnclgmaa
open Go Go.RowKit

theorem ret_int {a b : Int} (h : a = b) : Ending.returned (.int .i64 a) = .returned (.int .i64 b) := by rw [h]
theorem pick_any (x : Int) (n : Nat) (w : World) (h1 : 1 ≤ n) (hn : n ≤ 100000) :
    Calls Try.prog 27 #[.int .i64 x, .int .i64 (n : Int)] w fun e w' => (∃ k : Nat, k < n ∧ e = .returned (.int .i64 (k : Int))) ∧ w' = w := by
  have b1 := Int.tmod_lt_of_pos x (b := (n : Int)) (by omega)
  have b2 : -(n : Int) < x.tmod n := by
    have := Int.tmod_lt_of_pos (-x) (b := (n : Int)) (by omega)
    rw [Int.neg_tmod] at this; omega
  have hn1 : ¬ (n : Int) < 1 := by omega
  have hn0 : ¬ (n : Int) = 0 := by omega
  by_cases hneg : x.tmod n < 0
  · go_enter Try.func27, Try.ntmps27
    go_wp2
    go_ret
    exact ⟨⟨(x.tmod n + n).toNat, by omega, ret_int (by omega)⟩, rfl⟩
  · go_enter Try.func27, Try.ntmps27
    go_wp2
    go_ret
    exact ⟨⟨(x.tmod n).toNat, by omega, ret_int (by omega)⟩, rfl⟩
theorem fileL_congr (n : Nat) {x y : Nat → Nat} (h : ∀ i, i < n → x i = y i) : fileL n x = fileL n y := by
  unfold fileL
  rw [List.flatMap_def, List.flatMap_def]
  congr 1
  apply List.map_congr_left
  intro i hi
  have hi := List.mem_range.1 hi
  unfold blkL
  congr 1
  · apply List.map_congr_left
    intro j _
    exact sha_congr _ (fun k hk => h _ (by unfold bend at hk; omega)) j
  · apply List.map_congr_left
    intro j hj
    have hj := List.mem_range.1 hj
    exact h _ (by unfold bend at hj; omega)
theorem range_getD (n : Nat) (f : Nat → Nat) (i : Nat) (hi : i < n) : ((List.range n).map f).getD i 0 = f i := by simp [hi]
/-- What Read tells of a file, where it tells bytes. -/
theorem read_own (y : Nat → Nat) (m : Nat) (z : Int) (h : partE y m z 0 z = 0) : ∃ n : Nat, z = n ∧ n ≤ 65536 ∧ m = n + 32 * cnt n ∧ (partL y m z 0 z).length = n ∧ (∀ i, i < n → (partL y m z 0 z).getD i 0 = dat y i) ∧ fileL n (dat y) = (List.range m).map y := by
  unfold partE at h
  by_cases h1 : rngB z 0 z
  · rw [if_pos h1] at h
    by_cases h2 : (m : Int) = szV z
    · rw [if_pos h2] at h
      by_cases h3 : parOK y m z.toNat (0 : Int).toNat z.toNat = true
      · obtain ⟨h5, h6, _⟩ := h1
        obtain ⟨n, rfl⟩ : ∃ n : Nat, z = n := ⟨z.toNat, by omega⟩
        have hm : m = n + 32 * cnt n := by rw [szV_nat n (by omega)] at h2; omega
        have h3' : parOK y m n 0 n = true := h3
        have hL : partL y m n 0 n = (List.range n).map (dat y) := by
          unfold partL
          rw [if_pos ⟨⟨h5, h6, by omega, by omega, by omega⟩, h2, h3⟩]
          show parL y n 0 n = _
          rw [parL_dat y n 0 n (by omega) (Nat.le_refl _)]
          simp
        refine ⟨n, rfl, by omega, hm, by rw [hL]; simp, fun i hi => by rw [hL, range_getD n _ i hi], ?_⟩
        rw [hm] at h3' ⊢
        exact file_own y n h3'
      · rw [if_neg h3] at h; cases h
    · rw [if_neg h2] at h; cases h
  · rw [if_neg h1] at h; cases h
theorem part_fil0 (n : Nat) (x : Nat → Nat) (hn : n ≤ 65536) : partL (fil n x) (n + 32 * cnt n) n 0 n = (List.range n).map x ∧ partE (fil n x) (n + 32 * cnt n) n 0 n = 0 := by
  have h := part_fil n x hn 0 n (by omega) (Nat.le_refl _)
  refine ⟨?_, h.2⟩
  have h1 := h.1
  simpa using h1
theorem RowL.fil {w : World} {g n : Nat} {x : Nat → Nat} (h : RowL w g (fileL n x)) : StrAt w (some ⟨g, 0, none⟩) (n + 32 * cnt n) (fil n x) := by
  have := h.str
  rwa [fileL_len] at this
theorem fil_lt (n : Nat) (x : Nat → Nat) (hx : ∀ i, i < n → x i < 256) : ∀ i, i < n + 32 * cnt n → fil n x i < 256 := fun i hi => by
  unfold fil
  have hl : i < (fileL n x).length := by rw [fileL_len]; exact hi
  rw [List.getD_eq_getElem?_getD, List.getElem?_eq_getElem hl]
  exact fileL_lt n x hx _ (List.getElem_mem hl)
set_option maxRecDepth 100000 in
set_option maxHeartbeats 2000000 in
theorem back_ok (p : Option Addr) (n c : Nat) (x : Nat → Nat) (za zb : Int) (q : Option Addr) (m d : Nat) (y : Nat → Nat) (z : Int) (w : World) (hn : n ≤ 2500) (hc : n ≤ c) (hp : p = none → n = 0 ∧ c = 0) (hx : StrAt w p n x) (hb : ∀ i, i < n → x i < 256)
    (hm : m ≤ 2500) (hd : m ≤ d) (hq : q = none → m = 0 ∧ d = 0) (hy : StrAt w q m y) (hyb : ∀ i, i < m → y i < 256) :
    Calls Try.prog 6 #[.slice p n c, .int .i64 za, .int .i64 zb, .slice q m d, .int .i64 z] w fun e w' => e = .returned (.bool true) ∧ Below w.heap.size w w' := by
  have hn' : ¬ (2500 : Int) < (n : Int) := by omega
  have hm' : ¬ (2500 : Int) < (m : Int) := by omega
  have HX := hid hx
  have HB := hid hb
  have HP := hid hp
  have HQ := hid hq
  have HY := hid hy
  have HYB := hid hyb
  have HCN : Hid (cnt n ≤ 10) := by show cnt n ≤ 10; unfold cnt; omega
  have hs1 := szV_nat n (by omega)
  have hs2 := szE_nat n (by omega)
  have HPF := hid (part_fil n x (by omega))
  have HPF0 := hid (part_fil0 n x (by omega))
  have HBF := hid (bad_fil n x)
  have HFL := hid (fil_lt n x hb)
  have HLEN := hid (fileL_len n x)
  clear hx hb hp hq hy hyb
  go_enter Try.func6, Try.ntmps6
  go_wp2_with fail
  refine (known_any _).mono ?_
  rintro e w1 ⟨rfl, hb1⟩
  have HB1 := hid hb1
  clear hb1
  go_wp2_with fail
  refine (lay_g p n c x w1 (by omega) hc HP.out (HX.out.below HB1.out) HB.out).mono ?_
  rintro e w2 ⟨g, rfl, _, hrow, _, hb2⟩
  have HR := hid hrow.fil
  have HB2 := hid (HB1.out.trans (hb2.mono HB1.out.size))
  clear hrow hb2
  rw [HLEN.out]
  obtain ⟨k, hk⟩ : ∃ k, n + 32 * cnt n = k := ⟨_, rfl⟩
  rw [hk] at HR HPF HPF0 HBF HFL hs1 ⊢
  have hk2 : k ≤ 3000 := by have := HCN.out; omega
  have HK := hid hk
  clear hk
  go_wp2_with fail
  refine (size_at n k 0 hs1 hs2 _).mono ?_
  rintro e w' ⟨rfl, hw⟩
  have h3 := hw.symm
  subst h3
  have h1 := read_any (some ⟨g, 0, none⟩) k k (fil n x) n w2 (Nat.le_refl _) (fun h => by cases h) HR.out HFL.out
  rw [HPF0.out.1, HPF0.out.2] at h1
  have H1 := hid h1
  clear h1
  go_wp2_with fail
  refine H1.out.mono ?_
  intro e w3 h
  obtain ⟨po, rfl, hb, hs⟩ := h.str
  simp only [List.length_map, List.length_range] at hs ⊢
  have HS3 := hid (hs.congr (fun j hj => range_getD n x j hj))
  have HR := hid (HR.out.below hb)
  have HB3 := hid (HB2.out.trans (hb.mono HB2.out.size))
  clear h hs hb H1
  have h1 := bad_any (some ⟨g, 0, none⟩) k k (fil n x) n w3 (by omega) (Nat.le_refl _) HR.out HFL.out
  have hbd : bdL (fil n x) k n = [] := by unfold bdL; rw [if_pos ⟨by omega, by omega⟩]; exact HBF.out
  rw [hbd, hs2] at h1
  have H1 := hid h1
  clear h1 hbd
  go_wp2_with fail
  refine H1.out.mono ?_
  rintro e w4 ⟨v, rfl, fi, hb⟩
  obtain ⟨p4, c4, rfl⟩ := fi.form
  have HR := hid (HR.out.below hb)
  have HS3 := hid (HS3.out.below hb)
  have HB4 := hid (HB3.out.trans (hb.mono HB3.out.size))
  clear fi hb H1
  go_wp2_with fail
  refine (same_true _ _ n _ _ x _ HS3.out (HX.out.below HB4.out)).mono ?_
  rintro e w' ⟨rfl, hw⟩
  have h3 := hw.symm
  subst h3
  have a1 : IntKind.i64.wrap ((n : Int) + 1) = ((n + 1 : Nat) : Int) := by rw [IntWalk.i64_in _ ⟨by omega, by omega⟩]; omega
  obtain ⟨n1, hn1⟩ : ∃ n1, n + 1 = n1 := ⟨_, rfl⟩
  rw [hn1] at a1
  go_wp2_with fail
  refine (pick_any za n1 w4 (by omega) (by omega)).mono ?_
  rintro e w' ⟨⟨k1, hk1, rfl⟩, hw⟩
  have h3 := hw.symm
  subst h3
  obtain ⟨n2, hn2⟩ : ∃ n2, n1 - k1 = n2 := ⟨_, rfl⟩
  have a2 : IntKind.i64.wrap ((n1 : Int) - (k1 : Int)) = (n2 : Int) := by rw [IntWalk.i64_in _ ⟨by omega, by omega⟩]; omega
  go_wp2_with fail
  refine (pick_any zb n2 w4 (by omega) (by omega)).mono ?_
  rintro e w' ⟨⟨k2, hk2', rfl⟩, hw⟩
  have h3 := hw.symm
  subst h3
  obtain ⟨t, ht⟩ : ∃ t, k1 + k2 = t := ⟨_, rfl⟩
  have a3 : IntKind.i64.wrap ((k1 : Int) + (k2 : Int)) = (t : Int) := by rw [IntWalk.i64_in _ ⟨by omega, by omega⟩]; omega
  have hkt : k1 ≤ t ∧ t ≤ n := by omega
  have hpf := HPF.out k1 t hkt.1 hkt.2
  have h1 := part_any (some ⟨g, 0, none⟩) k k (fil n x) n k1 t w4 (Nat.le_refl _) (fun h => by cases h) HR.out HFL.out
  rw [hpf.1, hpf.2] at h1
  have H1 := hid h1
  obtain ⟨p5, hcut, hp5, _⟩ := run_cut p n c k1 t hkt.1 (by omega)
  have HS5 : Hid (∀ W', Below w.heap.size w W' → StrAt W' p5 (t - k1) (fun j => x (k1 + j))) := fun W' hW' => (HX.out.below hW').cut hc hkt.2 hp5
  obtain ⟨l, hl⟩ : ∃ l, t - k1 = l := ⟨_, rfl⟩
  rw [hl] at H1 HS5 hcut
  clear h1 hpf hn1 hn2 ht hp5 hl hk1 hk2'
  go_wp2_with fail
  refine H1.out.mono ?_
  intro e w5 h
  obtain ⟨p6, rfl, hb, hs⟩ := h.str
  simp only [List.length_map, List.length_range] at hs ⊢
  have HS6 := hid (hs.congr (fun j hj => range_getD l _ j hj))
  have HB5 := hid (HB4.out.trans (hb.mono HB4.out.size))
  clear h hs hb H1
  have hk3 : (k1 : Int) ≤ (t : Int) := by omega
  go_wp2_with fail
  refine (same_true _ _ l _ _ (fun j => x (k1 + j)) _ HS6.out (HS5.out _ HB5.out)).mono ?_
  rintro e w' ⟨rfl, hw⟩
  have h3 := hw.symm
  subst h3
  clear hcut a1 a2 a3
  have H1 := hid (read_any q m d y z w5 hd HQ.out (HY.out.below HB5.out) HYB.out)
  by_cases hE : partE y m z 0 z = 0
  · obtain ⟨n', rfl, hn3, hmn, hL1, hL2, hL3⟩ := read_own y m z hE
    have HL2 := hid hL2
    have HL3 := hid hL3
    have hn4 : n' ≤ 2500 := by omega
    have HDL : Hid (∀ i, i < n' → dat y i < 256) := fun i hi => HYB.out _ (by
      have hc' : cnt n' = (n' + 255) / 256 := rfl
      omega)
    rw [hE] at H1
    generalize partL y m n' 0 n' = L at *
    clear hL2 hL3 hE hmn
    go_wp2_with fail
    refine H1.out.mono ?_
    rintro e w6 ⟨p7, rfl, hb, hu⟩
    have hs7 : StrAt w6 p7 L.length (fun i => L.getD i 0) := by
      rcases hu with ⟨rfl, rfl⟩ | ⟨g7, rfl, _, hr⟩
      · exact .inl rfl
      · exact hr.str
    have hp7 : p7 = none → n' = 0 ∧ n' = 0 := fun h => by
      rcases hu with ⟨_, rfl⟩ | ⟨g7, h', _, _⟩
      · simp at hL1; omega
      · rw [h'] at h; cases h
    rw [hL1] at hs7 ⊢
    have HS7 := hid (hs7.congr HL2.out)
    have HP7 := hid hp7
    have HB6 := hid (HB5.out.trans (hb.mono HB5.out.size))
    clear hb hu hs7 hp7 H1
    go_wp2_with fail
    refine (lay_g p7 n' n' (dat y) w6 (by omega) (Nat.le_refl _) HP7.out HS7.out HDL.out).mono ?_
    rintro e w7 ⟨g8, rfl, _, hr8, _, hb⟩
    have hs8 := hr8.str
    rw [HL3.out] at hs8 ⊢
    simp only [List.length_map, List.length_range] at hs8 ⊢
    have HS8 := hid (hs8.congr (fun j hj => range_getD m y j hj))
    have HB7 := hid (HB6.out.trans (hb.mono HB6.out.size))
    clear hr8 hb hs8
    go_wp2_with fail
    refine (same_true _ _ m _ _ y _ HS8.out (HY.out.below HB7.out)).mono ?_
    rintro e w' ⟨rfl, hw⟩
    have h3 := hw.symm
    subst h3
    go_wp2
    go_ret
    exact ⟨rfl, HB7.out⟩
  · have hE' : (partE y m z 0 z != 0) = true := by simpa using hE
    generalize partL y m z 0 z = L at *
    generalize partE y m z 0 z = E at *
    go_wp2_with fail
    refine H1.out.mono ?_
    rintro e w6 ⟨p7, rfl, hb, _⟩
    have HB6 := hid (HB5.out.trans (hb.mono HB5.out.size))
    clear hb H1
    go_wp2
    go_ret
    exact ⟨rfl, HB6.out⟩
set_option maxRecDepth 100000 in
theorem back_far (p : Option Addr) (n c : Nat) (za zb : Int) (q : Option Addr) (m d : Nat) (z : Int) (w : World) (h : 2500 < n ∨ 2500 < m) :
    Calls Try.prog 6 #[.slice p n c, .int .i64 za, .int .i64 zb, .slice q m d, .int .i64 z] w fun e w' => e = .returned (.bool true) ∧ Below w.heap.size w w' := by
  by_cases h1 : 2500 < n
  · have h1' : (2500 : Int) < (n : Int) := by omega
    go_enter Try.func6, Try.ntmps6
    go_wp2_with fail
    refine (known_any _).mono ?_
    rintro e w1 ⟨rfl, hb1⟩
    have HB1 := hid hb1
    clear hb1
    go_wp2
    go_ret
    exact ⟨rfl, HB1.out⟩
  · have h1' : ¬ (2500 : Int) < (n : Int) := by omega
    have h2' : (2500 : Int) < (m : Int) := by omega
    go_enter Try.func6, Try.ntmps6
    go_wp2_with fail
    refine (known_any _).mono ?_
    rintro e w1 ⟨rfl, hb1⟩
    have HB1 := hid hb1
    clear hb1
    go_wp2
    go_ret
    exact ⟨rfl, HB1.out⟩
theorem back_all (a : Option Addr) (n c : Nat) (za zb : Int) (q : Option Addr) (m d : Nat) (z : Int) (w : World) (h : IsBytes w a n c) (h2 : IsBytes w q m d) :
    Calls Try.prog 6 #[.slice a n c, .int .i64 za, .int .i64 zb, .slice q m d, .int .i64 z] w fun e w' => e = .returned (.bool true) ∧ Below w.heap.size w w' := by
  obtain ⟨hc, hp, x, hx, hb⟩ := h
  obtain ⟨hd, hq, y, hy, hyb⟩ := h2
  by_cases hf : 2500 < n ∨ 2500 < m
  · exact back_far a n c za zb q m d z w hf
  · exact back_ok a n c x za zb q m d y z w (by omega) hc hp hx hb (by omega) hd hq hy hyb
end Go.Proofs.Ytgmehiidnclgmaa
