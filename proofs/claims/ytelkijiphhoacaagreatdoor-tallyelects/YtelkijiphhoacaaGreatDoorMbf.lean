/- Texts laid into one, cut to what is needed: the remark ahead of each part says what is proved there. -/
import Derived.Test.YtelkijiphhoacaaGreatDoorMbb
import Derived.Test.YtelkijiphhoacaaGreatDoorMbe
/- The document's Read of a journal. -/
namespace Go.Proofs.YtelkijiphhoacaaGreatDoor
open Go Go.RowKit

theorem rdRs_len : ∀ {n : Nat} {b c : List Nat} {l : List Rc}, rdRs n b = some (l, c) → l.length = n
  | 0, b, c, l, h => by rw [rdRs_zero] at h; cases h; rfl
  | n + 1, b, c, l, h => by
    cases h1 : rdR b with
    | none => rw [rdRs_fail h1] at h; cases h
    | some q =>
      obtain ⟨r, b'⟩ := q
      rw [rdRs_step h1] at h
      cases h2 : rdRs n b' with
      | none => rw [h2] at h; cases h
      | some q2 =>
        obtain ⟨l2, c2⟩ := q2
        rw [h2] at h
        cases h
        have := rdRs_len h2
        simp [this]
theorem sig_eq {L : List Nat} (h8 : ∀ z ∈ L, z < 256) : ((ba (L.take 3)).toList == ([83, 74, 49] : List UInt8)) = decide (L.take 3 = [83, 74, 49]) := by
  have e : (⟨#[83, 74, 49]⟩ : ByteArray) = ba [83, 74, 49] := by decide +kernel
  rw [show ([83, 74, 49] : List UInt8) = (⟨#[83, 74, 49]⟩ : ByteArray).toList by decide +kernel, e]
  exact lst_eq_ba (fun z hz => h8 z (List.mem_of_mem_take hz)) (by decide)
set_option linter.unusedVariables false in
set_option maxRecDepth 100000 in
set_option maxHeartbeats 4000000 in
theorem rjread_short (po : Option Addr) (c : Nat) (L : List Nat) (w : World) (h : BL w po L) (hc : L.length ≤ c) (hp : po = none → c = 0) (hn : L.length ≤ 100000) (h8 : ∀ z ∈ L, z < 256) (h35 : L.length < 35) : Calls Tryz.prog 21 #[.slice po L.length c] w fun e w' => e = .returned (.tuple #[.agg (jC 0 (.slice none 0 0)), i64 4]) ∧ Below w.heap.size w w' := by
  obtain ⟨n, hL⟩ : ∃ n, L.length = n := ⟨_, rfl⟩
  rw [hL] at h35 ⊢
  have h35' : (n : Int) < 35 := by omega
  clear h hc hp hn h8 hL
  have T1 : Hid True := hid trivial
  go_enter Tryz.func21, Tryz.ntmps21
  go_wp2_with (first
    | (clear T1; (with_reducible refine wpList_allocJ rfl rfl ?_); intro w1 g2 hz1 hb1 hg1; have HZ := hid hz1; have HB := hid hb1; have HG := hid (show w.heap.size ≤ g2 by omega); clear hz1 hb1 hg1)
    | ((with_reducible refine wpList_build_want 27 _ rfl ?_ (jC 0 (.slice none 0 0)) ?_ ?_); exact rfl; exact builtZJ)
    | ((with_reducible refine wpList_storeJ rfl rfl _ _ rfl g2 ?_ (s := 0) (v := .slice none 0 0) ?_ rfl HZ.out ?_); exact rfl; exact rfl; intro w7 h7 o7; have H7 := hid h7; have O7 := hid o7; clear h7 o7))
  refine ret_rowJ2 rfl g2 rfl rfl rfl H7.out ⟨rfl, ?_⟩
  exact below_tr HB.out (O7.out.below HB.out.size (fun i e => by have := HG.out; omega))
set_option linter.unusedVariables false in
set_option maxRecDepth 100000 in
set_option maxHeartbeats 4000000 in
theorem rjread_sign (po : Option Addr) (c : Nat) (L : List Nat) (w : World) (h : BL w po L) (hc : L.length ≤ c) (hp : po = none → c = 0) (hn : L.length ≤ 100000) (h8 : ∀ z ∈ L, z < 256) (h35 : ¬ L.length < 35) (h3 : L.take 3 ≠ [83, 74, 49]) : Calls Tryz.prog 21 #[.slice po L.length c] w fun e w' => e = .returned (.tuple #[.agg (jC 0 (.slice none 0 0)), i64 4]) ∧ Below w.heap.size w w' := by
  have hsg : ((ba (L.take 3)).toList == ([83, 74, 49] : List UInt8)) = false := by rw [sig_eq h8]; exact decide_eq_false h3
  have H3 : Hid ((L.take 3).length = 3) := hid (len_take (by omega))
  have HBL := hid h
  obtain ⟨n, hL⟩ : ∃ n, L.length = n := ⟨_, rfl⟩
  rw [hL] at h35 hc ⊢
  have h35' : ¬ (n : Int) < 35 := by omega
  have hs0 : ∀ w, (Instr.slice 28 (.slice po n c) none (some (.int .i64 3)) none).run Tryz.prog w = .ok (.slice po 3 c) w := fun w => run_head8n po n c 3 (by omega) w
  have T1 : Hid True := hid trivial
  clear h hc hp hn h8 hL h3 h35
  go_enter Tryz.func21, Tryz.ntmps21
  go_wp2_with (first
    | (clear T1; (with_reducible refine wpList_allocJ rfl rfl ?_); intro w1 g2 hz1 hb1 hg1; have HZ := hid hz1; have HB := hid hb1; have HG := hid (show w.heap.size ≤ g2 by omega); have hcv : (convert 28 9 (.slice po 3 c)).run Tryz.prog w1 = .ok (.string (ba (L.take 3))) w1 := (by have h9 := ((HBL.out.below hb1).take 3).conv c; rw [H3.out] at h9; exact h9); clear hz1 hb1 hg1)
    | ((with_reducible refine wpList_build_want 27 _ rfl ?_ (jC 0 (.slice none 0 0)) ?_ ?_); exact rfl; exact builtZJ)
    | ((with_reducible refine wpList_storeJ rfl rfl _ _ rfl g2 ?_ (s := 0) (v := .slice none 0 0) ?_ rfl HZ.out ?_); exact rfl; exact rfl; intro w7 h7 o7; have H7 := hid h7; have O7 := hid o7; clear h7 o7))
  refine ret_rowJ2 rfl g2 rfl rfl rfl H7.out ⟨rfl, ?_⟩
  exact below_tr HB.out (O7.out.below HB.out.size (fun i e => by have := HG.out; omega))
set_option linter.unusedVariables false in
set_option maxRecDepth 100000 in
set_option maxHeartbeats 4000000 in
theorem rjread_dig (po : Option Addr) (c : Nat) (L : List Nat) (w : World) (h : BL w po L) (hc : L.length ≤ c) (hp : po = none → c = 0) (hn : L.length ≤ 100000) (h8 : ∀ z ∈ L, z < 256) (h35 : ¬ L.length < 35) (h3 : L.take 3 = [83, 74, 49]) (hq : dig (L.take (L.length - 32)) ≠ L.drop (L.length - 32)) : Calls Tryz.prog 21 #[.slice po L.length c] w fun e w' => e = .returned (.tuple #[.agg (jC 0 (.slice none 0 0)), i64 14]) ∧ Below w.heap.size w w' := by
  obtain ⟨E, hE⟩ : ∃ E, L.length = E + 32 := ⟨L.length - 32, by omega⟩
  obtain ⟨b, o, rfl⟩ : ∃ b o, po = some ⟨b, o, none⟩ := by
      rcases h with h | ⟨b, o, h, _⟩
      · rw [h] at hE; simp at hE
      · exact ⟨b, o, h⟩
  have hEL : L.length - 32 = E := by omega
  rw [hEL] at hq
  have hs1 := run_head8n (some ⟨b, o, none⟩) (E + 32) c E (by omega)
  have hs2 : ∀ w, (Instr.slice 28 (.slice (some ⟨b, o, none⟩) (E + 32) c) (some (.int .i64 (E : Int))) none none).run Tryz.prog w = .ok (.slice (some ⟨b, o + E, none⟩) 32 (c - E)) w := fun w => by have := run_from8s b o (E + 32) c E (by omega) (by omega) w; rwa [show E + 32 - E = 32 by omega] at this
  have hs3 : ∀ w, (Instr.slice 28 (.slice (some ⟨b, o, none⟩) (E + 32) c) (some (.int .i64 3)) (some (.int .i64 (E : Int))) none).run Tryz.prog w = .ok (.slice (some ⟨b, o + 3, none⟩) (E - 3) (c - 3)) w := fun w => run_mid8s b o (E + 32) c 3 E (by omega) (by omega) (by omega) w
  have hs0 : ∀ w, (Instr.slice 28 (.slice (some ⟨b, o, none⟩) (E + 32) c) none (some (.int .i64 3)) none).run Tryz.prog w = .ok (.slice (some ⟨b, o, none⟩) 3 c) w := fun w => run_head8n (some ⟨b, o, none⟩) (E + 32) c 3 (by omega) w
  obtain ⟨D, hD⟩ : ∃ D, dig (L.take E) = D := ⟨_, rfl⟩
  have hDl : D.length = 32 := by rw [← hD]; exact dig_len _
  have hD8 : ∀ z ∈ D, z < 256 := by rw [← hD]; exact dig_lt _
  have hE32 : (L.drop E).length = 32 := by rw [List.length_drop]; omega
  rw [hD] at hq
  have hde : ((ba D).toList == (ba (L.drop E)).toList) = false := by rw [lst_eq_ba hD8 (fun z hz => h8 z (List.mem_of_mem_drop hz))]; exact decide_eq_false hq
  have HSUM : Hid (∀ W, Below w.heap.size w W → Calls Tryz.prog 32 #[.slice (some ⟨b, o, none⟩) E c] W fun e w' => e = .returned (.agg (sumC D)) ∧ Below W.heap.size W w') := hid (fun W hW => by
      have := rdsum_any (some ⟨b, o, none⟩) c (L.take E) W (by rw [len_take (by omega)]; omega) (fun e => by cases e) ((h.below hW).take E) (fun z hz => h8 z (List.mem_of_mem_take hz))
      rw [len_take (by omega), hD] at this
      exact this)
  have HBL := hid h
  have H3 : Hid ((L.take 3).length = 3) := hid (len_take (by omega))
  have H32 := hid hE32
  have hsg : ((ba (L.take 3)).toList == ([83, 74, 49] : List UInt8)) = true := by rw [sig_eq h8]; exact decide_eq_true h3
  rw [hE]
  have h35' : ¬ ((E + 32 : Nat) : Int) < 35 := by omega
  have hEi : (E : Int) ≤ 100000 := by omega
  have hw0 : (((E + 32 : Nat) : Int)) - 32 = (E : Int) := by omega
  have hsd := run_dig
  have T1 : Hid True := hid trivial
  clear h hc hp hn h8 hE h3 h35 hq hD hD8 hE32 hEL
  go_enter Tryz.func21, Tryz.ntmps21
  go_upto_region 5 with (first
    | (clear T1; (with_reducible refine wpList_allocJ rfl rfl ?_); intro w1 g2 hz1 hb1 hg1; have HZ := hid hz1; have HB := hid hb1; have HG := hid (show w.heap.size ≤ g2 by omega); have hcv : (convert 28 9 (.slice (some ⟨b, o, none⟩) 3 c)).run Tryz.prog w1 = .ok (.string (ba (L.take 3))) w1 := (by have h9 := ((HBL.out.below hb1).take 3).conv c; rw [H3.out] at h9; exact h9); clear hz1 hb1 hg1)
    | (go_at_call 32; refine (HSUM.out _ HB.out).mono ?_; rintro e w3 ⟨rfl, hb3⟩; replace HZ := hid (HZ.out.below hb3); replace HB := hid (below_on HB.out hb3); clear hb3 hcv)
    | ((with_reducible refine wpList_allocD rfl rfl ?_); intro w4 g5 hz4 hb4 hg4; have HG5 := hid (show w.heap.size ≤ g5 ∧ g2 < g5 from ⟨by have := HB.out.size; omega, by have := HZ.out.lt; omega⟩); replace HZ := hid (HZ.out.below hb4); replace HB := hid (below_on HB.out hb4); have HZ5 := hid hz4; clear hz4 hb4 hg4)
    | ((with_reducible refine wpList_storeD rfl rfl _ _ rfl g5 ?_ (m := zeroD) (n := D) ?_ ?_ hDl HZ5.out ?_); exact rfl; exact rfl; exact rfl; intro w5 h5 o5; replace HZ := hid (HZ.out.keep (o5.block g2 HZ.out.lt (by have := HG5.out; omega))); replace HB := hid (below_tr HB.out (o5.below HB.out.size (fun i e => by have := HG5.out; omega))); have HC5 := hid h5; clear h5 o5 HZ5))
  have HSF : Hid (∀ W, Below w5.heap.size w5 W → (fun W => (convert 28 9 (.slice (some ⟨g5, 0, none⟩) 32 32)).run Tryz.prog W = .ok (.string (ba D)) W ∧ (convert 28 9 (.slice (some ⟨b, o + E, none⟩) 32 (c - E))).run Tryz.prog W = .ok (.string (ba (L.drop E))) W) W) := hid (fun W hW => ⟨by have h9 := ((HC5.out.below hW).bl).conv 32; rw [hDl] at h9; exact h9, by have h9 := ((HBL.out.below (below_on HB.out hW)).drop E).conv (c - E); rw [H32.out] at h9; exact h9⟩)
  refine wp_region_held_drew (S := (fun W => (convert 28 9 (.slice (some ⟨g5, 0, none⟩) 32 32)).run Tryz.prog W = .ok (.string (ba D)) W ∧ (convert 28 9 (.slice (some ⟨b, o + E, none⟩) 32 (c - E))).run Tryz.prog W = .ok (.string (ba (L.drop E))) W)) (by kernel_rfl) (HSF.out _ (below_drew _)) (fun hHeld => ?_)
  refine wpAnyH_take (i := 0) (oi := ⟨some 25, .slice 66 (.tmp 5) none none none, _, _, _, none⟩) (v := .slice (some ⟨g5, 0, none⟩) 32 32) rfl (by kernel_rfl) (by kernel_rfl) (by kernel_rfl) (fun _ _ _ h => h) (Or.inl ⟨by kernel_rfl, by intro W hW; go_simp⟩) hHeld ?_
  refine wpAnyH_take (i := 1) (oi := ⟨some 26, .convert 28 9 (.tmp 25), _, _, _, none⟩) (v := .string (ba D)) rfl (by kernel_rfl) (by kernel_rfl) (by kernel_rfl) (fun _ _ _ h => h) (Or.inl ⟨by kernel_rfl, by intro W hW; have q0 := hW.1; go_simp⟩) hHeld ?_
  refine wpAnyH_take (i := 2) (oi := ⟨some 27, .move (.tmp 0), _, _, _, none⟩) (v := .slice (some ⟨b, o, none⟩) (E + 32) c) rfl (by kernel_rfl) (by kernel_rfl) (by kernel_rfl) (fun _ _ _ h => h) (Or.inl ⟨by kernel_rfl, by intro W hW; go_simp⟩) hHeld ?_
  refine wpAnyH_take (i := 3) (oi := ⟨some 28, .move (.tmp 4), _, _, _, none⟩) (v := i64 E) rfl (by kernel_rfl) (by kernel_rfl) (by kernel_rfl) (fun _ _ _ h => h) (Or.inl ⟨by kernel_rfl, by intro W hW; go_simp⟩) hHeld ?_
  refine wpAnyH_take (i := 4) (oi := ⟨some 29, .slice 28 (.tmp 27) (some (.tmp 28)) none none, _, _, _, none⟩) (v := .slice (some ⟨b, o + E, none⟩) 32 (c - E)) rfl (by kernel_rfl) (by kernel_rfl) (by kernel_rfl) (fun _ _ _ h => h) (Or.inl ⟨by kernel_rfl, by intro W hW; go_simp⟩) hHeld ?_
  refine wpAnyH_take (i := 5) (oi := ⟨some 30, .convert 28 9 (.tmp 29), _, _, _, none⟩) (v := .string (ba (L.drop E))) rfl (by kernel_rfl) (by kernel_rfl) (by kernel_rfl) (fun _ _ _ h => h) (Or.inl ⟨by kernel_rfl, by intro W hW; have q0 := hW.2; go_simp⟩) hHeld ?_
  refine wpAnyH_take (i := 6) (oi := ⟨some 31, .binOp .neq 9 (.tmp 26) (.tmp 30) 9, _, _, _, none⟩) (v := .bool true) rfl (by kernel_rfl) (by kernel_rfl) (by kernel_rfl) (fun _ _ _ h => h) (Or.inl ⟨by kernel_rfl, by intro W hW; go_simp⟩) hHeld ?_
  refine wpAnyH_done (by kernel_rfl) ?_ _
  simp only [Act.put, List.setIfInBounds_toArray, List.set_cons_zero, List.set_cons_succ]
  clear hHeld
  have HBd := hid (below_drew w5)
  replace HZ := hid (HZ.out.below HBd.out)
  replace HB := hid (below_on HB.out HBd.out)
  go_wp2_with (first
    | ((with_reducible refine wpList_build_want 27 _ rfl ?_ (jC 0 (.slice none 0 0)) ?_ ?_); exact rfl; exact builtZJ)
    | ((with_reducible refine wpList_storeJ rfl rfl _ _ rfl g2 ?_ (s := 0) (v := .slice none 0 0) ?_ rfl HZ.out ?_); exact rfl; exact rfl; intro w7 h7 o7; have H7 := hid h7; have O7 := hid o7; clear h7 o7))
  refine ret_rowJ2 rfl g2 rfl rfl rfl H7.out ⟨rfl, ?_⟩
  exact below_tr HB.out (O7.out.below HB.out.size (fun i e => by have := HG.out; omega))
set_option linter.unusedVariables false in
set_option maxRecDepth 100000 in
set_option maxHeartbeats 4000000 in
theorem rjread_m0 (po : Option Addr) (c : Nat) (L : List Nat) (w : World) (h : BL w po L) (hc : L.length ≤ c) (hp : po = none → c = 0) (hn : L.length ≤ 100000) (h8 : ∀ z ∈ L, z < 256) (h35 : ¬ L.length < 35) (h3 : L.take 3 = [83, 74, 49]) (hq : dig (L.take (L.length - 32)) = L.drop (L.length - 32)) (hm : rdMid ((L.take (L.length - 32)).drop 3) = none) : Calls Tryz.prog 21 #[.slice po L.length c] w fun e w' => e = .returned (.tuple #[.agg (jC 0 (.slice none 0 0)), i64 4]) ∧ Below w.heap.size w w' := by
  obtain ⟨E, hE⟩ : ∃ E, L.length = E + 32 := ⟨L.length - 32, by omega⟩
  obtain ⟨b, o, rfl⟩ : ∃ b o, po = some ⟨b, o, none⟩ := by
      rcases h with h | ⟨b, o, h, _⟩
      · rw [h] at hE; simp at hE
      · exact ⟨b, o, h⟩
  have hEL : L.length - 32 = E := by omega
  rw [hEL] at hq hm
  have hs1 := run_head8n (some ⟨b, o, none⟩) (E + 32) c E (by omega)
  have hs2 : ∀ w, (Instr.slice 28 (.slice (some ⟨b, o, none⟩) (E + 32) c) (some (.int .i64 (E : Int))) none none).run Tryz.prog w = .ok (.slice (some ⟨b, o + E, none⟩) 32 (c - E)) w := fun w => by have := run_from8s b o (E + 32) c E (by omega) (by omega) w; rwa [show E + 32 - E = 32 by omega] at this
  have hs3 : ∀ w, (Instr.slice 28 (.slice (some ⟨b, o, none⟩) (E + 32) c) (some (.int .i64 3)) (some (.int .i64 (E : Int))) none).run Tryz.prog w = .ok (.slice (some ⟨b, o + 3, none⟩) (E - 3) (c - 3)) w := fun w => run_mid8s b o (E + 32) c 3 E (by omega) (by omega) (by omega) w
  have hs0 : ∀ w, (Instr.slice 28 (.slice (some ⟨b, o, none⟩) (E + 32) c) none (some (.int .i64 3)) none).run Tryz.prog w = .ok (.slice (some ⟨b, o, none⟩) 3 c) w := fun w => run_head8n (some ⟨b, o, none⟩) (E + 32) c 3 (by omega) w
  obtain ⟨D, hD⟩ : ∃ D, dig (L.take E) = D := ⟨_, rfl⟩
  have hDl : D.length = 32 := by rw [← hD]; exact dig_len _
  have hD8 : ∀ z ∈ D, z < 256 := by rw [← hD]; exact dig_lt _
  have hE32 : (L.drop E).length = 32 := by rw [List.length_drop]; omega
  rw [hD] at hq
  have hde : ((ba D).toList == (ba (L.drop E)).toList) = true := by rw [lst_eq_ba hD8 (fun z hz => h8 z (List.mem_of_mem_drop hz))]; exact decide_eq_true hq
  have HSUM : Hid (∀ W, Below w.heap.size w W → Calls Tryz.prog 32 #[.slice (some ⟨b, o, none⟩) E c] W fun e w' => e = .returned (.agg (sumC D)) ∧ Below W.heap.size W w') := hid (fun W hW => by
      have := rdsum_any (some ⟨b, o, none⟩) c (L.take E) W (by rw [len_take (by omega)]; omega) (fun e => by cases e) ((h.below hW).take E) (fun z hz => h8 z (List.mem_of_mem_take hz))
      rw [len_take (by omega), hD] at this
      exact this)
  have HBL := hid h
  have H3 : Hid ((L.take 3).length = 3) := hid (len_take (by omega))
  have H32 := hid hE32
  have hsg : ((ba (L.take 3)).toList == ([83, 74, 49] : List UInt8)) = true := by rw [sig_eq h8]; exact decide_eq_true h3
  rw [hE]
  have h35' : ¬ ((E + 32 : Nat) : Int) < 35 := by omega
  have hEi : (E : Int) ≤ 100000 := by omega
  have hw0 : (((E + 32 : Nat) : Int)) - 32 = (E : Int) := by omega
  have hsd := run_dig
  have T1 : Hid True := hid trivial
  have HM3 : Hid (((L.take E).drop 3).length = E - 3) := hid (by rw [List.length_drop, len_take (by omega)])
  have HMID : Hid (∀ W, Below w.heap.size w W → Calls Tryz.prog 33 #[.slice (some ⟨b, o + 3, none⟩) (E - 3) (c - 3)] W (MidS W none)) := hid (fun W hW => by have h9 := rmid_any (some ⟨b, o + 3, none⟩) (c - 3) ((L.take E).drop 3) W (((h.below hW).take E).drop 3) (by rw [HM3.out]; omega) (by rw [HM3.out]; omega) (fun z hz => h8 z (List.mem_of_mem_take (List.mem_of_mem_drop hz))); rw [hm, HM3.out] at h9; exact h9)
  clear h hc hp hn h8 hE h3 h35 hq hD hD8 hE32 hEL hm
  go_enter Tryz.func21, Tryz.ntmps21
  go_upto_region 5 with (first
    | (clear T1; (with_reducible refine wpList_allocJ rfl rfl ?_); intro w1 g2 hz1 hb1 hg1; have HZ := hid hz1; have HB := hid hb1; have HG := hid (show w.heap.size ≤ g2 by omega); have hcv : (convert 28 9 (.slice (some ⟨b, o, none⟩) 3 c)).run Tryz.prog w1 = .ok (.string (ba (L.take 3))) w1 := (by have h9 := ((HBL.out.below hb1).take 3).conv c; rw [H3.out] at h9; exact h9); clear hz1 hb1 hg1)
    | (go_at_call 32; refine (HSUM.out _ HB.out).mono ?_; rintro e w3 ⟨rfl, hb3⟩; replace HZ := hid (HZ.out.below hb3); replace HB := hid (below_on HB.out hb3); clear hb3 hcv)
    | ((with_reducible refine wpList_allocD rfl rfl ?_); intro w4 g5 hz4 hb4 hg4; have HG5 := hid (show w.heap.size ≤ g5 ∧ g2 < g5 from ⟨by have := HB.out.size; omega, by have := HZ.out.lt; omega⟩); replace HZ := hid (HZ.out.below hb4); replace HB := hid (below_on HB.out hb4); have HZ5 := hid hz4; clear hz4 hb4 hg4)
    | ((with_reducible refine wpList_storeD rfl rfl _ _ rfl g5 ?_ (m := zeroD) (n := D) ?_ ?_ hDl HZ5.out ?_); exact rfl; exact rfl; exact rfl; intro w5 h5 o5; replace HZ := hid (HZ.out.keep (o5.block g2 HZ.out.lt (by have := HG5.out; omega))); replace HB := hid (below_tr HB.out (o5.below HB.out.size (fun i e => by have := HG5.out; omega))); have HC5 := hid h5; clear h5 o5 HZ5))
  have HSF : Hid (∀ W, Below w5.heap.size w5 W → (fun W => (convert 28 9 (.slice (some ⟨g5, 0, none⟩) 32 32)).run Tryz.prog W = .ok (.string (ba D)) W ∧ (convert 28 9 (.slice (some ⟨b, o + E, none⟩) 32 (c - E))).run Tryz.prog W = .ok (.string (ba (L.drop E))) W) W) := hid (fun W hW => ⟨by have h9 := ((HC5.out.below hW).bl).conv 32; rw [hDl] at h9; exact h9, by have h9 := ((HBL.out.below (below_on HB.out hW)).drop E).conv (c - E); rw [H32.out] at h9; exact h9⟩)
  refine wp_region_held_drew (S := (fun W => (convert 28 9 (.slice (some ⟨g5, 0, none⟩) 32 32)).run Tryz.prog W = .ok (.string (ba D)) W ∧ (convert 28 9 (.slice (some ⟨b, o + E, none⟩) 32 (c - E))).run Tryz.prog W = .ok (.string (ba (L.drop E))) W)) (by kernel_rfl) (HSF.out _ (below_drew _)) (fun hHeld => ?_)
  refine wpAnyH_take (i := 0) (oi := ⟨some 25, .slice 66 (.tmp 5) none none none, _, _, _, none⟩) (v := .slice (some ⟨g5, 0, none⟩) 32 32) rfl (by kernel_rfl) (by kernel_rfl) (by kernel_rfl) (fun _ _ _ h => h) (Or.inl ⟨by kernel_rfl, by intro W hW; go_simp⟩) hHeld ?_
  refine wpAnyH_take (i := 1) (oi := ⟨some 26, .convert 28 9 (.tmp 25), _, _, _, none⟩) (v := .string (ba D)) rfl (by kernel_rfl) (by kernel_rfl) (by kernel_rfl) (fun _ _ _ h => h) (Or.inl ⟨by kernel_rfl, by intro W hW; have q0 := hW.1; go_simp⟩) hHeld ?_
  refine wpAnyH_take (i := 2) (oi := ⟨some 27, .move (.tmp 0), _, _, _, none⟩) (v := .slice (some ⟨b, o, none⟩) (E + 32) c) rfl (by kernel_rfl) (by kernel_rfl) (by kernel_rfl) (fun _ _ _ h => h) (Or.inl ⟨by kernel_rfl, by intro W hW; go_simp⟩) hHeld ?_
  refine wpAnyH_take (i := 3) (oi := ⟨some 28, .move (.tmp 4), _, _, _, none⟩) (v := i64 E) rfl (by kernel_rfl) (by kernel_rfl) (by kernel_rfl) (fun _ _ _ h => h) (Or.inl ⟨by kernel_rfl, by intro W hW; go_simp⟩) hHeld ?_
  refine wpAnyH_take (i := 4) (oi := ⟨some 29, .slice 28 (.tmp 27) (some (.tmp 28)) none none, _, _, _, none⟩) (v := .slice (some ⟨b, o + E, none⟩) 32 (c - E)) rfl (by kernel_rfl) (by kernel_rfl) (by kernel_rfl) (fun _ _ _ h => h) (Or.inl ⟨by kernel_rfl, by intro W hW; go_simp⟩) hHeld ?_
  refine wpAnyH_take (i := 5) (oi := ⟨some 30, .convert 28 9 (.tmp 29), _, _, _, none⟩) (v := .string (ba (L.drop E))) rfl (by kernel_rfl) (by kernel_rfl) (by kernel_rfl) (fun _ _ _ h => h) (Or.inl ⟨by kernel_rfl, by intro W hW; have q0 := hW.2; go_simp⟩) hHeld ?_
  refine wpAnyH_take (i := 6) (oi := ⟨some 31, .binOp .neq 9 (.tmp 26) (.tmp 30) 9, _, _, _, none⟩) (v := .bool false) rfl (by kernel_rfl) (by kernel_rfl) (by kernel_rfl) (fun _ _ _ h => h) (Or.inl ⟨by kernel_rfl, by intro W hW; go_simp⟩) hHeld ?_
  refine wpAnyH_done (by kernel_rfl) ?_ _
  simp only [Act.put, List.setIfInBounds_toArray, List.set_cons_zero, List.set_cons_succ]
  clear hHeld
  have HBd := hid (below_drew w5)
  replace HZ := hid (HZ.out.below HBd.out)
  replace HB := hid (below_on HB.out HBd.out)
  go_wp2_with (first
    | (go_at_call 33; refine (HMID.out _ HB.out).mono ?_; rintro e w6 ⟨hb6, s6, p6, n6, c6, rfl⟩; replace HZ := hid (HZ.out.below hb6); replace HB := hid (below_on HB.out hb6); clear hb6)
    | ((with_reducible refine wpList_allocJ rfl rfl ?_); intro w8 g6 hz8 hb8 hg8; have HG6 := hid (show w.heap.size ≤ g6 ∧ g2 < g6 from ⟨by have := HB.out.size; omega, by have := HZ.out.lt; omega⟩); replace HZ := hid (HZ.out.below hb8); replace HB := hid (below_on HB.out hb8); have HZ6 := hid hz8; clear hz8 hb8 hg8)
    | ((with_reducible refine wpList_storeJ rfl rfl _ _ rfl g6 ?_ (s := s6) (v := .slice p6 n6 c6) ?_ rfl HZ6.out ?_); exact rfl; exact rfl; intro w9 h9 o9; replace HZ := hid (HZ.out.keep (o9.block g2 HZ.out.lt (by have := HG6.out; omega))); replace HB := hid (below_tr HB.out (o9.below HB.out.size (fun i e => by have := HG6.out; omega))); have HC6 := hid h9; clear h9 o9 HZ6)
    | ((with_reducible refine wpList_build_want 27 _ rfl ?_ (jC 0 (.slice none 0 0)) ?_ ?_); exact rfl; exact builtZJ)
    | ((with_reducible refine wpList_storeJ rfl rfl _ _ rfl g2 ?_ (s := 0) (v := .slice none 0 0) ?_ rfl HZ.out ?_); exact rfl; exact rfl; intro w7 h7 o7; have H7 := hid h7; have O7 := hid o7; clear h7 o7))
  refine ret_rowJ2 rfl g2 rfl rfl rfl H7.out ⟨rfl, ?_⟩
  exact below_tr HB.out (O7.out.below HB.out.size (fun i e => by have := HG.out; omega))
theorem rdMid_len {b : List Nat} {j : Jr} (h : rdMid b = some j) : j.recs.length ≤ 100000 := by
  cases h1 : rdU b with
  | none => rw [rdMid_u1 h1] at h; cases h
  | some q1 =>
    obtain ⟨x, b1⟩ := q1
    cases h2 : rdU b1 with
    | none => rw [rdMid_u2 h1 h2] at h; cases h
    | some q2 =>
      obtain ⟨n, b2⟩ := q2
      by_cases hn : 64 < n
      · rw [rdMid_n h1 h2 hn] at h; cases h
      · cases h3 : rdRs n b2 with
        | none => rw [rdMid_r h1 h2 hn h3] at h; cases h
        | some q3 =>
          obtain ⟨rs, N⟩ := q3
          rw [rdMid_e h1 h2 hn h3] at h
          by_cases hN : N = []
          · rw [if_pos hN] at h
            cases h
            show rs.length ≤ 100000
            have := rdRs_len h3
            omega
          · rw [if_neg hN] at h; cases h
set_option linter.unusedVariables false in
set_option maxRecDepth 100000 in
set_option maxHeartbeats 4000000 in
theorem rjread_m2 (po : Option Addr) (c : Nat) (L : List Nat) (w : World) (h : BL w po L) (hc : L.length ≤ c) (hp : po = none → c = 0) (hn : L.length ≤ 100000) (h8 : ∀ z ∈ L, z < 256) (h35 : ¬ L.length < 35) (h3 : L.take 3 = [83, 74, 49]) (hq : dig (L.take (L.length - 32)) = L.drop (L.length - 32)) (j : Jr) (hm : rdMid ((L.take (L.length - 32)).drop 3) = some j) (hok : okJ j = false) : Calls Tryz.prog 21 #[.slice po L.length c] w fun e w' => e = .returned (.tuple #[.agg (jC 0 (.slice none 0 0)), i64 4]) ∧ Below w.heap.size w w' := by
  have hjl : j.recs.length ≤ 100000 := rdMid_len hm
  obtain ⟨E, hE⟩ : ∃ E, L.length = E + 32 := ⟨L.length - 32, by omega⟩
  obtain ⟨b, o, rfl⟩ : ∃ b o, po = some ⟨b, o, none⟩ := by
      rcases h with h | ⟨b, o, h, _⟩
      · rw [h] at hE; simp at hE
      · exact ⟨b, o, h⟩
  have hEL : L.length - 32 = E := by omega
  rw [hEL] at hq hm
  have hs1 := run_head8n (some ⟨b, o, none⟩) (E + 32) c E (by omega)
  have hs2 : ∀ w, (Instr.slice 28 (.slice (some ⟨b, o, none⟩) (E + 32) c) (some (.int .i64 (E : Int))) none none).run Tryz.prog w = .ok (.slice (some ⟨b, o + E, none⟩) 32 (c - E)) w := fun w => by have := run_from8s b o (E + 32) c E (by omega) (by omega) w; rwa [show E + 32 - E = 32 by omega] at this
  have hs3 : ∀ w, (Instr.slice 28 (.slice (some ⟨b, o, none⟩) (E + 32) c) (some (.int .i64 3)) (some (.int .i64 (E : Int))) none).run Tryz.prog w = .ok (.slice (some ⟨b, o + 3, none⟩) (E - 3) (c - 3)) w := fun w => run_mid8s b o (E + 32) c 3 E (by omega) (by omega) (by omega) w
  have hs0 : ∀ w, (Instr.slice 28 (.slice (some ⟨b, o, none⟩) (E + 32) c) none (some (.int .i64 3)) none).run Tryz.prog w = .ok (.slice (some ⟨b, o, none⟩) 3 c) w := fun w => run_head8n (some ⟨b, o, none⟩) (E + 32) c 3 (by omega) w
  obtain ⟨D, hD⟩ : ∃ D, dig (L.take E) = D := ⟨_, rfl⟩
  have hDl : D.length = 32 := by rw [← hD]; exact dig_len _
  have hD8 : ∀ z ∈ D, z < 256 := by rw [← hD]; exact dig_lt _
  have hE32 : (L.drop E).length = 32 := by rw [List.length_drop]; omega
  rw [hD] at hq
  have hde : ((ba D).toList == (ba (L.drop E)).toList) = true := by rw [lst_eq_ba hD8 (fun z hz => h8 z (List.mem_of_mem_drop hz))]; exact decide_eq_true hq
  have HSUM : Hid (∀ W, Below w.heap.size w W → Calls Tryz.prog 32 #[.slice (some ⟨b, o, none⟩) E c] W fun e w' => e = .returned (.agg (sumC D)) ∧ Below W.heap.size W w') := hid (fun W hW => by
      have := rdsum_any (some ⟨b, o, none⟩) c (L.take E) W (by rw [len_take (by omega)]; omega) (fun e => by cases e) ((h.below hW).take E) (fun z hz => h8 z (List.mem_of_mem_take hz))
      rw [len_take (by omega), hD] at this
      exact this)
  have HBL := hid h
  have H3 : Hid ((L.take 3).length = 3) := hid (len_take (by omega))
  have H32 := hid hE32
  have hsg : ((ba (L.take 3)).toList == ([83, 74, 49] : List UInt8)) = true := by rw [sig_eq h8]; exact decide_eq_true h3
  rw [hE]
  have h35' : ¬ ((E + 32 : Nat) : Int) < 35 := by omega
  have hEi : (E : Int) ≤ 100000 := by omega
  have hw0 : (((E + 32 : Nat) : Int)) - 32 = (E : Int) := by omega
  have hsd := run_dig
  have T1 : Hid True := hid trivial
  have HM3 : Hid (((L.take E).drop 3).length = E - 3) := hid (by rw [List.length_drop, len_take (by omega)])
  have HMID : Hid (∀ W, Below w.heap.size w W → Calls Tryz.prog 33 #[.slice (some ⟨b, o + 3, none⟩) (E - 3) (c - 3)] W (MidS W (some j))) := hid (fun W hW => by have h9 := rmid_any (some ⟨b, o + 3, none⟩) (c - 3) ((L.take E).drop 3) W (((h.below hW).take E).drop 3) (by rw [HM3.out]; omega) (by rw [HM3.out]; omega) (fun z hz => h8 z (List.mem_of_mem_take (List.mem_of_mem_drop hz))); rw [hm, HM3.out] at h9; exact h9)
  have HCK : Hid (∀ (W : World) (B : Nat) (v : Value) (m : List Rp), Rs B W v m → rcs m = j.recs → Calls Tryz.prog 34 #[.agg (jC j.seq v)] W fun e w' => e = .returned (i64 2) ∧ Below W.heap.size W w') := hid (fun W B v m hr he => by have h9 := rjcheck_any j.seq v m W (hr.rl (by rw [← rcs_len, he]; exact hjl)); rw [he, show okJ ⟨j.seq, j.recs⟩ = false from hok] at h9; exact h9)
  clear h hc hp hn h8 hE h3 h35 hq hD hD8 hE32 hEL hm
  clear hjl hok
  go_enter Tryz.func21, Tryz.ntmps21
  go_upto_region 5 with (first
    | (clear T1; (with_reducible refine wpList_allocJ rfl rfl ?_); intro w1 g2 hz1 hb1 hg1; have HZ := hid hz1; have HB := hid hb1; have HG := hid (show w.heap.size ≤ g2 by omega); have hcv : (convert 28 9 (.slice (some ⟨b, o, none⟩) 3 c)).run Tryz.prog w1 = .ok (.string (ba (L.take 3))) w1 := (by have h9 := ((HBL.out.below hb1).take 3).conv c; rw [H3.out] at h9; exact h9); clear hz1 hb1 hg1)
    | (go_at_call 32; refine (HSUM.out _ HB.out).mono ?_; rintro e w3 ⟨rfl, hb3⟩; replace HZ := hid (HZ.out.below hb3); replace HB := hid (below_on HB.out hb3); clear hb3 hcv)
    | ((with_reducible refine wpList_allocD rfl rfl ?_); intro w4 g5 hz4 hb4 hg4; have HG5 := hid (show w.heap.size ≤ g5 ∧ g2 < g5 from ⟨by have := HB.out.size; omega, by have := HZ.out.lt; omega⟩); replace HZ := hid (HZ.out.below hb4); replace HB := hid (below_on HB.out hb4); have HZ5 := hid hz4; clear hz4 hb4 hg4)
    | ((with_reducible refine wpList_storeD rfl rfl _ _ rfl g5 ?_ (m := zeroD) (n := D) ?_ ?_ hDl HZ5.out ?_); exact rfl; exact rfl; exact rfl; intro w5 h5 o5; replace HZ := hid (HZ.out.keep (o5.block g2 HZ.out.lt (by have := HG5.out; omega))); replace HB := hid (below_tr HB.out (o5.below HB.out.size (fun i e => by have := HG5.out; omega))); have HC5 := hid h5; clear h5 o5 HZ5))
  have HSF : Hid (∀ W, Below w5.heap.size w5 W → (fun W => (convert 28 9 (.slice (some ⟨g5, 0, none⟩) 32 32)).run Tryz.prog W = .ok (.string (ba D)) W ∧ (convert 28 9 (.slice (some ⟨b, o + E, none⟩) 32 (c - E))).run Tryz.prog W = .ok (.string (ba (L.drop E))) W) W) := hid (fun W hW => ⟨by have h9 := ((HC5.out.below hW).bl).conv 32; rw [hDl] at h9; exact h9, by have h9 := ((HBL.out.below (below_on HB.out hW)).drop E).conv (c - E); rw [H32.out] at h9; exact h9⟩)
  refine wp_region_held_drew (S := (fun W => (convert 28 9 (.slice (some ⟨g5, 0, none⟩) 32 32)).run Tryz.prog W = .ok (.string (ba D)) W ∧ (convert 28 9 (.slice (some ⟨b, o + E, none⟩) 32 (c - E))).run Tryz.prog W = .ok (.string (ba (L.drop E))) W)) (by kernel_rfl) (HSF.out _ (below_drew _)) (fun hHeld => ?_)
  refine wpAnyH_take (i := 0) (oi := ⟨some 25, .slice 66 (.tmp 5) none none none, _, _, _, none⟩) (v := .slice (some ⟨g5, 0, none⟩) 32 32) rfl (by kernel_rfl) (by kernel_rfl) (by kernel_rfl) (fun _ _ _ h => h) (Or.inl ⟨by kernel_rfl, by intro W hW; go_simp⟩) hHeld ?_
  refine wpAnyH_take (i := 1) (oi := ⟨some 26, .convert 28 9 (.tmp 25), _, _, _, none⟩) (v := .string (ba D)) rfl (by kernel_rfl) (by kernel_rfl) (by kernel_rfl) (fun _ _ _ h => h) (Or.inl ⟨by kernel_rfl, by intro W hW; have q0 := hW.1; go_simp⟩) hHeld ?_
  refine wpAnyH_take (i := 2) (oi := ⟨some 27, .move (.tmp 0), _, _, _, none⟩) (v := .slice (some ⟨b, o, none⟩) (E + 32) c) rfl (by kernel_rfl) (by kernel_rfl) (by kernel_rfl) (fun _ _ _ h => h) (Or.inl ⟨by kernel_rfl, by intro W hW; go_simp⟩) hHeld ?_
  refine wpAnyH_take (i := 3) (oi := ⟨some 28, .move (.tmp 4), _, _, _, none⟩) (v := i64 E) rfl (by kernel_rfl) (by kernel_rfl) (by kernel_rfl) (fun _ _ _ h => h) (Or.inl ⟨by kernel_rfl, by intro W hW; go_simp⟩) hHeld ?_
  refine wpAnyH_take (i := 4) (oi := ⟨some 29, .slice 28 (.tmp 27) (some (.tmp 28)) none none, _, _, _, none⟩) (v := .slice (some ⟨b, o + E, none⟩) 32 (c - E)) rfl (by kernel_rfl) (by kernel_rfl) (by kernel_rfl) (fun _ _ _ h => h) (Or.inl ⟨by kernel_rfl, by intro W hW; go_simp⟩) hHeld ?_
  refine wpAnyH_take (i := 5) (oi := ⟨some 30, .convert 28 9 (.tmp 29), _, _, _, none⟩) (v := .string (ba (L.drop E))) rfl (by kernel_rfl) (by kernel_rfl) (by kernel_rfl) (fun _ _ _ h => h) (Or.inl ⟨by kernel_rfl, by intro W hW; have q0 := hW.2; go_simp⟩) hHeld ?_
  refine wpAnyH_take (i := 6) (oi := ⟨some 31, .binOp .neq 9 (.tmp 26) (.tmp 30) 9, _, _, _, none⟩) (v := .bool false) rfl (by kernel_rfl) (by kernel_rfl) (by kernel_rfl) (fun _ _ _ h => h) (Or.inl ⟨by kernel_rfl, by intro W hW; go_simp⟩) hHeld ?_
  refine wpAnyH_done (by kernel_rfl) ?_ _
  simp only [Act.put, List.setIfInBounds_toArray, List.set_cons_zero, List.set_cons_succ]
  clear hHeld
  have HBd := hid (below_drew w5)
  replace HZ := hid (HZ.out.below HBd.out)
  replace HB := hid (below_on HB.out HBd.out)
  go_wp2_with (first
    | (go_at_call 33; refine (HMID.out _ HB.out).mono ?_; rintro e w6 ⟨hb6, v6, m6, rfl, hr6, he6⟩; obtain ⟨p6, c6, hv6, _⟩ := hr6.buf.form; subst hv6; have HR6 := hid hr6; have HE6 := hid he6; have HL6 := hid (show g2 < w5.drew.heap.size from HZ.out.lt); have HS6 := hid HB.out.size; replace HZ := hid (HZ.out.below hb6); replace HB := hid (below_on HB.out hb6); clear hr6 he6 hb6)
    | ((with_reducible refine wpList_allocJ rfl rfl ?_); intro w8 g6 hz8 hb8 hg8; have HG6 := hid (show w.heap.size ≤ g6 ∧ g2 < g6 from ⟨by have := HB.out.size; omega, by have := HZ.out.lt; omega⟩); replace HZ := hid (HZ.out.below hb8); replace HB := hid (below_on HB.out hb8); have HZ6 := hid hz8; replace HR6 := hid (HR6.out.below hb8); clear hz8 hb8 hg8)
    | ((with_reducible refine wpList_storeJ rfl rfl _ _ rfl g6 ?_ (s := j.seq) (v := .slice p6 m6.length c6) ?_ rfl HZ6.out ?_); exact rfl; exact rfl; intro w9 h9 o9; replace HZ := hid (HZ.out.keep (o9.block g2 HZ.out.lt (by have := HG6.out; omega))); replace HB := hid (below_tr HB.out (o9.below HB.out.size (fun i e => by have := HG6.out; omega))); replace HR6 := hid (HR6.out.other7 h9 o9 HZ6.out); have HC6 := hid h9; clear h9 o9 HZ6)
    | ((with_reducible refine wpList_load_at 27 _ rfl ?_ g6 0 ?_ (jC j.seq (.slice p6 m6.length c6)) (.struct (Tryz.prog.fieldsOf 27)) ?_ underJrn rfl ?_ ?_); exact rfl; exact rfl; exact HC6.out.wholeJ; exact sizeJ)
    | (go_at_call 34; refine (HCK.out _ _ _ _ HR6.out HE6.out).mono ?_; rintro e wk ⟨rfl, hbk⟩; replace HZ := hid (HZ.out.below hbk); replace HB := hid (below_on HB.out hbk); replace HR6 := hid (HR6.out.below hbk); replace HC6 := hid (HC6.out.below hbk); clear hbk)
    | ((with_reducible refine wpList_build_want 27 _ rfl ?_ (jC 0 (.slice none 0 0)) ?_ ?_); exact rfl; exact builtZJ)
    | ((with_reducible refine wpList_storeJ rfl rfl _ _ rfl g2 ?_ (s := 0) (v := .slice none 0 0) ?_ rfl HZ.out ?_); exact rfl; exact rfl; intro w7 h7 o7; have H7 := hid h7; have O7 := hid o7; clear h7 o7))
  refine ret_rowJ2 rfl g2 rfl rfl rfl H7.out ⟨rfl, ?_⟩
  exact below_tr HB.out (O7.out.below HB.out.size (fun i e => by have := HG.out; omega))
set_option linter.unusedVariables false in
set_option maxRecDepth 100000 in
set_option maxHeartbeats 4000000 in
theorem rjread_ok (po : Option Addr) (c : Nat) (L : List Nat) (w : World) (h : BL w po L) (hc : L.length ≤ c) (hp : po = none → c = 0) (hn : L.length ≤ 100000) (h8 : ∀ z ∈ L, z < 256) (h35 : ¬ L.length < 35) (h3 : L.take 3 = [83, 74, 49]) (hq : dig (L.take (L.length - 32)) = L.drop (L.length - 32)) (j : Jr) (hm : rdMid ((L.take (L.length - 32)).drop 3) = some j) (hok : okJ j = true) : Calls Tryz.prog 21 #[.slice po L.length c] w (JouE w j.seq j.recs) := by
  have hjl : j.recs.length ≤ 100000 := rdMid_len hm
  obtain ⟨E, hE⟩ : ∃ E, L.length = E + 32 := ⟨L.length - 32, by omega⟩
  obtain ⟨b, o, rfl⟩ : ∃ b o, po = some ⟨b, o, none⟩ := by
      rcases h with h | ⟨b, o, h, _⟩
      · rw [h] at hE; simp at hE
      · exact ⟨b, o, h⟩
  have hEL : L.length - 32 = E := by omega
  rw [hEL] at hq hm
  have hs1 := run_head8n (some ⟨b, o, none⟩) (E + 32) c E (by omega)
  have hs2 : ∀ w, (Instr.slice 28 (.slice (some ⟨b, o, none⟩) (E + 32) c) (some (.int .i64 (E : Int))) none none).run Tryz.prog w = .ok (.slice (some ⟨b, o + E, none⟩) 32 (c - E)) w := fun w => by have := run_from8s b o (E + 32) c E (by omega) (by omega) w; rwa [show E + 32 - E = 32 by omega] at this
  have hs3 : ∀ w, (Instr.slice 28 (.slice (some ⟨b, o, none⟩) (E + 32) c) (some (.int .i64 3)) (some (.int .i64 (E : Int))) none).run Tryz.prog w = .ok (.slice (some ⟨b, o + 3, none⟩) (E - 3) (c - 3)) w := fun w => run_mid8s b o (E + 32) c 3 E (by omega) (by omega) (by omega) w
  have hs0 : ∀ w, (Instr.slice 28 (.slice (some ⟨b, o, none⟩) (E + 32) c) none (some (.int .i64 3)) none).run Tryz.prog w = .ok (.slice (some ⟨b, o, none⟩) 3 c) w := fun w => run_head8n (some ⟨b, o, none⟩) (E + 32) c 3 (by omega) w
  obtain ⟨D, hD⟩ : ∃ D, dig (L.take E) = D := ⟨_, rfl⟩
  have hDl : D.length = 32 := by rw [← hD]; exact dig_len _
  have hD8 : ∀ z ∈ D, z < 256 := by rw [← hD]; exact dig_lt _
  have hE32 : (L.drop E).length = 32 := by rw [List.length_drop]; omega
  rw [hD] at hq
  have hde : ((ba D).toList == (ba (L.drop E)).toList) = true := by rw [lst_eq_ba hD8 (fun z hz => h8 z (List.mem_of_mem_drop hz))]; exact decide_eq_true hq
  have HSUM : Hid (∀ W, Below w.heap.size w W → Calls Tryz.prog 32 #[.slice (some ⟨b, o, none⟩) E c] W fun e w' => e = .returned (.agg (sumC D)) ∧ Below W.heap.size W w') := hid (fun W hW => by
      have := rdsum_any (some ⟨b, o, none⟩) c (L.take E) W (by rw [len_take (by omega)]; omega) (fun e => by cases e) ((h.below hW).take E) (fun z hz => h8 z (List.mem_of_mem_take hz))
      rw [len_take (by omega), hD] at this
      exact this)
  have HBL := hid h
  have H3 : Hid ((L.take 3).length = 3) := hid (len_take (by omega))
  have H32 := hid hE32
  have hsg : ((ba (L.take 3)).toList == ([83, 74, 49] : List UInt8)) = true := by rw [sig_eq h8]; exact decide_eq_true h3
  rw [hE]
  have h35' : ¬ ((E + 32 : Nat) : Int) < 35 := by omega
  have hEi : (E : Int) ≤ 100000 := by omega
  have hw0 : (((E + 32 : Nat) : Int)) - 32 = (E : Int) := by omega
  have hsd := run_dig
  have T1 : Hid True := hid trivial
  have HM3 : Hid (((L.take E).drop 3).length = E - 3) := hid (by rw [List.length_drop, len_take (by omega)])
  have HMID : Hid (∀ W, Below w.heap.size w W → Calls Tryz.prog 33 #[.slice (some ⟨b, o + 3, none⟩) (E - 3) (c - 3)] W (MidS W (some j))) := hid (fun W hW => by have h9 := rmid_any (some ⟨b, o + 3, none⟩) (c - 3) ((L.take E).drop 3) W (((h.below hW).take E).drop 3) (by rw [HM3.out]; omega) (by rw [HM3.out]; omega) (fun z hz => h8 z (List.mem_of_mem_take (List.mem_of_mem_drop hz))); rw [hm, HM3.out] at h9; exact h9)
  have HCK : Hid (∀ (W : World) (B : Nat) (v : Value) (m : List Rp), Rs B W v m → rcs m = j.recs → Calls Tryz.prog 34 #[.agg (jC j.seq v)] W fun e w' => e = .returned (i64 0) ∧ Below W.heap.size W w') := hid (fun W B v m hr he => by have h9 := rjcheck_any j.seq v m W (hr.rl (by rw [← rcs_len, he]; exact hjl)); rw [he, show okJ ⟨j.seq, j.recs⟩ = true from hok] at h9; exact h9)
  clear h hc hp hn h8 hE h3 h35 hq hD hD8 hE32 hEL hm
  clear hjl hok
  go_enter Tryz.func21, Tryz.ntmps21
  go_upto_region 5 with (first
    | (clear T1; (with_reducible refine wpList_allocJ rfl rfl ?_); intro w1 g2 hz1 hb1 hg1; have HZ := hid hz1; have HB := hid hb1; have HG := hid (show w.heap.size ≤ g2 by omega); have hcv : (convert 28 9 (.slice (some ⟨b, o, none⟩) 3 c)).run Tryz.prog w1 = .ok (.string (ba (L.take 3))) w1 := (by have h9 := ((HBL.out.below hb1).take 3).conv c; rw [H3.out] at h9; exact h9); clear hz1 hb1 hg1)
    | (go_at_call 32; refine (HSUM.out _ HB.out).mono ?_; rintro e w3 ⟨rfl, hb3⟩; replace HZ := hid (HZ.out.below hb3); replace HB := hid (below_on HB.out hb3); clear hb3 hcv)
    | ((with_reducible refine wpList_allocD rfl rfl ?_); intro w4 g5 hz4 hb4 hg4; have HG5 := hid (show w.heap.size ≤ g5 ∧ g2 < g5 from ⟨by have := HB.out.size; omega, by have := HZ.out.lt; omega⟩); replace HZ := hid (HZ.out.below hb4); replace HB := hid (below_on HB.out hb4); have HZ5 := hid hz4; clear hz4 hb4 hg4)
    | ((with_reducible refine wpList_storeD rfl rfl _ _ rfl g5 ?_ (m := zeroD) (n := D) ?_ ?_ hDl HZ5.out ?_); exact rfl; exact rfl; exact rfl; intro w5 h5 o5; replace HZ := hid (HZ.out.keep (o5.block g2 HZ.out.lt (by have := HG5.out; omega))); replace HB := hid (below_tr HB.out (o5.below HB.out.size (fun i e => by have := HG5.out; omega))); have HC5 := hid h5; clear h5 o5 HZ5))
  have HSF : Hid (∀ W, Below w5.heap.size w5 W → (fun W => (convert 28 9 (.slice (some ⟨g5, 0, none⟩) 32 32)).run Tryz.prog W = .ok (.string (ba D)) W ∧ (convert 28 9 (.slice (some ⟨b, o + E, none⟩) 32 (c - E))).run Tryz.prog W = .ok (.string (ba (L.drop E))) W) W) := hid (fun W hW => ⟨by have h9 := ((HC5.out.below hW).bl).conv 32; rw [hDl] at h9; exact h9, by have h9 := ((HBL.out.below (below_on HB.out hW)).drop E).conv (c - E); rw [H32.out] at h9; exact h9⟩)
  refine wp_region_held_drew (S := (fun W => (convert 28 9 (.slice (some ⟨g5, 0, none⟩) 32 32)).run Tryz.prog W = .ok (.string (ba D)) W ∧ (convert 28 9 (.slice (some ⟨b, o + E, none⟩) 32 (c - E))).run Tryz.prog W = .ok (.string (ba (L.drop E))) W)) (by kernel_rfl) (HSF.out _ (below_drew _)) (fun hHeld => ?_)
  refine wpAnyH_take (i := 0) (oi := ⟨some 25, .slice 66 (.tmp 5) none none none, _, _, _, none⟩) (v := .slice (some ⟨g5, 0, none⟩) 32 32) rfl (by kernel_rfl) (by kernel_rfl) (by kernel_rfl) (fun _ _ _ h => h) (Or.inl ⟨by kernel_rfl, by intro W hW; go_simp⟩) hHeld ?_
  refine wpAnyH_take (i := 1) (oi := ⟨some 26, .convert 28 9 (.tmp 25), _, _, _, none⟩) (v := .string (ba D)) rfl (by kernel_rfl) (by kernel_rfl) (by kernel_rfl) (fun _ _ _ h => h) (Or.inl ⟨by kernel_rfl, by intro W hW; have q0 := hW.1; go_simp⟩) hHeld ?_
  refine wpAnyH_take (i := 2) (oi := ⟨some 27, .move (.tmp 0), _, _, _, none⟩) (v := .slice (some ⟨b, o, none⟩) (E + 32) c) rfl (by kernel_rfl) (by kernel_rfl) (by kernel_rfl) (fun _ _ _ h => h) (Or.inl ⟨by kernel_rfl, by intro W hW; go_simp⟩) hHeld ?_
  refine wpAnyH_take (i := 3) (oi := ⟨some 28, .move (.tmp 4), _, _, _, none⟩) (v := i64 E) rfl (by kernel_rfl) (by kernel_rfl) (by kernel_rfl) (fun _ _ _ h => h) (Or.inl ⟨by kernel_rfl, by intro W hW; go_simp⟩) hHeld ?_
  refine wpAnyH_take (i := 4) (oi := ⟨some 29, .slice 28 (.tmp 27) (some (.tmp 28)) none none, _, _, _, none⟩) (v := .slice (some ⟨b, o + E, none⟩) 32 (c - E)) rfl (by kernel_rfl) (by kernel_rfl) (by kernel_rfl) (fun _ _ _ h => h) (Or.inl ⟨by kernel_rfl, by intro W hW; go_simp⟩) hHeld ?_
  refine wpAnyH_take (i := 5) (oi := ⟨some 30, .convert 28 9 (.tmp 29), _, _, _, none⟩) (v := .string (ba (L.drop E))) rfl (by kernel_rfl) (by kernel_rfl) (by kernel_rfl) (fun _ _ _ h => h) (Or.inl ⟨by kernel_rfl, by intro W hW; have q0 := hW.2; go_simp⟩) hHeld ?_
  refine wpAnyH_take (i := 6) (oi := ⟨some 31, .binOp .neq 9 (.tmp 26) (.tmp 30) 9, _, _, _, none⟩) (v := .bool false) rfl (by kernel_rfl) (by kernel_rfl) (by kernel_rfl) (fun _ _ _ h => h) (Or.inl ⟨by kernel_rfl, by intro W hW; go_simp⟩) hHeld ?_
  refine wpAnyH_done (by kernel_rfl) ?_ _
  simp only [Act.put, List.setIfInBounds_toArray, List.set_cons_zero, List.set_cons_succ]
  clear hHeld
  have HBd := hid (below_drew w5)
  replace HZ := hid (HZ.out.below HBd.out)
  replace HB := hid (below_on HB.out HBd.out)
  go_wp2_with (first
    | (go_at_call 33; refine (HMID.out _ HB.out).mono ?_; rintro e w6 ⟨hb6, v6, m6, rfl, hr6, he6⟩; obtain ⟨p6, c6, hv6, _⟩ := hr6.buf.form; subst hv6; have HR6 := hid hr6; have HE6 := hid he6; have HL6 := hid (show g2 < w5.drew.heap.size from HZ.out.lt); have HS6 := hid HB.out.size; replace HZ := hid (HZ.out.below hb6); replace HB := hid (below_on HB.out hb6); clear hr6 he6 hb6)
    | ((with_reducible refine wpList_allocJ rfl rfl ?_); intro w8 g6 hz8 hb8 hg8; have HG6 := hid (show w.heap.size ≤ g6 ∧ g2 < g6 from ⟨by have := HB.out.size; omega, by have := HZ.out.lt; omega⟩); replace HZ := hid (HZ.out.below hb8); replace HB := hid (below_on HB.out hb8); have HZ6 := hid hz8; replace HR6 := hid (HR6.out.below hb8); clear hz8 hb8 hg8)
    | ((with_reducible refine wpList_storeJ rfl rfl _ _ rfl g6 ?_ (s := j.seq) (v := .slice p6 m6.length c6) ?_ rfl HZ6.out ?_); exact rfl; exact rfl; intro w9 h9 o9; replace HZ := hid (HZ.out.keep (o9.block g2 HZ.out.lt (by have := HG6.out; omega))); replace HB := hid (below_tr HB.out (o9.below HB.out.size (fun i e => by have := HG6.out; omega))); replace HR6 := hid (HR6.out.other7 h9 o9 HZ6.out); have HC6 := hid h9; clear h9 o9 HZ6)
    | ((with_reducible refine wpList_load_at 27 _ rfl ?_ g6 0 ?_ (jC j.seq (.slice p6 m6.length c6)) (.struct (Tryz.prog.fieldsOf 27)) ?_ underJrn rfl ?_ ?_); exact rfl; exact rfl; exact HC6.out.wholeJ; exact sizeJ)
    | (go_at_call 34; refine (HCK.out _ _ _ _ HR6.out HE6.out).mono ?_; rintro e wk ⟨rfl, hbk⟩; replace HZ := hid (HZ.out.below hbk); replace HB := hid (below_on HB.out hbk); replace HR6 := hid (HR6.out.below hbk); replace HC6 := hid (HC6.out.below hbk); clear hbk)
    | ((with_reducible refine wpList_storeJ rfl rfl _ _ rfl g2 ?_ (s := j.seq) (v := .slice p6 m6.length c6) ?_ rfl HZ.out ?_); exact rfl; exact rfl; intro w7 h7 o7; have H7 := hid h7; have O7 := hid o7; clear h7 o7))
  refine ret_rowJ2 rfl g2 rfl rfl rfl H7.out ⟨_, m6, rfl, (HR6.out.only O7.out (fun i e => by have := HL6.out; omega)).base HS6.out, HE6.out, ?_⟩
  exact below_tr HB.out (O7.out.below HB.out.size (fun i e => by have := HG.out; omega))
theorem rjread_any (po : Option Addr) (c : Nat) (L : List Nat) (w : World) (h : BL w po L) (hc : L.length ≤ c) (hp : po = none → c = 0) (hn : L.length ≤ 100000) (h8 : ∀ z ∈ L, z < 256) : Calls Tryz.prog 21 #[.slice po L.length c] w (AddS w (rdJ dig L)) := by
  by_cases h1 : L.length < 35
  · rw [rdJ_sign (Or.inl h1)]
    exact rjread_short po c L w h hc hp hn h8 h1
  by_cases h2 : L.take 3 = [83, 74, 49]
  · have h12 : ¬ (L.length < 35 ∨ L.take 3 ≠ [83, 74, 49]) := fun e => e.elim h1 (fun e => e h2)
    by_cases h3 : dig (L.take (L.length - 32)) = L.drop (L.length - 32)
    · rw [rdJ_mid h12 (fun e => e h3)]
      cases hm : rdMid ((L.take (L.length - 32)).drop 3) with
      | none => exact rjread_m0 po c L w h hc hp hn h8 h1 h2 h3 hm
      | some j =>
        cases hj : okJ j with
        | false => simp only [hj, Bool.false_eq_true, if_false]; exact rjread_m2 po c L w h hc hp hn h8 h1 h2 h3 j hm hj
        | true => simp only [hj, if_true]; exact rjread_ok po c L w h hc hp hn h8 h1 h2 h3 j hm hj
    · rw [rdJ_dig h12 h3]
      exact rjread_dig po c L w h hc hp hn h8 h1 h2 h3
  · rw [rdJ_sign (Or.inr h2)]
    exact rjread_sign po c L w h hc hp hn h8 h1 h2
end Go.Proofs.YtelkijiphhoacaaGreatDoor
