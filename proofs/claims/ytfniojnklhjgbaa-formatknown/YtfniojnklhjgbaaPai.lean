/- Texts laid into one, cut to what is needed: the remark ahead of each part says what is proved there. -/
import Derived.Test.YtfniojnklhjgbaaPah
/- The document's Read of a format. (Written by tools/gen_Fe14.py.) -/
namespace Go.Proofs.Ytfniojnklhjgbaa
open Go Go.RowKit

set_option linter.unusedVariables false in
set_option maxRecDepth 100000 in
set_option maxHeartbeats 4000000 in
theorem rread14_n (po : Option Addr) (n c : Nat) (w : World) (hn : n ≤ 100000) (h40 : n ≠ 40) : Calls Try.prog 12 #[.slice po n c] w fun e w' => e = .returned (.tuple #[.agg zF.cs, .int .i64 4]) ∧ Below w.heap.size w w' := by
  have h40' : ((n : Int) == 40) = false := beq_eq_false_iff_ne.2 (by omega)
  have h41 : ¬ (n : Int) = 40 := by omega
  have T1 : Hid True := hid trivial
  go_enter Try.func12, Try.ntmps12
  go_wp2_with (first
    | (clear T1; (with_reducible refine wpList_allocF rfl rfl ?_); intro w1 g2 hz1 hb1 hg1; have HZ := hid hz1; have HB := hid hb1; have HG := hid (show w.heap.size ≤ g2 by omega); clear hz1 hb1 hg1)
    | ((with_reducible refine wpList_build_want 23 _ rfl ?_ zF.cs ?_ ?_); exact rfl; exact builtZF)
    | ((with_reducible refine wpList_storeF rfl rfl _ _ rfl g2 ?_ (f := zF) ?_ HZ.out ?_); exact rfl; exact rfl; intro w7 h7 o7; have H7 := hid h7; have O7 := hid o7; clear h7 o7))
  refine ret_rowF2 rfl g2 rfl rfl rfl H7.out ⟨rfl, ?_⟩
  exact below_tr HB.out (O7.out.below HB.out.size (fun i e => by have := HG.out; omega))
set_option linter.unusedVariables false in
set_option maxRecDepth 100000 in
set_option maxHeartbeats 4000000 in
theorem rread14_s (po : Option Addr) (c : Nat) (L : List Nat) (w : World) (h : BL w po L) (hc : L.length ≤ c) (h8 : ∀ z ∈ L, z < 256) (h40 : L.length = 40) (h3 : L.take 3 ≠ [83, 70, 49]) : Calls Try.prog 12 #[.slice po L.length c] w fun e w' => e = .returned (.tuple #[.agg zF.cs, .int .i64 4]) ∧ Below w.heap.size w w' := by
  obtain ⟨b, o, rfl⟩ : ∃ b o, po = some ⟨b, o, none⟩ := by
    rcases h with h | ⟨b, o, h, _⟩
    · rw [h] at h40; simp at h40
    · exact ⟨b, o, h⟩
  have hs0 : ∀ w, (Instr.slice 24 (.slice (some ⟨b, o, none⟩) 40 c) none (some (.int .i64 3)) none).run Try.prog w = .ok (.slice (some ⟨b, o, none⟩) 3 c) w := fun w => run_head8n (some ⟨b, o, none⟩) 40 c 3 (by omega) w
  have hs1 : ∀ w, (Instr.slice 24 (.slice (some ⟨b, o, none⟩) 40 c) none (some (.int .i64 8)) none).run Try.prog w = .ok (.slice (some ⟨b, o, none⟩) 8 c) w := fun w => run_head8n (some ⟨b, o, none⟩) 40 c 8 (by omega) w
  have hs2 : ∀ w, (Instr.slice 24 (.slice (some ⟨b, o, none⟩) 40 c) (some (.int .i64 8)) none none).run Try.prog w = .ok (.slice (some ⟨b, o + 8, none⟩) 32 (c - 8)) w := fun w => run_from8s b o 40 c 8 (by omega) (by omega) w
  have HBL := hid h
  have H3 : Hid ((L.take 3).length = 3) := hid (len_take (by omega))
  have hsg : ((ba (L.take 3)).toList == ([83, 70, 49] : List UInt8)) = false := by rw [sigF h8]; exact decide_eq_false h3
  rw [h40] at hc ⊢
  have T1 : Hid True := hid trivial
  clear h h8 h40 h3
  go_enter Try.func12, Try.ntmps12
  go_wp2_with (first
    | (clear T1; (with_reducible refine wpList_allocF rfl rfl ?_); intro w1 g2 hz1 hb1 hg1; have HZ := hid hz1; have HB := hid hb1; have HG := hid (show w.heap.size ≤ g2 by omega); have hcv : (convert 24 9 (.slice (some ⟨b, o, none⟩) 3 c)).run Try.prog w1 = .ok (.string (ba (L.take 3))) w1 := (by have h9 := ((HBL.out.below hb1).take 3).conv c; rw [H3.out] at h9; exact h9); clear hz1 hb1 hg1)
    | ((with_reducible refine wpList_build_want 23 _ rfl ?_ zF.cs ?_ ?_); exact rfl; exact builtZF)
    | ((with_reducible refine wpList_storeF rfl rfl _ _ rfl g2 ?_ (f := zF) ?_ HZ.out ?_); exact rfl; exact rfl; intro w7 h7 o7; have H7 := hid h7; have O7 := hid o7; clear h7 o7))
  refine ret_rowF2 rfl g2 rfl rfl rfl H7.out ⟨rfl, ?_⟩
  exact below_tr HB.out (O7.out.below HB.out.size (fun i e => by have := HG.out; omega))
set_option linter.unusedVariables false in
set_option maxRecDepth 100000 in
set_option maxHeartbeats 4000000 in
theorem rread14_d (po : Option Addr) (c : Nat) (L : List Nat) (w : World) (h : BL w po L) (hc : L.length ≤ c) (h8 : ∀ z ∈ L, z < 256) (h40 : L.length = 40) (h3 : L.take 3 = [83, 70, 49]) (hq : dig (L.take 8) ≠ L.drop 8) : Calls Try.prog 12 #[.slice po L.length c] w fun e w' => e = .returned (.tuple #[.agg zF.cs, .int .i64 14]) ∧ Below w.heap.size w w' := by
  obtain ⟨b, o, rfl⟩ : ∃ b o, po = some ⟨b, o, none⟩ := by
    rcases h with h | ⟨b, o, h, _⟩
    · rw [h] at h40; simp at h40
    · exact ⟨b, o, h⟩
  have hs0 : ∀ w, (Instr.slice 24 (.slice (some ⟨b, o, none⟩) 40 c) none (some (.int .i64 3)) none).run Try.prog w = .ok (.slice (some ⟨b, o, none⟩) 3 c) w := fun w => run_head8n (some ⟨b, o, none⟩) 40 c 3 (by omega) w
  have hs1 : ∀ w, (Instr.slice 24 (.slice (some ⟨b, o, none⟩) 40 c) none (some (.int .i64 8)) none).run Try.prog w = .ok (.slice (some ⟨b, o, none⟩) 8 c) w := fun w => run_head8n (some ⟨b, o, none⟩) 40 c 8 (by omega) w
  have hs2 : ∀ w, (Instr.slice 24 (.slice (some ⟨b, o, none⟩) 40 c) (some (.int .i64 8)) none none).run Try.prog w = .ok (.slice (some ⟨b, o + 8, none⟩) 32 (c - 8)) w := fun w => run_from8s b o 40 c 8 (by omega) (by omega) w
  have HBL := hid h
  have H3 : Hid ((L.take 3).length = 3) := hid (len_take (by omega))
  obtain ⟨D, hD⟩ : ∃ D, dig (L.take 8) = D := ⟨_, rfl⟩
  have hDl : D.length = 32 := by rw [← hD]; exact dig_len _
  have hD8 : ∀ z ∈ D, z < 256 := by rw [← hD]; exact dig_lt _
  have hE32 : (L.drop 8).length = 32 := by rw [List.length_drop]; omega
  rw [hD] at hq
  have hde : ((ba D).toList == (ba (L.drop 8)).toList) = false := by rw [lst_eq_ba hD8 (fun z hz => h8 z (List.mem_of_mem_drop hz))]; exact decide_eq_false hq
  have HSUM : Hid (∀ W, Below w.heap.size w W → Calls Try.prog 34 #[.slice (some ⟨b, o, none⟩) 8 c] W fun e w' => e = .returned (.agg (sumC D)) ∧ Below W.heap.size W w') := hid (fun W hW => by
      have := rdsum_any (some ⟨b, o, none⟩) c (L.take 8) W (by rw [len_take (by omega)]; omega) (fun e => by cases e) ((h.below hW).take 8) (fun z hz => h8 z (List.mem_of_mem_take hz))
      rw [len_take (by omega), hD] at this
      exact this)
  have H32 := hid hE32
  have hsg : ((ba (L.take 3)).toList == ([83, 70, 49] : List UInt8)) = true := by rw [sigF h8]; exact decide_eq_true h3
  rw [h40] at hc ⊢
  have hsd := run_dig
  have T1 : Hid True := hid trivial
  clear h h8 h40 h3 hq hD hD8 hE32
  go_enter Try.func12, Try.ntmps12
  go_upto_region 4 with (first
    | (clear T1; (with_reducible refine wpList_allocF rfl rfl ?_); intro w1 g2 hz1 hb1 hg1; have HZ := hid hz1; have HB := hid hb1; have HG := hid (show w.heap.size ≤ g2 by omega); have hcv : (convert 24 9 (.slice (some ⟨b, o, none⟩) 3 c)).run Try.prog w1 = .ok (.string (ba (L.take 3))) w1 := (by have h9 := ((HBL.out.below hb1).take 3).conv c; rw [H3.out] at h9; exact h9); clear hz1 hb1 hg1)
    | (go_at_call 34; refine (HSUM.out _ HB.out).mono ?_; rintro e w3 ⟨rfl, hb3⟩; replace HZ := hid (HZ.out.below hb3); replace HB := hid (below_on HB.out hb3); clear hb3 hcv)
    | ((with_reducible refine wpList_allocD rfl rfl ?_); intro w4 g5 hz4 hb4 hg4; have HG5 := hid (show w.heap.size ≤ g5 ∧ g2 < g5 from ⟨by have := HB.out.size; omega, by have := HZ.out.lt; omega⟩); replace HZ := hid (HZ.out.below hb4); replace HB := hid (below_on HB.out hb4); have HZ5 := hid hz4; clear hz4 hb4 hg4)
    | ((with_reducible refine wpList_storeD rfl rfl _ _ rfl g5 ?_ (m := zeroD) (n := D) ?_ ?_ hDl HZ5.out ?_); exact rfl; exact rfl; exact rfl; intro w5 h5 o5; replace HZ := hid (HZ.out.keep (o5.block g2 HZ.out.lt (by have := HG5.out; omega))); replace HB := hid (below_tr HB.out (o5.below HB.out.size (fun i e => by have := HG5.out; omega))); have HC5 := hid h5; clear h5 o5 HZ5))
  have HSF : Hid (∀ W, Below w5.heap.size w5 W → (fun W => (convert 24 9 (.slice (some ⟨g5, 0, none⟩) 32 32)).run Try.prog W = .ok (.string (ba D)) W ∧ (convert 24 9 (.slice (some ⟨b, o + 8, none⟩) 32 (c - 8))).run Try.prog W = .ok (.string (ba (L.drop 8))) W) W) := hid (fun W hW => ⟨by have h9 := ((HC5.out.below hW).bl).conv 32; rw [hDl] at h9; exact h9, by have h9 := ((HBL.out.below (below_on HB.out hW)).drop 8).conv (c - 8); rw [H32.out] at h9; exact h9⟩)
  refine wp_region_held_drew (S := (fun W => (convert 24 9 (.slice (some ⟨g5, 0, none⟩) 32 32)).run Try.prog W = .ok (.string (ba D)) W ∧ (convert 24 9 (.slice (some ⟨b, o + 8, none⟩) 32 (c - 8))).run Try.prog W = .ok (.string (ba (L.drop 8))) W)) (by kernel_rfl) (HSF.out _ (below_drew _)) (fun hHeld => ?_)
  refine wpAnyH_take (i := 0) (oi := ⟨some 19, .slice 61 (.tmp 4) none none none, _, _, _, none⟩) (v := .slice (some ⟨g5, 0, none⟩) 32 32) rfl (by kernel_rfl) (by kernel_rfl) (by kernel_rfl) (fun _ _ _ h => h) (Or.inl ⟨by kernel_rfl, by intro W hW; go_simp⟩) hHeld ?_
  refine wpAnyH_take (i := 1) (oi := ⟨some 20, .convert 24 9 (.tmp 19), _, _, _, none⟩) (v := .string (ba D)) rfl (by kernel_rfl) (by kernel_rfl) (by kernel_rfl) (fun _ _ _ h => h) (Or.inl ⟨by kernel_rfl, by intro W hW; have q0 := hW.1; go_simp⟩) hHeld ?_
  refine wpAnyH_take (i := 2) (oi := ⟨some 21, .move (.tmp 0), _, _, _, none⟩) (v := .slice (some ⟨b, o, none⟩) 40 c) rfl (by kernel_rfl) (by kernel_rfl) (by kernel_rfl) (fun _ _ _ h => h) (Or.inl ⟨by kernel_rfl, by intro W hW; go_simp⟩) hHeld ?_
  refine wpAnyH_take (i := 3) (oi := ⟨some 22, .slice 24 (.tmp 21) (some (.const (.int .i64 8))) none none, _, _, _, none⟩) (v := .slice (some ⟨b, o + 8, none⟩) 32 (c - 8)) rfl (by kernel_rfl) (by kernel_rfl) (by kernel_rfl) (fun _ _ _ h => h) (Or.inl ⟨by kernel_rfl, by intro W hW; go_simp⟩) hHeld ?_
  refine wpAnyH_take (i := 4) (oi := ⟨some 23, .convert 24 9 (.tmp 22), _, _, _, none⟩) (v := .string (ba (L.drop 8))) rfl (by kernel_rfl) (by kernel_rfl) (by kernel_rfl) (fun _ _ _ h => h) (Or.inl ⟨by kernel_rfl, by intro W hW; have q0 := hW.2; go_simp⟩) hHeld ?_
  refine wpAnyH_take (i := 5) (oi := ⟨some 24, .binOp .neq 9 (.tmp 20) (.tmp 23) 9, _, _, _, none⟩) (v := .bool true) rfl (by kernel_rfl) (by kernel_rfl) (by kernel_rfl) (fun _ _ _ h => h) (Or.inl ⟨by kernel_rfl, by intro W hW; go_simp⟩) hHeld ?_
  refine wpAnyH_done (by kernel_rfl) ?_ _
  simp only [Act.put, List.setIfInBounds_toArray, List.set_cons_zero, List.set_cons_succ]
  clear hHeld
  have HBd := hid (below_drew w5)
  replace HZ := hid (HZ.out.below HBd.out)
  replace HB := hid (below_on HB.out HBd.out)
  go_wp2_with (first
    | ((with_reducible refine wpList_build_want 23 _ rfl ?_ zF.cs ?_ ?_); exact rfl; exact builtZF)
    | ((with_reducible refine wpList_storeF rfl rfl _ _ rfl g2 ?_ (f := zF) ?_ HZ.out ?_); exact rfl; exact rfl; intro w7 h7 o7; have H7 := hid h7; have O7 := hid o7; clear h7 o7))
  refine ret_rowF2 rfl g2 rfl rfl rfl H7.out ⟨rfl, ?_⟩
  exact below_tr HB.out (O7.out.below HB.out.size (fun i e => by have := HG.out; omega))
set_option linter.unusedVariables false in
set_option maxRecDepth 100000 in
set_option maxHeartbeats 4000000 in
theorem rread14_b (po : Option Addr) (c : Nat) (L : List Nat) (w : World) (h : BL w po L) (hc : L.length ≤ c) (h8 : ∀ z ∈ L, z < 256) (h40 : L.length = 40) (h3 : L.take 3 = [83, 70, 49]) (hq : dig (L.take 8) = L.drop 8) (hok : okFm (fmG L) = false) : Calls Try.prog 12 #[.slice po L.length c] w fun e w' => e = .returned (.tuple #[.agg zF.cs, .int .i64 4]) ∧ Below w.heap.size w w' := by
  obtain ⟨b, o, rfl⟩ : ∃ b o, po = some ⟨b, o, none⟩ := by
    rcases h with h | ⟨b, o, h, _⟩
    · rw [h] at h40; simp at h40
    · exact ⟨b, o, h⟩
  have hs0 : ∀ w, (Instr.slice 24 (.slice (some ⟨b, o, none⟩) 40 c) none (some (.int .i64 3)) none).run Try.prog w = .ok (.slice (some ⟨b, o, none⟩) 3 c) w := fun w => run_head8n (some ⟨b, o, none⟩) 40 c 3 (by omega) w
  have hs1 : ∀ w, (Instr.slice 24 (.slice (some ⟨b, o, none⟩) 40 c) none (some (.int .i64 8)) none).run Try.prog w = .ok (.slice (some ⟨b, o, none⟩) 8 c) w := fun w => run_head8n (some ⟨b, o, none⟩) 40 c 8 (by omega) w
  have hs2 : ∀ w, (Instr.slice 24 (.slice (some ⟨b, o, none⟩) 40 c) (some (.int .i64 8)) none none).run Try.prog w = .ok (.slice (some ⟨b, o + 8, none⟩) 32 (c - 8)) w := fun w => run_from8s b o 40 c 8 (by omega) (by omega) w
  have HBL := hid h
  have H3 : Hid ((L.take 3).length = 3) := hid (len_take (by omega))
  obtain ⟨x3, hx3⟩ : ∃ x, L.getD 3 0 = x := ⟨_, rfl⟩
  obtain ⟨x4, hx4⟩ : ∃ x, L.getD 4 0 = x := ⟨_, rfl⟩
  obtain ⟨x5, hx5⟩ : ∃ x, L.getD 5 0 = x := ⟨_, rfl⟩
  obtain ⟨x6, hx6⟩ : ∃ x, L.getD 6 0 = x := ⟨_, rfl⟩
  obtain ⟨x7, hx7⟩ : ∃ x, L.getD 7 0 = x := ⟨_, rfl⟩
  have hb8 : ∀ i, i < 40 → L.getD i 0 < 256 := fun i hi => get256 h8 i (by omega)
  have y3 : (x3 : Int) < 256 := by have := hb8 3 (by omega); omega
  have y4 : (x4 : Int) < 256 := by have := hb8 4 (by omega); omega
  have y5 : (x5 : Int) < 256 := by have := hb8 5 (by omega); omega
  have y6 : (x6 : Int) < 256 := by have := hb8 6 (by omega); omega
  have y7 : (x7 : Int) < 256 := by have := hb8 7 (by omega); omega
  have hfm : fmG L = ⟨(x3 : Int), (x4 : Int), (x5 : Int), (x6 : Int), (x7 : Int)⟩ := by unfold fmG; rw [hx3, hx4, hx5, hx6, hx7]
  have HL40 := hid h40
  have HX3 := hid hx3
  have HX4 := hid hx4
  have HX5 := hid hx5
  have HX6 := hid hx6
  have HX7 := hid hx7
  rw [hfm] at hok
  clear hb8 hx3 hx4 hx5 hx6 hx7 hfm
  have HCK := hid (fun W => rcheck14_any ⟨(x3 : Int), (x4 : Int), (x5 : Int), (x6 : Int), (x7 : Int)⟩ W)
  unfold erFm at HCK
  rw [hok] at HCK
  clear hok
  obtain ⟨D, hD⟩ : ∃ D, dig (L.take 8) = D := ⟨_, rfl⟩
  have hDl : D.length = 32 := by rw [← hD]; exact dig_len _
  have hD8 : ∀ z ∈ D, z < 256 := by rw [← hD]; exact dig_lt _
  have hE32 : (L.drop 8).length = 32 := by rw [List.length_drop]; omega
  rw [hD] at hq
  have hde : ((ba D).toList == (ba (L.drop 8)).toList) = true := by rw [lst_eq_ba hD8 (fun z hz => h8 z (List.mem_of_mem_drop hz))]; exact decide_eq_true hq
  have HSUM : Hid (∀ W, Below w.heap.size w W → Calls Try.prog 34 #[.slice (some ⟨b, o, none⟩) 8 c] W fun e w' => e = .returned (.agg (sumC D)) ∧ Below W.heap.size W w') := hid (fun W hW => by
      have := rdsum_any (some ⟨b, o, none⟩) c (L.take 8) W (by rw [len_take (by omega)]; omega) (fun e => by cases e) ((h.below hW).take 8) (fun z hz => h8 z (List.mem_of_mem_take hz))
      rw [len_take (by omega), hD] at this
      exact this)
  have H32 := hid hE32
  have hsg : ((ba (L.take 3)).toList == ([83, 70, 49] : List UInt8)) = true := by rw [sigF h8]; exact decide_eq_true h3
  rw [h40] at hc ⊢
  have hsd := run_dig
  have T1 : Hid True := hid trivial
  clear h h8 h40 h3 hq hD hD8 hE32
  go_enter Try.func12, Try.ntmps12
  go_upto_region 4 with (first
    | (clear T1; (with_reducible refine wpList_allocF rfl rfl ?_); intro w1 g2 hz1 hb1 hg1; have HZ := hid hz1; have HB := hid hb1; have HG := hid (show w.heap.size ≤ g2 by omega); have hcv : (convert 24 9 (.slice (some ⟨b, o, none⟩) 3 c)).run Try.prog w1 = .ok (.string (ba (L.take 3))) w1 := (by have h9 := ((HBL.out.below hb1).take 3).conv c; rw [H3.out] at h9; exact h9); clear hz1 hb1 hg1)
    | (go_at_call 34; refine (HSUM.out _ HB.out).mono ?_; rintro e w3 ⟨rfl, hb3⟩; replace HZ := hid (HZ.out.below hb3); replace HB := hid (below_on HB.out hb3); clear hb3 hcv)
    | ((with_reducible refine wpList_allocD rfl rfl ?_); intro w4 g5 hz4 hb4 hg4; have HG5 := hid (show w.heap.size ≤ g5 ∧ g2 < g5 from ⟨by have := HB.out.size; omega, by have := HZ.out.lt; omega⟩); replace HZ := hid (HZ.out.below hb4); replace HB := hid (below_on HB.out hb4); have HZ5 := hid hz4; clear hz4 hb4 hg4)
    | ((with_reducible refine wpList_storeD rfl rfl _ _ rfl g5 ?_ (m := zeroD) (n := D) ?_ ?_ hDl HZ5.out ?_); exact rfl; exact rfl; exact rfl; intro w5 h5 o5; replace HZ := hid (HZ.out.keep (o5.block g2 HZ.out.lt (by have := HG5.out; omega))); replace HB := hid (below_tr HB.out (o5.below HB.out.size (fun i e => by have := HG5.out; omega))); have HC5 := hid h5; clear h5 o5 HZ5))
  have HSF : Hid (∀ W, Below w5.heap.size w5 W → (fun W => (convert 24 9 (.slice (some ⟨g5, 0, none⟩) 32 32)).run Try.prog W = .ok (.string (ba D)) W ∧ (convert 24 9 (.slice (some ⟨b, o + 8, none⟩) 32 (c - 8))).run Try.prog W = .ok (.string (ba (L.drop 8))) W) W) := hid (fun W hW => ⟨by have h9 := ((HC5.out.below hW).bl).conv 32; rw [hDl] at h9; exact h9, by have h9 := ((HBL.out.below (below_on HB.out hW)).drop 8).conv (c - 8); rw [H32.out] at h9; exact h9⟩)
  refine wp_region_held_drew (S := (fun W => (convert 24 9 (.slice (some ⟨g5, 0, none⟩) 32 32)).run Try.prog W = .ok (.string (ba D)) W ∧ (convert 24 9 (.slice (some ⟨b, o + 8, none⟩) 32 (c - 8))).run Try.prog W = .ok (.string (ba (L.drop 8))) W)) (by kernel_rfl) (HSF.out _ (below_drew _)) (fun hHeld => ?_)
  refine wpAnyH_take (i := 0) (oi := ⟨some 19, .slice 61 (.tmp 4) none none none, _, _, _, none⟩) (v := .slice (some ⟨g5, 0, none⟩) 32 32) rfl (by kernel_rfl) (by kernel_rfl) (by kernel_rfl) (fun _ _ _ h => h) (Or.inl ⟨by kernel_rfl, by intro W hW; go_simp⟩) hHeld ?_
  refine wpAnyH_take (i := 1) (oi := ⟨some 20, .convert 24 9 (.tmp 19), _, _, _, none⟩) (v := .string (ba D)) rfl (by kernel_rfl) (by kernel_rfl) (by kernel_rfl) (fun _ _ _ h => h) (Or.inl ⟨by kernel_rfl, by intro W hW; have q0 := hW.1; go_simp⟩) hHeld ?_
  refine wpAnyH_take (i := 2) (oi := ⟨some 21, .move (.tmp 0), _, _, _, none⟩) (v := .slice (some ⟨b, o, none⟩) 40 c) rfl (by kernel_rfl) (by kernel_rfl) (by kernel_rfl) (fun _ _ _ h => h) (Or.inl ⟨by kernel_rfl, by intro W hW; go_simp⟩) hHeld ?_
  refine wpAnyH_take (i := 3) (oi := ⟨some 22, .slice 24 (.tmp 21) (some (.const (.int .i64 8))) none none, _, _, _, none⟩) (v := .slice (some ⟨b, o + 8, none⟩) 32 (c - 8)) rfl (by kernel_rfl) (by kernel_rfl) (by kernel_rfl) (fun _ _ _ h => h) (Or.inl ⟨by kernel_rfl, by intro W hW; go_simp⟩) hHeld ?_
  refine wpAnyH_take (i := 4) (oi := ⟨some 23, .convert 24 9 (.tmp 22), _, _, _, none⟩) (v := .string (ba (L.drop 8))) rfl (by kernel_rfl) (by kernel_rfl) (by kernel_rfl) (fun _ _ _ h => h) (Or.inl ⟨by kernel_rfl, by intro W hW; have q0 := hW.2; go_simp⟩) hHeld ?_
  refine wpAnyH_take (i := 5) (oi := ⟨some 24, .binOp .neq 9 (.tmp 20) (.tmp 23) 9, _, _, _, none⟩) (v := .bool false) rfl (by kernel_rfl) (by kernel_rfl) (by kernel_rfl) (fun _ _ _ h => h) (Or.inl ⟨by kernel_rfl, by intro W hW; go_simp⟩) hHeld ?_
  refine wpAnyH_done (by kernel_rfl) ?_ _
  simp only [Act.put, List.setIfInBounds_toArray, List.set_cons_zero, List.set_cons_succ]
  clear hHeld
  have HG2 := hid (HZ.out.lt)
  have HBd := hid (below_drew w5)
  replace HZ := hid (HZ.out.below HBd.out)
  replace HB := hid (below_on HB.out HBd.out)
  go_upto_region 6 with fail
  generalize w5.drew = w6 at *
  have HS6 : Hid (∀ W, Below w.heap.size w W → (fun W : World => W.cell? ⟨b, o + 3, none⟩ = some (.int .u8 (x3 : Int)) ∧ W.cell? ⟨b, o + 4, none⟩ = some (.int .u8 (x4 : Int)) ∧ W.cell? ⟨b, o + 5, none⟩ = some (.int .u8 (x5 : Int)) ∧ W.cell? ⟨b, o + 6, none⟩ = some (.int .u8 (x6 : Int)) ∧ W.cell? ⟨b, o + 7, none⟩ = some (.int .u8 (x7 : Int))) W) := hid (fun W hW => by
    have hbl := HBL.out.below hW
    refine ⟨?_, ?_, ?_, ?_, ?_⟩
    · have h9 := hbl.c8 (i := 3) (by have := HL40.out; omega); rw [HX3.out] at h9; exact h9
    · have h9 := hbl.c8 (i := 4) (by have := HL40.out; omega); rw [HX4.out] at h9; exact h9
    · have h9 := hbl.c8 (i := 5) (by have := HL40.out; omega); rw [HX5.out] at h9; exact h9
    · have h9 := hbl.c8 (i := 6) (by have := HL40.out; omega); rw [HX6.out] at h9; exact h9
    · have h9 := hbl.c8 (i := 7) (by have := HL40.out; omega); rw [HX7.out] at h9; exact h9)
  have HCD := hid (below_drew w6)
  refine wp_region_held_drew (S := (fun W : World => W.cell? ⟨b, o + 3, none⟩ = some (.int .u8 (x3 : Int)) ∧ W.cell? ⟨b, o + 4, none⟩ = some (.int .u8 (x4 : Int)) ∧ W.cell? ⟨b, o + 5, none⟩ = some (.int .u8 (x5 : Int)) ∧ W.cell? ⟨b, o + 6, none⟩ = some (.int .u8 (x6 : Int)) ∧ W.cell? ⟨b, o + 7, none⟩ = some (.int .u8 (x7 : Int)))) (by kernel_rfl) (HS6.out _ (below_on HB.out HCD.out)) (fun hHeld => ?_)
  generalize w6.drew = w8 at *
  refine wpAnyH_take (i := 0) (oi := ⟨some 26, .move (.tmp 0), _, _, _, none⟩) (v := .slice (some ⟨b, o, none⟩) 40 c) rfl (by kernel_rfl) (by kernel_rfl) (by kernel_rfl) (fun _ _ _ h => h) (Or.inl ⟨by kernel_rfl, by intro W hW; go_simp⟩) hHeld ?_
  refine wpAnyH_take (i := 1) (oi := ⟨some 27, .indexAddr 24 (.tmp 26) (.const (.int .i64 3)), _, _, _, none⟩) (v := .pointer (some ⟨b, o + 3, none⟩)) rfl (by kernel_rfl) (by kernel_rfl) (by kernel_rfl) (fun _ _ _ h => h) (Or.inl ⟨by kernel_rfl, by intro W hW; go_simp⟩) hHeld ?_
  refine wpAnyH_take (i := 2) (oi := ⟨some 28, .load 5 (.tmp 27), _, _, _, none⟩) (v := .int .u8 (x3 : Int)) rfl (by kernel_rfl) (by kernel_rfl) (by kernel_rfl) (fun _ _ _ h => h) (Or.inl ⟨by kernel_rfl, by intro W hW; have q0 := hW.1; go_simp⟩) hHeld ?_
  refine wpAnyH_take (i := 3) (oi := ⟨some 29, .convert 5 3 (.tmp 28), _, _, _, none⟩) (v := .int .i64 (x3 : Int)) rfl (by kernel_rfl) (by kernel_rfl) (by kernel_rfl) (fun _ _ _ h => h) (Or.inl ⟨by kernel_rfl, by intro W hW; go_simp; exact IntWalk.i64_in _ ⟨by omega, by omega⟩⟩) hHeld ?_
  refine wpAnyH_take (i := 4) (oi := ⟨some 30, .move (.tmp 0), _, _, _, none⟩) (v := .slice (some ⟨b, o, none⟩) 40 c) rfl (by kernel_rfl) (by kernel_rfl) (by kernel_rfl) (fun _ _ _ h => h) (Or.inl ⟨by kernel_rfl, by intro W hW; go_simp⟩) hHeld ?_
  refine wpAnyH_take (i := 5) (oi := ⟨some 31, .indexAddr 24 (.tmp 30) (.const (.int .i64 4)), _, _, _, none⟩) (v := .pointer (some ⟨b, o + 4, none⟩)) rfl (by kernel_rfl) (by kernel_rfl) (by kernel_rfl) (fun _ _ _ h => h) (Or.inl ⟨by kernel_rfl, by intro W hW; go_simp⟩) hHeld ?_
  refine wpAnyH_take (i := 6) (oi := ⟨some 32, .load 5 (.tmp 31), _, _, _, none⟩) (v := .int .u8 (x4 : Int)) rfl (by kernel_rfl) (by kernel_rfl) (by kernel_rfl) (fun _ _ _ h => h) (Or.inl ⟨by kernel_rfl, by intro W hW; have q0 := hW.2.1; go_simp⟩) hHeld ?_
  refine wpAnyH_take (i := 7) (oi := ⟨some 33, .convert 5 3 (.tmp 32), _, _, _, none⟩) (v := .int .i64 (x4 : Int)) rfl (by kernel_rfl) (by kernel_rfl) (by kernel_rfl) (fun _ _ _ h => h) (Or.inl ⟨by kernel_rfl, by intro W hW; go_simp; exact IntWalk.i64_in _ ⟨by omega, by omega⟩⟩) hHeld ?_
  refine wpAnyH_take (i := 8) (oi := ⟨some 34, .move (.tmp 0), _, _, _, none⟩) (v := .slice (some ⟨b, o, none⟩) 40 c) rfl (by kernel_rfl) (by kernel_rfl) (by kernel_rfl) (fun _ _ _ h => h) (Or.inl ⟨by kernel_rfl, by intro W hW; go_simp⟩) hHeld ?_
  refine wpAnyH_take (i := 9) (oi := ⟨some 35, .indexAddr 24 (.tmp 34) (.const (.int .i64 5)), _, _, _, none⟩) (v := .pointer (some ⟨b, o + 5, none⟩)) rfl (by kernel_rfl) (by kernel_rfl) (by kernel_rfl) (fun _ _ _ h => h) (Or.inl ⟨by kernel_rfl, by intro W hW; go_simp⟩) hHeld ?_
  refine wpAnyH_take (i := 10) (oi := ⟨some 36, .load 5 (.tmp 35), _, _, _, none⟩) (v := .int .u8 (x5 : Int)) rfl (by kernel_rfl) (by kernel_rfl) (by kernel_rfl) (fun _ _ _ h => h) (Or.inl ⟨by kernel_rfl, by intro W hW; have q0 := hW.2.2.1; go_simp⟩) hHeld ?_
  refine wpAnyH_take (i := 11) (oi := ⟨some 37, .convert 5 3 (.tmp 36), _, _, _, none⟩) (v := .int .i64 (x5 : Int)) rfl (by kernel_rfl) (by kernel_rfl) (by kernel_rfl) (fun _ _ _ h => h) (Or.inl ⟨by kernel_rfl, by intro W hW; go_simp; exact IntWalk.i64_in _ ⟨by omega, by omega⟩⟩) hHeld ?_
  refine wpAnyH_take (i := 12) (oi := ⟨some 38, .move (.tmp 0), _, _, _, none⟩) (v := .slice (some ⟨b, o, none⟩) 40 c) rfl (by kernel_rfl) (by kernel_rfl) (by kernel_rfl) (fun _ _ _ h => h) (Or.inl ⟨by kernel_rfl, by intro W hW; go_simp⟩) hHeld ?_
  refine wpAnyH_take (i := 13) (oi := ⟨some 39, .indexAddr 24 (.tmp 38) (.const (.int .i64 6)), _, _, _, none⟩) (v := .pointer (some ⟨b, o + 6, none⟩)) rfl (by kernel_rfl) (by kernel_rfl) (by kernel_rfl) (fun _ _ _ h => h) (Or.inl ⟨by kernel_rfl, by intro W hW; go_simp⟩) hHeld ?_
  refine wpAnyH_take (i := 14) (oi := ⟨some 40, .load 5 (.tmp 39), _, _, _, none⟩) (v := .int .u8 (x6 : Int)) rfl (by kernel_rfl) (by kernel_rfl) (by kernel_rfl) (fun _ _ _ h => h) (Or.inl ⟨by kernel_rfl, by intro W hW; have q0 := hW.2.2.2.1; go_simp⟩) hHeld ?_
  refine wpAnyH_take (i := 15) (oi := ⟨some 41, .convert 5 3 (.tmp 40), _, _, _, none⟩) (v := .int .i64 (x6 : Int)) rfl (by kernel_rfl) (by kernel_rfl) (by kernel_rfl) (fun _ _ _ h => h) (Or.inl ⟨by kernel_rfl, by intro W hW; go_simp; exact IntWalk.i64_in _ ⟨by omega, by omega⟩⟩) hHeld ?_
  refine wpAnyH_take (i := 16) (oi := ⟨some 42, .move (.tmp 0), _, _, _, none⟩) (v := .slice (some ⟨b, o, none⟩) 40 c) rfl (by kernel_rfl) (by kernel_rfl) (by kernel_rfl) (fun _ _ _ h => h) (Or.inl ⟨by kernel_rfl, by intro W hW; go_simp⟩) hHeld ?_
  refine wpAnyH_take (i := 17) (oi := ⟨some 43, .indexAddr 24 (.tmp 42) (.const (.int .i64 7)), _, _, _, none⟩) (v := .pointer (some ⟨b, o + 7, none⟩)) rfl (by kernel_rfl) (by kernel_rfl) (by kernel_rfl) (fun _ _ _ h => h) (Or.inl ⟨by kernel_rfl, by intro W hW; go_simp⟩) hHeld ?_
  refine wpAnyH_take (i := 18) (oi := ⟨some 44, .load 5 (.tmp 43), _, _, _, none⟩) (v := .int .u8 (x7 : Int)) rfl (by kernel_rfl) (by kernel_rfl) (by kernel_rfl) (fun _ _ _ h => h) (Or.inl ⟨by kernel_rfl, by intro W hW; have q0 := hW.2.2.2.2; go_simp⟩) hHeld ?_
  refine wpAnyH_take (i := 19) (oi := ⟨some 45, .convert 5 3 (.tmp 44), _, _, _, none⟩) (v := .int .i64 (x7 : Int)) rfl (by kernel_rfl) (by kernel_rfl) (by kernel_rfl) (fun _ _ _ h => h) (Or.inl ⟨by kernel_rfl, by intro W hW; go_simp; exact IntWalk.i64_in _ ⟨by omega, by omega⟩⟩) hHeld ?_
  refine wpAnyH_take (i := 20) (oi := ⟨some 46, .build 23 #[(0, .tmp 29), (1, .tmp 33), (2, .tmp 37), (3, .tmp 41), (4, .tmp 45)], _, _, _, none⟩) (v := .agg (FmV.cs ⟨(x3 : Int), (x4 : Int), (x5 : Int), (x6 : Int), (x7 : Int)⟩)) rfl (by kernel_rfl) (by kernel_rfl) (by kernel_rfl) (fun _ _ _ h => h) (Or.inl ⟨by kernel_rfl, by intro W hW; go_simp; first | done | rfl⟩) hHeld ?_
  refine wpAnyH_ready (rs := [21]) (by kernel_rfl) (by simp) ?_
  refine AllReadyH.cons (o := ⟨some 5, .alloc 23, _, _, _, none⟩) rfl ?_ AllReadyH.nil
  intro K hK
  with_reducible refine step_run_valF ?_ (ptr w8.heap.size) (w8.alloc (.cells zF.cs 23)) ?_ ?_
  · exact rfl
  · exact exec_allocF rfl
  have HB8 := hid (below_on HB.out HCD.out)
  have HA9 := hid (below_on HB8.out (below_al w8 (.cells zF.cs 23)))
  have HZ9 := hid (CAt.made w8 zF.cs 23)
  replace HZ := hid ((HZ.out.below HCD.out).below (below_al w8 (.cells zF.cs 23)))
  have HG8 := hid (show w.heap.size ≤ w8.heap.size ∧ g2 < w8.heap.size from ⟨HB8.out.size, by have := HCD.out.size; have := HG2.out; have := HBd.out.size; omega⟩)
  generalize w8.alloc (.cells zF.cs 23) = w9 at *
  generalize w8.heap.size = g7 at *
  refine hK.out _ _ (HS6.out _ HA9.out) (fun hHeld => ?_)
  clear hK K
  refine wpAnyH_ready (rs := [22]) (by kernel_rfl) (by simp) ?_
  refine AllReadyH.cons (o := ⟨none, .store 23 (.tmp 5) (.tmp 46), _, _, _, none⟩) rfl ?_ AllReadyH.nil
  intro K hK
  with_reducible refine step_storeFm ?_ ?_ (.tmp 5) (.tmp 46) ?_ g7 ?_ (f0 := zF) (f := ⟨(x3 : Int), (x4 : Int), (x5 : Int), (x6 : Int), (x7 : Int)⟩) ?_ HZ9.out ?_
  · exact rfl
  · exact rfl
  · exact rfl
  · kernel_rfl
  · kernel_rfl
  intro w10 h10 o10
  replace HZ := hid (HZ.out.keep (o10.block g2 HZ.out.lt (by have := HG8.out; omega)))
  have HB10 := hid (below_tr HA9.out (o10.below HA9.out.size (fun i e => by have := HG8.out; omega)))
  have HF10 := hid h10
  clear h10 o10
  refine hK.out _ _ (HS6.out _ HB10.out) (fun _ => ?_)
  clear hK K
  refine wpAnyH_done (by kernel_rfl) ?_ _
  simp only [Act.put, List.setIfInBounds_toArray, List.set_cons_zero, List.set_cons_succ]
  go_wp2_with (first
    | ((with_reducible refine wpList_loadF rfl _ rfl g7 ?_ HF10.out ?_); exact rfl)
    | (go_at_call 13; refine (HCK.out _).mono ?_; rintro e w11 ⟨rfl, hb11⟩; replace HZ := hid (HZ.out.below hb11); replace HF10 := hid (HF10.out.below hb11); replace HB := hid (below_on HB10.out hb11); clear hb11)
    | ((with_reducible refine wpList_build_want 23 _ rfl ?_ zF.cs ?_ ?_); exact rfl; exact builtZF)
    | ((with_reducible refine wpList_storeF rfl rfl _ _ rfl g2 ?_ (f := zF) ?_ HZ.out ?_); exact rfl; exact rfl; intro w7 h7 o7; have H7 := hid h7; have O7 := hid o7; clear h7 o7))
  refine ret_rowF2 rfl g2 rfl rfl rfl H7.out ⟨rfl, ?_⟩
  exact below_tr HB.out (O7.out.below HB.out.size (fun i e => by have := HG.out; omega))
set_option linter.unusedVariables false in
set_option maxRecDepth 100000 in
set_option maxHeartbeats 4000000 in
theorem rread14_k (po : Option Addr) (c : Nat) (L : List Nat) (w : World) (h : BL w po L) (hc : L.length ≤ c) (h8 : ∀ z ∈ L, z < 256) (h40 : L.length = 40) (h3 : L.take 3 = [83, 70, 49]) (hq : dig (L.take 8) = L.drop 8) (hok : okFm (fmG L) = true) : Calls Try.prog 12 #[.slice po L.length c] w fun e w' => e = .returned (.tuple #[.agg (fmG L).cs, .int .i64 0]) ∧ Below w.heap.size w w' := by
  obtain ⟨b, o, rfl⟩ : ∃ b o, po = some ⟨b, o, none⟩ := by
    rcases h with h | ⟨b, o, h, _⟩
    · rw [h] at h40; simp at h40
    · exact ⟨b, o, h⟩
  have hs0 : ∀ w, (Instr.slice 24 (.slice (some ⟨b, o, none⟩) 40 c) none (some (.int .i64 3)) none).run Try.prog w = .ok (.slice (some ⟨b, o, none⟩) 3 c) w := fun w => run_head8n (some ⟨b, o, none⟩) 40 c 3 (by omega) w
  have hs1 : ∀ w, (Instr.slice 24 (.slice (some ⟨b, o, none⟩) 40 c) none (some (.int .i64 8)) none).run Try.prog w = .ok (.slice (some ⟨b, o, none⟩) 8 c) w := fun w => run_head8n (some ⟨b, o, none⟩) 40 c 8 (by omega) w
  have hs2 : ∀ w, (Instr.slice 24 (.slice (some ⟨b, o, none⟩) 40 c) (some (.int .i64 8)) none none).run Try.prog w = .ok (.slice (some ⟨b, o + 8, none⟩) 32 (c - 8)) w := fun w => run_from8s b o 40 c 8 (by omega) (by omega) w
  have HBL := hid h
  have H3 : Hid ((L.take 3).length = 3) := hid (len_take (by omega))
  obtain ⟨x3, hx3⟩ : ∃ x, L.getD 3 0 = x := ⟨_, rfl⟩
  obtain ⟨x4, hx4⟩ : ∃ x, L.getD 4 0 = x := ⟨_, rfl⟩
  obtain ⟨x5, hx5⟩ : ∃ x, L.getD 5 0 = x := ⟨_, rfl⟩
  obtain ⟨x6, hx6⟩ : ∃ x, L.getD 6 0 = x := ⟨_, rfl⟩
  obtain ⟨x7, hx7⟩ : ∃ x, L.getD 7 0 = x := ⟨_, rfl⟩
  have hb8 : ∀ i, i < 40 → L.getD i 0 < 256 := fun i hi => get256 h8 i (by omega)
  have y3 : (x3 : Int) < 256 := by have := hb8 3 (by omega); omega
  have y4 : (x4 : Int) < 256 := by have := hb8 4 (by omega); omega
  have y5 : (x5 : Int) < 256 := by have := hb8 5 (by omega); omega
  have y6 : (x6 : Int) < 256 := by have := hb8 6 (by omega); omega
  have y7 : (x7 : Int) < 256 := by have := hb8 7 (by omega); omega
  have hfm : fmG L = ⟨(x3 : Int), (x4 : Int), (x5 : Int), (x6 : Int), (x7 : Int)⟩ := by unfold fmG; rw [hx3, hx4, hx5, hx6, hx7]
  have HL40 := hid h40
  have HX3 := hid hx3
  have HX4 := hid hx4
  have HX5 := hid hx5
  have HX6 := hid hx6
  have HX7 := hid hx7
  rw [hfm] at hok ⊢
  clear hb8 hx3 hx4 hx5 hx6 hx7 hfm
  have HCK := hid (fun W => rcheck14_any ⟨(x3 : Int), (x4 : Int), (x5 : Int), (x6 : Int), (x7 : Int)⟩ W)
  unfold erFm at HCK
  rw [hok] at HCK
  clear hok
  obtain ⟨D, hD⟩ : ∃ D, dig (L.take 8) = D := ⟨_, rfl⟩
  have hDl : D.length = 32 := by rw [← hD]; exact dig_len _
  have hD8 : ∀ z ∈ D, z < 256 := by rw [← hD]; exact dig_lt _
  have hE32 : (L.drop 8).length = 32 := by rw [List.length_drop]; omega
  rw [hD] at hq
  have hde : ((ba D).toList == (ba (L.drop 8)).toList) = true := by rw [lst_eq_ba hD8 (fun z hz => h8 z (List.mem_of_mem_drop hz))]; exact decide_eq_true hq
  have HSUM : Hid (∀ W, Below w.heap.size w W → Calls Try.prog 34 #[.slice (some ⟨b, o, none⟩) 8 c] W fun e w' => e = .returned (.agg (sumC D)) ∧ Below W.heap.size W w') := hid (fun W hW => by
      have := rdsum_any (some ⟨b, o, none⟩) c (L.take 8) W (by rw [len_take (by omega)]; omega) (fun e => by cases e) ((h.below hW).take 8) (fun z hz => h8 z (List.mem_of_mem_take hz))
      rw [len_take (by omega), hD] at this
      exact this)
  have H32 := hid hE32
  have hsg : ((ba (L.take 3)).toList == ([83, 70, 49] : List UInt8)) = true := by rw [sigF h8]; exact decide_eq_true h3
  rw [h40] at hc ⊢
  have hsd := run_dig
  have T1 : Hid True := hid trivial
  clear h h8 h40 h3 hq hD hD8 hE32
  go_enter Try.func12, Try.ntmps12
  go_upto_region 4 with (first
    | (clear T1; (with_reducible refine wpList_allocF rfl rfl ?_); intro w1 g2 hz1 hb1 hg1; have HZ := hid hz1; have HB := hid hb1; have HG := hid (show w.heap.size ≤ g2 by omega); have hcv : (convert 24 9 (.slice (some ⟨b, o, none⟩) 3 c)).run Try.prog w1 = .ok (.string (ba (L.take 3))) w1 := (by have h9 := ((HBL.out.below hb1).take 3).conv c; rw [H3.out] at h9; exact h9); clear hz1 hb1 hg1)
    | (go_at_call 34; refine (HSUM.out _ HB.out).mono ?_; rintro e w3 ⟨rfl, hb3⟩; replace HZ := hid (HZ.out.below hb3); replace HB := hid (below_on HB.out hb3); clear hb3 hcv)
    | ((with_reducible refine wpList_allocD rfl rfl ?_); intro w4 g5 hz4 hb4 hg4; have HG5 := hid (show w.heap.size ≤ g5 ∧ g2 < g5 from ⟨by have := HB.out.size; omega, by have := HZ.out.lt; omega⟩); replace HZ := hid (HZ.out.below hb4); replace HB := hid (below_on HB.out hb4); have HZ5 := hid hz4; clear hz4 hb4 hg4)
    | ((with_reducible refine wpList_storeD rfl rfl _ _ rfl g5 ?_ (m := zeroD) (n := D) ?_ ?_ hDl HZ5.out ?_); exact rfl; exact rfl; exact rfl; intro w5 h5 o5; replace HZ := hid (HZ.out.keep (o5.block g2 HZ.out.lt (by have := HG5.out; omega))); replace HB := hid (below_tr HB.out (o5.below HB.out.size (fun i e => by have := HG5.out; omega))); have HC5 := hid h5; clear h5 o5 HZ5))
  have HSF : Hid (∀ W, Below w5.heap.size w5 W → (fun W => (convert 24 9 (.slice (some ⟨g5, 0, none⟩) 32 32)).run Try.prog W = .ok (.string (ba D)) W ∧ (convert 24 9 (.slice (some ⟨b, o + 8, none⟩) 32 (c - 8))).run Try.prog W = .ok (.string (ba (L.drop 8))) W) W) := hid (fun W hW => ⟨by have h9 := ((HC5.out.below hW).bl).conv 32; rw [hDl] at h9; exact h9, by have h9 := ((HBL.out.below (below_on HB.out hW)).drop 8).conv (c - 8); rw [H32.out] at h9; exact h9⟩)
  refine wp_region_held_drew (S := (fun W => (convert 24 9 (.slice (some ⟨g5, 0, none⟩) 32 32)).run Try.prog W = .ok (.string (ba D)) W ∧ (convert 24 9 (.slice (some ⟨b, o + 8, none⟩) 32 (c - 8))).run Try.prog W = .ok (.string (ba (L.drop 8))) W)) (by kernel_rfl) (HSF.out _ (below_drew _)) (fun hHeld => ?_)
  refine wpAnyH_take (i := 0) (oi := ⟨some 19, .slice 61 (.tmp 4) none none none, _, _, _, none⟩) (v := .slice (some ⟨g5, 0, none⟩) 32 32) rfl (by kernel_rfl) (by kernel_rfl) (by kernel_rfl) (fun _ _ _ h => h) (Or.inl ⟨by kernel_rfl, by intro W hW; go_simp⟩) hHeld ?_
  refine wpAnyH_take (i := 1) (oi := ⟨some 20, .convert 24 9 (.tmp 19), _, _, _, none⟩) (v := .string (ba D)) rfl (by kernel_rfl) (by kernel_rfl) (by kernel_rfl) (fun _ _ _ h => h) (Or.inl ⟨by kernel_rfl, by intro W hW; have q0 := hW.1; go_simp⟩) hHeld ?_
  refine wpAnyH_take (i := 2) (oi := ⟨some 21, .move (.tmp 0), _, _, _, none⟩) (v := .slice (some ⟨b, o, none⟩) 40 c) rfl (by kernel_rfl) (by kernel_rfl) (by kernel_rfl) (fun _ _ _ h => h) (Or.inl ⟨by kernel_rfl, by intro W hW; go_simp⟩) hHeld ?_
  refine wpAnyH_take (i := 3) (oi := ⟨some 22, .slice 24 (.tmp 21) (some (.const (.int .i64 8))) none none, _, _, _, none⟩) (v := .slice (some ⟨b, o + 8, none⟩) 32 (c - 8)) rfl (by kernel_rfl) (by kernel_rfl) (by kernel_rfl) (fun _ _ _ h => h) (Or.inl ⟨by kernel_rfl, by intro W hW; go_simp⟩) hHeld ?_
  refine wpAnyH_take (i := 4) (oi := ⟨some 23, .convert 24 9 (.tmp 22), _, _, _, none⟩) (v := .string (ba (L.drop 8))) rfl (by kernel_rfl) (by kernel_rfl) (by kernel_rfl) (fun _ _ _ h => h) (Or.inl ⟨by kernel_rfl, by intro W hW; have q0 := hW.2; go_simp⟩) hHeld ?_
  refine wpAnyH_take (i := 5) (oi := ⟨some 24, .binOp .neq 9 (.tmp 20) (.tmp 23) 9, _, _, _, none⟩) (v := .bool false) rfl (by kernel_rfl) (by kernel_rfl) (by kernel_rfl) (fun _ _ _ h => h) (Or.inl ⟨by kernel_rfl, by intro W hW; go_simp⟩) hHeld ?_
  refine wpAnyH_done (by kernel_rfl) ?_ _
  simp only [Act.put, List.setIfInBounds_toArray, List.set_cons_zero, List.set_cons_succ]
  clear hHeld
  have HG2 := hid (HZ.out.lt)
  have HBd := hid (below_drew w5)
  replace HZ := hid (HZ.out.below HBd.out)
  replace HB := hid (below_on HB.out HBd.out)
  go_upto_region 6 with fail
  generalize w5.drew = w6 at *
  have HS6 : Hid (∀ W, Below w.heap.size w W → (fun W : World => W.cell? ⟨b, o + 3, none⟩ = some (.int .u8 (x3 : Int)) ∧ W.cell? ⟨b, o + 4, none⟩ = some (.int .u8 (x4 : Int)) ∧ W.cell? ⟨b, o + 5, none⟩ = some (.int .u8 (x5 : Int)) ∧ W.cell? ⟨b, o + 6, none⟩ = some (.int .u8 (x6 : Int)) ∧ W.cell? ⟨b, o + 7, none⟩ = some (.int .u8 (x7 : Int))) W) := hid (fun W hW => by
    have hbl := HBL.out.below hW
    refine ⟨?_, ?_, ?_, ?_, ?_⟩
    · have h9 := hbl.c8 (i := 3) (by have := HL40.out; omega); rw [HX3.out] at h9; exact h9
    · have h9 := hbl.c8 (i := 4) (by have := HL40.out; omega); rw [HX4.out] at h9; exact h9
    · have h9 := hbl.c8 (i := 5) (by have := HL40.out; omega); rw [HX5.out] at h9; exact h9
    · have h9 := hbl.c8 (i := 6) (by have := HL40.out; omega); rw [HX6.out] at h9; exact h9
    · have h9 := hbl.c8 (i := 7) (by have := HL40.out; omega); rw [HX7.out] at h9; exact h9)
  have HCD := hid (below_drew w6)
  refine wp_region_held_drew (S := (fun W : World => W.cell? ⟨b, o + 3, none⟩ = some (.int .u8 (x3 : Int)) ∧ W.cell? ⟨b, o + 4, none⟩ = some (.int .u8 (x4 : Int)) ∧ W.cell? ⟨b, o + 5, none⟩ = some (.int .u8 (x5 : Int)) ∧ W.cell? ⟨b, o + 6, none⟩ = some (.int .u8 (x6 : Int)) ∧ W.cell? ⟨b, o + 7, none⟩ = some (.int .u8 (x7 : Int)))) (by kernel_rfl) (HS6.out _ (below_on HB.out HCD.out)) (fun hHeld => ?_)
  generalize w6.drew = w8 at *
  refine wpAnyH_take (i := 0) (oi := ⟨some 26, .move (.tmp 0), _, _, _, none⟩) (v := .slice (some ⟨b, o, none⟩) 40 c) rfl (by kernel_rfl) (by kernel_rfl) (by kernel_rfl) (fun _ _ _ h => h) (Or.inl ⟨by kernel_rfl, by intro W hW; go_simp⟩) hHeld ?_
  refine wpAnyH_take (i := 1) (oi := ⟨some 27, .indexAddr 24 (.tmp 26) (.const (.int .i64 3)), _, _, _, none⟩) (v := .pointer (some ⟨b, o + 3, none⟩)) rfl (by kernel_rfl) (by kernel_rfl) (by kernel_rfl) (fun _ _ _ h => h) (Or.inl ⟨by kernel_rfl, by intro W hW; go_simp⟩) hHeld ?_
  refine wpAnyH_take (i := 2) (oi := ⟨some 28, .load 5 (.tmp 27), _, _, _, none⟩) (v := .int .u8 (x3 : Int)) rfl (by kernel_rfl) (by kernel_rfl) (by kernel_rfl) (fun _ _ _ h => h) (Or.inl ⟨by kernel_rfl, by intro W hW; have q0 := hW.1; go_simp⟩) hHeld ?_
  refine wpAnyH_take (i := 3) (oi := ⟨some 29, .convert 5 3 (.tmp 28), _, _, _, none⟩) (v := .int .i64 (x3 : Int)) rfl (by kernel_rfl) (by kernel_rfl) (by kernel_rfl) (fun _ _ _ h => h) (Or.inl ⟨by kernel_rfl, by intro W hW; go_simp; exact IntWalk.i64_in _ ⟨by omega, by omega⟩⟩) hHeld ?_
  refine wpAnyH_take (i := 4) (oi := ⟨some 30, .move (.tmp 0), _, _, _, none⟩) (v := .slice (some ⟨b, o, none⟩) 40 c) rfl (by kernel_rfl) (by kernel_rfl) (by kernel_rfl) (fun _ _ _ h => h) (Or.inl ⟨by kernel_rfl, by intro W hW; go_simp⟩) hHeld ?_
  refine wpAnyH_take (i := 5) (oi := ⟨some 31, .indexAddr 24 (.tmp 30) (.const (.int .i64 4)), _, _, _, none⟩) (v := .pointer (some ⟨b, o + 4, none⟩)) rfl (by kernel_rfl) (by kernel_rfl) (by kernel_rfl) (fun _ _ _ h => h) (Or.inl ⟨by kernel_rfl, by intro W hW; go_simp⟩) hHeld ?_
  refine wpAnyH_take (i := 6) (oi := ⟨some 32, .load 5 (.tmp 31), _, _, _, none⟩) (v := .int .u8 (x4 : Int)) rfl (by kernel_rfl) (by kernel_rfl) (by kernel_rfl) (fun _ _ _ h => h) (Or.inl ⟨by kernel_rfl, by intro W hW; have q0 := hW.2.1; go_simp⟩) hHeld ?_
  refine wpAnyH_take (i := 7) (oi := ⟨some 33, .convert 5 3 (.tmp 32), _, _, _, none⟩) (v := .int .i64 (x4 : Int)) rfl (by kernel_rfl) (by kernel_rfl) (by kernel_rfl) (fun _ _ _ h => h) (Or.inl ⟨by kernel_rfl, by intro W hW; go_simp; exact IntWalk.i64_in _ ⟨by omega, by omega⟩⟩) hHeld ?_
  refine wpAnyH_take (i := 8) (oi := ⟨some 34, .move (.tmp 0), _, _, _, none⟩) (v := .slice (some ⟨b, o, none⟩) 40 c) rfl (by kernel_rfl) (by kernel_rfl) (by kernel_rfl) (fun _ _ _ h => h) (Or.inl ⟨by kernel_rfl, by intro W hW; go_simp⟩) hHeld ?_
  refine wpAnyH_take (i := 9) (oi := ⟨some 35, .indexAddr 24 (.tmp 34) (.const (.int .i64 5)), _, _, _, none⟩) (v := .pointer (some ⟨b, o + 5, none⟩)) rfl (by kernel_rfl) (by kernel_rfl) (by kernel_rfl) (fun _ _ _ h => h) (Or.inl ⟨by kernel_rfl, by intro W hW; go_simp⟩) hHeld ?_
  refine wpAnyH_take (i := 10) (oi := ⟨some 36, .load 5 (.tmp 35), _, _, _, none⟩) (v := .int .u8 (x5 : Int)) rfl (by kernel_rfl) (by kernel_rfl) (by kernel_rfl) (fun _ _ _ h => h) (Or.inl ⟨by kernel_rfl, by intro W hW; have q0 := hW.2.2.1; go_simp⟩) hHeld ?_
  refine wpAnyH_take (i := 11) (oi := ⟨some 37, .convert 5 3 (.tmp 36), _, _, _, none⟩) (v := .int .i64 (x5 : Int)) rfl (by kernel_rfl) (by kernel_rfl) (by kernel_rfl) (fun _ _ _ h => h) (Or.inl ⟨by kernel_rfl, by intro W hW; go_simp; exact IntWalk.i64_in _ ⟨by omega, by omega⟩⟩) hHeld ?_
  refine wpAnyH_take (i := 12) (oi := ⟨some 38, .move (.tmp 0), _, _, _, none⟩) (v := .slice (some ⟨b, o, none⟩) 40 c) rfl (by kernel_rfl) (by kernel_rfl) (by kernel_rfl) (fun _ _ _ h => h) (Or.inl ⟨by kernel_rfl, by intro W hW; go_simp⟩) hHeld ?_
  refine wpAnyH_take (i := 13) (oi := ⟨some 39, .indexAddr 24 (.tmp 38) (.const (.int .i64 6)), _, _, _, none⟩) (v := .pointer (some ⟨b, o + 6, none⟩)) rfl (by kernel_rfl) (by kernel_rfl) (by kernel_rfl) (fun _ _ _ h => h) (Or.inl ⟨by kernel_rfl, by intro W hW; go_simp⟩) hHeld ?_
  refine wpAnyH_take (i := 14) (oi := ⟨some 40, .load 5 (.tmp 39), _, _, _, none⟩) (v := .int .u8 (x6 : Int)) rfl (by kernel_rfl) (by kernel_rfl) (by kernel_rfl) (fun _ _ _ h => h) (Or.inl ⟨by kernel_rfl, by intro W hW; have q0 := hW.2.2.2.1; go_simp⟩) hHeld ?_
  refine wpAnyH_take (i := 15) (oi := ⟨some 41, .convert 5 3 (.tmp 40), _, _, _, none⟩) (v := .int .i64 (x6 : Int)) rfl (by kernel_rfl) (by kernel_rfl) (by kernel_rfl) (fun _ _ _ h => h) (Or.inl ⟨by kernel_rfl, by intro W hW; go_simp; exact IntWalk.i64_in _ ⟨by omega, by omega⟩⟩) hHeld ?_
  refine wpAnyH_take (i := 16) (oi := ⟨some 42, .move (.tmp 0), _, _, _, none⟩) (v := .slice (some ⟨b, o, none⟩) 40 c) rfl (by kernel_rfl) (by kernel_rfl) (by kernel_rfl) (fun _ _ _ h => h) (Or.inl ⟨by kernel_rfl, by intro W hW; go_simp⟩) hHeld ?_
  refine wpAnyH_take (i := 17) (oi := ⟨some 43, .indexAddr 24 (.tmp 42) (.const (.int .i64 7)), _, _, _, none⟩) (v := .pointer (some ⟨b, o + 7, none⟩)) rfl (by kernel_rfl) (by kernel_rfl) (by kernel_rfl) (fun _ _ _ h => h) (Or.inl ⟨by kernel_rfl, by intro W hW; go_simp⟩) hHeld ?_
  refine wpAnyH_take (i := 18) (oi := ⟨some 44, .load 5 (.tmp 43), _, _, _, none⟩) (v := .int .u8 (x7 : Int)) rfl (by kernel_rfl) (by kernel_rfl) (by kernel_rfl) (fun _ _ _ h => h) (Or.inl ⟨by kernel_rfl, by intro W hW; have q0 := hW.2.2.2.2; go_simp⟩) hHeld ?_
  refine wpAnyH_take (i := 19) (oi := ⟨some 45, .convert 5 3 (.tmp 44), _, _, _, none⟩) (v := .int .i64 (x7 : Int)) rfl (by kernel_rfl) (by kernel_rfl) (by kernel_rfl) (fun _ _ _ h => h) (Or.inl ⟨by kernel_rfl, by intro W hW; go_simp; exact IntWalk.i64_in _ ⟨by omega, by omega⟩⟩) hHeld ?_
  refine wpAnyH_take (i := 20) (oi := ⟨some 46, .build 23 #[(0, .tmp 29), (1, .tmp 33), (2, .tmp 37), (3, .tmp 41), (4, .tmp 45)], _, _, _, none⟩) (v := .agg (FmV.cs ⟨(x3 : Int), (x4 : Int), (x5 : Int), (x6 : Int), (x7 : Int)⟩)) rfl (by kernel_rfl) (by kernel_rfl) (by kernel_rfl) (fun _ _ _ h => h) (Or.inl ⟨by kernel_rfl, by intro W hW; go_simp; first | done | rfl⟩) hHeld ?_
  refine wpAnyH_ready (rs := [21]) (by kernel_rfl) (by simp) ?_
  refine AllReadyH.cons (o := ⟨some 5, .alloc 23, _, _, _, none⟩) rfl ?_ AllReadyH.nil
  intro K hK
  with_reducible refine step_run_valF ?_ (ptr w8.heap.size) (w8.alloc (.cells zF.cs 23)) ?_ ?_
  · exact rfl
  · exact exec_allocF rfl
  have HB8 := hid (below_on HB.out HCD.out)
  have HA9 := hid (below_on HB8.out (below_al w8 (.cells zF.cs 23)))
  have HZ9 := hid (CAt.made w8 zF.cs 23)
  replace HZ := hid ((HZ.out.below HCD.out).below (below_al w8 (.cells zF.cs 23)))
  have HG8 := hid (show w.heap.size ≤ w8.heap.size ∧ g2 < w8.heap.size from ⟨HB8.out.size, by have := HCD.out.size; have := HG2.out; have := HBd.out.size; omega⟩)
  generalize w8.alloc (.cells zF.cs 23) = w9 at *
  generalize w8.heap.size = g7 at *
  refine hK.out _ _ (HS6.out _ HA9.out) (fun hHeld => ?_)
  clear hK K
  refine wpAnyH_ready (rs := [22]) (by kernel_rfl) (by simp) ?_
  refine AllReadyH.cons (o := ⟨none, .store 23 (.tmp 5) (.tmp 46), _, _, _, none⟩) rfl ?_ AllReadyH.nil
  intro K hK
  with_reducible refine step_storeFm ?_ ?_ (.tmp 5) (.tmp 46) ?_ g7 ?_ (f0 := zF) (f := ⟨(x3 : Int), (x4 : Int), (x5 : Int), (x6 : Int), (x7 : Int)⟩) ?_ HZ9.out ?_
  · exact rfl
  · exact rfl
  · exact rfl
  · kernel_rfl
  · kernel_rfl
  intro w10 h10 o10
  replace HZ := hid (HZ.out.keep (o10.block g2 HZ.out.lt (by have := HG8.out; omega)))
  have HB10 := hid (below_tr HA9.out (o10.below HA9.out.size (fun i e => by have := HG8.out; omega)))
  have HF10 := hid h10
  clear h10 o10
  refine hK.out _ _ (HS6.out _ HB10.out) (fun _ => ?_)
  clear hK K
  refine wpAnyH_done (by kernel_rfl) ?_ _
  simp only [Act.put, List.setIfInBounds_toArray, List.set_cons_zero, List.set_cons_succ]
  go_wp2_with (first
    | ((with_reducible refine wpList_loadF rfl _ rfl g7 ?_ HF10.out ?_); exact rfl)
    | (go_at_call 13; refine (HCK.out _).mono ?_; rintro e w11 ⟨rfl, hb11⟩; replace HZ := hid (HZ.out.below hb11); replace HF10 := hid (HF10.out.below hb11); replace HB := hid (below_on HB10.out hb11); clear hb11)
    | ((with_reducible refine wpList_storeF rfl rfl _ _ rfl g2 ?_ (f := ⟨(x3 : Int), (x4 : Int), (x5 : Int), (x6 : Int), (x7 : Int)⟩) ?_ HZ.out ?_); exact rfl; exact rfl; intro w7 h7 o7; have H7 := hid h7; have O7 := hid o7; clear h7 o7))
  refine ret_rowF2 rfl g2 rfl rfl rfl H7.out ⟨rfl, ?_⟩
  exact below_tr HB.out (O7.out.below HB.out.size (fun i e => by have := HG.out; omega))
end Go.Proofs.Ytfniojnklhjgbaa
