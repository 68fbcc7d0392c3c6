/- Texts laid into one, cut to what is needed: the remark ahead of each part says what is proved there. -/
import Derived.Test.YtelkijiphhoacaaDoorLar
/- tally.Elect: its errors, and where no drive has a journal. -/
namespace Go.Proofs.YtelkijiphhoacaaDoor
open Go Go.RowKit

set_option maxRecDepth 100000 in
set_option maxHeartbeats 2000000 in
theorem elect_arg (v : Value) (l : List Cv) (k : Int) (w : World) (hl : CL w v l) (h : 16 < (cps l).length ∨ k < 1 ∨ ((cps l).length : Int) < k) : Calls Tryd.prog 12 #[v, i64 k] w fun e w' => e = .returned (.tuple #[.agg (eC false 0 nilS nilS nilS 0 0), i64 2]) ∧ Below w.heap.size w w' := by
  obtain ⟨po, c, rfl, hc1, hn, -⟩ := hl
  obtain ⟨n, hN⟩ : ∃ n, l.length = n := ⟨_, rfl⟩
  rw [cps_len, hN] at h
  rw [hN] at hn ⊢
  clear hN hc1
  have T1 : Hid True := hid trivial
  by_cases h16 : (16 : Int) < (n : Int)
  · clear h
    go_enter Tryd.func12, Tryd.ntmps12
    go_wp2_with (first
      | (clear T1; (with_reducible refine wpList_allocX 40 _ zeroCh rfl rfl ?_); intro w1 g4 hz1 hb1 hg1; have HZ1 := hid hz1; have HB1 := hid hb1; have HG1 := hid (show w.heap.size ≤ g4 by omega); clear hz1 hb1 hg1)
      | ((with_reducible refine wpList_build_want 40 _ rfl ?_ (eC false 0 nilS nilS nilS 0 0) ?_ ?_); exact rfl; exact builtCh0)
      | ((with_reducible refine wpList_storeX 40 7 sizeCh rfl rfl _ _ rfl g4 ?_ (D := eC false 0 nilS nilS nilS 0 0) ?_ ?_ ?_ ?_ HZ1.out ?_); exact rfl; exact rfl; exact rfl; exact rfl; exact eC_one _ _ rfl rfl rfl _ _; intro w2 h2 o2; have HC2 := hid h2; have HB2 := hid (below_tr HB1.out (o2.below HB1.out.size (fun i e => by have := HG1.out; omega))); clear h2 o2))
    exact ret_rowE rfl g4 rfl rfl rfl HC2.out ⟨rfl, HB2.out⟩
  · by_cases h1 : k < 1
    · clear h
      go_enter Tryd.func12, Tryd.ntmps12
      go_wp2_with (first
        | (clear T1; (with_reducible refine wpList_allocX 40 _ zeroCh rfl rfl ?_); intro w1 g4 hz1 hb1 hg1; have HZ1 := hid hz1; have HB1 := hid hb1; have HG1 := hid (show w.heap.size ≤ g4 by omega); clear hz1 hb1 hg1)
        | ((with_reducible refine wpList_build_want 40 _ rfl ?_ (eC false 0 nilS nilS nilS 0 0) ?_ ?_); exact rfl; exact builtCh0)
        | ((with_reducible refine wpList_storeX 40 7 sizeCh rfl rfl _ _ rfl g4 ?_ (D := eC false 0 nilS nilS nilS 0 0) ?_ ?_ ?_ ?_ HZ1.out ?_); exact rfl; exact rfl; exact rfl; exact rfl; exact eC_one _ _ rfl rfl rfl _ _; intro w2 h2 o2; have HC2 := hid h2; have HB2 := hid (below_tr HB1.out (o2.below HB1.out.size (fun i e => by have := HG1.out; omega))); clear h2 o2))
      exact ret_rowE rfl g4 rfl rfl rfl HC2.out ⟨rfl, HB2.out⟩
    · have h2 : (n : Int) < k := by omega
      clear h
      go_enter Tryd.func12, Tryd.ntmps12
      go_wp2_with (first
        | (clear T1; (with_reducible refine wpList_allocX 40 _ zeroCh rfl rfl ?_); intro w1 g4 hz1 hb1 hg1; have HZ1 := hid hz1; have HB1 := hid hb1; have HG1 := hid (show w.heap.size ≤ g4 by omega); clear hz1 hb1 hg1)
        | ((with_reducible refine wpList_build_want 40 _ rfl ?_ (eC false 0 nilS nilS nilS 0 0) ?_ ?_); exact rfl; exact builtCh0)
        | ((with_reducible refine wpList_storeX 40 7 sizeCh rfl rfl _ _ rfl g4 ?_ (D := eC false 0 nilS nilS nilS 0 0) ?_ ?_ ?_ ?_ HZ1.out ?_); exact rfl; exact rfl; exact rfl; exact rfl; exact eC_one _ _ rfl rfl rfl _ _; intro w2 h2 o2; have HC2 := hid h2; have HB2 := hid (below_tr HB1.out (o2.below HB1.out.size (fun i e => by have := HG1.out; omega))); clear h2 o2))
      exact ret_rowE rfl g4 rfl rfl rfl HC2.out ⟨rfl, HB2.out⟩
set_option maxRecDepth 100000 in
set_option maxHeartbeats 2000000 in
theorem elect_quorum (v : Value) (l : List Cv) (k : Int) (w : World) (hl : CL w v l) (h : ¬ (16 < (cps l).length ∨ k < 1 ∨ ((cps l).length : Int) < k)) (hq : (ansN (cps l) : Int) < k) : Calls Tryd.prog 12 #[v, i64 k] w fun e w' => e = .returned (.tuple #[.agg (eC false 0 nilS nilS nilS 0 0), i64 10]) ∧ Below w.heap.size w w' := by
  have HL := hid hl
  obtain ⟨po, c, rfl, hc1, hn, -⟩ := hl
  obtain ⟨n, hN⟩ : ∃ n, l.length = n := ⟨_, rfl⟩
  have HN := hid hN
  rw [cps_len, hN] at h
  rw [hN] at hn ⊢
  clear hN hc1
  have h16 : ¬ (16 : Int) < (n : Int) := fun e => h (Or.inl (by omega))
  have h1 : ¬ k < 1 := fun e => h (Or.inr (Or.inl e))
  have h2 : ¬ (n : Int) < k := fun e => h (Or.inr (Or.inr e))
  rw [HN.out] at HL
  have HAN : Hid (∀ W, Below w.heap.size w W → Calls Tryd.prog 25 #[.slice po n c] W fun e w' => e = .returned (i64 (ansN (cps l))) ∧ Below W.heap.size W w') := hid (fun W hW => answering_any _ l W (HL.out.below hW))
  generalize ansN (cps l) = A at hq HAN
  clear h
  have T1 : Hid True := hid trivial
  go_enter Tryd.func12, Tryd.ntmps12
  go_wp2_with (first
    | (clear T1; (with_reducible refine wpList_allocX 40 _ zeroCh rfl rfl ?_); intro w1 g4 hz1 hb1 hg1; have HZ1 := hid hz1; have HB1 := hid hb1; have HG1 := hid (show w.heap.size ≤ g4 by omega); clear hz1 hb1 hg1)
    | (go_at_call 25; refine (HAN.out _ HB1.out).mono ?_; rintro e wa ⟨rfl, hba⟩; replace HZ1 := hid (HZ1.out.below hba); replace HB1 := hid (below_on HB1.out hba); clear hba)
    | ((with_reducible refine wpList_build_want 40 _ rfl ?_ (eC false 0 nilS nilS nilS 0 0) ?_ ?_); exact rfl; exact builtCh0)
    | ((with_reducible refine wpList_storeX 40 7 sizeCh rfl rfl _ _ rfl g4 ?_ (D := eC false 0 nilS nilS nilS 0 0) ?_ ?_ ?_ ?_ HZ1.out ?_); exact rfl; exact rfl; exact rfl; exact rfl; exact eC_one _ _ rfl rfl rfl _ _; intro w2 h2 o2; have HC2 := hid h2; have HB2 := hid (below_tr HB1.out (o2.below HB1.out.size (fun i e => by have := HG1.out; omega))); clear h2 o2))
  exact ret_rowE rfl g4 rfl rfl rfl HC2.out ⟨rfl, HB2.out⟩
end Go.Proofs.YtelkijiphhoacaaDoor

/- tally.Elect where drives answer: what is carried, and where none has a journal. -/
namespace Go.Proofs.YtelkijiphhoacaaDoor
open Go Go.RowKit

/-- What is carried through Elect: the result's variable, the choice that is made, the row of bools. -/
structure E7 (w : World) (g4 g7 gH n : Nat) (A : Int) (F : Nat → Bool) (W : World) : Prop where
  below : Below w.heap.size w W
  c4 : CAt W g4 (eC false 0 nilS nilS nilS 0 0) 40
  c7 : CAt W g7 (eC false 0 nilS nilS (.slice (some ⟨gH, 0, none⟩) n n) A 0) 40
  bh : BoF W gH n F
  l4 : w.heap.size ≤ g4
  l7 : w.heap.size ≤ g7
  lH : w.heap.size ≤ gH
  ne : g4 ≠ g7
theorem E7.on {w W W' : World} {g4 g7 gH n : Nat} {A : Int} {F : Nat → Bool} (h : E7 w g4 g7 gH n A F W) (hb : Below W.heap.size W W') : E7 w g4 g7 gH n A F W' := ⟨below_on h.below hb, h.c4.below hb, h.c7.below hb, h.bh.below hb, h.l4, h.l7, h.lH, h.ne⟩
theorem E7.n4 {w W : World} {g4 g7 gH n : Nat} {A : Int} {F : Nat → Bool} (h : E7 w g4 g7 gH n A F W) : g4 ≠ gH := CAt.apart h.c4 (h.bh : CAt W gH _ 4) (by decide)
theorem E7.n7 {w W : World} {g4 g7 gH n : Nat} {A : Int} {F : Nat → Bool} (h : E7 w g4 g7 gH n A F W) : g7 ≠ gH := CAt.apart h.c7 (h.bh : CAt W gH _ 4) (by decide)
theorem E7.start {w w3 w4 : World} {g4 g7 gH n : Nat} {A : Int} {C : Array Value} (hb : Below w.heap.size w w3) (h4 : CAt w3 g4 (eC false 0 nilS nilS nilS 0 0) 40) (hH : BoF w3 gH n (fun _ => false)) (h7 : CAt w4 g7 (eC false 0 nilS nilS (.slice (some ⟨gH, 0, none⟩) n n) A 0) 40) (hz : CAt w3 g7 C 40) (ho : Only (fun b => b = g7) w3 w4) (l4 : w.heap.size ≤ g4) (l7 : w.heap.size ≤ g7) (ne : g4 ≠ g7) (lH : w.heap.size ≤ gH) : E7 w g4 g7 gH n A (fun _ => false) w4 :=
  ⟨below_tr hb (ho.below hb.size (fun i e => by omega)), h4.keep (ho.block g4 h4.lt (by omega)), h7, hH.keep (ho.block gH hH.lt (fun e => CAt.apart hz (hH : CAt w3 gH _ 4) (by decide) e.symm)), l4, l7, lH, ne⟩
theorem E7.set {w W : World} {g4 g7 gH n : Nat} {A : Int} {F : Nat → Bool} (h : E7 w g4 g7 gH n A F W) (k : Nat) (x : Bool) : E7 w g4 g7 gH n A (fun i => if i = k then x else F i) (W.setCell ⟨gH, k, none⟩ (.bool x)) :=
  ⟨below_tr h.below ((Only.set (S := fun b => b = gH) W ⟨gH, k, none⟩ (.bool x) rfl).below h.below.size (fun i e => by have := h.lH; omega)), h.c4.keep (heap_setCell_ne _ _ _ _ h.n4), h.c7.keep (heap_setCell_ne _ _ _ _ h.n7), h.bh.set k x, h.l4, h.l7, h.lH, h.ne⟩
theorem E7.congr {w W : World} {g4 g7 gH n : Nat} {A : Int} {F G : Nat → Bool} (h : E7 w g4 g7 gH n A F W) (e : ∀ i, i < n → F i = G i) : E7 w g4 g7 gH n A G W := ⟨h.below, h.c4, h.c7, h.bh.congr e, h.l4, h.l7, h.lH, h.ne⟩
theorem chC_none {D : List Nat → List Nat} {l : List Cp} (h : elC D l = none) : chC D l = ⟨false, ⟨0, []⟩, [], l.map (fun _ => false), ansN l, 0⟩ := by unfold chC; rw [h]
theorem chC_some {D : List Nat → List Nat} {l : List Cp} {j : Jr} {b : List Nat} {n : Nat} (h : elC D l = some (j, b, n)) : chC D l = ⟨true, j, b, l.map (hasC b), ansN l, n⟩ := by unfold chC; rw [h]
set_option maxRecDepth 100000 in
set_option maxHeartbeats 4000000 in
theorem elect_none (v : Value) (l : List Cv) (k : Int) (w : World) (a0 a1 : Addr) (he : Ers w a0 a1) (hl : CL w v l) (h : ¬ (16 < (cps l).length ∨ k < 1 ∨ ((cps l).length : Int) < k)) (hq : ¬ (ansN (cps l) : Int) < k) (ha : allC dig (cps l) = []) : Calls Tryd.prog 12 #[v, i64 k] w (ElS OvB w (0, chC dig (cps l))) := by
  rw [chC_none (el_nil ha)]
  have HL := hid hl
  obtain ⟨po, c, rfl, hc1, hn, -⟩ := hl
  obtain ⟨n, hN⟩ : ∃ n, l.length = n := ⟨_, rfl⟩
  have HN := hid hN
  rw [cps_len, hN] at h
  rw [hN] at hn ⊢
  clear hN hc1
  have h16 : ¬ (16 : Int) < (n : Int) := fun e => h (Or.inl (by omega))
  have h1 : ¬ k < 1 := fun e => h (Or.inr (Or.inl e))
  have h2 : ¬ (n : Int) < k := fun e => h (Or.inr (Or.inr e))
  rw [HN.out] at HL
  have HAN : Hid (∀ W, Below w.heap.size w W → Calls Tryd.prog 25 #[.slice po n c] W fun e w' => e = .returned (i64 (ansN (cps l))) ∧ Below W.heap.size W w') := hid (fun W hW => answering_any _ l W (HL.out.below hW))
  have HJN := hid (fun W (hW : Below w.heap.size w W) => journals_any _ l W a0 a1 (HL.out.below hW) (he.below hW))
  unfold JlS at HJN
  rw [ha] at HJN
  obtain ⟨A, hA⟩ : ∃ A : Nat, ansN (cps l) = A := ⟨_, rfl⟩
  rw [hA] at hq HAN
  have HA := hid hA
  have hmk := run_make_b n (by omega)
  clear h ha he hA
  have T1 : Hid True := hid trivial
  go_enter Tryd.func12, Tryd.ntmps12
  go_wp2_with (first
    | (clear T1; (with_reducible refine wpList_allocX 40 _ zeroCh rfl rfl ?_); intro w1 g4 hz1 hb1 hg1; have HZ1 := hid hz1; have HB1 := hid hb1; have HG1 := hid (show w.heap.size ≤ g4 by omega); have HZ1L : Hid (∀ W, Below w.heap.size w W → True) := hid (fun _ _ => trivial); clear hz1 hb1 hg1)
    | (go_at_call 25; refine (HAN.out _ HB1.out).mono ?_; rintro e wa ⟨rfl, hba⟩; have HG4 := hid (HZ1.out.below hba).lt; replace HZ1 := hid (HZ1.out.below hba); replace HB1 := hid (below_on HB1.out hba); clear hba)
    | ((with_reducible refine wpList_build_want 40 _ rfl ?_ (eC false 0 nilS nilS (.slice (some ⟨wa.heap.size, 0, none⟩) n n) A 0) ?_ ?_); exact rfl; exact builtCh2 _ _ _ _)
    | ((with_reducible refine wpList_allocX 40 _ zeroCh rfl rfl ?_); intro w3 g7 hz3 hb3 hg3; have HZ3 := hid hz3; have HBH := hid ((BoF.made wa n).below hb3); have HB3 := hid (below_on (below_on HB1.out (below_al wa _)) hb3); replace HZ1 := hid ((HZ1.out.below (below_al wa (.cells (madeCells #[.bool false] n) 4))).below hb3); have HG3 := hid (show w.heap.size ≤ g7 ∧ g4 ≠ g7 ∧ w.heap.size ≤ wa.heap.size by have h1 := HB1.out.size; have h2 := HG4.out; rw [size_al] at hg3; exact ⟨by omega, by omega, h1⟩); clear hz3 hb3 hg3)
    | ((with_reducible refine wpList_storeX 40 7 sizeCh rfl rfl _ _ rfl g7 ?_ (D := eC false 0 nilS nilS (.slice (some ⟨wa.heap.size, 0, none⟩) n n) A 0) ?_ ?_ ?_ ?_ HZ3.out ?_); exact rfl; exact rfl; exact rfl; exact rfl; exact eC_one _ _ rfl rfl rfl _ _; intro w4 h4 o4; have HF : Hid (E7 w g4 g7 wa.heap.size n A (fun _ => false) w4) := hid (E7.start HB3.out HZ1.out HBH.out h4 HZ3.out o4 HG1.out HG3.out.1 HG3.out.2.1 HG3.out.2.2); clear h4 o4 HZ3 HBH HB3 HZ1)
    | (go_at_call 26; refine (HJN.out _ HF.out.below).mono ?_; rintro e w5 ⟨vj, L, rfl, hs5, hj5, -, hb5⟩; obtain rfl : L = [] := List.map_eq_nil_iff.1 hj5; obtain ⟨pj, cj, rfl, -⟩ := hs5.form; replace HF := hid (HF.out.on hb5); (try change wpList _ _ _ _ _ _); clear hs5 hj5 hb5)
    | ((with_reducible refine wpList_load_at 40 _ rfl ?_ g7 0 ?_ (eC false 0 nilS nilS (.slice (some ⟨wa.heap.size, 0, none⟩) n n) A 0) _ ?_ underCh rfl ?_ ?_); exact rfl; exact rfl; exact HF.out.c7.whole; exact sizeCh)
    | ((with_reducible refine wpList_storeX 40 7 sizeCh rfl rfl _ _ rfl g4 ?_ (D := eC false 0 nilS nilS (.slice (some ⟨wa.heap.size, 0, none⟩) n n) A 0) ?_ ?_ ?_ ?_ HF.out.c4 ?_); exact rfl; exact rfl; exact rfl; exact rfl; exact eC_one _ _ rfl rfl rfl _ _; intro w6 h6 o6; have HC6 := hid h6; have HB6 := hid (below_tr HF.out.below (o6.below HF.out.below.size (fun i e => by have := HF.out.l4; omega))); have HH6 := hid (HF.out.bh.keep (o6.block _ HF.out.bh.lt (fun e => HF.out.n4 e.symm))); clear h6 o6))
  refine ret_rowE rfl g4 rfl rfl rfl HC6.out ⟨0, nilS, nilS, _, [], ?_, Rs.nil _ _, rfl, by simp, SL.nil _, Or.inl rfl, HH6.out.bol (by rw [List.length_map, cps_len, HN.out]) (fun i x hx => by rw [List.getElem?_map] at hx; obtain ⟨y, _, rfl⟩ := Option.map_eq_some_iff.1 hx; rfl), HB6.out⟩
  rw [HA.out]
  rfl
end Go.Proofs.YtelkijiphhoacaaDoor
