/- Texts laid into one, cut to what is needed: the remark ahead of each part says what is proved there. -/
import Derived.Test.YtfniojnklhjgbaaPam
import Derived.Test.YtfniojnklhjgbaaPaf
import Derived.Test.YtfniojnklhjgbaaPag
import Derived.Test.YtfniojnklhjgbaaPaq
/- FormatTells over package format's contracts. (Written by tools/gen_Fk14.py.) -/
namespace Go.Proofs.Ytfniojnklhjgbaa
open Go Go.RowKit

set_option linter.unusedVariables false in
set_option maxRecDepth 100000 in
theorem formatTells_long (f : FmV) (po : Option Addr) (n c : Nat) (w : World) (hn : n ≤ maxLen) (h : 1000 < n) : Calls Try.prog 3 #[.agg f.cs, .slice po n c] w fun e w' => e = .returned (.bool true) ∧ Below w.heap.size w w' := by
  have h' : (1000 : Int) < (n : Int) := by omega
  unfold maxLen at hn
  go_enter Try.func3, Try.ntmps3
  go_wp2_with ((with_reducible refine wpList_boxT 23 rfl _ rfl f.cs ?_ ?_); exact rfl; intro w1 g1 hc1 hb1 hg1; have HB := hid hb1; clear hc1 hb1 hg1)
  go_ret
  exact ⟨rfl, HB.out⟩
theorem FmAt.onlyS {W W' : World} {g off : Nat} {f : FmV} {S : Nat → Prop} (h : FmAt W g off f) (ho : Only S W W') (hq : ¬ S g) : FmAt W' g off f := fun j u hu => (World.cell?_of_block (a := ⟨g, off + j, none⟩) (ho.block g h.lt hq)).trans (h j u hu)
theorem OvS.onlyB {B g : Nat} {w w' : World} {v : Value} (h : OvS B w v) (ho : Only (fun b => b = g) w w') (hg : v.ownBlock ≠ some g) : OvS B w' v := by
  rcases h with rfl | ⟨q, n, cs, rfl, h1, h2, h3, h4⟩
  · exact .inl rfl
  · exact .inr ⟨q, n, cs, rfl, h1, h2, h3.keep (ho.block q h3.lt (fun e => hg (congrArg some e))), h4⟩
set_option linter.unusedVariables false in
set_option maxRecDepth 100000 in
set_option maxHeartbeats 8000000 in
theorem formatTells_ok (hF : FmC) (f : FmV) (hf : f.wf) (hok : okFm f = true) (po : Option Addr) (c : Nat) (L : List Nat) (w : World) (h : BL w po L) (hc : L.length ≤ c) (hp : po = none → c = 0) (h8 : ∀ z ∈ L, z < 256) (hL : L.length ≤ 1000) :
    Calls Try.prog 3 #[.agg f.cs, .slice po L.length c] w fun e w' => e = .returned (.bool true) ∧ Below w.heap.size w w' := by
  have hL' : ¬ (1000 : Int) < (L.length : Int) := by omega
  have HBL := hid h
  have HLT := hid (fun W (hb : Below w.heap.size w W) => lentB_any po c L W (by omega) (h.below hb))
  have HKP := hid (fun W g (hb : Below w.heap.size w W) (hl : Lent W g L) => keptB_any g po c L W (by omega) hl (h.below hb))
  have HCK := hid (fun W => hF.check f W hf)
  have HDC := hid (fun W => rcheck14_any f W)
  have he : erFm f = 0 := by unfold erFm; rw [hok]; rfl
  rw [he] at HCK HDC
  have HRP := hid (fun W g (hl : Lent W g L) => (hF.read (some ⟨g, 0, none⟩) (L.length + 3) L W hl.bl (by omega) (by omega) (fun e => by cases e) h8).mono (R' := fun e w' => e = .returned (.tuple #[.agg (rdFv L).cs, .int .i64 (rdFe L : Int)]) ∧ Below W.heap.size W w') (fun e w' h => h))
  have HRD := hid (fun W (hb : Below w.heap.size w W) => (rread14_any po c L W (h.below hb) hc (by omega) h8).mono (R' := fun e w' => e = .returned (.tuple #[.agg (rdFv L).cs, .int .i64 (rdFe L : Int)]) ∧ Below W.heap.size W w') (fun e w' h => h))
  have HAW := hid (fun W => awake14_any hF W)
  have HEQ := hid (fun W => eqlF (rdFv L) (rdFv L) W)
  rw [show decide (rdFv L = rdFv L) = true by simp] at HEQ
  have HBY := hid (fun W => (hF.bytes f W hf).mono (R' := fun e w' => ∃ b o c, e = .returned (.tuple #[.slice (some ⟨b, o, none⟩) 40 c, .int .i64 0]) ∧ Buf W.heap.size w' (.slice (some ⟨b, o, none⟩) 40 c) (fmB f) ∧ OvS W.heap.size w' (.slice (some ⟨b, o, none⟩) 40 c) ∧ Below W.heap.size W w') (fun e w' h => by
    rcases h with ⟨_, po, c, h1, h2, h4, h3⟩ | ⟨h, _⟩
    · rcases h2.bl with hb | ⟨b, o, e2, _⟩
      · have := congrArg List.length hb; rw [fmB_len] at this; cases this
      · subst e2; exact ⟨b, o, c, h1, h2, h4, h3⟩
    · rw [hok] at h; cases h))
  have HDB := hid (fun W => (rbytes14_any f hok W).mono (R' := fun e w' => ∃ b o c, e = .returned (.slice (some ⟨b, o, none⟩) 40 c) ∧ Buf W.heap.size w' (.slice (some ⟨b, o, none⟩) 40 c) (fmB f) ∧ Below W.heap.size W w') (fun e w' h => by
    obtain ⟨po, c, h1, h2, h3⟩ := h
    rw [fmB_len] at h1 h2
    rcases h2.bl with hb | ⟨b, o, e2, _⟩
    · have := congrArg List.length hb; rw [fmB_len] at this; cases this
    · subst e2; exact ⟨b, o, c, h1, h2, h3⟩))
  have HSB := hid (fun W (u v : Value) (hu : SL W u (fmB f)) (hv : SL W v (fmB f)) => sameB_true hu hv (fmB_lt hok))
  have HSL := hid (fun (B : Nat) (W : World) (q : Option Addr) (d : Nat) (hb : Buf B W (.slice q 40 d) (fmB f)) => (⟨q, d, by rw [fmB_len], hb.bl, by have := hb.cap; omega⟩ : SL W (.slice q 40 d) (fmB f)))
  clear hF hf hok he h hc hp h8 hL
  generalize rdFv L = y at *
  generalize rdFe L = er at *
  generalize L.length = n at *
  have TA : Hid True := hid trivial
  have TB : Hid True := hid trivial
  go_enter Try.func3, Try.ntmps3
  go_wp2_with (first
    | ((with_reducible refine wpList_boxT 23 rfl _ rfl f.cs ?_ ?_); exact rfl; intro w1 g1 hc1 hb1 hg1; have HBX := hid (show FmAt w1 g1 0 f from fun j u hu => by rw [Nat.zero_add, hc1.cell]; exact hu); have HB := hid hb1; have HG1 := hid hc1.lt; clear hc1 hb1 hg1)
    | (go_at_call 8; refine (HLT.out _ HB.out).mono ?_; rintro e w2 ⟨rfl, hl2, hb2⟩; have HLN := hid hl2; replace HBX := hid (HBX.out.below hb2); replace HB := hid (below_on HB.out hb2); clear hl2 hb2)
    | ((with_reducible refine wpList_loadW 23 _ rfl ?_ (.pointer (some ⟨g1, 0, none⟩)) (.agg f.cs) ?_ HBX.out.load ?_); kernel_rfl; exact rfl)
    | (go_at_call 9; refine (HCK.out _).mono ?_; rintro e w3 ⟨rfl, hb3⟩; replace HLN := hid (HLN.out.below hb3); replace HBX := hid (HBX.out.below hb3); replace HB := hid (below_on HB.out hb3); clear hb3)
    | (go_at_call 10; refine (HBY.out _).mono ?_; rintro e w4 ⟨bx, ox, cx, rfl, hx4, ho4, hb4⟩; have HX := hid hx4; have HO := hid ho4; have HLX := hid (And.intro HBX.out.lt (And.intro HLN.out.lt HB.out.size)); replace HLN := hid (HLN.out.below hb4); replace HBX := hid (HBX.out.below hb4); replace HB := hid (below_on HB.out hb4); clear hx4 ho4 hb4)
    | (go_at_call 11; refine (HRP.out _ _ HLN.out).mono ?_; rintro e w5 ⟨rfl, hb5⟩; replace HLN := hid (HLN.out.below hb5); replace HBX := hid (HBX.out.below hb5); replace HB := hid (below_on HB.out hb5); replace HX := hid (HX.out.below hb5); replace HO := hid (HO.out.below hb5); clear hb5)
    | (clear TA; (with_reducible refine wpList_allocF rfl rfl ?_); intro w6 g9 hz6 hb6 hg6; have HZ9 := hid hz6; have HG9 := hid (show w.heap.size ≤ g9 ∧ g1 < g9 ∧ w1.heap.size < g9 ∧ bx < g9 by have q1 := HB.out.size; have q2 := HBX.out.lt; have q3 := HLN.out.lt; have q4 := (own_ge HX.out bx rfl).2; omega); replace HLN := hid (HLN.out.below hb6); replace HBX := hid (HBX.out.below hb6); replace HB := hid (below_on HB.out hb6); replace HX := hid (HX.out.below hb6); replace HO := hid (HO.out.below hb6); clear hz6 hb6 hg6)
    | (clear TB; (with_reducible refine wpList_storeF rfl rfl _ _ rfl g9 ?_ (f := y) ?_ HZ9.out ?_); exact rfl; exact rfl; intro w7 h7 o7; have HY := hid (show FmAt w7 g9 0 y from fun j u hu => by rw [Nat.zero_add, h7.cell]; exact hu); replace HLN := hid (HLN.out.only o7 (fun e => by have := HG9.out; have e2 : w1.heap.size = g9 := e; omega)); replace HBX := hid (HBX.out.only o7 (by have := HG9.out; omega)); replace HB := hid (below_tr HB.out (o7.below HB.out.size (fun i e => by have := HG9.out; omega))); replace HX := hid (HX.out.only_ne o7 (fun e => by have := HG9.out; have e2 : bx = g9 := Option.some.inj e; omega)); replace HO := hid (HO.out.onlyB o7 (fun e => by have := HG9.out; have e2 : bx = g9 := Option.some.inj e; omega)); clear h7 o7)
    | (go_at_call 12; refine (HRD.out _ HB.out).mono ?_; rintro e w8 ⟨rfl, hb8⟩; replace HLN := hid (HLN.out.below hb8); replace HBX := hid (HBX.out.below hb8); replace HB := hid (below_on HB.out hb8); replace HX := hid (HX.out.below hb8); replace HO := hid (HO.out.below hb8); replace HY := hid (HY.out.below hb8); clear hb8)
    | ((with_reducible refine wpList_allocF rfl rfl ?_); intro w9 g11 hz9 hb9 hg9; have HZ11 := hid hz9; have HG11 := hid (show w.heap.size ≤ g11 ∧ g1 < g11 ∧ w1.heap.size < g11 ∧ bx < g11 ∧ g9 < g11 by have q1 := HB.out.size; have q2 := HBX.out.lt; have q3 := HLN.out.lt; have q4 := (own_ge HX.out bx rfl).2; have q5 := HY.out.lt; omega); replace HLN := hid (HLN.out.below hb9); replace HBX := hid (HBX.out.below hb9); replace HB := hid (below_on HB.out hb9); replace HX := hid (HX.out.below hb9); replace HO := hid (HO.out.below hb9); replace HY := hid (HY.out.below hb9); clear hz9 hb9 hg9)
    | ((with_reducible refine wpList_storeF rfl rfl _ _ rfl g11 ?_ (f := y) ?_ HZ11.out ?_); exact rfl; exact rfl; intro w10 h10 o10; have HW := hid (show FmAt w10 g11 0 y from fun j u hu => by rw [Nat.zero_add, h10.cell]; exact hu); replace HLN := hid (HLN.out.only o10 (fun e => by have := HG11.out; have e2 : w1.heap.size = g11 := e; omega)); replace HBX := hid (HBX.out.only o10 (by have := HG11.out; omega)); replace HB := hid (below_tr HB.out (o10.below HB.out.size (fun i e => by have := HG11.out; omega))); replace HX := hid (HX.out.only_ne o10 (fun e => by have := HG11.out; have e2 : bx = g11 := Option.some.inj e; omega)); replace HO := hid (HO.out.onlyB o10 (fun e => by have := HG11.out; have e2 : bx = g11 := Option.some.inj e; omega)); replace HY := hid (HY.out.only o10 (by have := HG11.out; omega)); clear h10 o10)
    | (go_at_call 13; refine (HDC.out _).mono ?_; rintro e w11 ⟨rfl, hb11⟩; replace HLN := hid (HLN.out.below hb11); replace HBX := hid (HBX.out.below hb11); replace HB := hid (below_on HB.out hb11); replace HX := hid (HX.out.below hb11); replace HO := hid (HO.out.below hb11); replace HY := hid (HY.out.below hb11); replace HW := hid (HW.out.below hb11); clear hb11)
    | (go_at_call 15; refine (HDB.out _).mono ?_; rintro e w12 ⟨bd, od, cd, rfl, hd12, hb12⟩; have HD := hid hd12; replace HLN := hid (HLN.out.below hb12); replace HBX := hid (HBX.out.below hb12); replace HB := hid (below_on HB.out hb12); replace HX := hid (HX.out.below hb12); replace HO := hid (HO.out.below hb12); replace HY := hid (HY.out.below hb12); replace HW := hid (HW.out.below hb12); have HSS := hid (HSB.out _ _ _ (HSL.out _ _ _ _ HX.out) (HSL.out _ _ _ _ HD.out)); clear hd12 hb12)
    | (go_at_call 14; refine HSS.out.mono ?_; rintro e w13 ⟨rfl, hw13⟩; have hw14 := hw13.symm; subst hw14)
    | (go_at_call 16; refine (overS_any HO.out).mono ?_; rintro e w15 ⟨rfl, ho15⟩; have HL15 := hid (HLN.out.only ho15 (fun e => by have := HLX.out; have := e.2; omega)); have HY15 := hid (HY.out.onlyS ho15 (fun e => by have := HG9.out; have e2 : bx = g9 := Option.some.inj e.1; omega)); have HW15 := hid (HW.out.onlyS ho15 (fun e => by have := HG11.out; have e2 : bx = g11 := Option.some.inj e.1; omega)); have HB15 := hid (below_tr HB.out (ho15.below HB.out.size (fun i e => by have := HLX.out; have := e.2; omega))); clear ho15)
    | ((with_reducible refine wpList_loadW 23 _ rfl ?_ (.pointer (some ⟨g9, 0, none⟩)) (.agg y.cs) ?_ HY15.out.load ?_); kernel_rfl; exact rfl)
    | ((with_reducible refine wpList_loadW 23 _ rfl ?_ (.pointer (some ⟨g11, 0, none⟩)) (.agg y.cs) ?_ HW15.out.load ?_); kernel_rfl; exact rfl)
    | ((with_reducible refine wpList_binW .eql 23 _ _ _ (.agg y.cs) (.agg y.cs) (.bool true) rfl ?_ ?_ ?_ ?_ (HEQ.out _) ?_); kernel_rfl; exact rfl; exact rfl; simp [eqGuard])
    | (go_at_call 17; refine (HKP.out _ _ HB15.out HL15.out).mono ?_; rintro e w16 ⟨rfl, hb16⟩; have HB16 := hid (below_on HB15.out hb16); clear hb16)
    | (go_at_call 18; refine (HAW.out _).mono ?_; rintro e w17 ⟨rfl, hb17⟩; have HB17 := hid (below_on HB16.out hb17); clear hb17))
  go_ret
  exact ⟨rfl, HB17.out⟩
set_option linter.unusedVariables false in
set_option maxRecDepth 100000 in
set_option maxHeartbeats 8000000 in
theorem formatTells_no (hF : FmC) (f : FmV) (hf : f.wf) (hok : okFm f = false) (po : Option Addr) (c : Nat) (L : List Nat) (w : World) (h : BL w po L) (hc : L.length ≤ c) (hp : po = none → c = 0) (h8 : ∀ z ∈ L, z < 256) (hL : L.length ≤ 1000) :
    Calls Try.prog 3 #[.agg f.cs, .slice po L.length c] w fun e w' => e = .returned (.bool true) ∧ Below w.heap.size w w' := by
  have hL' : ¬ (1000 : Int) < (L.length : Int) := by omega
  have HBL := hid h
  have HLT := hid (fun W (hb : Below w.heap.size w W) => lentB_any po c L W (by omega) (h.below hb))
  have HKP := hid (fun W g (hb : Below w.heap.size w W) (hl : Lent W g L) => keptB_any g po c L W (by omega) hl (h.below hb))
  have HCK := hid (fun W => hF.check f W hf)
  have HDC := hid (fun W => rcheck14_any f W)
  have he : erFm f = 2 := by unfold erFm; rw [hok]; rfl
  rw [he] at HCK HDC
  have HRP := hid (fun W g (hl : Lent W g L) => (hF.read (some ⟨g, 0, none⟩) (L.length + 3) L W hl.bl (by omega) (by omega) (fun e => by cases e) h8).mono (R' := fun e w' => e = .returned (.tuple #[.agg (rdFv L).cs, .int .i64 (rdFe L : Int)]) ∧ Below W.heap.size W w') (fun e w' h => h))
  have HRD := hid (fun W (hb : Below w.heap.size w W) => (rread14_any po c L W (h.below hb) hc (by omega) h8).mono (R' := fun e w' => e = .returned (.tuple #[.agg (rdFv L).cs, .int .i64 (rdFe L : Int)]) ∧ Below W.heap.size W w') (fun e w' h => h))
  have HAW := hid (fun W => awake14_any hF W)
  have HEQ := hid (fun W => eqlF (rdFv L) (rdFv L) W)
  rw [show decide (rdFv L = rdFv L) = true by simp] at HEQ
  have HBY := hid (fun W => (hF.bytes f W hf).mono (R' := fun e w' => e = .returned (.tuple #[.slice none 0 0, .int .i64 2]) ∧ Below W.heap.size W w') (fun e w' h => by
    rcases h with ⟨h, _⟩ | ⟨_, h⟩
    · rw [hok] at h; cases h
    · exact h))
  clear hF hf hok he h hc hp h8 hL
  generalize rdFv L = y at *
  generalize rdFe L = er at *
  generalize L.length = n at *
  have TA : Hid True := hid trivial
  have TB : Hid True := hid trivial
  go_enter Try.func3, Try.ntmps3
  go_wp2_with (first
    | ((with_reducible refine wpList_boxT 23 rfl _ rfl f.cs ?_ ?_); exact rfl; intro w1 g1 hc1 hb1 hg1; have HBX := hid (show FmAt w1 g1 0 f from fun j u hu => by rw [Nat.zero_add, hc1.cell]; exact hu); have HB := hid hb1; have HG1 := hid hc1.lt; clear hc1 hb1 hg1)
    | (go_at_call 8; refine (HLT.out _ HB.out).mono ?_; rintro e w2 ⟨rfl, hl2, hb2⟩; have HLN := hid hl2; replace HBX := hid (HBX.out.below hb2); replace HB := hid (below_on HB.out hb2); clear hl2 hb2)
    | ((with_reducible refine wpList_loadW 23 _ rfl ?_ (.pointer (some ⟨g1, 0, none⟩)) (.agg f.cs) ?_ HBX.out.load ?_); kernel_rfl; exact rfl)
    | (go_at_call 9; refine (HCK.out _).mono ?_; rintro e w3 ⟨rfl, hb3⟩; replace HLN := hid (HLN.out.below hb3); replace HBX := hid (HBX.out.below hb3); replace HB := hid (below_on HB.out hb3); clear hb3)
    | (go_at_call 10; refine (HBY.out _).mono ?_; rintro e w4 ⟨rfl, hb4⟩; replace HLN := hid (HLN.out.below hb4); replace HBX := hid (HBX.out.below hb4); replace HB := hid (below_on HB.out hb4); clear hb4)
    | (go_at_call 11; refine (HRP.out _ _ HLN.out).mono ?_; rintro e w5 ⟨rfl, hb5⟩; replace HLN := hid (HLN.out.below hb5); replace HBX := hid (HBX.out.below hb5); replace HB := hid (below_on HB.out hb5); clear hb5)
    | (clear TA; (with_reducible refine wpList_allocF rfl rfl ?_); intro w6 g9 hz6 hb6 hg6; have HZ9 := hid hz6; have HG9 := hid (show w.heap.size ≤ g9 ∧ g1 < g9 ∧ w1.heap.size < g9 by have q1 := HB.out.size; have q2 := HBX.out.lt; have q3 := HLN.out.lt; omega); replace HLN := hid (HLN.out.below hb6); replace HBX := hid (HBX.out.below hb6); replace HB := hid (below_on HB.out hb6); clear hz6 hb6 hg6)
    | (clear TB; (with_reducible refine wpList_storeF rfl rfl _ _ rfl g9 ?_ (f := y) ?_ HZ9.out ?_); exact rfl; exact rfl; intro w7 h7 o7; have HY := hid (show FmAt w7 g9 0 y from fun j u hu => by rw [Nat.zero_add, h7.cell]; exact hu); replace HLN := hid (HLN.out.only o7 (fun e => by have := HG9.out; have e2 : w1.heap.size = g9 := e; omega)); replace HBX := hid (HBX.out.only o7 (by have := HG9.out; omega)); replace HB := hid (below_tr HB.out (o7.below HB.out.size (fun i e => by have := HG9.out; omega))); clear h7 o7)
    | (go_at_call 12; refine (HRD.out _ HB.out).mono ?_; rintro e w8 ⟨rfl, hb8⟩; replace HLN := hid (HLN.out.below hb8); replace HBX := hid (HBX.out.below hb8); replace HB := hid (below_on HB.out hb8); replace HY := hid (HY.out.below hb8); clear hb8)
    | ((with_reducible refine wpList_allocF rfl rfl ?_); intro w9 g11 hz9 hb9 hg9; have HZ11 := hid hz9; have HG11 := hid (show w.heap.size ≤ g11 ∧ g1 < g11 ∧ w1.heap.size < g11 ∧ g9 < g11 by have q1 := HB.out.size; have q2 := HBX.out.lt; have q3 := HLN.out.lt; have q5 := HY.out.lt; omega); replace HLN := hid (HLN.out.below hb9); replace HBX := hid (HBX.out.below hb9); replace HB := hid (below_on HB.out hb9); replace HY := hid (HY.out.below hb9); clear hz9 hb9 hg9)
    | ((with_reducible refine wpList_storeF rfl rfl _ _ rfl g11 ?_ (f := y) ?_ HZ11.out ?_); exact rfl; exact rfl; intro w10 h10 o10; have HW := hid (show FmAt w10 g11 0 y from fun j u hu => by rw [Nat.zero_add, h10.cell]; exact hu); replace HLN := hid (HLN.out.only o10 (fun e => by have := HG11.out; have e2 : w1.heap.size = g11 := e; omega)); replace HBX := hid (HBX.out.only o10 (by have := HG11.out; omega)); replace HB := hid (below_tr HB.out (o10.below HB.out.size (fun i e => by have := HG11.out; omega))); replace HY := hid (HY.out.only o10 (by have := HG11.out; omega)); clear h10 o10)
    | (go_at_call 13; refine (HDC.out _).mono ?_; rintro e w11 ⟨rfl, hb11⟩; replace HLN := hid (HLN.out.below hb11); replace HBX := hid (HBX.out.below hb11); replace HB := hid (below_on HB.out hb11); replace HY := hid (HY.out.below hb11); replace HW := hid (HW.out.below hb11); clear hb11)
    | (go_at_call 16; refine (over2_nil _).mono ?_; rintro e w15 ⟨rfl, hw13⟩; have hw14 := hw13.symm; subst hw14; have HL15 := hid HLN.out; have HY15 := hid HY.out; have HW15 := hid HW.out; have HB15 := hid HB.out)
    | ((with_reducible refine wpList_loadW 23 _ rfl ?_ (.pointer (some ⟨g9, 0, none⟩)) (.agg y.cs) ?_ HY15.out.load ?_); kernel_rfl; exact rfl)
    | ((with_reducible refine wpList_loadW 23 _ rfl ?_ (.pointer (some ⟨g11, 0, none⟩)) (.agg y.cs) ?_ HW15.out.load ?_); kernel_rfl; exact rfl)
    | ((with_reducible refine wpList_binW .eql 23 _ _ _ (.agg y.cs) (.agg y.cs) (.bool true) rfl ?_ ?_ ?_ ?_ (HEQ.out _) ?_); kernel_rfl; exact rfl; exact rfl; simp [eqGuard])
    | (go_at_call 17; refine (HKP.out _ _ HB15.out HL15.out).mono ?_; rintro e w16 ⟨rfl, hb16⟩; have HB16 := hid (below_on HB15.out hb16); clear hb16)
    | (go_at_call 18; refine (HAW.out _).mono ?_; rintro e w17 ⟨rfl, hb17⟩; have HB17 := hid (below_on HB16.out hb17); clear hb17))
  go_ret
  exact ⟨rfl, HB17.out⟩
theorem formatTells_core (hF : FmC) (f : FmV) (hf : f.wf) (po : Option Addr) (c : Nat) (L : List Nat) (w : World) (h : BL w po L) (hc : L.length ≤ c) (hp : po = none → c = 0) (h8 : ∀ z ∈ L, z < 256) (hm : L.length ≤ maxLen) :
    Calls Try.prog 3 #[.agg f.cs, .slice po L.length c] w fun e w' => e = .returned (.bool true) ∧ Below w.heap.size w w' := by
  by_cases hL : L.length ≤ 1000
  · cases hok : okFm f with
    | true => exact formatTells_ok hF f hf hok po c L w h hc hp h8 hL
    | false => exact formatTells_no hF f hf hok po c L w h hc hp h8 hL
  · exact formatTells_long f po L.length c w hm (by omega)
end Go.Proofs.Ytfniojnklhjgbaa

/- FormatTells and FormatBack, as they are called. -/
namespace Go.Proofs.Ytfniojnklhjgbaa
open Go Go.RowKit

theorem formatTells_all (f : FmV) (a : Option Addr) (len cap : Nat) (w : World) (hf : f.wf) (h : IsB14 w a len cap) : Calls Try.prog 3 #[.agg f.cs, .slice a len cap] w fun e w' => e = .returned (.bool true) ∧ Below w.heap.size w w' := by
  obtain ⟨bs, rfl, h1, h2, h3, h4, h5⟩ := h
  exact formatTells_core fmc f hf a cap bs w h2 h1 h4 h3 h5
end Go.Proofs.Ytfniojnklhjgbaa
