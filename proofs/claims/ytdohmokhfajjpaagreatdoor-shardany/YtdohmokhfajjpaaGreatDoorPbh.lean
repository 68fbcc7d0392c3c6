/- Texts laid into one, cut to what is needed: the remark ahead of each part says what is proved there. -/
import Derived.Test.YtdohmokhfajjpaaGreatDoorPbg
import Derived.Test.YtdohmokhfajjpaaGreatDoorPay
/- Package format's fields: an array of pointers to a format's numbers. (Written by tools/gen_Gb15.py.) -/
namespace Go.Proofs.YtdohmokhfajjpaaGreatDoor
open Go Go.RowKit

/-- Pointers to the five numbers of a format that lies at g. -/
abbrev fpA (g k : Nat) : Value := .pointer (some ⟨g, k, none⟩)
def fpC (g : Nat) : Array Value := #[fpA g 0, fpA g 1, fpA g 2, fpA g 3, fpA g 4]
abbrev np5 : Array Value := #[.pointer none, .pointer none, .pointer none, .pointer none, .pointer none]
theorem zeroP5 : (Tryz.prog.info? 104).map (·.zero) = some (some (.agg np5)) := by kernel_rfl
theorem sizeP5 : (Tryz.prog.info? 104).map (·.size) = some 5 := by kernel_rfl
theorem underP5 : Tryz.prog.underlying 104 = some (.array 5 103) := by kernel_rfl
theorem exec_buildP {a : Act} {o : Oper} {W : World} (t : TypeId) (parts : Array (Nat × Operand)) (ho : o.op = .build t parts) (cs : Array Value) (hf : Tryz.prog.built t (parts.toList.map fun (i, x) => (i, a.eval x)) = some cs) : (execOp a.eval o).run Tryz.prog W = .ok (.value (.agg cs)) W := by
 rw [← Array.toList_map] at hf
 unfold execOp
 simp only [ho, Sem.run_bind, run_build W t _ cs hf, Result.andThen_ok]
 rfl
theorem wpList_allocP5 {ops : Array Oper} {rest : List Oper} {o : Oper} {a : Act} {w : World} {Q : Exit → Act → World → Prop} (hg : o.guard = none) (ho : o.op = .alloc 104)
  (h : ∀ w1 g, CAt w1 g np5 104 → Below w.heap.size w w1 → w.heap.size = g → wpList Tryz.prog ops Q rest (a.put o.dst (ptr g)) w1) : wpList Tryz.prog ops Q (o :: rest) a w := by
 refine wpList_plain hg fun _ hK => ?_
 obtain ⟨i, hq, hz'⟩ := Option.map_eq_some_iff.1 zeroP5
 unfold Oper.wp execOp
 simp only [ho, Instr.alloc, zeroValue, typeInfo, Sem.run_bind, newVar, newRow]
 generalize np5 = C at h hz'
 simp [hq, hz', Value.cells]
 exact hK _ _ (h _ _ (CAt.made _ _ _) (below_al _ _) rfl)
theorem run_storeP5 {w : World} {q g : Nat} (hb : CAt w q np5 104) : (Instr.storeAt 104 (.pointer (some ⟨q, 0, none⟩)) (.agg (fpC g))).run Tryz.prog w = .ok () (w.setRow q (fpC g)) ∧ CAt (w.setRow q (fpC g)) q (fpC g) 104 := by
 have e := run_storeVar_row (P := Tryz.prog) w q 104 104 np5 (fpC g) hb sizeP5 rfl (by simp [fpC, Value.oneCell'])
 refine ⟨?_, setRow_heap w q np5 (fpC g) _ _ hb⟩
 simp only [Instr.storeAt, Instr.sureAddr, Sem.run_bind, Sem.run_pure, Result.andThen_ok, e]
theorem step_storeP5 {w : World} {ops : Array Oper} {o : Oper} {a : Act} {K : Act → World → Prop} {Q : Exit → Act → World → Prop} {E : Prop} (hgd : o.guard = none) (hdst : o.dst = none) (x y : Operand) (ho : o.op = .store 104 x y) (q : Nat) (hx : a.eval x = ptr q) {g : Nat} (hy : a.eval y = .agg (fpC g)) (hb : CAt w q np5 104)
  (h : ∀ w1, CAt w1 q (fpC g) 104 → Only (fun b => b = q) w w1 → K a w1) : if Region.wanted o (yielded ops a.tmps) = true then Oper.wp Tryz.prog o a w K Q else E := by
 obtain ⟨e1, e2⟩ := run_storeP5 (g := g) hb
 rw [if_pos (by simp [Region.wanted, hgd])]
 unfold Oper.wp execOp
 simp only [ho, hx, hy, ptr, Sem.run_bind, e1, Result.andThen_ok, Sem.run_pure]
 show K (a.put o.dst undef) _
 rw [hdst]
 exact h _ e2 (only_setRow _ _ _ rfl)
theorem ret_rowP5 {fn : Func} {q : Tmp} (h : fn.results = #[.cell q 104]) {R : Ending → World → Prop} {a : Act} {w : World} (p g : Nat)
  (hd0 : a.defers = []) (hp : a.tmps.getD q undef = .pointer (some ⟨p, 0, none⟩)) (hb : CAt w p (fpC g) 104) (hR : R (.returned (.agg (fpC g))) w) : bodyPost Tryz.prog fn R .ret a w := by
 refine ⟨hd0, .agg (fpC g), ?_, hR⟩
 have hl := run_loadVar_row (P := Tryz.prog) w p 104 104 (fpC g) (0, 0) _ hb underP5 rfl sizeP5
 simp only [results, h]
 simp only [Array.getD_eq_getD_getElem?] at hp
 simp [hp, asAddr, hl]
set_option linter.unusedVariables false in
set_option maxRecDepth 100000 in
set_option maxHeartbeats 4000000 in
theorem fields_any (g : Nat) (w : World) : Calls Tryz.prog 47 #[ptr g] w fun e w' => e = .returned (.agg (fpC g)) ∧ Below w.heap.size w w' := by
 go_enter Tryz.func47, Tryz.ntmps47
 go_upto_region 1 with ((with_reducible refine wpList_allocP5 rfl rfl ?_); intro w1 q hz hb hq; have HZ := hid hz; have HB := hid hb; have HQ := hid hq; clear hz hb hq)
 have HDW := hid (below_drew w1)
 refine wp_region_held_drew (S := (fun _ => True)) (by kernel_rfl) trivial (fun hHeld => ?_)
 have HZ2 := hid (HZ.out.below HDW.out)
 have HB2 := hid (below_on HB.out HDW.out)
 generalize w1.drew = w2 at *
 refine wpAnyH_take (i := 0) (oi := ⟨some 3, .move (.tmp 0), _, _, _, none⟩) (v := ptr g) rfl (by kernel_rfl) (by kernel_rfl) (by kernel_rfl) (fun _ _ _ h => h) (Or.inl ⟨by kernel_rfl, by intro W hW; go_simp⟩) hHeld ?_
 refine wpAnyH_take (i := 1) (oi := ⟨some 4, .nilCheck (.tmp 3), _, _, _, none⟩) (v := ptr g) rfl (by kernel_rfl) (by kernel_rfl) (by kernel_rfl) (fun _ _ _ h => h) (Or.inl ⟨by kernel_rfl, by intro W hW; go_simp⟩) hHeld ?_
 refine wpAnyH_take (i := 2) (oi := ⟨some 5, .fieldAddr 74 (.tmp 4) 0, _, _, _, none⟩) (v := fpA g 0) rfl (by kernel_rfl) (by kernel_rfl) (by kernel_rfl) (fun _ _ _ h => h) (Or.inl ⟨by kernel_rfl, by intro W hW; go_simp⟩) hHeld ?_
 refine wpAnyH_take (i := 3) (oi := ⟨some 6, .move (.tmp 0), _, _, _, none⟩) (v := ptr g) rfl (by kernel_rfl) (by kernel_rfl) (by kernel_rfl) (fun _ _ _ h => h) (Or.inl ⟨by kernel_rfl, by intro W hW; go_simp⟩) hHeld ?_
 refine wpAnyH_take (i := 4) (oi := ⟨some 7, .nilCheck (.tmp 6), _, _, _, none⟩) (v := ptr g) rfl (by kernel_rfl) (by kernel_rfl) (by kernel_rfl) (fun _ _ _ h => h) (Or.inl ⟨by kernel_rfl, by intro W hW; go_simp⟩) hHeld ?_
 refine wpAnyH_take (i := 5) (oi := ⟨some 8, .fieldAddr 74 (.tmp 7) 1, _, _, _, none⟩) (v := fpA g 1) rfl (by kernel_rfl) (by kernel_rfl) (by kernel_rfl) (fun _ _ _ h => h) (Or.inl ⟨by kernel_rfl, by intro W hW; go_simp⟩) hHeld ?_
 refine wpAnyH_take (i := 6) (oi := ⟨some 9, .move (.tmp 0), _, _, _, none⟩) (v := ptr g) rfl (by kernel_rfl) (by kernel_rfl) (by kernel_rfl) (fun _ _ _ h => h) (Or.inl ⟨by kernel_rfl, by intro W hW; go_simp⟩) hHeld ?_
 refine wpAnyH_take (i := 7) (oi := ⟨some 10, .nilCheck (.tmp 9), _, _, _, none⟩) (v := ptr g) rfl (by kernel_rfl) (by kernel_rfl) (by kernel_rfl) (fun _ _ _ h => h) (Or.inl ⟨by kernel_rfl, by intro W hW; go_simp⟩) hHeld ?_
 refine wpAnyH_take (i := 8) (oi := ⟨some 11, .fieldAddr 74 (.tmp 10) 2, _, _, _, none⟩) (v := fpA g 2) rfl (by kernel_rfl) (by kernel_rfl) (by kernel_rfl) (fun _ _ _ h => h) (Or.inl ⟨by kernel_rfl, by intro W hW; go_simp⟩) hHeld ?_
 refine wpAnyH_take (i := 9) (oi := ⟨some 12, .move (.tmp 0), _, _, _, none⟩) (v := ptr g) rfl (by kernel_rfl) (by kernel_rfl) (by kernel_rfl) (fun _ _ _ h => h) (Or.inl ⟨by kernel_rfl, by intro W hW; go_simp⟩) hHeld ?_
 refine wpAnyH_take (i := 10) (oi := ⟨some 13, .nilCheck (.tmp 12), _, _, _, none⟩) (v := ptr g) rfl (by kernel_rfl) (by kernel_rfl) (by kernel_rfl) (fun _ _ _ h => h) (Or.inl ⟨by kernel_rfl, by intro W hW; go_simp⟩) hHeld ?_
 refine wpAnyH_take (i := 11) (oi := ⟨some 14, .fieldAddr 74 (.tmp 13) 3, _, _, _, none⟩) (v := fpA g 3) rfl (by kernel_rfl) (by kernel_rfl) (by kernel_rfl) (fun _ _ _ h => h) (Or.inl ⟨by kernel_rfl, by intro W hW; go_simp⟩) hHeld ?_
 refine wpAnyH_take (i := 12) (oi := ⟨some 15, .move (.tmp 0), _, _, _, none⟩) (v := ptr g) rfl (by kernel_rfl) (by kernel_rfl) (by kernel_rfl) (fun _ _ _ h => h) (Or.inl ⟨by kernel_rfl, by intro W hW; go_simp⟩) hHeld ?_
 refine wpAnyH_take (i := 13) (oi := ⟨some 16, .nilCheck (.tmp 15), _, _, _, none⟩) (v := ptr g) rfl (by kernel_rfl) (by kernel_rfl) (by kernel_rfl) (fun _ _ _ h => h) (Or.inl ⟨by kernel_rfl, by intro W hW; go_simp⟩) hHeld ?_
 refine wpAnyH_take (i := 14) (oi := ⟨some 17, .fieldAddr 74 (.tmp 16) 4, _, _, _, none⟩) (v := fpA g 4) rfl (by kernel_rfl) (by kernel_rfl) (by kernel_rfl) (fun _ _ _ h => h) (Or.inl ⟨by kernel_rfl, by intro W hW; go_simp⟩) hHeld ?_
 refine wpAnyH_take (i := 15) (oi := ⟨some 18, .build 104 #[(0, .tmp 5), (1, .tmp 8), (2, .tmp 11), (3, .tmp 14), (4, .tmp 17)], _, _, _, none⟩) (v := .agg (fpC g)) rfl (by kernel_rfl) (by kernel_rfl) (by kernel_rfl) (fun _ _ _ h => h) (Or.inl ⟨by kernel_rfl, fun W hW => exec_buildP _ _ rfl (fpC g) (by kernel_rfl)⟩) hHeld ?_
 refine wpAnyH_ready (rs := [16]) (by kernel_rfl) (by simp) ?_
 refine AllReadyH.cons rfl (fun K hK => ?_) AllReadyH.nil
 with_reducible refine step_storeP5 ?_ ?_ (.tmp 2) (.tmp 18) ?_ q ?_ (g := g) ?_ HZ2.out ?_
 ·exact rfl
 ·exact rfl
 ·exact rfl
 ·kernel_rfl
 ·kernel_rfl
 intro w3 h3 o3
 have HB3 := hid (below_tr HB2.out (o3.below HB2.out.size (fun i e => by have := HQ.out; omega)))
 refine hK _ _ trivial (fun hHeld => ?_)
 clear hK K
 refine wpAnyH_done (by kernel_rfl) ?_ _
 simp only [Act.put, List.setIfInBounds_toArray, List.set_cons_zero, List.set_cons_succ]
 go_wp2
 refine ret_rowP5 rfl q g rfl rfl h3 ?_
 exact ⟨rfl, HB3.out⟩
end Go.Proofs.YtdohmokhfajjpaaGreatDoor

/- Package format's Read. (Written by tools/gen_Gd15.py.) -/
namespace Go.Proofs.YtdohmokhfajjpaaGreatDoor
open Go Go.RowKit

abbrev c3f : Array Value := #[.int .u8 83, .int .u8 70, .int .u8 49]
theorem signF_bl (w : World) (fz : Nat × Nat) : BL (w.alloc (.cells c3f 5 fz)) (some ⟨w.heap.size, 0, none⟩) [83, 70, 49] := Or.inr ⟨_, 0, rfl, fun j hj => by
 have h := heap_alloc_new w (.cells c3f 5 fz)
 simp only [World.cell?, h]
 match j, hj with
 | 0, _ | 1, _ | 2, _ => rfl⟩
theorem rdFe_pre {L : List Nat} (h : L.length ≠ 40 ∨ L.take 3 ≠ [83, 70, 49]) : rdFe L = 4 := by unfold rdFe; rw [if_pos h]
theorem rdFe_dig {L : List Nat} (h : L.length = 40) (h2 : L.take 3 = [83, 70, 49]) (h3 : dig (L.take 8) ≠ L.drop 8) : rdFe L = 14 := by unfold rdFe; rw [if_neg (by rintro (k | k); exact k h; exact k h2), if_pos h3]
theorem rdFe_end {L : List Nat} (h : L.length = 40) (h2 : L.take 3 = [83, 70, 49]) (h3 : dig (L.take 8) = L.drop 8) : rdFe L = if okFm (fmG L) = true then 0 else 4 := by unfold rdFe; rw [if_neg (by rintro (k | k); exact k h; exact k h2), if_neg (by rw [h3]; simp)]
theorem rdFv_bad {L : List Nat} (h : rdFe L ≠ 0) : rdFv L = zF := by unfold rdFv; rw [if_neg h]
set_option linter.unusedVariables false in
set_option maxRecDepth 100000 in
set_option maxHeartbeats 4000000 in
theorem fread14_len (po : Option Addr) (c : Nat) (L : List Nat) (w : World) (hn : L.length ≤ 100000) (hl : L.length ≠ 40) : Calls Tryz.prog 32 #[.slice po L.length c] w (RdFm w L) := by
 have HE : Hid (∀ W, Below w.heap.size w W → RdFm w L (.returned (.tuple #[.agg zF.cs, .int .i64 4])) W) := hid (fun W hb => by
  have e := rdFe_pre (.inl hl)
  exact ⟨by rw [rdFv_bad (by rw [e]; decide), e]; rfl, hb⟩)
 have hln : ((L.length : Int) != 40) = true := bne_iff_ne.2 (by omega)
 generalize RdFm w L = PP at *
 generalize L.length = n at *
 clear hl
 go_enter Tryz.func32, Tryz.ntmps32
 go_wp2_with (first
  | ((with_reducible refine wpList_allocF rfl rfl ?_); intro w2 g2 hz2 hb2 hg2; have HZ2 := hid hz2; have HB2 := hid hb2; have HG2 := hid hg2; clear hz2 hb2 hg2)
  | ((with_reducible refine wpList_build_want 74 _ rfl ?_ zF.cs ?_ ?_); exact rfl; exact builtZF)
  | ((with_reducible refine wpList_storeF rfl rfl _ _ rfl g2 ?_ (f := zF) ?_ HZ2.out ?_); exact rfl; exact rfl; intro w7 h7 o7; have H7 := hid h7; have HB7 := hid (below_tr HB2.out (o7.below HB2.out.size (fun i e => by have := HG2.out; omega))); clear h7 o7))
 refine ret_rowF2 rfl g2 rfl rfl rfl H7.out ?_
 exact HE.out _ HB7.out
set_option linter.unusedVariables false in
set_option maxRecDepth 100000 in
set_option maxHeartbeats 4000000 in
theorem fread14_pre (b o c : Nat) (L : List Nat) (w : World) (h : BL w (some ⟨b, o, none⟩) L) (hl : L.length = 40) (hc : 40 ≤ c) (h8 : ∀ z ∈ L, z < 256) (hq : L.take 3 ≠ [83, 70, 49]) : Calls Tryz.prog 32 #[.slice (some ⟨b, o, none⟩) 40 c] w (RdFm w L) := by
 have HE : Hid (∀ W, Below w.heap.size w W → RdFm w L (.returned (.tuple #[.agg zF.cs, .int .i64 4])) W) := hid (fun W hb => by
  have e := rdFe_pre (.inr hq)
  exact ⟨by rw [rdFv_bad (by rw [e]; decide), e]; rfl, hb⟩)
 have HP : Hid (∀ W, Below w.heap.size w W → Calls Tryz.prog 46 #[.slice (some ⟨b, o, none⟩) 40 c, .slice (some ⟨W.heap.size, 0, none⟩) 3 3] (W.alloc (.cells c3f 5 (3, 4))) fun e w' => e = .returned (.bool false) ∧ w' = W.alloc (.cells c3f 5 (3, 4))) := hid (fun W hb => by
  have hP := prefix_any (some ⟨b, o, none⟩) (some ⟨W.heap.size, 0, none⟩) c 3 L [83, 70, 49] (W.alloc (.cells c3f 5 (3, 4))) ((h.below hb).below (below_al _ _)) (signF_bl W (3, 4)) h8 (by decide) (by rw [hl]; decide) (by rw [hl]; exact hc)
  rw [hl, show ([83, 70, 49] : List Nat).length = 3 from rfl, decide_eq_false hq] at hP
  exact hP)
 have hcv := fun (w : World) (C : Array Value) (n c : Nat) => Go.Lib.run_convert_bytes_const (P := Tryz.prog) w 22 5 C n c Tryz.underlying22 under5'
 generalize RdFm w L = PP at *
 clear h hl h8 hq
 go_enter Tryz.func32, Tryz.ntmps32
 go_wp2_with (first
  | ((with_reducible refine wpList_allocF rfl rfl ?_); intro w2 g2 hz2 hb2 hg2; have HZ2 := hid hz2; have HB2 := hid hb2; have HG2 := hid hg2; have HP2 := hid (HP.out _ hb2); have HZ3 := hid (hz2.below (below_al w2 (.cells c3f 5 (3, 4)))); have HB3 := hid (below_on hb2 (below_al w2 (.cells c3f 5 (3, 4)))); clear hz2 hb2 hg2)
  | (go_at_call 46; refine HP2.out.mono ?_; rintro e w1 ⟨rfl, hw1⟩; have hw2 := hw1.symm; subst hw2)
  | ((with_reducible refine wpList_build_want 74 _ rfl ?_ zF.cs ?_ ?_); exact rfl; exact builtZF)
  | ((with_reducible refine wpList_storeF rfl rfl _ _ rfl g2 ?_ (f := zF) ?_ HZ3.out ?_); exact rfl; exact rfl; intro w7 h7 o7; have H7 := hid h7; have HB7 := hid (below_tr HB3.out (o7.below HB3.out.size (fun i e => by have := HG2.out; omega))); clear h7 o7))
 refine ret_rowF2 rfl g2 rfl rfl rfl H7.out ?_
 exact HE.out _ HB7.out
/-- A format of whose numbers the first i are read. -/
def fmP (L : List Nat) (i : Nat) : FmV := ⟨if 0 < i then (L.getD 3 0 : Nat) else 0, if 1 < i then (L.getD 4 0 : Nat) else 0, if 2 < i then (L.getD 5 0 : Nat) else 0, if 3 < i then (L.getD 6 0 : Nat) else 0, if 4 < i then (L.getD 7 0 : Nat) else 0⟩
theorem fmP_set (L : List Nat) : ∀ i, i < 5 → (fmP L i).cs.setIfInBounds i (.int .i64 (L.getD (3 + i) 0 : Nat)) = (fmP L (i + 1)).cs
 | 0, _ | 1, _ | 2, _ | 3, _ | 4, _ => rfl
 | n + 5, h => by omega
/-- What Read carries through its loop. -/
structure RfI (w : World) (g2 g6 : Nat) (L : List Nat) (i : Nat) (W : World) : Prop where
 be : Below w.heap.size w W
 g2l : w.heap.size ≤ g2
 g6l : w.heap.size ≤ g6
 ne : g2 ≠ g6
 c2 : CAt W g2 zF.cs 74
 c6 : CAt W g6 (fmP L i).cs 74
theorem RfI.below {w W W' : World} {g2 g6 : Nat} {L : List Nat} {i : Nat} (h : RfI w g2 g6 L i W) (hb : Below W.heap.size W W') : RfI w g2 g6 L i W' := ⟨below_on h.be hb, h.g2l, h.g6l, h.ne, h.c2.below hb, h.c6.below hb⟩
theorem RfI.next {w W : World} {g2 g6 : Nat} {L : List Nat} {i : Nat} (h : RfI w g2 g6 L i W) (hi : i < 5) : RfI w g2 g6 L (i + 1) (W.setCell ⟨g6, i, none⟩ (.int .i64 (L.getD (3 + i) 0 : Nat))) := by
 have ho : Only (fun b => b = g6) W (W.setCell ⟨g6, i, none⟩ (.int .i64 (L.getD (3 + i) 0 : Nat))) := Only.set (S := fun b => b = g6) _ ⟨g6, i, none⟩ _ rfl
 refine ⟨below_tr h.be (ho.below h.be.size (fun j e => by have := h.g6l; omega)), h.g2l, h.g6l, h.ne, h.c2.keep (ho.block g2 h.c2.lt h.ne), ?_⟩
 rw [← fmP_set L i hi]
 exact h.c6.set i _
set_option linter.unusedVariables false in
set_option maxRecDepth 100000 in
set_option maxHeartbeats 8000000 in
theorem fread14_dig (b o c : Nat) (L : List Nat) (w : World) (h : BL w (some ⟨b, o, none⟩) L) (hl : L.length = 40) (hc : 40 ≤ c) (h8 : ∀ z ∈ L, z < 256) (hq : L.take 3 = [83, 70, 49]) : Calls Tryz.prog 32 #[.slice (some ⟨b, o, none⟩) 40 c] w (RdFm w L) := by
 have HP : Hid (∀ W, Below w.heap.size w W → Calls Tryz.prog 46 #[.slice (some ⟨b, o, none⟩) 40 c, .slice (some ⟨W.heap.size, 0, none⟩) 3 3] (W.alloc (.cells c3f 5 (3, 4))) fun e w' => e = .returned (.bool true) ∧ w' = W.alloc (.cells c3f 5 (3, 4))) := hid (fun W hb => by
  have hP := prefix_any (some ⟨b, o, none⟩) (some ⟨W.heap.size, 0, none⟩) c 3 L [83, 70, 49] (W.alloc (.cells c3f 5 (3, 4))) ((h.below hb).below (below_al _ _)) (signF_bl W (3, 4)) h8 (by decide) (by rw [hl]; decide) (by rw [hl]; exact hc)
  rw [hl, show ([83, 70, 49] : List Nat).length = 3 from rfl, decide_eq_true hq] at hP
  exact hP)
 have hs1 := run_head8n (some ⟨b, o, none⟩) 40 c 8 (by omega)
 have hs2 : ∀ w, (Instr.slice 22 (.slice (some ⟨b, o, none⟩) 40 c) (some (.int .i64 8)) none none).run Tryz.prog w = .ok (.slice (some ⟨b, o + 8, none⟩) 32 (c - 8)) w := fun w => run_from8s b o 40 c 8 (by omega) (by omega) w
 have hsd := run_dig
 have hcv := fun (w : World) (C : Array Value) (n c : Nat) => Go.Lib.run_convert_bytes_const (P := Tryz.prog) w 22 5 C n c Tryz.underlying22 under5'
 obtain ⟨D, hD⟩ : ∃ D, dig (L.take 8) = D := ⟨_, rfl⟩
 have hDl : D.length = 32 := by rw [← hD]; exact dig_len _
 have hD8 : ∀ z ∈ D, z < 256 := by rw [← hD]; exact dig_lt _
 have h32 : (L.drop 8).length = 32 := by rw [List.length_drop]; omega
 have HSUM : Hid (∀ W, Below w.heap.size w W → Calls Tryz.prog 22 #[.slice (some ⟨b, o, none⟩) 8 c] W fun e w' => e = .returned (.agg (sumC D)) ∧ Below W.heap.size W w') := hid (fun W hW => by
  have := dsum_any (some ⟨b, o, none⟩) c (L.take 8) W (by rw [len_take (by omega)]; omega) (by rw [len_take (by omega)]; omega) ((h.below hW).take 8) (fun z hz => h8 z (List.mem_of_mem_take hz))
  rw [len_take (by omega), hD] at this
  exact this)
 have HEQ : Hid (∀ W g, Below w.heap.size w W → CAt W g (sumC D) 41 → Calls Tryz.prog 39 #[.slice (some ⟨g, 0, none⟩) 32 32, .slice (some ⟨b, o + 8, none⟩) 32 (c - 8)] W fun e w' => e = .returned (.bool (decide (D = L.drop 8))) ∧ w' = W) := hid (fun W g hW hg => by
  have := equalB_any (some ⟨g, 0, none⟩) (some ⟨b, o + 8, none⟩) 32 (c - 8) D (L.drop 8) W hg.bl ((h.below hW).drop 8) hD8 (fun z hz => h8 z (List.mem_of_mem_drop hz))
  rw [hDl, h32] at this
  exact this)
 have HC8 : Hid (∀ W, Below w.heap.size w W → ∀ i, i < 5 → W.cell? ⟨b, o + (3 + i), none⟩ = some (.int .u8 (L.getD (3 + i) 0 : Nat))) := hid (fun W hW i hi => (h.below hW).c8 (by omega))
 have HLT : Hid (∀ i, i < 5 → L.getD (3 + i) 0 < 256) := hid (fun i hi => h8 _ (by rw [List.getD_eq_getElem?_getD, List.getElem?_eq_getElem (by omega)]; exact List.getElem_mem _))
 have T1 : Hid True := hid trivial
 by_cases hd : D = L.drop 8
 ·rw [decide_eq_true hd] at HEQ
  have HCK : Hid (∀ W, Calls Tryz.prog 48 #[.agg (fmG L).cs] W fun e w' => e = .returned (.int .i64 (erFm (fmG L) : Int)) ∧ Below W.heap.size W w') := hid (fun W => fcheck14_any (fmG L) W (by
   have a := HLT.out
   have a0 := a 0 (by omega); have a1 := a 1 (by omega); have a2 := a 2 (by omega); have a3 := a 3 (by omega); have a4 := a 4 (by omega)
   simp only [Nat.reduceAdd] at a0 a1 a2 a3 a4
   unfold fmG FmV.wf inI
   dsimp only
   omega))
  have hend := rdFe_end hl hq (by rw [hD]; exact hd)
  cases hok : okFm (fmG L) with
  | true =>
   rw [show erFm (fmG L) = 0 by unfold erFm; rw [hok]; rfl] at HCK
   have HE : Hid (∀ W, Below w.heap.size w W → RdFm w L (.returned (.tuple #[.agg (fmG L).cs, .int .i64 0])) W) := hid (fun W hb => by
    have e : rdFe L = 0 := by rw [hend, if_pos hok]
    exact ⟨by rw [e, show rdFv L = fmG L by unfold rdFv; rw [if_pos e]]; rfl, hb⟩)
   generalize RdFm w L = PP at *
   clear h hl h8 hq hd hok hend
   have T2 : Hid True := hid trivial
   go_enter Tryz.func32, Tryz.ntmps32
   go_upto_region 5 with (first
    | ((with_reducible refine wpList_allocF rfl rfl ?_); intro w2 g2 hz2 hb2 hg2; have HP2 := hid (HP.out _ hb2); have HZ3 := hid (hz2.below (below_al w2 (.cells c3f 5 (3, 4)))); have HB3 := hid (below_on hb2 (below_al w2 (.cells c3f 5 (3, 4)))); have HG2 := hid hg2; clear hz2 hb2 hg2)
    | (go_at_call 46; refine HP2.out.mono ?_; rintro e w1 ⟨rfl, hw1⟩; have hw2 := hw1.symm; subst hw2)
    | (go_at_call 22; refine (HSUM.out _ HB3.out).mono ?_; rintro e w4 ⟨rfl, hb4⟩; have HB4 := hid (below_on HB3.out hb4); have HZ4 := hid (HZ3.out.below hb4); clear hb4)
    | ((with_reducible refine wpList_allocD rfl rfl ?_); intro w5 g5 hz5 hb5 hg5; have HZ5 := hid hz5; have HB5 := hid (below_on HB4.out hb5); have HZ25 := hid (HZ4.out.below hb5); have HG5 := hid (show w.heap.size ≤ g5 ∧ g2 < g5 by have := HB4.out.size; have := HZ4.out.lt; omega); clear hz5 hb5 hg5)
    | ((with_reducible refine wpList_storeD rfl rfl _ _ rfl g5 ?_ (m := zeroD) (n := D) ?_ ?_ hDl HZ5.out ?_); exact rfl; exact rfl; exact rfl; intro w6 h6 o6; have HB6 := hid (below_tr HB5.out (o6.below HB5.out.size (fun i e => by have := HG5.out; omega))); have HC6 := hid h6; have HZ6 := hid (HZ25.out.keep (o6.block g2 HZ25.out.lt (by have := HG5.out; omega))); clear h6 o6 HZ5))
   simp only [Act.put, List.setIfInBounds_toArray, List.set_cons_zero, List.set_cons_succ]
   have HEQ2 := hid (fun k => HEQ.out (w6.drewN k) g5 (below_on HB6.out (below_drewN w6 k)) HC6.out)
   have HB7 := hid (fun k => below_on HB6.out (below_drewN w6 k))
   have HZ7 := hid (fun k => HZ6.out.below (below_drewN w6 k))
   clear HEQ HSUM HP HP2
   go_quiet ((go_at_call 39; refine Calls.quiet_of_same (HEQ2.out _)))
   go_wp2_with (first
    | (clear T1; (with_reducible refine wpList_allocF rfl rfl ?_); intro wa g6 hza hba hga; have HIA : Hid (RfI w g2 g6 L 0 wa) := hid ⟨below_on (HB7.out _) hba, by have := HG2.out; omega, by rw [← hga]; exact (HB7.out _).size, Nat.ne_of_lt (by rw [← hga]; exact (HZ7.out _).lt), (HZ7.out _).below hba, hza⟩; clear hza hba hga)
    | (go_at_call 47; refine (fields_any g6 _).mono ?_; rintro e wb ⟨rfl, hbb⟩; have HIB := hid (HIA.out.below hbb); clear hbb))
   clear HIA HZ7 HB7 HEQ2
   go_loopg [7, 8, 31] 5 (fun gg _ _ v wr => ∃ i : Nat, i ≤ 5 ∧ 5 - i ≤ gg ∧ v = .int .i64 (i : Int) ∧ RfI w g2 g6 L i wr)
   case atStart => exact ⟨0, by omega, by omega, rfl, HIB.out⟩
   case round =>
    clear HIB
    obtain ⟨i, hi, hg, rfl, hI⟩ := hrel
    rcases (show i = 0 ∨ i = 1 ∨ i = 2 ∨ i = 3 ∨ i = 4 ∨ i = 5 by omega) with rfl | rfl | rfl | rfl | rfl | rfl
    ·have hx : ∀ w, (Instr.index 104 (.agg (fpC g6)) (.int .i64 0)).run Tryz.prog w = .ok (fpA g6 0) w := fun w => by kernel_rfl
     have z0 := HC8.out wr hI.be 0 (by omega)
     have hc8 : (1 : Int) < (c : Int) := by omega
     have hlt := HLT.out 0 (by omega)
     have hw : IntKind.i64.wrap (L.getD (3 + 0) 0 : Nat) = (L.getD (3 + 0) 0 : Nat) := IntWalk.i64_in _ ⟨by omega, by omega⟩
     have HN := hid (hI.next (by omega))
     have c6 := hI.c6.cell 0
     have f6 := hI.c6.free 0
     clear hI hlt
     generalize L.getD (3 + 0) 0 = z at *
     go_wp2
     go_roundg 4
     case measure => omega
     case rel => exact ⟨1, by omega, by omega, rfl, HN.out⟩
    ·have hx : ∀ w, (Instr.index 104 (.agg (fpC g6)) (.int .i64 1)).run Tryz.prog w = .ok (fpA g6 1) w := fun w => by kernel_rfl
     have z0 := HC8.out wr hI.be 1 (by omega)
     have hc8 : (2 : Int) < (c : Int) := by omega
     have hlt := HLT.out 1 (by omega)
     have hw : IntKind.i64.wrap (L.getD (3 + 1) 0 : Nat) = (L.getD (3 + 1) 0 : Nat) := IntWalk.i64_in _ ⟨by omega, by omega⟩
     have HN := hid (hI.next (by omega))
     have c6 := hI.c6.cell 1
     have f6 := hI.c6.free 1
     clear hI hlt
     generalize L.getD (3 + 1) 0 = z at *
     go_wp2
     go_roundg 3
     case measure => omega
     case rel => exact ⟨2, by omega, by omega, rfl, HN.out⟩
    ·have hx : ∀ w, (Instr.index 104 (.agg (fpC g6)) (.int .i64 2)).run Tryz.prog w = .ok (fpA g6 2) w := fun w => by kernel_rfl
     have z0 := HC8.out wr hI.be 2 (by omega)
     have hc8 : (3 : Int) < (c : Int) := by omega
     have hlt := HLT.out 2 (by omega)
     have hw : IntKind.i64.wrap (L.getD (3 + 2) 0 : Nat) = (L.getD (3 + 2) 0 : Nat) := IntWalk.i64_in _ ⟨by omega, by omega⟩
     have HN := hid (hI.next (by omega))
     have c6 := hI.c6.cell 2
     have f6 := hI.c6.free 2
     clear hI hlt
     generalize L.getD (3 + 2) 0 = z at *
     go_wp2
     go_roundg 2
     case measure => omega
     case rel => exact ⟨3, by omega, by omega, rfl, HN.out⟩
    ·have hx : ∀ w, (Instr.index 104 (.agg (fpC g6)) (.int .i64 3)).run Tryz.prog w = .ok (fpA g6 3) w := fun w => by kernel_rfl
     have z0 := HC8.out wr hI.be 3 (by omega)
     have hc8 : (4 : Int) < (c : Int) := by omega
     have hlt := HLT.out 3 (by omega)
     have hw : IntKind.i64.wrap (L.getD (3 + 3) 0 : Nat) = (L.getD (3 + 3) 0 : Nat) := IntWalk.i64_in _ ⟨by omega, by omega⟩
     have HN := hid (hI.next (by omega))
     have c6 := hI.c6.cell 3
     have f6 := hI.c6.free 3
     clear hI hlt
     generalize L.getD (3 + 3) 0 = z at *
     go_wp2
     go_roundg 1
     case measure => omega
     case rel => exact ⟨4, by omega, by omega, rfl, HN.out⟩
    ·have hx : ∀ w, (Instr.index 104 (.agg (fpC g6)) (.int .i64 4)).run Tryz.prog w = .ok (fpA g6 4) w := fun w => by kernel_rfl
     have z0 := HC8.out wr hI.be 4 (by omega)
     have hc8 : (5 : Int) < (c : Int) := by omega
     have hlt := HLT.out 4 (by omega)
     have hw : IntKind.i64.wrap (L.getD (3 + 4) 0 : Nat) = (L.getD (3 + 4) 0 : Nat) := IntWalk.i64_in _ ⟨by omega, by omega⟩
     have HN := hid (hI.next (by omega))
     have c6 := hI.c6.cell 4
     have f6 := hI.c6.free 4
     clear hI hlt
     generalize L.getD (3 + 4) 0 = z at *
     go_wp2
     go_roundg 0
     case measure => omega
     case rel => exact ⟨5, by omega, by omega, rfl, HN.out⟩
    ·have HI := hid hI
     have HL5 : Hid (CAt wr g6 (fmG L).cs 74) := hid hI.c6
     clear hI
     go_wp2_with (first
      | (clear T2; (with_reducible refine wpList_loadF rfl _ rfl g6 ?_ HL5.out ?_); exact rfl)
      | (go_at_call 48; refine (HCK.out _).mono ?_; rintro e wd ⟨rfl, hbd⟩; have HID := hid (HI.out.below hbd); have HLD := hid (HL5.out.below hbd); clear hbd)
      | ((with_reducible refine wpList_loadF rfl _ rfl g6 ?_ HLD.out ?_); exact rfl)
      | ((with_reducible refine wpList_storeF rfl rfl _ _ rfl g2 ?_ (f := fmG L) ?_ HID.out.c2 ?_); exact rfl; exact rfl; intro w8 h8 o8; have H8 := hid h8; have HB8 := hid (below_tr HID.out.be (o8.below HID.out.be.size (fun i e => by have := HID.out.g2l; omega))); clear h8 o8))
     refine ret_rowF2 rfl g2 rfl rfl rfl H8.out ?_
     exact HE.out _ HB8.out
  | false =>
   rw [show erFm (fmG L) = 2 by unfold erFm; rw [hok]; rfl] at HCK
   have HE : Hid (∀ W, Below w.heap.size w W → RdFm w L (.returned (.tuple #[.agg zF.cs, .int .i64 4])) W) := hid (fun W hb => by
    have e : rdFe L = 4 := by rw [hend, if_neg (by rw [hok]; decide)]
    exact ⟨by rw [e, rdFv_bad (by rw [e]; decide)]; rfl, hb⟩)
   generalize RdFm w L = PP at *
   clear h hl h8 hq hd hok hend
   have T2 : Hid True := hid trivial
   go_enter Tryz.func32, Tryz.ntmps32
   go_upto_region 5 with (first
    | ((with_reducible refine wpList_allocF rfl rfl ?_); intro w2 g2 hz2 hb2 hg2; have HP2 := hid (HP.out _ hb2); have HZ3 := hid (hz2.below (below_al w2 (.cells c3f 5 (3, 4)))); have HB3 := hid (below_on hb2 (below_al w2 (.cells c3f 5 (3, 4)))); have HG2 := hid hg2; clear hz2 hb2 hg2)
    | (go_at_call 46; refine HP2.out.mono ?_; rintro e w1 ⟨rfl, hw1⟩; have hw2 := hw1.symm; subst hw2)
    | (go_at_call 22; refine (HSUM.out _ HB3.out).mono ?_; rintro e w4 ⟨rfl, hb4⟩; have HB4 := hid (below_on HB3.out hb4); have HZ4 := hid (HZ3.out.below hb4); clear hb4)
    | ((with_reducible refine wpList_allocD rfl rfl ?_); intro w5 g5 hz5 hb5 hg5; have HZ5 := hid hz5; have HB5 := hid (below_on HB4.out hb5); have HZ25 := hid (HZ4.out.below hb5); have HG5 := hid (show w.heap.size ≤ g5 ∧ g2 < g5 by have := HB4.out.size; have := HZ4.out.lt; omega); clear hz5 hb5 hg5)
    | ((with_reducible refine wpList_storeD rfl rfl _ _ rfl g5 ?_ (m := zeroD) (n := D) ?_ ?_ hDl HZ5.out ?_); exact rfl; exact rfl; exact rfl; intro w6 h6 o6; have HB6 := hid (below_tr HB5.out (o6.below HB5.out.size (fun i e => by have := HG5.out; omega))); have HC6 := hid h6; have HZ6 := hid (HZ25.out.keep (o6.block g2 HZ25.out.lt (by have := HG5.out; omega))); clear h6 o6 HZ5))
   simp only [Act.put, List.setIfInBounds_toArray, List.set_cons_zero, List.set_cons_succ]
   have HEQ2 := hid (fun k => HEQ.out (w6.drewN k) g5 (below_on HB6.out (below_drewN w6 k)) HC6.out)
   have HB7 := hid (fun k => below_on HB6.out (below_drewN w6 k))
   have HZ7 := hid (fun k => HZ6.out.below (below_drewN w6 k))
   clear HEQ HSUM HP HP2
   go_quiet ((go_at_call 39; refine Calls.quiet_of_same (HEQ2.out _)))
   go_wp2_with (first
    | (clear T1; (with_reducible refine wpList_allocF rfl rfl ?_); intro wa g6 hza hba hga; have HIA : Hid (RfI w g2 g6 L 0 wa) := hid ⟨below_on (HB7.out _) hba, by have := HG2.out; omega, by rw [← hga]; exact (HB7.out _).size, Nat.ne_of_lt (by rw [← hga]; exact (HZ7.out _).lt), (HZ7.out _).below hba, hza⟩; clear hza hba hga)
    | (go_at_call 47; refine (fields_any g6 _).mono ?_; rintro e wb ⟨rfl, hbb⟩; have HIB := hid (HIA.out.below hbb); clear hbb))
   clear HIA HZ7 HB7 HEQ2
   go_loopg [7, 8, 31] 5 (fun gg _ _ v wr => ∃ i : Nat, i ≤ 5 ∧ 5 - i ≤ gg ∧ v = .int .i64 (i : Int) ∧ RfI w g2 g6 L i wr)
   case atStart => exact ⟨0, by omega, by omega, rfl, HIB.out⟩
   case round =>
    clear HIB
    obtain ⟨i, hi, hg, rfl, hI⟩ := hrel
    rcases (show i = 0 ∨ i = 1 ∨ i = 2 ∨ i = 3 ∨ i = 4 ∨ i = 5 by omega) with rfl | rfl | rfl | rfl | rfl | rfl
    ·have hx : ∀ w, (Instr.index 104 (.agg (fpC g6)) (.int .i64 0)).run Tryz.prog w = .ok (fpA g6 0) w := fun w => by kernel_rfl
     have z0 := HC8.out wr hI.be 0 (by omega)
     have hc8 : (1 : Int) < (c : Int) := by omega
     have hlt := HLT.out 0 (by omega)
     have hw : IntKind.i64.wrap (L.getD (3 + 0) 0 : Nat) = (L.getD (3 + 0) 0 : Nat) := IntWalk.i64_in _ ⟨by omega, by omega⟩
     have HN := hid (hI.next (by omega))
     have c6 := hI.c6.cell 0
     have f6 := hI.c6.free 0
     clear hI hlt
     generalize L.getD (3 + 0) 0 = z at *
     go_wp2
     go_roundg 4
     case measure => omega
     case rel => exact ⟨1, by omega, by omega, rfl, HN.out⟩
    ·have hx : ∀ w, (Instr.index 104 (.agg (fpC g6)) (.int .i64 1)).run Tryz.prog w = .ok (fpA g6 1) w := fun w => by kernel_rfl
     have z0 := HC8.out wr hI.be 1 (by omega)
     have hc8 : (2 : Int) < (c : Int) := by omega
     have hlt := HLT.out 1 (by omega)
     have hw : IntKind.i64.wrap (L.getD (3 + 1) 0 : Nat) = (L.getD (3 + 1) 0 : Nat) := IntWalk.i64_in _ ⟨by omega, by omega⟩
     have HN := hid (hI.next (by omega))
     have c6 := hI.c6.cell 1
     have f6 := hI.c6.free 1
     clear hI hlt
     generalize L.getD (3 + 1) 0 = z at *
     go_wp2
     go_roundg 3
     case measure => omega
     case rel => exact ⟨2, by omega, by omega, rfl, HN.out⟩
    ·have hx : ∀ w, (Instr.index 104 (.agg (fpC g6)) (.int .i64 2)).run Tryz.prog w = .ok (fpA g6 2) w := fun w => by kernel_rfl
     have z0 := HC8.out wr hI.be 2 (by omega)
     have hc8 : (3 : Int) < (c : Int) := by omega
     have hlt := HLT.out 2 (by omega)
     have hw : IntKind.i64.wrap (L.getD (3 + 2) 0 : Nat) = (L.getD (3 + 2) 0 : Nat) := IntWalk.i64_in _ ⟨by omega, by omega⟩
     have HN := hid (hI.next (by omega))
     have c6 := hI.c6.cell 2
     have f6 := hI.c6.free 2
     clear hI hlt
     generalize L.getD (3 + 2) 0 = z at *
     go_wp2
     go_roundg 2
     case measure => omega
     case rel => exact ⟨3, by omega, by omega, rfl, HN.out⟩
    ·have hx : ∀ w, (Instr.index 104 (.agg (fpC g6)) (.int .i64 3)).run Tryz.prog w = .ok (fpA g6 3) w := fun w => by kernel_rfl
     have z0 := HC8.out wr hI.be 3 (by omega)
     have hc8 : (4 : Int) < (c : Int) := by omega
     have hlt := HLT.out 3 (by omega)
     have hw : IntKind.i64.wrap (L.getD (3 + 3) 0 : Nat) = (L.getD (3 + 3) 0 : Nat) := IntWalk.i64_in _ ⟨by omega, by omega⟩
     have HN := hid (hI.next (by omega))
     have c6 := hI.c6.cell 3
     have f6 := hI.c6.free 3
     clear hI hlt
     generalize L.getD (3 + 3) 0 = z at *
     go_wp2
     go_roundg 1
     case measure => omega
     case rel => exact ⟨4, by omega, by omega, rfl, HN.out⟩
    ·have hx : ∀ w, (Instr.index 104 (.agg (fpC g6)) (.int .i64 4)).run Tryz.prog w = .ok (fpA g6 4) w := fun w => by kernel_rfl
     have z0 := HC8.out wr hI.be 4 (by omega)
     have hc8 : (5 : Int) < (c : Int) := by omega
     have hlt := HLT.out 4 (by omega)
     have hw : IntKind.i64.wrap (L.getD (3 + 4) 0 : Nat) = (L.getD (3 + 4) 0 : Nat) := IntWalk.i64_in _ ⟨by omega, by omega⟩
     have HN := hid (hI.next (by omega))
     have c6 := hI.c6.cell 4
     have f6 := hI.c6.free 4
     clear hI hlt
     generalize L.getD (3 + 4) 0 = z at *
     go_wp2
     go_roundg 0
     case measure => omega
     case rel => exact ⟨5, by omega, by omega, rfl, HN.out⟩
    ·have HI := hid hI
     have HL5 : Hid (CAt wr g6 (fmG L).cs 74) := hid hI.c6
     clear hI
     go_wp2_with (first
      | (clear T2; (with_reducible refine wpList_loadF rfl _ rfl g6 ?_ HL5.out ?_); exact rfl)
      | (go_at_call 48; refine (HCK.out _).mono ?_; rintro e wd ⟨rfl, hbd⟩; have HID := hid (HI.out.below hbd); clear hbd)
      | ((with_reducible refine wpList_build_want 74 _ rfl ?_ zF.cs ?_ ?_); exact rfl; exact builtZF)
      | ((with_reducible refine wpList_storeF rfl rfl _ _ rfl g2 ?_ (f := zF) ?_ HID.out.c2 ?_); exact rfl; exact rfl; intro w8 h8 o8; have H8 := hid h8; have HB8 := hid (below_tr HID.out.be (o8.below HID.out.be.size (fun i e => by have := HID.out.g2l; omega))); clear h8 o8))
     refine ret_rowF2 rfl g2 rfl rfl rfl H8.out ?_
     exact HE.out _ HB8.out
 ·rw [decide_eq_false hd] at HEQ
  have HE : Hid (∀ W, Below w.heap.size w W → RdFm w L (.returned (.tuple #[.agg zF.cs, .int .i64 14])) W) := hid (fun W hb => by
   have e := rdFe_dig hl hq (by rw [hD]; exact hd)
   exact ⟨by rw [rdFv_bad (by rw [e]; decide), e]; rfl, hb⟩)
  generalize RdFm w L = PP at *
  clear h hl h8 hq hd
  go_enter Tryz.func32, Tryz.ntmps32
  go_upto_region 5 with (first
   | ((with_reducible refine wpList_allocF rfl rfl ?_); intro w2 g2 hz2 hb2 hg2; have HP2 := hid (HP.out _ hb2); have HZ3 := hid (hz2.below (below_al w2 (.cells c3f 5 (3, 4)))); have HB3 := hid (below_on hb2 (below_al w2 (.cells c3f 5 (3, 4)))); have HG2 := hid hg2; clear hz2 hb2 hg2)
   | (go_at_call 46; refine HP2.out.mono ?_; rintro e w1 ⟨rfl, hw1⟩; have hw2 := hw1.symm; subst hw2)
   | (go_at_call 22; refine (HSUM.out _ HB3.out).mono ?_; rintro e w4 ⟨rfl, hb4⟩; have HB4 := hid (below_on HB3.out hb4); have HZ4 := hid (HZ3.out.below hb4); clear hb4)
   | ((with_reducible refine wpList_allocD rfl rfl ?_); intro w5 g5 hz5 hb5 hg5; have HZ5 := hid hz5; have HB5 := hid (below_on HB4.out hb5); have HZ25 := hid (HZ4.out.below hb5); have HG5 := hid (show w.heap.size ≤ g5 ∧ g2 < g5 by have := HB4.out.size; have := HZ4.out.lt; omega); clear hz5 hb5 hg5)
   | ((with_reducible refine wpList_storeD rfl rfl _ _ rfl g5 ?_ (m := zeroD) (n := D) ?_ ?_ hDl HZ5.out ?_); exact rfl; exact rfl; exact rfl; intro w6 h6 o6; have HB6 := hid (below_tr HB5.out (o6.below HB5.out.size (fun i e => by have := HG5.out; omega))); have HC6 := hid h6; have HZ6 := hid (HZ25.out.keep (o6.block g2 HZ25.out.lt (by have := HG5.out; omega))); clear h6 o6 HZ5))
  simp only [Act.put, List.setIfInBounds_toArray, List.set_cons_zero, List.set_cons_succ]
  have HEQ2 := hid (fun k => HEQ.out (w6.drewN k) g5 (below_on HB6.out (below_drewN w6 k)) HC6.out)
  have HB7 := hid (fun k => below_on HB6.out (below_drewN w6 k))
  have HZ7 := hid (fun k => HZ6.out.below (below_drewN w6 k))
  clear HEQ HSUM HP HP2
  go_quiet ((go_at_call 39; refine Calls.quiet_of_same (HEQ2.out _)))
  go_wp2_with (first
   | ((with_reducible refine wpList_build_want 74 _ rfl ?_ zF.cs ?_ ?_); exact rfl; exact builtZF)
   | ((with_reducible refine wpList_storeF rfl rfl _ _ rfl g2 ?_ (f := zF) ?_ (HZ7.out _) ?_); exact rfl; exact rfl; intro w8 h8 o8; have H8 := hid h8; have HB8 := hid (below_tr (HB7.out _) (o8.below (HB7.out _).size (fun i e => by have := HG2.out; omega))); clear h8 o8))
  refine ret_rowF2 rfl g2 rfl rfl rfl H8.out ?_
  exact HE.out _ HB8.out
theorem fread14_any (po : Option Addr) (c : Nat) (L : List Nat) (w : World) (h : BL w po L) (hc : L.length ≤ c) (hn : L.length ≤ 100000) (hp : po = none → c = 0) (h8 : ∀ z ∈ L, z < 256) : Calls Tryz.prog 32 #[.slice po L.length c] w (RdFm w L) := by
 by_cases hl : L.length = 40
 ·rcases h with h | ⟨b, o, rfl, h⟩
  ·rw [h] at hl; cases hl
  ·have hB : BL w (some ⟨b, o, none⟩) L := .inr ⟨b, o, rfl, h⟩
   rw [hl] at hc ⊢
   by_cases hq : L.take 3 = [83, 70, 49]
   ·exact fread14_dig b o c L w hB hl hc h8 hq
   ·exact fread14_pre b o c L w hB hl hc h8 hq
 ·exact fread14_len po c L w hn hl
end Go.Proofs.YtdohmokhfajjpaaGreatDoor
