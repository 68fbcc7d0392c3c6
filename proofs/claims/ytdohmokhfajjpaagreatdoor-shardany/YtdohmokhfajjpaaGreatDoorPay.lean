/- Texts laid into one, cut to what is needed: the remark ahead of each part says what is proved there. -/
import Derived.Test.YtdohmokhfajjpaaGreatDoorPax
import Derived.Great.BuildSlice
import Derived.Test.YtdohmokhfajjpaaGreatDoorPan
import Derived.Test.YtdohmokhfajjpaaGreatDoorPaw
import Derived.Lib.SlBytesConst
import Derived.Test.YtdohmokhfajjpaaGreatDoorPab
import Derived.Deep.QuietTactic
import Derived.BigQuiet
/- journal.Find, Newest, Copy. -/
namespace Go.Proofs.YtdohmokhfajjpaaGreatDoor
open Go Go.RowKit

theorem sizeJ : (Tryz.prog.info? 70).map (·.size) = some 2 := by kernel_rfl
theorem underJrn : Tryz.prog.underlying 70 = some (.struct (Tryz.prog.fieldsOf 70)) := by kernel_rfl
theorem zeroJ : (Tryz.prog.info? 70).map (·.zero) = some (some (.agg (jC 0 (.slice none 0 0)))) := by kernel_rfl
theorem jC_size (s : Int) (v : Value) : (jC s v).size = 2 := rfl
theorem wpList_allocJ {ops : Array Oper} {rest : List Oper} {o : Oper} {a : Act} {w : World} {Q : Exit → Act → World → Prop} (hg : o.guard = none) (ho : o.op = .alloc 70)
  (h : ∀ w1 g, CAt w1 g (jC 0 (.slice none 0 0)) 70 → Below w.heap.size w w1 → w.heap.size = g → wpList Tryz.prog ops Q rest (a.put o.dst (ptr g)) w1) : wpList Tryz.prog ops Q (o :: rest) a w := by
 refine wpList_plain hg fun _ hK => ?_
 obtain ⟨i, hq, hz'⟩ := Option.map_eq_some_iff.1 zeroJ
 unfold Oper.wp execOp
 simp only [ho, Instr.alloc, zeroValue, typeInfo, Sem.run_bind, newVar, newRow]
 simp [hq, hz', Value.cells]
 exact hK _ _ (h _ _ (CAt.made _ _ _) (below_al _ _) rfl)
theorem run_storeJ {w : World} {g : Nat} {s0 s : Int} {v0 v : Value} (hv : v.oneCell' = true) (hb : CAt w g (jC s0 v0) 70) : (Instr.storeAt 70 (.pointer (some ⟨g, 0, none⟩)) (.agg (jC s v))).run Tryz.prog w = .ok () (w.setRow g (jC s v)) ∧ CAt (w.setRow g (jC s v)) g (jC s v) 70 := by
 have e := run_storeVar_row (P := Tryz.prog) w g 70 70 (jC s0 v0) (jC s v) hb (by rw [jC_size]; exact sizeJ) rfl (by simp [jC, hv, show (i64 s).oneCell' = true from rfl])
 refine ⟨?_, setRow_heap w g (jC s0 v0) (jC s v) _ _ hb⟩
 simp only [Instr.storeAt, Instr.sureAddr, Sem.run_bind, Sem.run_pure, Result.andThen_ok, e]
theorem wpList_storeJ {ops : Array Oper} {rest : List Oper} {o : Oper} {a : Act} {w : World} {Q : Exit → Act → World → Prop} (hg : o.guard = none) (hdst : o.dst = none) (x y : Operand) (ho : o.op = .store 70 x y) (g : Nat) (hx : a.eval x = ptr g) {s0 s : Int} {v0 v : Value} (hy : a.eval y = .agg (jC s v)) (hv : v.oneCell' = true) (hb : CAt w g (jC s0 v0) 70)
  (h : ∀ w1, CAt w1 g (jC s v) 70 → Only (fun b => b = g) w w1 → wpList Tryz.prog ops Q rest a w1) : wpList Tryz.prog ops Q (o :: rest) a w := by
 refine wpList_plain hg fun _ hK => ?_
 obtain ⟨e1, e2⟩ := run_storeJ (s := s) hv hb
 unfold Oper.wp execOp
 simp only [ho, hx, hy, ptr, Sem.run_bind, e1, Result.andThen_ok, Sem.run_pure]
 refine hK (a.put o.dst undef) _ ?_
 rw [hdst]
 exact h _ e2 (only_setRow _ _ _ rfl)
theorem ret_rowJ2 {fn : Func} {q u : Tmp} (h : fn.results = #[.cell q 70, .tmp u]) {R : Ending → World → Prop} {a : Act} {w : World} (g : Nat) {s : Int} {v x : Value}
  (hd0 : a.defers = []) (hp : a.tmps.getD q undef = .pointer (some ⟨g, 0, none⟩)) (hx : a.tmps.getD u undef = x) (hb : CAt w g (jC s v) 70) (hR : R (.returned (.tuple #[.agg (jC s v), x])) w) : bodyPost Tryz.prog fn R .ret a w := by
 refine ⟨hd0, .tuple #[.agg (jC s v), x], ?_, hR⟩
 have hl := run_loadVar_row (P := Tryz.prog) w g 70 70 (jC s v) (0, 0) _ hb underJrn rfl (by rw [jC_size]; exact sizeJ)
 simp only [results, h]
 simp only [Array.getD_eq_getD_getElem?] at hp hx
 simp [Result.andThen, hp, hx, asAddr, hl]
/-- The parameter's block and the result's. -/
structure F2 (w : World) (g1 g2 : Nat) (s : Int) (v : Value) (W : World) : Prop where
 below : Below w.heap.size w W
 cj : CAt W g1 (jC s v) 70
 cr : RBox W g2 zR
theorem F2.on {w W W' : World} {g1 g2 : Nat} {s : Int} {v : Value} (h : F2 w g1 g2 s v W) (hb : Below W.heap.size W W') : F2 w g1 g2 s v W' := ⟨below_on h.below hb, h.cj.below hb, h.cr.below zR_ok hb⟩
end Go.Proofs.YtdohmokhfajjpaaGreatDoor

/- journal.Newest, Remove. -/
namespace Go.Proofs.YtdohmokhfajjpaaGreatDoor
open Go Go.RowKit

/-- The parameter's block and the result's. -/
structure G2 (w : World) (g1 g2 : Nat) (s : Int) (v : Value) (W : World) : Prop where
 below : Below w.heap.size w W
 cj : CAt W g1 (jC s v) 70
 cr : CAt W g2 (jC 0 (.slice none 0 0)) 70
theorem G2.on {w W W' : World} {g1 g2 : Nat} {s : Int} {v : Value} (h : G2 w g1 g2 s v W) (hb : Below W.heap.size W W') : G2 w g1 g2 s v W' := ⟨below_on h.below hb, h.cj.below hb, h.cr.below hb⟩
theorem builtZJ : Tryz.prog.built 70 [] = some (jC 0 (.slice none 0 0)) := by kernel_rfl
/-- A journal and an error. -/
def JouE (w : World) (s : Int) (rs : List Rc) (e : Ending) (w' : World) : Prop := ∃ v m, e = .returned (.tuple #[.agg (jC s v), i64 0]) ∧ Rs w.heap.size w' v m ∧ rcs m = rs ∧ Below w.heap.size w w'


end Go.Proofs.YtdohmokhfajjpaaGreatDoor

/- A slice literal of one record. -/
namespace Go.Proofs.YtdohmokhfajjpaaGreatDoor
open Go Go.RowKit

theorem fold_zip : ∀ (V : List Value) (k : Nat) (C : Array Value), ((V.zipIdx k).foldl (fun cs (p : Value × Nat) => cs.setIfInBounds p.2 p.1) C).toList = setAll C.toList k V
 | [], k, C => rfl
 | v :: r, k, C => by
  rw [List.zipIdx_cons, List.foldl_cons, fold_zip r (k + 1), setAll, Array.toList_setIfInBounds]
theorem fill_one (C V : Array Value) (hC : C.size = 42) (hV : V.size = 42) : Instr.fill (fun i => some (i * 42, 42)) C [(0, .agg V)] = some V := by
 have h2 : ¬ (0 * 42 + V.size > C.size) := by omega
 simp only [Instr.fill, Value.cells, hV, ne_eq, not_true_eq_false, decide_false, Bool.false_or, decide_eq_true_eq]
 rw [if_neg (by omega)]
 congr 1
 apply Array.toList_inj.1
 rw [← Array.foldl_toList, Array.toList_zipIdx]
 have e := fold_zip V.toList 0 C
 simp only [Nat.zero_mul, Nat.zero_add]
 refine Eq.trans ?_ (e.trans ?_)
 ·rfl
 ·rw [setAll_splice (by simp [hC, hV]), List.take_zero, List.nil_append, Nat.zero_add, List.drop_of_length_le (by simp [hC, hV]), List.append_nil]
theorem run_buildOne (w : World) (r : Rv) (hr : r.ok) : (Instr.buildSlice 68 1 #[(0, .agg r.cs)]).run Tryz.prog w = .ok (.slice (some ⟨w.heap.size, 0, none⟩) 1 1) (w.alloc (.cells r.cs 44)) := by
 obtain ⟨i0, hi0, hz0, hz1, hz2⟩ := info_parts Tryz.infoRec
 refine run_buildSlice w 68 44 1 _ r.cs i0 _ Tryz.underlying68 hi0 hz0 (by rw [hz1]; decide) (by rw [hz1]; decide) ?_
 rw [hz1]
 exact fill_one _ _ (by simp) hr.size
theorem exec_buildOne {a : Act} {o : Oper} {x : Operand} {r : Rv} {W : World} (hr : r.ok) (ho : o.op = .buildSlice 68 1 #[(0, x)]) (hx : a.eval x = .agg r.cs) : (execOp a.eval o).run Tryz.prog W = .ok (.value (.slice (some ⟨W.heap.size, 0, none⟩) 1 1)) (W.alloc (.cells r.cs 44)) := by
 unfold execOp
 have := run_buildOne W r hr
 simp only [ho, List.map_toArray, List.map_cons, List.map_nil, hx, Sem.run_bind, this, Result.andThen_ok, Sem.run_pure]
theorem step_run_val {P : Program} {w : World} {ops : Array Oper} {o : Oper} {a : Act} {K : Act → World → Prop} {Q : Exit → Act → World → Prop} {E : Prop} (hgd : o.guard = none) (v : Value) (w' : World)
  (hr : (execOp a.eval o).run P w = .ok (.value v) w') (h : K (a.put o.dst v) w') : if Region.wanted o (yielded ops a.tmps) = true then Oper.wp P o a w K Q else E := by
 rw [if_pos (by simp [Region.wanted, hgd])]
 unfold Oper.wp
 rw [hr]
 exact h
end Go.Proofs.YtdohmokhfajjpaaGreatDoor

/- journal.Add. -/
namespace Go.Proofs.YtdohmokhfajjpaaGreatDoor
open Go Go.RowKit

/-- The parameters' blocks and the result's. -/
structure A3 (w : World) (g1 g3 g2 : Nat) (s : Int) (v : Value) (r : Rv) (W : World) : Prop where
 below : Below w.heap.size w W
 cj : CAt W g1 (jC s v) 70
 cx : RBox W g3 r
 cr : CAt W g2 (jC 0 (.slice none 0 0)) 70
theorem A3.on {w W W' : World} {g1 g3 g2 : Nat} {s : Int} {v : Value} {r : Rv} (h : A3 w g1 g3 g2 s v r W) (hr : r.ok) (hb : Below W.heap.size W W') : A3 w g1 g3 g2 s v r W' := ⟨below_on h.below hb, h.cj.below hb, h.cx.below hr hb, h.cr.below hb⟩
/-- What Add tells. -/
def AddS (w : World) (j : Nat × Option Jr) (e : Ending) (w' : World) : Prop := match j.2 with
 | none => e = .returned (.tuple #[.agg (jC 0 (.slice none 0 0)), i64 j.1]) ∧ Below w.heap.size w w'
 | some j => JouE w j.seq j.recs e w'
end Go.Proofs.YtdohmokhfajjpaaGreatDoor

/- journal.Bytes. -/
namespace Go.Proofs.YtdohmokhfajjpaaGreatDoor
open Go Go.RowKit

theorem under5' : Tryz.prog.underlying 5 = some (.int .u8) := by kernel_rfl
theorem zeroDg : (Tryz.prog.info? 41).map (·.zero) = some (some (.agg (sumC zeroD))) := by kernel_rfl
theorem wpList_allocD {ops : Array Oper} {rest : List Oper} {o : Oper} {a : Act} {w : World} {Q : Exit → Act → World → Prop} (hg : o.guard = none) (ho : o.op = .alloc 41)
  (h : ∀ w1 g, CAt w1 g (sumC zeroD) 41 → Below w.heap.size w w1 → w.heap.size = g → wpList Tryz.prog ops Q rest (a.put o.dst (ptr g)) w1) : wpList Tryz.prog ops Q (o :: rest) a w := by
 refine wpList_plain hg fun _ hK => ?_
 obtain ⟨i, hq, hz'⟩ := Option.map_eq_some_iff.1 zeroDg
 unfold Oper.wp execOp
 simp only [ho, Instr.alloc, zeroValue, typeInfo, Sem.run_bind, newVar, newRow]
 generalize sumC zeroD = C at h hz'
 simp [hq, hz', Value.cells]
 exact hK _ _ (h _ _ (CAt.made _ _ _) (below_al _ _) rfl)
theorem run_storeD {w : World} {g : Nat} {x y : List Nat} (hx : x.length = 32) (hy : y.length = 32) (hb : CAt w g (sumC x) 41) : (Instr.storeAt 41 (.pointer (some ⟨g, 0, none⟩)) (.agg (sumC y))).run Tryz.prog w = .ok () (w.setRow g (sumC y)) ∧ CAt (w.setRow g (sumC y)) g (sumC y) 41 := by
 have e := run_storeVar_row (P := Tryz.prog) w g 41 41 (sumC x) (sumC y) hb (by rw [sumC_size, hy]; exact sizeD) (by rw [sumC_size, sumC_size, hx, hy]) (by rw [Array.all_eq_true_iff_forall_mem]; intro v hv; unfold sumC at hv; simp only [List.mem_toArray, List.mem_map] at hv; obtain ⟨k, _, rfl⟩ := hv; rfl)
 refine ⟨?_, setRow_heap w g (sumC x) (sumC y) _ _ hb⟩
 simp only [Instr.storeAt, Instr.sureAddr, Sem.run_bind, Sem.run_pure, Result.andThen_ok, e]
theorem wpList_storeD {ops : Array Oper} {rest : List Oper} {o : Oper} {a : Act} {w : World} {Q : Exit → Act → World → Prop} (hg : o.guard = none) (hdst : o.dst = none) (x y : Operand) (ho : o.op = .store 41 x y) (g : Nat) (hx : a.eval x = ptr g) {m n : List Nat} (hy : a.eval y = .agg (sumC n)) (hm : m.length = 32) (hn : n.length = 32) (hb : CAt w g (sumC m) 41)
  (h : ∀ w1, CAt w1 g (sumC n) 41 → Only (fun b => b = g) w w1 → wpList Tryz.prog ops Q rest a w1) : wpList Tryz.prog ops Q (o :: rest) a w := by
 refine wpList_plain hg fun _ hK => ?_
 obtain ⟨e1, e2⟩ := run_storeD hm hn hb
 unfold Oper.wp execOp
 simp only [ho, hx, hy, ptr, Sem.run_bind, e1, Result.andThen_ok, Sem.run_pure]
 refine hK (a.put o.dst undef) _ ?_
 rw [hdst]
 exact h _ e2 (only_setRow _ _ _ rfl)
theorem run_dig (g : Nat) (w : World) : (Instr.sliceAt 41 (.pointer (some ⟨g, 0, none⟩)) none none none).run Tryz.prog w = .ok (.slice (some ⟨g, 0, none⟩) 32 32) w := by kernel_rfl
theorem CAt.bl {w : World} {g : Nat} {x : List Nat} {t : TypeId} (h : CAt w g (sumC x) t) : BL w (some ⟨g, 0, none⟩) x := Or.inr ⟨g, 0, rfl, fun i hi => by rw [Nat.zero_add, h.cell, sumC_get hi]⟩
abbrev c3 : Array Value := #[.int .u8 83, .int .u8 74, .int .u8 49]
theorem c3_cells (w : World) (fz : Nat × Nat) : ∀ j, j < [83, 74, 49].length → (w.alloc (.cells c3 5 fz)).cell? ⟨w.heap.size, j, none⟩ = some (u8 ([83, 74, 49].getD j 0)) := fun j hj => by
 have h := heap_alloc_new w (.cells c3 5 fz)
 simp only [World.cell?, h]
 match j, hj with
 | 0, _ | 1, _ | 2, _ => rfl
theorem rsB_take {l : List Rc} {k : Nat} {x : Rc} (h : l[k]? = some x) : rsB (l.take (k + 1)) = rsB (l.take k) ++ rcB x := by
 have hk := (List.getElem?_eq_some_iff.1 h).1
 have e := (List.getElem?_eq_some_iff.1 h).2
 rw [List.take_succ_eq_append_getElem hk, e]
 simp [rsB]
/-- What stands ahead of the records. -/
def hdJ (s : Int) (n : Nat) : List Nat := [83, 74, 49] ++ ib s ++ nb n
end Go.Proofs.YtdohmokhfajjpaaGreatDoor

/- bytes.Equal, HasPrefix; what looks at a journal's sign and digest. -/
namespace Go.Proofs.YtdohmokhfajjpaaGreatDoor
open Go Go.RowKit

theorem lst_eq_ba {A B : List Nat} (hA : ∀ z ∈ A, z < 256) (hB : ∀ z ∈ B, z < 256) : ((ba A).toList == (ba B).toList) = decide (A = B) := by
 rw [lst_beq, lst_ba hA, lst_ba hB]
theorem equalB_any (po qo : Option Addr) (c d : Nat) (A B : List Nat) (w : World) (hA : BL w po A) (hB : BL w qo B) (a8 : ∀ z ∈ A, z < 256) (b8 : ∀ z ∈ B, z < 256) : Calls Tryz.prog 39 #[.slice po A.length c, .slice qo B.length d] w fun e w' => e = .returned (.bool (decide (A = B))) ∧ w' = w := by
 have h1 := hA.conv c
 have h2 := hB.conv d
 have HE := hid (lst_eq_ba a8 b8)
 generalize ba A = SA at h1 HE
 generalize ba B = SB at h2 HE
 clear hA hB a8 b8
 go_enter Tryz.func39, Tryz.ntmps39
 go_wp2
 go_ret
 exact ⟨by rw [← HE.out]; rfl, rfl⟩
theorem run_head8n (po : Option Addr) (n c h : Nat) (hh : h ≤ c) (w : World) : (Instr.slice 22 (.slice po n c) none (some (.int .i64 (h : Int))) none).run Tryz.prog w = .ok (.slice po h c) w := by
 rw [run_slice_h (P := Tryz.prog) w 22 po n c underE8 .i64 (h : Int) (by omega) (by omega), elem8]
 cases po with
 | none => simp [Result.andThen, sliced]
 | some a =>
  by_cases h0 : c = 0
  ·simp [Result.andThen, sliced, h0]
  ·simp [Result.andThen, sliced, h0, add_zero']
theorem len_take {L : List Nat} {k : Nat} (h : k ≤ L.length) : (L.take k).length = k := by rw [List.length_take]; omega
theorem prefix_any (po qo : Option Addr) (c d : Nat) (A B : List Nat) (w : World) (hA : BL w po A) (hB : BL w qo B) (a8 : ∀ z ∈ A, z < 256) (b8 : ∀ z ∈ B, z < 256) (hl : B.length ≤ A.length) (hc : A.length ≤ c) : Calls Tryz.prog 46 #[.slice po A.length c, .slice qo B.length d] w fun e w' => e = .returned (.bool (decide (A.take B.length = B))) ∧ w' = w := by
 have hs := run_head8n po A.length c B.length (by omega)
 have hE := equalB_any po qo c d (A.take B.length) B w (hA.take B.length) hB (fun z hz => a8 z (List.mem_of_mem_take hz)) b8
 rw [len_take hl] at hE
 generalize decide (A.take B.length = B) = Q at hE
 have HE := hid hE
 have hl' : (B.length : Int) ≤ (A.length : Int) := by omega
 clear hE hA hB a8 b8
 go_enter Tryz.func46, Tryz.ntmps46
 go_wp2_with (go_at_call 39; refine HE.out.mono ?_; rintro e w1 ⟨rfl, hw1⟩; have hw2 := hw1.symm; subst hw2)
 go_ret
 exact ⟨rfl, rfl⟩
/-- What is left of bytes, and what was read of them so far: its cells. -/
def rC (l : Value) (n s : Int) (r : Value) : Array Value := #[l, i64 n, i64 s, r]
structure RdC (w : World) (p : Nat) (po : Option Addr) (L : List Nat) (c : Nat) (n s : Int) (r : Value) : Prop where
 at_ : CAt w p (rC (.slice po L.length c) n s r) 95
 bl : BL w po L
 ap : L ≠ [] → ∀ a, po = some a → a.block ≠ p
 le : L.length ≤ c
 lt : L.length ≤ 100000
 b8 : ∀ z ∈ L, z < 256
section
variable {w : World} {p : Nat} {po : Option Addr} {L : List Nat} {c : Nat} {n s : Int} {r : Value} (h : RdC w p po L c n s r)
include h
theorem RdC.below {w' : World} (hb : Below w.heap.size w w') : RdC w' p po L c n s r := ⟨h.at_.below hb, h.bl.below hb, h.ap, h.le, h.lt, h.b8⟩
theorem RdC.c0 : w.cell? ⟨p, 0, none⟩ = some (.slice po L.length c) := by rw [h.at_.cell]; rfl
theorem RdC.c1 : w.cell? ⟨p, 1, none⟩ = some (i64 n) := by rw [h.at_.cell]; rfl
theorem RdC.c2 : w.cell? ⟨p, 2, none⟩ = some (i64 s) := by rw [h.at_.cell]; rfl
theorem RdC.c3 : w.cell? ⟨p, 3, none⟩ = some r := by rw [h.at_.cell]; rfl
end
theorem sign_bl (w : World) (fz : Nat × Nat) : BL (w.alloc (.cells c3 5 fz)) (some ⟨w.heap.size, 0, none⟩) [83, 74, 49] := Or.inr ⟨_, _, rfl, fun i hi => by rw [Nat.zero_add]; exact c3_cells w fz i hi⟩
set_option maxRecDepth 100000 in
set_option maxHeartbeats 1000000 in
theorem sign_any (p : Nat) (po : Option Addr) (L : List Nat) (c : Nat) (n s : Int) (r : Value) (w : World) (a0 a1 : Addr) (h : RdC w p po L c n s r) (he : Ers w a0 a1) : Calls Tryz.prog 63 #[ptr p] w fun e w' => e = .returned (if L.length < 35 ∨ L.take 3 ≠ [83, 74, 49] then eV a1 else .nilIface) ∧ Below w.heap.size w w' := by
 obtain ⟨R, hR⟩ : ∃ R : Value, (if L.length < 35 ∨ L.take 3 ≠ [83, 74, 49] then eV a1 else .nilIface) = R := ⟨_, rfl⟩
 rw [hR]
 have HRR := hid hR
 clear hR
 have c0 := h.c0
 have HH := hid h
 have HER := hid he
 clear h he
 by_cases hl : L.length < 35
 ·have hl' : (L.length : Int) < 35 := by omega
  have e1 := HER.out.c1
  go_enter Tryz.func63, Tryz.ntmps63
  go_wp2
  go_ret
  exact ⟨by rw [← HRR.out, if_pos (Or.inl hl)]; rfl, Below.refl _ _⟩
 ·have hl' : ¬ (L.length : Int) < 35 := by omega
  have hcv := fun (w : World) (C : Array Value) (n c : Nat) => Go.Lib.run_convert_bytes_const (P := Tryz.prog) w 22 5 C n c Tryz.underlying22 under5'
  have hP := prefix_any po (some ⟨w.heap.size, 0, none⟩) c 3 L [83, 74, 49] (w.alloc (.cells c3 5 (3, 4))) (HH.out.bl.below (below_al _ _)) (sign_bl w (3, 4)) HH.out.b8 (by decide) (by simp only [List.length_cons, List.length_nil]; omega) HH.out.le
  have HP : Hid (Calls Tryz.prog 46 #[.slice po L.length c, .slice (some ⟨w.heap.size, 0, none⟩) 3 3] (w.alloc (.cells c3 5 (3, 4))) fun e w' => e = .returned (.bool (decide (L.take 3 = [83, 74, 49]))) ∧ w' = w.alloc (.cells c3 5 (3, 4))) := hid hP
  clear hP
  have HBW := hid (below_al w (.cells c3 5 (3, 4)))
  by_cases hq : L.take 3 = [83, 74, 49]
  ·rw [decide_eq_true hq] at HP
   go_enter Tryz.func63, Tryz.ntmps63
   go_wp2_with (go_at_call 46; refine HP.out.mono ?_; rintro e w1 ⟨rfl, hw1⟩; have hw2 := hw1.symm; subst hw2)
   go_ret
   exact ⟨by rw [← HRR.out, if_neg (by rintro (k | k); exact hl k; exact k hq)]; rfl, HBW.out⟩
  ·rw [decide_eq_false hq] at HP
   have e1 := (HER.out.below HBW.out).c1
   go_enter Tryz.func63, Tryz.ntmps63
   go_wp2_with (go_at_call 46; refine HP.out.mono ?_; rintro e w1 ⟨rfl, hw1⟩; have hw2 := hw1.symm; subst hw2)
   go_ret
   exact ⟨by rw [← HRR.out, if_pos (Or.inr hq)]; rfl, HBW.out⟩
end Go.Proofs.YtdohmokhfajjpaaGreatDoor

/- lookAtDigest; readNumber, readSeq, readCount. -/
namespace Go.Proofs.YtdohmokhfajjpaaGreatDoor
open Go Go.RowKit

theorem run_from8s (b o n c l : Nat) (hl : l ≤ n) (hlt : l < c) (w : World) : (Instr.slice 22 (.slice (some ⟨b, o, none⟩) n c) (some (.int .i64 (l : Int))) none none).run Tryz.prog w = .ok (.slice (some ⟨b, o + l, none⟩) (n - l) (c - l)) w := by
 rw [run_slice_l (P := Tryz.prog) w 22 _ n c underE8 .i64 (l : Int) (by omega) (by omega), elem8]
 have e : ¬ c = l := by omega
 simp [Result.andThen, sliced, e, add_none]
theorem run_mid8s (b o n c l h : Nat) (hl : l ≤ h) (hh : h ≤ c) (hlt : l < c) (w : World) : (Instr.slice 22 (.slice (some ⟨b, o, none⟩) n c) (some (.int .i64 (l : Int))) (some (.int .i64 (h : Int))) none).run Tryz.prog w = .ok (.slice (some ⟨b, o + l, none⟩) (h - l) (c - l)) w := by
 rw [run_slice_lh (P := Tryz.prog) w 22 _ n c underE8 .i64 .i64 (l : Int) (h : Int) (by omega) (by omega) (by omega), elem8]
 have e : ¬ c = l := by omega
 simp [Result.andThen, sliced, e, add_none]
theorem CAt.r0 {w : World} {p : Nat} {l : Value} {n s : Int} {r : Value} {t : TypeId} (h : CAt w p (rC l n s r) t) (v : Value) : CAt (w.setCell ⟨p, 0, none⟩ v) p (rC v n s r) t := h.set 0 v
theorem CAt.r1 {w : World} {p : Nat} {l : Value} {n s : Int} {r : Value} {t : TypeId} (h : CAt w p (rC l n s r) t) (k : Int) : CAt (w.setCell ⟨p, 1, none⟩ (i64 k)) p (rC l k s r) t := h.set 1 _
theorem CAt.r2 {w : World} {p : Nat} {l : Value} {n s : Int} {r : Value} {t : TypeId} (h : CAt w p (rC l n s r) t) (k : Int) : CAt (w.setCell ⟨p, 2, none⟩ (i64 k)) p (rC l n k r) t := h.set 2 _
theorem CAt.r3 {w : World} {p : Nat} {l : Value} {n s : Int} {r : Value} {t : TypeId} (h : CAt w p (rC l n s r) t) (v : Value) : CAt (w.setCell ⟨p, 3, none⟩ v) p (rC l n s v) t := h.set 3 v
/-- What is left has become other bytes. -/
def NxtS (w : World) (p : Nat) (M : List Nat) (n s : Int) (r : Value) (e : Ending) (w' : World) : Prop := e = .returned .nilIface ∧ Only (fun b => b = p) w w' ∧ ∃ po c, RdC w' p po M c n s r
theorem RdC.sub {w W : World} {p b o : Nat} {L : List Nat} {c : Nat} {n s : Int} {r : Value} (h : RdC w p (some ⟨b, o, none⟩) L c n s r) (hb : Below w.heap.size w W) {E : Nat} (hE : E ≤ L.length) (h3 : 3 ≤ E) : RdC (W.setCell ⟨p, 0, none⟩ (.slice (some ⟨b, o + 3, none⟩) (E - 3) (c - 3))) p (some ⟨b, o + 3, none⟩) ((L.take E).drop 3) (c - 3) n s r := by
 have hl : ((L.take E).drop 3).length = E - 3 := by rw [List.length_drop, len_take hE]
 have hle := h.le
 have hlt := h.lt
 have hne : L ≠ [] := fun e => by rw [e] at hE; simp at hE; omega
 refine ⟨by rw [hl]; exact (h.at_.below hb).r0 _, ?_, fun _ a e => by cases e; exact h.ap hne ⟨b, o, none⟩ rfl, by omega, by omega, fun z hz => h.b8 z (List.mem_of_mem_take (List.mem_of_mem_drop hz))⟩
 exact ((((h.bl.below hb).take E).drop 3).onlyAt (Only.set (S := fun b => b = p) W ⟨p, 0, none⟩ _ rfl) (fun _ a e => by cases e; exact h.ap hne ⟨b, o, none⟩ rfl))
theorem digest_split {L : List Nat} (h : 35 ≤ L.length) : ∃ E, L.length = E + 32 ∧ 3 ≤ E := ⟨L.length - 32, by omega, by omega⟩
set_option maxRecDepth 100000 in
set_option maxHeartbeats 2000000 in
theorem digest_bad (p : Nat) (po : Option Addr) (L : List Nat) (c : Nat) (n s : Int) (r : Value) (w : World) (a0 a1 : Addr) (h : RdC w p po L c n s r) (he : Ers w a0 a1) (hl : 35 ≤ L.length) (hq : dig (L.take (L.length - 32)) ≠ L.drop (L.length - 32)) : Calls Tryz.prog 64 #[ptr p] w fun e w' => e = .returned (eV a0) ∧ Below w.heap.size w w' := by
 obtain ⟨E, hE, hE3⟩ := digest_split hl
 rw [show L.length - 32 = E by omega] at hq
 obtain ⟨b, o, rfl, hcells⟩ : ∃ b o, po = some ⟨b, o, none⟩ ∧ ∀ i, i < L.length → w.cell? ⟨b, o + i, none⟩ = some (u8 (L.getD i 0)) := by
  rcases h.bl with k | k
  ·rw [k] at hl; simp at hl
  ·exact k
 have hle := h.le
 have hlt := h.lt
 have c0 := h.c0
 rw [hE] at c0
 have hs1 := run_head8n (some ⟨b, o, none⟩) (E + 32) c E (by omega)
 have hs2 : ∀ w, (Instr.slice 22 (.slice (some ⟨b, o, none⟩) (E + 32) c) (some (.int .i64 (E : Int))) none none).run Tryz.prog w = .ok (.slice (some ⟨b, o + E, none⟩) 32 (c - E)) w := fun w => by have := run_from8s b o (E + 32) c E (by omega) (by omega) w; rwa [show E + 32 - E = 32 by omega] at this
 obtain ⟨D, hD⟩ : ∃ D, dig (L.take E) = D := ⟨_, rfl⟩
 have hDl : D.length = 32 := by rw [← hD]; exact dig_len _
 have hD8 : ∀ z ∈ D, z < 256 := by rw [← hD]; exact dig_lt _
 rw [hD] at hq
 have hE32 : (L.drop E).length = 32 := by rw [List.length_drop]; omega
 have HSUM : Hid (Calls Tryz.prog 22 #[.slice (some ⟨b, o, none⟩) E c] w fun e w' => e = .returned (.agg (sumC D)) ∧ Below w.heap.size w w') := hid (by
  have := dsum_any (some ⟨b, o, none⟩) c (L.take E) w (by rw [len_take (by omega)]; omega) (by rw [len_take (by omega)]; omega) (h.bl.take E) (fun z hz => h.b8 z (List.mem_of_mem_take hz))
  rw [len_take (by omega), hD] at this
  exact this)
 have HEQ : Hid (∀ W g, Below w.heap.size w W → CAt W g (sumC D) 41 → Calls Tryz.prog 39 #[.slice (some ⟨g, 0, none⟩) 32 32, .slice (some ⟨b, o + E, none⟩) 32 (c - E)] W fun e w' => e = .returned (.bool false) ∧ w' = W) := hid (fun W g hW hg => by
  have := equalB_any (some ⟨g, 0, none⟩) (some ⟨b, o + E, none⟩) 32 (c - E) D (L.drop E) W hg.bl ((h.bl.below hW).drop E) hD8 (fun z hz => h.b8 z (List.mem_of_mem_drop hz))
  rw [hDl, hE32, decide_eq_false hq] at this
  exact this)
 have HH := hid h
 have HER := hid he
 have HE := hid hE
 have hEi : (E : Int) ≤ 100000 := by omega
 clear h he hcells hq hD hD8 hE32 hE hl
 have hsd := run_dig
 go_enter Tryz.func64, Tryz.ntmps64
 go_upto_region 3 with (first
  | (go_at_call 22; refine HSUM.out.mono ?_; rintro e w1 ⟨rfl, hb1⟩; have HB1 := hid hb1; clear hb1 c0)
  | ((with_reducible refine wpList_allocD rfl rfl ?_); intro w2 g2 hz2 hb2 hg2; have HZ2 := hid hz2; have HB2 := hid (below_on HB1.out hb2); have HG2 := hid (show w.heap.size ≤ g2 by have := HB1.out.size; omega); clear hz2 hb2 hg2)
  | ((with_reducible refine wpList_storeD rfl rfl _ _ rfl g2 ?_ (m := zeroD) (n := D) ?_ ?_ hDl HZ2.out ?_); exact rfl; exact rfl; exact rfl; intro w3 h3 o3; have HB3 := hid (below_tr HB2.out (o3.below HB2.out.size (fun i e => by have := HG2.out; omega))); have HC3 := hid h3; clear h3 o3 HZ2))
 have c0 := (HH.out.below HB3.out).c0
 rw [HE.out] at c0
 simp only [Act.put, List.setIfInBounds_toArray, List.set_cons_zero, List.set_cons_succ]
 have e0 := (HER.out.below HB3.out).c0
 have HEQ2 := hid (fun k => HEQ.out (w3.drewN k) g2 (below_on HB3.out (below_drewN w3 k)) HC3.out)
 go_quiet ((go_at_call 39; refine Calls.quiet_of_same (HEQ2.out _)))
 go_wp2
 go_ret
 exact ⟨rfl, below_on HB3.out (below_drewN _ _)⟩
set_option maxRecDepth 100000 in
set_option maxHeartbeats 2000000 in
theorem digest_ok (p : Nat) (po : Option Addr) (L : List Nat) (c : Nat) (n s : Int) (r : Value) (w : World) (h : RdC w p po L c n s r) (hl : 35 ≤ L.length) (hq : dig (L.take (L.length - 32)) = L.drop (L.length - 32)) : Calls Tryz.prog 64 #[ptr p] w (NxtS w p ((L.take (L.length - 32)).drop 3) n s r) := by
 obtain ⟨E, hE, hE3⟩ := digest_split hl
 rw [show L.length - 32 = E by omega] at hq ⊢
 obtain ⟨b, o, rfl, hcells⟩ : ∃ b o, po = some ⟨b, o, none⟩ ∧ ∀ i, i < L.length → w.cell? ⟨b, o + i, none⟩ = some (u8 (L.getD i 0)) := by
  rcases h.bl with k | k
  ·rw [k] at hl; simp at hl
  ·exact k
 have hle := h.le
 have hlt := h.lt
 have c0 := h.c0
 rw [hE] at c0
 have hs1 := run_head8n (some ⟨b, o, none⟩) (E + 32) c E (by omega)
 have hs2 : ∀ w, (Instr.slice 22 (.slice (some ⟨b, o, none⟩) (E + 32) c) (some (.int .i64 (E : Int))) none none).run Tryz.prog w = .ok (.slice (some ⟨b, o + E, none⟩) 32 (c - E)) w := fun w => by have := run_from8s b o (E + 32) c E (by omega) (by omega) w; rwa [show E + 32 - E = 32 by omega] at this
 obtain ⟨D, hD⟩ : ∃ D, dig (L.take E) = D := ⟨_, rfl⟩
 have hDl : D.length = 32 := by rw [← hD]; exact dig_len _
 have hD8 : ∀ z ∈ D, z < 256 := by rw [← hD]; exact dig_lt _
 rw [hD] at hq
 have hE32 : (L.drop E).length = 32 := by rw [List.length_drop]; omega
 have HSUM : Hid (Calls Tryz.prog 22 #[.slice (some ⟨b, o, none⟩) E c] w fun e w' => e = .returned (.agg (sumC D)) ∧ Below w.heap.size w w') := hid (by
  have := dsum_any (some ⟨b, o, none⟩) c (L.take E) w (by rw [len_take (by omega)]; omega) (by rw [len_take (by omega)]; omega) (h.bl.take E) (fun z hz => h.b8 z (List.mem_of_mem_take hz))
  rw [len_take (by omega), hD] at this
  exact this)
 have HEQ : Hid (∀ W g, Below w.heap.size w W → CAt W g (sumC D) 41 → Calls Tryz.prog 39 #[.slice (some ⟨g, 0, none⟩) 32 32, .slice (some ⟨b, o + E, none⟩) 32 (c - E)] W fun e w' => e = .returned (.bool true) ∧ w' = W) := hid (fun W g hW hg => by
  have := equalB_any (some ⟨g, 0, none⟩) (some ⟨b, o + E, none⟩) 32 (c - E) D (L.drop E) W hg.bl ((h.bl.below hW).drop E) hD8 (fun z hz => h.b8 z (List.mem_of_mem_drop hz))
  rw [hDl, hE32, decide_eq_true hq] at this
  exact this)
 have HH := hid h
 have HE := hid hE
 have hEi : (E : Int) ≤ 100000 := by omega
 clear h hcells hq hD hD8 hE32 hE hl
 have hsd := run_dig
 go_enter Tryz.func64, Tryz.ntmps64
 go_upto_region 3 with (first
  | (go_at_call 22; refine HSUM.out.mono ?_; rintro e w1 ⟨rfl, hb1⟩; have HB1 := hid hb1; clear hb1 c0)
  | ((with_reducible refine wpList_allocD rfl rfl ?_); intro w2 g2 hz2 hb2 hg2; have HZ2 := hid hz2; have HB2 := hid (below_on HB1.out hb2); have HG2 := hid (show w.heap.size ≤ g2 by have := HB1.out.size; omega); clear hz2 hb2 hg2)
  | ((with_reducible refine wpList_storeD rfl rfl _ _ rfl g2 ?_ (m := zeroD) (n := D) ?_ ?_ hDl HZ2.out ?_); exact rfl; exact rfl; exact rfl; intro w3 h3 o3; have HB3 := hid (below_tr HB2.out (o3.below HB2.out.size (fun i e => by have := HG2.out; omega))); have HC3 := hid h3; clear h3 o3 HZ2))
 have c0 := (HH.out.below HB3.out).c0
 rw [HE.out] at c0
 simp only [Act.put, List.setIfInBounds_toArray, List.set_cons_zero, List.set_cons_succ]
 have hs3 : ∀ w, (Instr.slice 22 (.slice (some ⟨b, o, none⟩) (E + 32) c) (some (.int .i64 3)) (some (.int .i64 (E : Int))) none).run Tryz.prog w = .ok (.slice (some ⟨b, o + 3, none⟩) (E - 3) (c - 3)) w := run_mid8s b o (E + 32) c 3 E hE3 (by have := HE.out; omega) (by have := HE.out; omega)
 have f0 := (HH.out.below HB3.out).at_.free
 have HEQ2 := hid (fun k => HEQ.out (w3.drewN k) g2 (below_on HB3.out (below_drewN w3 k)) HC3.out)
 go_quiet ((go_at_call 39; refine Calls.quiet_of_same (HEQ2.out _)))
 go_wp2
 go_ret
 refine ⟨rfl, ?_, some ⟨b, o + 3, none⟩, c - 3, ?_⟩
 ·exact (Only.of_below (below_on HB3.out (below_drewN w3 _))).trans (Only.set (S := fun b => b = p) _ ⟨p, 0, none⟩ _ rfl)
 ·exact HH.out.sub (below_on HB3.out (below_drewN w3 _)) (E := E) (by have := HE.out; omega) hE3
/-- What is left is what was told. -/
theorem RdC.mkN {B p : Nat} {W : World} {l : Value} {n s : Int} {r : Value} (hc : CAt W p (rC l n s r) 95) (hp : p < B) {M : List Nat} {out : Value} (ho : OutB B W out M) (hM : M.length ≤ 100000) (h8 : ∀ z ∈ M, z < 256) : ∃ qo, out = .slice qo M.length M.length ∧ RdC (W.setCell ⟨p, 0, none⟩ out) p qo M M.length n s r := by
 obtain ⟨qo, rfl, hbl, hz⟩ := ho.form
 have hap : M ≠ [] → ∀ a, qo = some a → a.block ≠ p := fun hne a e => by
  rcases ho with ⟨_, e2⟩ | ⟨g, e2, hg, _⟩
  ·exact absurd e2 hne
  ·cases e2; cases e; show g ≠ p; omega
 exact ⟨qo, rfl, hc.r0 _, hbl.onlyAt (Only.set (S := fun b => b = p) W ⟨p, 0, none⟩ _ rfl) (fun hne a e => hap hne a e), hap, Nat.le_refl _, hM, h8⟩
theorem rdU_sub {L M : List Nat} {x : Nat} (h8 : ∀ z ∈ L, z < 256) (h : rdU L = some (x, M)) : M.length ≤ L.length ∧ (∀ z ∈ M, z < 256) := by
 obtain ⟨e, _⟩ := rdU_some h8 h
 subst e
 exact ⟨by rw [List.length_append]; omega, (sub256 h8).2⟩
set_option maxRecDepth 100000 in
set_option maxHeartbeats 1000000 in
theorem number_bad (k p : Nat) (po : Option Addr) (L : List Nat) (c : Nat) (n s : Int) (r : Value) (w : World) (a0 a1 : Addr) (h : RdC w p po L c n s r) (he : Ers w a0 a1) (hq : rdU L = none) : Calls Tryz.prog 86 #[ptr p, .pointer (some ⟨p, k, none⟩)] w fun e w' => e = .returned (eV a1) ∧ Below w.heap.size w w' := by
 have c0 := h.c0
 have HU := hid (readUint_bad po c L w h.bl h.le h.lt h.b8 hq)
 have HER := hid he
 clear h he hq
 go_enter Tryz.func86, Tryz.ntmps86
 go_wp2_with (go_at_call 98; refine HU.out.mono ?_; rintro e w1 ⟨rfl, hb1⟩; have e1 := (HER.out.below hb1).c1; have HB1 := hid hb1; clear hb1)
 go_ret
 exact ⟨rfl, HB1.out⟩
set_option maxRecDepth 100000 in
set_option maxHeartbeats 1000000 in
theorem number_seq (p : Nat) (po : Option Addr) (L : List Nat) (c : Nat) (n s : Int) (r : Value) (w : World) (h : RdC w p po L c n s r) (x : Nat) (M : List Nat) (hq : rdU L = some (x, M)) : Calls Tryz.prog 86 #[ptr p, .pointer (some ⟨p, 2, none⟩)] w (NxtS w p M n x r) := by
 have c0 := h.c0
 have HU := hid (readUint_ok po c L w h.bl h.le h.lt h.b8 hq)
 have HM := hid (rdU_sub h.b8 hq)
 have HH := hid h
 clear h hq
 go_enter Tryz.func86, Tryz.ntmps86
 go_wp2_with (go_at_call 98; refine HU.out.mono ?_; rintro e w1 ⟨out, rfl, ho1, hb1⟩; have h1 := HH.out.below hb1; have hset := h1.at_.r2 (x : Int); have hos := Only.set (S := fun b => b = p) w1 ⟨p, 2, none⟩ (i64 (x : Int)) rfl; obtain ⟨qo, hout, hn1⟩ := RdC.mkN hset HH.out.at_.lt (ho1.only hos (fun i e => by have := (ho1.blk i e).1; have := HH.out.at_.lt; omega)) (by have := HM.out.1; have := HH.out.lt; omega) HM.out.2; subst hout; clear c0; have d0 := h1.c0; have d2 := h1.c2; have df := h1.at_.free; have HN1 := hid hn1; have HO1 := hid ((Only.of_below hb1).trans (hos.trans (Only.set (S := fun b => b = p) _ ⟨p, 0, none⟩ (.slice qo M.length M.length) rfl))); clear h1 hn1 hb1 ho1 hset hos)
 go_ret
 exact ⟨rfl, HO1.out, qo, M.length, HN1.out⟩
set_option maxRecDepth 100000 in
set_option maxHeartbeats 1000000 in
theorem number_cnt (p : Nat) (po : Option Addr) (L : List Nat) (c : Nat) (n s : Int) (r : Value) (w : World) (h : RdC w p po L c n s r) (x : Nat) (M : List Nat) (hq : rdU L = some (x, M)) : Calls Tryz.prog 86 #[ptr p, .pointer (some ⟨p, 1, none⟩)] w (NxtS w p M x s r) := by
 have c0 := h.c0
 have HU := hid (readUint_ok po c L w h.bl h.le h.lt h.b8 hq)
 have HM := hid (rdU_sub h.b8 hq)
 have HH := hid h
 clear h hq
 go_enter Tryz.func86, Tryz.ntmps86
 go_wp2_with (go_at_call 98; refine HU.out.mono ?_; rintro e w1 ⟨out, rfl, ho1, hb1⟩; have h1 := HH.out.below hb1; have hset := h1.at_.r1 (x : Int); have hos := Only.set (S := fun b => b = p) w1 ⟨p, 1, none⟩ (i64 (x : Int)) rfl; obtain ⟨qo, hout, hn1⟩ := RdC.mkN hset HH.out.at_.lt (ho1.only hos (fun i e => by have := (ho1.blk i e).1; have := HH.out.at_.lt; omega)) (by have := HM.out.1; have := HH.out.lt; omega) HM.out.2; subst hout; clear c0; have d0 := h1.c0; have d2 := h1.c1; have df := h1.at_.free; have HN1 := hid hn1; have HO1 := hid ((Only.of_below hb1).trans (hos.trans (Only.set (S := fun b => b = p) _ ⟨p, 0, none⟩ (.slice qo M.length M.length) rfl))); clear h1 hn1 hb1 ho1 hset hos)
 go_ret
 exact ⟨rfl, HO1.out, qo, M.length, HN1.out⟩
set_option maxRecDepth 100000 in
theorem readSeq_bad (p : Nat) (po : Option Addr) (L : List Nat) (c : Nat) (n s : Int) (r : Value) (w : World) (a0 a1 : Addr) (h : RdC w p po L c n s r) (he : Ers w a0 a1) (hq : rdU L = none) : Calls Tryz.prog 65 #[ptr p] w fun e w' => e = .returned (eV a1) ∧ Below w.heap.size w w' := by
 have HN := hid (number_bad 2 p po L c n s r w a0 a1 h he hq)
 clear h he hq
 go_enter Tryz.func65, Tryz.ntmps65
 go_wp2_with (go_at_call 86; refine HN.out.mono ?_; rintro e w1 ⟨rfl, hb1⟩)
 go_ret
 exact ⟨rfl, hb1⟩
set_option maxRecDepth 100000 in
theorem readSeq_ok (p : Nat) (po : Option Addr) (L : List Nat) (c : Nat) (n s : Int) (r : Value) (w : World) (h : RdC w p po L c n s r) (x : Nat) (M : List Nat) (hq : rdU L = some (x, M)) : Calls Tryz.prog 65 #[ptr p] w (NxtS w p M n x r) := by
 have HN := hid (number_seq p po L c n s r w h x M hq)
 clear h hq
 go_enter Tryz.func65, Tryz.ntmps65
 go_wp2_with (go_at_call 86; refine HN.out.mono ?_; rintro e w1 ⟨rfl, hn1⟩)
 go_ret
 exact ⟨rfl, hn1⟩
set_option maxRecDepth 100000 in
theorem readCount_bad (p : Nat) (po : Option Addr) (L : List Nat) (c : Nat) (n s : Int) (r : Value) (w : World) (a0 a1 : Addr) (h : RdC w p po L c n s r) (he : Ers w a0 a1) (hq : rdU L = none) : Calls Tryz.prog 66 #[ptr p] w fun e w' => e = .returned (eV a1) ∧ Below w.heap.size w w' := by
 have HN := hid (number_bad 1 p po L c n s r w a0 a1 h he hq)
 clear h he hq
 go_enter Tryz.func66, Tryz.ntmps66
 go_wp2_with (go_at_call 86; refine HN.out.mono ?_; rintro e w1 ⟨rfl, hb1⟩)
 go_ret
 exact ⟨rfl, hb1⟩
set_option maxRecDepth 100000 in
theorem readCount_ok (p : Nat) (po : Option Addr) (L : List Nat) (c : Nat) (n s : Int) (r : Value) (w : World) (h : RdC w p po L c n s r) (x : Nat) (M : List Nat) (hq : rdU L = some (x, M)) : Calls Tryz.prog 66 #[ptr p] w (NxtS w p M x s r) := by
 have HN := hid (number_cnt p po L c n s r w h x M hq)
 clear h hq
 go_enter Tryz.func66, Tryz.ntmps66
 go_wp2_with (go_at_call 86; refine HN.out.mono ?_; rintro e w1 ⟨rfl, hn1⟩)
 go_ret
 exact ⟨rfl, hn1⟩
end Go.Proofs.YtdohmokhfajjpaaGreatDoor
