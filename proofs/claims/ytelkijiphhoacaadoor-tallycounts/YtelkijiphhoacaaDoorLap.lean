/- Texts laid into one, cut to what is needed: the remark ahead of each part says what is proved there. -/
import Derived.Test.YtelkijiphhoacaaDoorLao
import Derived.Test.YtelkijiphhoacaaDoorLan
import Derived.Test.YtelkijiphhoacaaDoorLab
import Derived.Test.YtelkijiphhoacaaDoorLad
/- lookAtEnd; what Read needs. -/
namespace Go.Proofs.YtelkijiphhoacaaDoor
open Go Go.RowKit

set_option maxRecDepth 100000 in
set_option maxHeartbeats 1000000 in
theorem end_any (p : Nat) (po : Option Addr) (N : List Nat) (c : Nat) (n s : Int) (v : Value) (l : List Rp) (w : World) (a0 a1 : Addr) (h : RdC w p po N c n s v) (hl : RL w v l) (he : ∀ W, Below w.heap.size w W → Ers W a0 a1) : Calls Tryd.prog 55 #[ptr p] w fun e w' => e = .returned (if N ≠ [] ∨ okJ ⟨s, rcs l⟩ = false then eV a1 else .nilIface) ∧ Below w.heap.size w w' := by
  obtain ⟨R, hR⟩ : ∃ R : Value, (if N ≠ [] ∨ okJ ⟨s, rcs l⟩ = false then eV a1 else .nilIface) = R := ⟨_, rfl⟩
  rw [hR]
  have HRR := hid hR
  clear hR
  have c0 := h.c0
  have HER := hid he
  have HL := hid hl
  have HRG := hid (show ∀ j u, (jC s v)[j]? = some u → w.cell? ⟨p, 2 + j, none⟩ = some u from fun j u hu => by
    match j, hu with
    | 0, hu => simp [jC] at hu; subst hu; exact h.c2
    | 1, hu => simp [jC] at hu; subst hu; exact h.c3)
  obtain ⟨pv, cv, hv, _⟩ := hl
  clear h he
  by_cases hN : N = []
  · subst hN
    have HCK := hid (jcheck_any s v l w HL.out)
    subst hv
    cases hj : okJ ⟨s, rcs l⟩ with
    | true =>
      rw [hj] at HCK
      simp only [if_true] at HCK
      go_enter Tryd.func55, Tryd.ntmps55
      go_wp2_with (first
        | ((with_reducible refine wpList_load_at 24 _ rfl ?_ p 2 ?_ (jC s (.slice pv l.length cv)) (.struct (Tryd.prog.fieldsOf 24)) ?_ underJrn rfl ?_ ?_); exact rfl; exact rfl; exact HRG.out; exact sizeJ)
        | (go_at_call 20; refine HCK.out.mono ?_; rintro e w1 ⟨rfl, hb1⟩; have HB1 := hid hb1; clear hb1))
      go_ret
      exact ⟨by rw [← HRR.out, hj, if_neg (by simp)]; rfl, HB1.out⟩
    | false =>
      rw [hj] at HCK
      simp only [Bool.false_eq_true, if_false] at HCK
      go_enter Tryd.func55, Tryd.ntmps55
      go_wp2_with (first
        | ((with_reducible refine wpList_load_at 24 _ rfl ?_ p 2 ?_ (jC s (.slice pv l.length cv)) (.struct (Tryd.prog.fieldsOf 24)) ?_ underJrn rfl ?_ ?_); exact rfl; exact rfl; exact HRG.out; exact sizeJ)
        | (go_at_call 20; refine HCK.out.mono ?_; rintro e w1 ⟨rfl, hb1⟩; have HB1 := hid hb1; have e1 := (HER.out _ hb1).c1; clear hb1))
      go_ret
      exact ⟨by rw [← HRR.out, hj, if_pos (by simp)]; rfl, HB1.out⟩
  · have hpos : 0 < N.length := List.length_pos_iff.2 hN
    have hpos' : (0 : Int) < (N.length : Int) := by omega
    have e1 := (HER.out w (Below.refl _ _)).c1
    go_enter Tryd.func55, Tryd.ntmps55
    go_wp2
    go_ret
    exact ⟨by rw [← HRR.out, if_pos (Or.inl hN)]; rfl, Below.refl _ _⟩
abbrev fV (k : Nat) : Value := .func (.func k) #[] #[]
abbrev lkC : Array Value := #[fV 50, fV 51, fV 52, fV 53, fV 54, fV 55]
theorem looks_any (w : World) : Calls Tryd.prog 32 #[] w fun e w' => e = .returned (.slice (some ⟨w.heap.size, 0, none⟩) 6 6) ∧ CAt w' w.heap.size lkC 79 ∧ Below w.heap.size w w' := by
  go_enter Tryd.func32, Tryd.ntmps32
  go_wp2
  go_ret
  exact ⟨rfl, CAt.made w _ _, below_al w _⟩
theorem zeroRd : (Tryd.prog.info? 76).map (·.zero) = some (some (.agg (rC (.slice none 0 0) 0 0 (.slice none 0 0)))) := by kernel_rfl
theorem sizeRd : (Tryd.prog.info? 76).map (·.size) = some 4 := by kernel_rfl
theorem builtRd (po : Option Addr) (n c : Nat) : Tryd.prog.built 76 [(0, .slice po n c)] = some (rC (.slice po n c) 0 0 (.slice none 0 0)) := by kernel_rfl
theorem wpList_allocX (t : TypeId) (C : Array Value) (hz : (Tryd.prog.info? t).map (·.zero) = some (some (.agg C))) {ops : Array Oper} {rest : List Oper} {o : Oper} {a : Act} {w : World} {Q : Exit → Act → World → Prop} (hg : o.guard = none) (ho : o.op = .alloc t)
    (h : ∀ w1 g, CAt w1 g C t → Below w.heap.size w w1 → w.heap.size = g → wpList Tryd.prog ops Q rest (a.put o.dst (ptr g)) w1) : wpList Tryd.prog ops Q (o :: rest) a w := by
  refine wpList_plain hg fun _ hK => ?_
  obtain ⟨i, hq, hz'⟩ := Option.map_eq_some_iff.1 hz
  unfold Oper.wp execOp
  simp only [ho, Instr.alloc, zeroValue, typeInfo, Sem.run_bind, newVar, newRow]
  simp [hq, hz', Value.cells]
  exact hK _ _ (h _ _ (CAt.made _ _ _) (below_al _ _) rfl)
theorem wpList_storeX (t : TypeId) (k : Nat) (hs : (Tryd.prog.info? t).map (·.size) = some k) {ops : Array Oper} {rest : List Oper} {o : Oper} {a : Act} {w : World} {Q : Exit → Act → World → Prop} (hg : o.guard = none) (hdst : o.dst = none) (x y : Operand) (ho : o.op = .store t x y) (g : Nat) (hx : a.eval x = ptr g) {C D : Array Value} (hy : a.eval y = .agg D) (hC : C.size = k) (hD : D.size = k) (h1 : D.all (·.oneCell') = true) (hb : CAt w g C t)
    (h : ∀ w1, CAt w1 g D t → Only (fun b => b = g) w w1 → wpList Tryd.prog ops Q rest a w1) : wpList Tryd.prog ops Q (o :: rest) a w := by
  refine wpList_plain hg fun _ hK => ?_
  have e := run_storeVar_row (P := Tryd.prog) w g t t C D hb (by rw [hD]; exact hs) (by rw [hC, hD]) h1
  have e1 : (Instr.storeAt t (.pointer (some ⟨g, 0, none⟩)) (.agg D)).run Tryd.prog w = .ok () (w.setRow g D) := by simp only [Instr.storeAt, Instr.sureAddr, Sem.run_bind, Sem.run_pure, Result.andThen_ok, e]
  unfold Oper.wp execOp
  simp only [ho, hx, hy, ptr, Sem.run_bind, e1, Result.andThen_ok, Sem.run_pure]
  refine hK (a.put o.dst undef) _ ?_
  rw [hdst]
  exact h _ (setRow_heap w g C D _ _ hb) (only_setRow _ _ _ rfl)
/-- What is carried through Read. -/
structure Rq (w : World) (g2 p gl : Nat) (W : World) : Prop where
  below : Below w.heap.size w W
  cr : CAt W g2 (jC 0 (.slice none 0 0)) 24
  lk : CAt W gl lkC 79
  h1 : w.heap.size ≤ g2
  h2 : g2 < p
  h3 : p < gl
theorem Rq.onP {w W W' : World} {g2 p gl : Nat} (h : Rq w g2 p gl W) (ho : Only (fun b => b = p) W W') : Rq w g2 p gl W' :=
  ⟨below_tr h.below (ho.below h.below.size (fun i e => by have := h.h1; have := h.h2; omega)), h.cr.keep (ho.block g2 h.cr.lt (by have := h.h2; omega)), h.lk.keep (ho.block gl h.lk.lt (by have := h.h3; omega)), h.h1, h.h2, h.h3⟩
end Go.Proofs.YtelkijiphhoacaaDoor

/- journal.Read. -/
namespace Go.Proofs.YtelkijiphhoacaaDoor
open Go Go.RowKit

theorem rdJ_sign {L : List Nat} (h : L.length < 35 ∨ L.take 3 ≠ [83, 74, 49]) : rdJ dig L = (4, none) := by unfold rdJ; rw [if_pos h]
theorem rdJ_dig {L : List Nat} (h : ¬ (L.length < 35 ∨ L.take 3 ≠ [83, 74, 49])) (h2 : dig (L.take (L.length - 32)) ≠ L.drop (L.length - 32)) : rdJ dig L = (14, none) := by unfold rdJ; rw [if_neg h, if_pos h2]
theorem rdJ_mid {L : List Nat} (h : ¬ (L.length < 35 ∨ L.take 3 ≠ [83, 74, 49])) (h2 : ¬ dig (L.take (L.length - 32)) ≠ L.drop (L.length - 32)) : rdJ dig L = match rdMid ((L.take (L.length - 32)).drop 3) with | some j => if okJ j then (0, some j) else (4, none) | none => (4, none) := by unfold rdJ; rw [if_neg h, if_neg h2]; rfl
theorem rdMid_u1 {b : List Nat} (h : rdU b = none) : rdMid b = none := by unfold rdMid; rw [h]; rfl
theorem rdMid_u2 {b b1 : List Nat} {x : Nat} (h : rdU b = some (x, b1)) (h2 : rdU b1 = none) : rdMid b = none := by unfold rdMid; rw [h]; simp only [Option.bind_eq_bind, Option.bind_some]; rw [h2]; rfl
theorem rdMid_n {b b1 b2 : List Nat} {x n : Nat} (h : rdU b = some (x, b1)) (h2 : rdU b1 = some (n, b2)) (hn : 64 < n) : rdMid b = none := by unfold rdMid; rw [h]; simp only [Option.bind_eq_bind, Option.bind_some]; rw [h2]; simp only [Option.bind_some]; rw [if_pos hn]
theorem rdMid_r {b b1 b2 : List Nat} {x n : Nat} (h : rdU b = some (x, b1)) (h2 : rdU b1 = some (n, b2)) (hn : ¬ 64 < n) (h3 : rdRs n b2 = none) : rdMid b = none := by unfold rdMid; rw [h]; simp only [Option.bind_eq_bind, Option.bind_some]; rw [h2]; simp only [Option.bind_some]; rw [if_neg hn, h3]; rfl
theorem rdMid_e {b b1 b2 N : List Nat} {x n : Nat} {rs : List Rc} (h : rdU b = some (x, b1)) (h2 : rdU b1 = some (n, b2)) (hn : ¬ 64 < n) (h3 : rdRs n b2 = some (rs, N)) : rdMid b = if N = [] then some ⟨x, rs⟩ else none := by unfold rdMid; rw [h]; simp only [Option.bind_eq_bind, Option.bind_some]; rw [h2]; simp only [Option.bind_some]; rw [if_neg hn, h3]; rfl
theorem end_bad {b N : List Nat} {x : Nat} {rs : List Rc} (h : rdMid b = if N = [] then some ⟨x, rs⟩ else none) (hq : N ≠ [] ∨ okJ ⟨x, rs⟩ = false) : (match rdMid b with | some j => if okJ j then ((0 : Nat), some j) else (4, none) | none => (4, none)) = (4, none) := by
  rw [h]
  by_cases hN : N = []
  · rw [if_pos hN]
    have := hq.resolve_left (fun k => k hN)
    simp [this]
  · rw [if_neg hN]
theorem end_good {b N : List Nat} {x : Nat} {rs : List Rc} (h : rdMid b = if N = [] then some ⟨x, rs⟩ else none) (hq : ¬ (N ≠ [] ∨ okJ ⟨x, rs⟩ = false)) : (match rdMid b with | some j => if okJ j then ((0 : Nat), some j) else (4, none) | none => (4, none)) = (0, some ⟨x, rs⟩) := by
  have hN : N = [] := Classical.byContradiction fun k => hq (Or.inl k)
  have hj : okJ ⟨x, rs⟩ = true := by cases e : okJ ⟨x, rs⟩; exact absurd (Or.inr e) hq; rfl
  rw [h, if_pos hN]
  simp [hj]
theorem Rs.other7 {B : Nat} {w w' : World} {v : Value} {l : List Rp} {g : Nat} {C D : Array Value} (h : Rs B w v l) (_ : CAt w' g D 24) (ho : Only (fun b => b = g) w w') (hc : CAt w g C 24) : Rs B w' v l := by
  refine ⟨h.buf.keep fun b hv => ?_, fun x hx => ⟨(h.each x hx).ok, (h.each x hx).pl.other (by decide) hc ho⟩⟩
  rcases h.buf.2 with ⟨e, _⟩ | ⟨g', cap, cur, e, _, hg', _⟩
  · rw [e] at hv; cases hv
  · rw [e] at hv
    cases hv
    have h2 : CAt w g' cur 60 := hg'
    exact ho.block g' h2.lt (fun k => hc.apart h2 (by decide) k.symm)
theorem rC_one (po : Option Addr) (n c : Nat) (k s : Int) : (rC (.slice po n c) k s (.slice none 0 0)).all (·.oneCell') = true := by simp [rC, show ∀ q : Int, (i64 q).oneCell' = true from fun _ => rfl, show ∀ (a : Option Addr) (n c : Nat), (Value.slice a n c).oneCell' = true from fun _ _ _ => rfl]
theorem Rq.start {w w1 w2 w3 w4 : World} {g2 p : Nat} {po : Option Addr} {c : Nat} {L : List Nat} (hz1 : CAt w1 g2 (jC 0 (.slice none 0 0)) 24) (hb1 : Below w.heap.size w w1) (hg1 : w.heap.size = g2) (hb2 : Below w1.heap.size w1 w2) (hg2 : w1.heap.size = p) (hc3 : CAt w3 p (rC (.slice po L.length c) 0 0 (.slice none 0 0)) 76) (ho3 : Only (fun b => b = p) w2 w3)
    (hc4 : CAt w4 w3.heap.size lkC 79) (hb4 : Below w3.heap.size w3 w4) (h : BL w po L) (hc : L.length ≤ c) (hn : L.length ≤ 100000) (h8 : ∀ z ∈ L, z < 256) : Rq w g2 p w3.heap.size w4 ∧ RdC w4 p po L c 0 0 (.slice none 0 0) := by
  have hlt := hz1.lt
  have hs1 := hb1.size
  have hbw2 := below_on hb1 hb2
  have hbw3 := below_tr hbw2 (ho3.below hbw2.size (fun i e => by omega))
  have hbw4 := below_on hbw3 hb4
  refine ⟨⟨hbw4, ((hz1.below hb2).keep (ho3.block g2 (hz1.below hb2).lt (by omega))).below hb4, hc4, by omega, by omega, hc3.lt⟩, hc3.below hb4, h.below hbw4, fun hne a e => ?_, hc, hn, h8⟩
  rcases h with k | ⟨b, o, k, hk⟩
  · exact absurd k hne
  · rw [k] at e
    cases e
    have := cell_lt' (w := w) (a := ⟨b, o + 0, none⟩) (by rw [hk 0 (List.length_pos_iff.2 hne)]; simp)
    show b ≠ p
    have h9 : b < w.heap.size := this
    omega
theorem CAt.look {w : World} {g : Nat} {t : TypeId} (h : CAt w g lkC t) (k : Nat) (v : Value) (hv : lkC[k]? = some v) : w.cell? ⟨g, k, none⟩ = some v := by rw [h.cell, hv]
set_option maxRecDepth 100000 in
set_option maxHeartbeats 8000000 in
theorem jread_any (po : Option Addr) (c : Nat) (L : List Nat) (w : World) (a0 a1 : Addr) (h : BL w po L) (hc : L.length ≤ c) (hn : L.length ≤ 100000) (h8 : ∀ z ∈ L, z < 256) (he : Ers w a0 a1) : Calls Tryd.prog 17 #[.slice po L.length c] w (AddS w (rdJ dig L)) := by
  obtain ⟨R, hR⟩ : ∃ R, rdJ dig L = R := ⟨_, rfl⟩
  rw [hR]
  have HRR := hid hR
  have HER := hid (fun W (hW : Below w.heap.size w W) => he.below hW)
  have HBL := hid h
  have H8 := hid h8
  clear hR h he h8
  go_enter Tryd.func17, Tryd.ntmps17
  go_wp2_with (first
    | ((with_reducible refine wpList_allocJ rfl rfl ?_); intro w1 g2 hz1 hb1 hg1; have HZ1 := hid hz1; have HB1 := hid hb1; have HG1 := hid hg1; clear hz1 hb1 hg1)
    | ((with_reducible refine wpList_build_want 76 _ rfl ?_ (rC (.slice po L.length c) 0 0 (.slice none 0 0)) ?_ ?_); exact rfl; exact builtRd po L.length c)
    | ((with_reducible refine wpList_allocX 76 _ zeroRd rfl rfl ?_); intro w2 p hz2 hb2 hg2; have HZ2 := hid hz2; have HB2 := hid hb2; have HG2 := hid hg2; clear hz2 hb2 hg2)
    | ((with_reducible refine wpList_storeX 76 4 sizeRd rfl rfl _ _ rfl p ?_ (D := rC (.slice po L.length c) 0 0 (.slice none 0 0)) ?_ ?_ ?_ ?_ HZ2.out ?_); exact rfl; exact rfl; exact rfl; exact rfl; exact rC_one _ _ _ _ _; intro w3 h3 o3; have HC3 := hid h3; have HO3 := hid o3; clear h3 o3)
    | (go_at_call 32; refine (looks_any _).mono ?_; rintro e w4 ⟨rfl, hc4, hb4⟩; obtain ⟨hrq, hrd⟩ := Rq.start HZ1.out HB1.out HG1.out HB2.out HG2.out HC3.out HO3.out hc4 hb4 HBL.out hc hn H8.out; generalize w3.heap.size = gl at hrq ⊢; have HF := hid hrq; have HRD := hid hrd; have q0 := hrq.lk.look 0 _ rfl; clear hc4 hb4 hrq hrd HZ1 HB1 HG1 HZ2 HB2 HG2 HC3 HO3))
  have hne : ∀ (w : World) (a : Addr), (binOp .neq 81 (eV a) .nilIface).run Tryd.prog w = .ok (.bool true) w := fun w a => by kernel_rfl
  have hnn : ∀ (w : World), (binOp .neq 81 .nilIface .nilIface).run Tryd.prog w = .ok (.bool false) w := fun w => by kernel_rfl
  refine wp_loop_rounds 7 ?_
  rw [rounds_succ]
  have hC := sign_any p po L c 0 0 (.slice none 0 0) w4 a0 a1 HRD.out (HER.out _ HF.out.below)
  by_cases hsg : L.length < 35 ∨ L.take 3 ≠ [83, 74, 49]
  · rw [if_pos hsg] at hC
    have HC := hid hC
    clear hC
    go_wp2_with (first
      | (go_at_call 50; refine HC.out.mono ?_; rintro e w5 ⟨rfl, hb5⟩; replace HF := hid (HF.out.onP (Only.of_below hb5)); clear hb5)
      | (go_at_call 33; refine (told_form a0 a1 _ (HER.out _ HF.out.below)).mono ?_; rintro e wt ⟨rfl, hwt⟩; have hwt2 := hwt.symm; subst hwt2)
      | ((with_reducible refine wpList_build_want 24 _ rfl ?_ (jC 0 (.slice none 0 0)) ?_ ?_); exact rfl; exact builtZJ)
      | ((with_reducible refine wpList_storeJ rfl rfl _ _ rfl g2 ?_ (s := 0) (v := .slice none 0 0) ?_ rfl HF.out.cr ?_); exact rfl; exact rfl; intro w7 h7 o7; have H7 := hid h7; have O7 := hid o7; clear h7 o7))
    refine ret_rowJ2 rfl g2 rfl rfl rfl H7.out ?_
    rw [show R = (4, none) from HRR.out.symm.trans (rdJ_sign hsg)]
    exact ⟨rfl, below_tr HF.out.below (O7.out.below HF.out.below.size (fun i e => by have := HF.out.h1; omega))⟩
  rw [if_neg hsg] at hC
  have HC := hid hC
  clear hC
  go_wp2_with (go_at_call 50; refine HC.out.mono ?_; rintro e w5 ⟨rfl, hb5⟩; replace HF := hid (HF.out.onP (Only.of_below hb5)); replace HRD := hid (HRD.out.below hb5); clear hb5)
  clear HC
  rw [rounds_succ]
  have q1 := HF.out.lk.look 1 _ rfl
  have hl35 : 35 ≤ L.length := by rcases Nat.lt_or_ge L.length 35 with k | k; exact absurd (Or.inl k) hsg; exact k
  by_cases hdg : dig (L.take (L.length - 32)) ≠ L.drop (L.length - 32)
  · have HC := hid (digest_bad p po L c 0 0 (.slice none 0 0) w5 a0 a1 HRD.out (HER.out _ HF.out.below) hl35 hdg)
    have HX := hid (rdJ_dig hsg hdg)
    clear hsg hdg
    go_wp2_with (first
      | (go_at_call 51; refine HC.out.mono ?_; rintro e w6 ⟨rfl, hb5⟩; replace HF := hid (HF.out.onP (Only.of_below hb5)); clear hb5)
      | (go_at_call 33; refine (told_turned a0 a1 _ (HER.out _ HF.out.below)).mono ?_; rintro e wt ⟨rfl, hwt⟩; have hwt2 := hwt.symm; subst hwt2)
      | ((with_reducible refine wpList_build_want 24 _ rfl ?_ (jC 0 (.slice none 0 0)) ?_ ?_); exact rfl; exact builtZJ)
      | ((with_reducible refine wpList_storeJ rfl rfl _ _ rfl g2 ?_ (s := 0) (v := .slice none 0 0) ?_ rfl HF.out.cr ?_); exact rfl; exact rfl; intro w7 h7 o7; have H7 := hid h7; have O7 := hid o7; clear h7 o7))
    refine ret_rowJ2 rfl g2 rfl rfl rfl H7.out ?_
    rw [show R = (14, none) from HRR.out.symm.trans (HX.out)]
    exact ⟨rfl, below_tr HF.out.below (O7.out.below HF.out.below.size (fun i e => by have := HF.out.h1; omega))⟩
  have hC := digest_ok p po L c 0 0 (.slice none 0 0) w5 HRD.out hl35 (Classical.byContradiction hdg)
  have hX := rdJ_mid hsg hdg
  generalize (L.take (L.length - 32)).drop 3 = M at hC hX
  have HC := hid hC
  have HX := hid hX
  clear hC hX hsg hdg HRD
  go_wp2_with (go_at_call 51; refine HC.out.mono ?_; rintro e w6 ⟨rfl, ho5, p6, c6, hr5⟩; replace HF := hid (HF.out.onP ho5); have HRD := hid hr5; clear ho5 hr5)
  clear HC
  rw [rounds_succ]
  have q2 := HF.out.lk.look 2 _ rfl
  cases hu1 : rdU M with
  | none =>
    have HC := hid (readSeq_bad p p6 M c6 0 0 (.slice none 0 0) w6 a0 a1 HRD.out (HER.out _ HF.out.below) hu1)
    have HU1 := hid hu1
    clear hu1
    go_wp2_with (first
      | (go_at_call 52; refine HC.out.mono ?_; rintro e w7 ⟨rfl, hb5⟩; replace HF := hid (HF.out.onP (Only.of_below hb5)); clear hb5)
      | (go_at_call 33; refine (told_form a0 a1 _ (HER.out _ HF.out.below)).mono ?_; rintro e wt ⟨rfl, hwt⟩; have hwt2 := hwt.symm; subst hwt2)
      | ((with_reducible refine wpList_build_want 24 _ rfl ?_ (jC 0 (.slice none 0 0)) ?_ ?_); exact rfl; exact builtZJ)
      | ((with_reducible refine wpList_storeJ rfl rfl _ _ rfl g2 ?_ (s := 0) (v := .slice none 0 0) ?_ rfl HF.out.cr ?_); exact rfl; exact rfl; intro w7 h7 o7; have H7 := hid h7; have O7 := hid o7; clear h7 o7))
    refine ret_rowJ2 rfl g2 rfl rfl rfl H7.out ?_
    rw [show R = (4, none) from HRR.out.symm.trans (HX.out.trans (by rw [rdMid_u1 HU1.out]))]
    exact ⟨rfl, below_tr HF.out.below (O7.out.below HF.out.below.size (fun i e => by have := HF.out.h1; omega))⟩
  | some u1 =>
  obtain ⟨x, M1⟩ := u1
  have HC := hid (readSeq_ok p p6 M c6 0 0 (.slice none 0 0) w6 HRD.out x M1 hu1)
  have HU1 := hid hu1
  clear hu1 HRD
  go_wp2_with (go_at_call 52; refine HC.out.mono ?_; rintro e w7 ⟨rfl, ho5, p7, c7, hr5⟩; replace HF := hid (HF.out.onP ho5); have HRD := hid hr5; clear ho5 hr5)
  clear HC
  rw [rounds_succ]
  have q3 := HF.out.lk.look 3 _ rfl
  cases hu2 : rdU M1 with
  | none =>
    have HC := hid (readCount_bad p p7 M1 c7 0 x (.slice none 0 0) w7 a0 a1 HRD.out (HER.out _ HF.out.below) hu2)
    have HU2 := hid hu2
    clear hu2
    go_wp2_with (first
      | (go_at_call 53; refine HC.out.mono ?_; rintro e w8 ⟨rfl, hb5⟩; replace HF := hid (HF.out.onP (Only.of_below hb5)); clear hb5)
      | (go_at_call 33; refine (told_form a0 a1 _ (HER.out _ HF.out.below)).mono ?_; rintro e wt ⟨rfl, hwt⟩; have hwt2 := hwt.symm; subst hwt2)
      | ((with_reducible refine wpList_build_want 24 _ rfl ?_ (jC 0 (.slice none 0 0)) ?_ ?_); exact rfl; exact builtZJ)
      | ((with_reducible refine wpList_storeJ rfl rfl _ _ rfl g2 ?_ (s := 0) (v := .slice none 0 0) ?_ rfl HF.out.cr ?_); exact rfl; exact rfl; intro wz h7 o7; have H7 := hid h7; have O7 := hid o7; clear h7 o7))
    refine ret_rowJ2 rfl g2 rfl rfl rfl H7.out ?_
    rw [show R = (4, none) from HRR.out.symm.trans (HX.out.trans (by rw [rdMid_u2 HU1.out HU2.out]))]
    exact ⟨rfl, below_tr HF.out.below (O7.out.below HF.out.below.size (fun i e => by have := HF.out.h1; omega))⟩
  | some u2 =>
  obtain ⟨n, M2⟩ := u2
  have HC := hid (readCount_ok p p7 M1 c7 0 x (.slice none 0 0) w7 HRD.out n M2 hu2)
  have HU2 := hid hu2
  clear hu2 HRD
  go_wp2_with (go_at_call 53; refine HC.out.mono ?_; rintro e w8 ⟨rfl, ho5, p8, c8, hr5⟩; replace HF := hid (HF.out.onP ho5); have HRD := hid hr5; clear ho5 hr5)
  clear HC
  rw [rounds_succ]
  have q4 := HF.out.lk.look 4 _ rfl
  by_cases hn64 : 64 < n
  · have HC := hid (recs_many p p8 M2 c8 n x (.slice none 0 0) w8 a0 a1 HRD.out (HER.out _ HF.out.below) hn64)
    go_wp2_with (first
      | (go_at_call 54; refine HC.out.mono ?_; rintro e w9 ⟨rfl, hb5⟩; replace HF := hid (HF.out.onP (Only.of_below hb5)); clear hb5)
      | (go_at_call 33; refine (told_form a0 a1 _ (HER.out _ HF.out.below)).mono ?_; rintro e wt ⟨rfl, hwt⟩; have hwt2 := hwt.symm; subst hwt2)
      | ((with_reducible refine wpList_build_want 24 _ rfl ?_ (jC 0 (.slice none 0 0)) ?_ ?_); exact rfl; exact builtZJ)
      | ((with_reducible refine wpList_storeJ rfl rfl _ _ rfl g2 ?_ (s := 0) (v := .slice none 0 0) ?_ rfl HF.out.cr ?_); exact rfl; exact rfl; intro wz h7 o7; have H7 := hid h7; have O7 := hid o7; clear h7 o7))
    refine ret_rowJ2 rfl g2 rfl rfl rfl H7.out ?_
    rw [show R = (4, none) from HRR.out.symm.trans (HX.out.trans (by rw [rdMid_n HU1.out HU2.out hn64]))]
    exact ⟨rfl, below_tr HF.out.below (O7.out.below HF.out.below.size (fun i e => by have := HF.out.h1; omega))⟩
  have hC := recs_few p p8 M2 c8 n x w8 a0 a1 HRD.out (fun W hW => HER.out _ (HF.out.onP hW).below) (by omega)
  unfold RecsS at hC
  cases hr : rdRs n M2 with
  | none =>
    rw [hr] at hC
    have HC := hid hC
    have HR2 := hid hr
    clear hC hr
    go_wp2_with (first
      | (go_at_call 54; refine HC.out.mono ?_; rintro e w9 ⟨ho5, rfl⟩; replace HF := hid (HF.out.onP ho5); clear ho5)
      | (go_at_call 33; refine (told_form a0 a1 _ (HER.out _ HF.out.below)).mono ?_; rintro e wt ⟨rfl, hwt⟩; have hwt2 := hwt.symm; subst hwt2)
      | ((with_reducible refine wpList_build_want 24 _ rfl ?_ (jC 0 (.slice none 0 0)) ?_ ?_); exact rfl; exact builtZJ)
      | ((with_reducible refine wpList_storeJ rfl rfl _ _ rfl g2 ?_ (s := 0) (v := .slice none 0 0) ?_ rfl HF.out.cr ?_); exact rfl; exact rfl; intro wz h7 o7; have H7 := hid h7; have O7 := hid o7; clear h7 o7))
    refine ret_rowJ2 rfl g2 rfl rfl rfl H7.out ?_
    rw [show R = (4, none) from HRR.out.symm.trans (HX.out.trans (by rw [rdMid_r HU1.out HU2.out hn64 HR2.out]))]
    exact ⟨rfl, below_tr HF.out.below (O7.out.below HF.out.below.size (fun i e => by have := HF.out.h1; omega))⟩
  | some rn =>
  obtain ⟨rs, N⟩ := rn
  rw [hr] at hC
  have HC := hid hC
  have HR2 := hid hr
  have HR8 := hid HRD.out.b8
  clear hC hr HRD
  have HS8 := hid HF.out.below.size
  go_wp2_with (go_at_call 54; refine HC.out.mono ?_; rintro e w9 ⟨ho5, rfl, p9, c9, v9, m9, hr5, hs5, hm5⟩; replace HF := hid (HF.out.onP ho5); have HRD := hid hr5; have HRS := hid (hs5.base HS8.out); have HM9 := hid hm5; clear ho5 hr5 hs5 hm5)
  clear HC
  rw [rounds_succ]
  have q5 := HF.out.lk.look 5 _ rfl
  have hmid := rdMid_e HU1.out HU2.out hn64 HR2.out
  have hlen9 : m9.length ≤ 100000 := by
    have h1 := congrArg List.length HM9.out
    rw [rcs_len] at h1
    have h2 := (rdRs_some HR8.out HR2.out).2.1
    omega
  have hC := end_any p p9 N c9 n x v9 m9 w9 a0 a1 HRD.out (HRS.out.rl hlen9) (fun W hW => HER.out _ (below_on HF.out.below hW))
  rw [HM9.out] at hC
  by_cases hq : N ≠ [] ∨ okJ ⟨x, rs⟩ = false
  · rw [if_pos hq] at hC
    have HC := hid hC
    clear hC
    go_wp2_with (first
      | (go_at_call 55; refine HC.out.mono ?_; rintro e w10 ⟨rfl, hb5⟩; replace HF := hid (HF.out.onP (Only.of_below hb5)); clear hb5)
      | (go_at_call 33; refine (told_form a0 a1 _ (HER.out _ HF.out.below)).mono ?_; rintro e wt ⟨rfl, hwt⟩; have hwt2 := hwt.symm; subst hwt2)
      | ((with_reducible refine wpList_build_want 24 _ rfl ?_ (jC 0 (.slice none 0 0)) ?_ ?_); exact rfl; exact builtZJ)
      | ((with_reducible refine wpList_storeJ rfl rfl _ _ rfl g2 ?_ (s := 0) (v := .slice none 0 0) ?_ rfl HF.out.cr ?_); exact rfl; exact rfl; intro wz h7 o7; have H7 := hid h7; have O7 := hid o7; clear h7 o7))
    refine ret_rowJ2 rfl g2 rfl rfl rfl H7.out ?_
    rw [show R = (4, none) from HRR.out.symm.trans (HX.out.trans (end_bad hmid hq))]
    exact ⟨rfl, below_tr HF.out.below (O7.out.below HF.out.below.size (fun i e => by have := HF.out.h1; omega))⟩
  rw [if_neg hq] at hC
  have HC := hid hC
  have hone : v9.oneCell' = true := by obtain ⟨a, c, e, _⟩ := HRS.out.buf.form; rw [e]; rfl
  have HQ := hid (end_good hmid hq)
  have HMID := hid hmid
  clear hC hmid hq
  go_wp2_with (go_at_call 55; refine HC.out.mono ?_; rintro e w10 ⟨rfl, hb5⟩; replace HF := hid (HF.out.onP (Only.of_below hb5)); replace HRD := hid (HRD.out.below hb5); replace HRS := hid (HRS.out.below hb5); clear hb5)
  clear HC
  rw [rounds_succ]
  have HRG := hid (show ∀ j u, (jC x v9)[j]? = some u → w10.cell? ⟨p, 2 + j, none⟩ = some u from fun j u hu => by
    match j, hu with
    | 0, hu => simp [jC] at hu; subst hu; exact HRD.out.c2
    | 1, hu => simp [jC] at hu; subst hu; exact HRD.out.c3)
  go_wp2_with (first
    | ((with_reducible refine wpList_load_at 24 _ rfl ?_ p 2 ?_ (jC x v9) (.struct (Tryd.prog.fieldsOf 24)) ?_ underJrn rfl ?_ ?_); exact rfl; exact rfl; exact HRG.out; exact sizeJ)
    | ((with_reducible refine wpList_storeJ rfl rfl _ _ rfl g2 ?_ (s := x) (v := v9) ?_ hone HF.out.cr ?_); exact rfl; exact rfl; intro w11 h7 o7; have H7 := hid h7; have O7 := hid o7; clear h7 o7))
  refine ret_rowJ2 rfl g2 rfl rfl rfl H7.out ?_
  rw [show R = (0, some ⟨x, rs⟩) from HRR.out.symm.trans (HX.out.trans HQ.out)]
  exact ⟨v9, m9, rfl, (HRS.out.other7 H7.out O7.out HF.out.cr), HM9.out, below_tr HF.out.below (O7.out.below HF.out.below.size (fun i e => by have := HF.out.h1; omega))⟩
end Go.Proofs.YtelkijiphhoacaaDoor

/- journal.Bytes: the walks. -/
namespace Go.Proofs.YtelkijiphhoacaaDoor
open Go Go.RowKit

theorem Buf.form3 {B : Nat} {w : World} {v : Value} {L : List Nat} (h : Buf B w v L) : ∃ po n cc, v = .slice po n cc := by obtain ⟨p, c, e⟩ := h.form; exact ⟨p, _, c, e⟩
/-- Behind what was made so far. -/
structure B2 (w : World) (g1 : Nat) (s : Int) (v : Value) (W : World) : Prop where
  below : Below w.heap.size w W
  cj : CAt W g1 (jC s v) 24
theorem B2.on {w W W' : World} {g1 : Nat} {s : Int} {v : Value} (h : B2 w g1 s v W) (hb : Below W.heap.size W W') : B2 w g1 s v W' := ⟨below_on h.below hb, h.cj.below hb⟩
/-- The loop: so many records have been written behind the head. -/
structure BI (w1 : World) (s : Int) (n : Nat) (rs : List Rc) (k : Nat) (v : Value) (W : World) : Prop where
  below : Below w1.heap.size w1 W
  buf : Buf w1.heap.size W v (hdJ s n ++ rsB (rs.take k))
def BytE (w : World) (L : List Nat) (e : Ending) (w' : World) : Prop := ∃ v, e = .returned (.tuple #[v, i64 0]) ∧ Buf w.heap.size w' v L ∧ Below w.heap.size w w'
theorem BI.app {w1 W W1 : World} {s : Int} {n : Nat} {rs : List Rc} {k : Nat} {v : Value} (h : BI w1 s n rs k v W) (hb : Below W.heap.size W W1) {x : Rc} (hx : rs[k]? = some x) {po : Option Addr} (hbl : BL W1 po (rcB x)) (hz : po = none → (rcB x).length = 0) (hn : (hdJ s n ++ rsB (rs.take k)).length + (rcB x).length ≤ 2000000) :
    ∃ v' W2, (Builtin.append_ #[29, 29] 29 #[v, .slice po (rcB x).length (rcB x).length]).run Tryd.prog W1 = .ok v' W2 ∧ BI w1 s n rs (k + 1) v' W2 := by
  obtain ⟨v', W2, hr, hb2, hg⟩ := (h.buf.below hb).app po (rcB x).length (rcB x) hbl hz hn (Nat.le_trans h.below.size hb.size)
  refine ⟨v', W2, hr, below_grown (below_on h.below hb) hg (Nat.le_refl _) (fun b e => (own_ge h.buf b e).1), ?_⟩
  rw [rsB_take hx, ← List.append_assoc]; exact hb2
set_option maxRecDepth 100000 in
set_option maxHeartbeats 2000000 in
theorem jbytes_ok (s : Int) (v : Value) (l : List Rp) (w : World) (hl : RL w v l) (h : okJ ⟨s, rcs l⟩ = true) : Calls Tryd.prog 8 #[.agg (jC s v)] w (BytE w (jB dig ⟨s, rcs l⟩)) := by
  have HL := hid hl
  obtain ⟨k1, k2, k3, k4, _⟩ := okJ_parts h
  simp only [rcs_len] at k1 k2 k3 k4
  have hlok := hl.ok
  have HOK := hid hlok
  have HRL := hid (rsB_len hlok k4)
  have HALL := hid k4
  obtain ⟨po, c, rfl, _⟩ := hl
  have HCK : Hid (∀ W, Below w.heap.size w W → Calls Tryd.prog 20 #[.agg (jC s (.slice po l.length c))] W fun e w' => e = .returned (i64 0) ∧ Below W.heap.size W w') := hid fun W hW => by have h9 := jcheck_any s _ l W (HL.out.below hW); rw [h] at h9; exact h9
  have hcv := fun (w : World) (C : Array Value) (n c : Nat) => Go.Lib.run_convert_bytes_const (P := Tryd.prog) w 29 5 C n c Tryd.underlying29 under5'
  have hsn : s = ((s.toNat : Nat) : Int) := (ib_toNat (by omega)).symm
  have HU1 : Hid (∀ W, Calls Tryd.prog 21 #[i64 s] W (OutE W (ib s) 0)) := hid fun W => by rw [hsn]; exact uint_ok s.toNat W (by omega)
  have HU2 : Hid (∀ W, Calls Tryd.prog 21 #[i64 (l.length : Int)] W (OutE W (nb l.length) 0)) := hid fun W => uint_ok l.length W (by omega)
  have HH := hid (hdJ_len (s := s) (n := l.length) (by omega) k3)
  have HI6 := hid (ib_le (n := s) k2)
  have HN6 := hid (nb_le (n := l.length) (by omega))
  clear h k4 hsn hlok
  have T1 : Hid True := hid trivial
  have T2 : Hid True := hid trivial
  have T3 : Hid True := hid trivial
  go_enter Tryd.func8, Tryd.ntmps8
  go_wp2_with (first
    | ((with_reducible refine wpList_boxT 24 rfl _ rfl (jC s (.slice po l.length c)) ?_ ?_); exact rfl; intro w1 g1 hc1 hb1 hg1; have HF : Hid (B2 w g1 s (.slice po l.length c) w1) := hid ⟨hb1, hc1⟩; clear hb1 hc1)
    | ((with_reducible refine wpList_load_at 24 _ rfl ?_ g1 0 ?_ (jC s (.slice po l.length c)) (.struct (Tryd.prog.fieldsOf 24)) ?_ underJrn rfl ?_ ?_); exact rfl; exact rfl; exact HF.out.cj.wholeJ; exact sizeJ)
    | (go_at_call 20; refine (HCK.out _ HF.out.below).mono ?_; rintro e w3 ⟨rfl, hb3⟩; replace HF := hid (HF.out.on hb3); have c0 := HF.out.cj.j0; have c1 := HF.out.cj.j1; clear hb3)
    | (clear T1; go_at_call 21; refine (HU1.out _).mono ?_; rintro e w4 ⟨v4, rfl, ho4, hb4⟩; replace HF := hid (HF.out.on hb4); clear c0 c1; have c1 := HF.out.cj.j1; have HO4 := hid ho4; clear ho4 hb4)
    | (clear T2; go_at_call 21; refine (HU2.out _).mono ?_; rintro e w5 ⟨v5, rfl, ho5, hb5⟩; replace HF := hid (HF.out.on hb5); clear c1; replace HO4 := hid (HO4.out.below hb5); obtain ⟨p4, hp4, hbl4, hz4⟩ := HO4.out.form; subst hp4; obtain ⟨p5, hp5, hbl5, hz5⟩ := ho5.form; subst hp5; obtain ⟨v6, w6, hr6, hbf6, hb6⟩ := grow_buf (w5.alloc (.cells c3 5 (3, 4))) w5.heap.size [83, 74, 49] (c3_cells w5 (3, 4)) p4 (ib s).length (ib s) (hbl4.below (below_al _ _)) (nb_ne _) (by have := HI6.out; simp only [List.length_cons, List.length_nil]; omega); have hb56 := below_on (below_al w5 (.cells c3 5 (3, 4))) hb6; obtain ⟨v7, w7, hr7, hbf7, hg7⟩ := hbf6.app p5 (nb l.length).length (nb l.length) (hbl5.below hb56) hz5 (by have := HI6.out; have := HN6.out; simp only [List.length_append, List.length_cons, List.length_nil]; omega) hb6.size; have HRUN6 := hid hr6; have HRUN7 := hid hr7; have HI : Hid (BI w5 s l.length (rcs l) 0 v7 w7) := hid ⟨below_grown hb56 hg7 (Nat.le_refl _) (fun b e => by have := (own_ge hbf6 b e).1; rw [size_al] at this; omega), (by have e9 : hdJ s l.length ++ rsB ((rcs l).take 0) = [83, 74, 49] ++ ib s ++ nb l.length := (by simp [hdJ, rsB]); rw [e9]; exact own_base hbf7 (by rw [size_al]; omega))⟩; have c1 := (HF.out.on HI.out.below).cj.j1; obtain ⟨q7, n7, cc7, hv7⟩ := hbf7.form3; subst hv7; clear hr6 hr7 hbf6 hbf7 hg7 hb6 hb56 ho5 hb5)
    | (clear T3; at_builtin; refine wpList_append_run _ _ 29 29 rfl rfl _ _ _ rfl rfl HRUN6.out ?_)
    | (at_builtin; refine wpList_append_run _ _ 29 29 rfl rfl _ _ _ rfl rfl HRUN7.out ?_))
  go_loopg [9, 11, 12, 13, 42] l.length (fun gg s9 _ _ _ s42 wr => ∃ (kk : Nat) (p9 : Option Addr) (n9 c9 : Nat), kk ≤ l.length ∧ l.length - kk ≤ gg ∧ s42 = i64 kk ∧ s9 = .slice p9 n9 c9 ∧ Hid (BI w5 s l.length (rcs l) kk (.slice p9 n9 c9) wr))
  case atStart => exact ⟨0, _, _, _, Nat.zero_le _, by omega, rfl, rfl, HI.out⟩
  case round =>
    obtain ⟨kk, p9, n9, c9, hkk, hg, rfl, rfl, I⟩ := hrel
    clear HI c1 HRUN6 HRUN7
    by_cases hlt : kk < l.length
    · have hltz : (kk : Int) < (l.length : Int) := by omega
      have HBW := hid (below_on HF.out.below I.out.below)
      obtain ⟨b, o, x, e1, hx, hrx, hkx, hox⟩ := HL.out.at HBW.out hlt
      subst e1
      have hok := hkx.ok
      have HR := hid hrx
      have HKX := hid hkx
      have hxr : (rcs l)[kk]? = some x.rc := by rw [rcs_get, hx]; rfl
      have HXR := hid hxr
      have HX1 := hid (show (rcB x.rc).length ≤ 1000 from rcB_len x.r hok x.ps (List.all_eq_true.1 HALL.out x.rc (List.mem_of_getElem? hxr)))
      have HBY : Hid (∀ W, Below wr.heap.size wr W → Calls Tryd.prog 22 #[.agg x.r.cs] W (OutE W (rcB x.rc) 0)) := hid fun W hW => bytes_ok x.r hok x.ps W (HKX.out.pl.below hW) (List.all_eq_true.1 HALL.out x.rc (List.mem_of_getElem? HXR.out))
      clear hrx hkx hx hxr
      have T4 : Hid True := hid trivial
      go_wp2_with (first
        | (clear T4; (with_reducible refine wpList_loadM rfl _ rfl b (o + kk * 42) ?_ x.r hok HR.out ?_); exact rfl)
        | ((with_reducible refine wpList_allocR rfl rfl ?_); intro wa ga hza hba hga; have HZA := hid hza; have HBA := hid hba; have HGA := hid hga; clear hza hba hga)
        | ((with_reducible refine wpList_storeR rfl rfl _ _ rfl ga ?_ (r := x.r) ?_ zR_ok hok hox HZA.out ?_); exact rfl; exact rfl; intro wb hb9 ob9; have HOB := hid (Own1.mk1 HBA.out HGA.out hb9 ob9); clear hb9 ob9 HZA)
        | ((with_reducible refine wpList_load_at 60 _ rfl ?_ ga 0 ?_ x.r.cs (.struct (Tryd.prog.fieldsOf 60)) ?_ underRec rfl ?_ ?_); exact rfl; exact rfl; exact HOB.out.box.whole; (rw [hok.size]; exact sizeR))
        | (go_at_call 22; refine (HBY.out _ HOB.out.below).mono ?_; rintro e wc ⟨vc, rfl, hoc, hbc⟩; obtain ⟨pc, hpc, hblc, hzc⟩ := hoc.form; subst hpc; obtain ⟨vd, wd, hrd, hId⟩ := I.out.app (below_on HOB.out.below hbc) HXR.out hblc hzc (by have h1 := HRL.out kk (by omega); have h2 := HH.out; have h3 := HX1.out; simp only [List.length_append]; omega); have HRUN := hid hrd; have HID := hid hId; obtain ⟨pd, nd, cd, hvd⟩ := hId.buf.form3; subst hvd; clear hoc hbc hblc hzc hrd hId)
        | (at_builtin; refine wpList_append_run _ _ 29 29 rfl rfl _ _ _ rfl rfl HRUN.out ?_))
      go_roundg (l.length - (kk + 1))
      case measure => omega
      case rel => exact ⟨kk + 1, _, _, _, by omega, by omega, by go_num, rfl, HID.out⟩
    · have hltz : ¬ (kk : Int) < (l.length : Int) := by omega
      have hke : kk = l.length := by omega
      obtain ⟨X, hX⟩ : ∃ X, jBody ⟨s, rcs l⟩ = X := ⟨_, rfl⟩
      have hbuf : Buf w5.heap.size wr (.slice p9 n9 c9) X := by
        have := I.out.buf
        rw [List.take_of_length_le (by rw [rcs_len]; omega), ← jBody_hd, hX] at this
        exact this
      have hXl : X.length ≤ 100000 := by
        have h1 := HRL.out l.length (Nat.le_refl _)
        have h2 := HH.out
        rw [List.take_of_length_le (by rw [rcs_len]; omega)] at h1
        rw [← hX, jBody_hd, List.length_append]; omega
      have hX8 : ∀ z ∈ X, z < 256 := fun z hz => by
        rw [← hX, jBody_hd] at hz
        rcases List.mem_append.1 hz with hz | hz
        · exact hdJ_byte _ _ z hz
        · exact rsB_byte HOK.out z hz
      obtain ⟨hn9, hc9⟩ := hbuf.cap
      have HSUM : Hid (∀ W, Below wr.heap.size wr W → Calls Tryd.prog 23 #[.slice p9 n9 c9] W fun e w' => e = .returned (.agg (sumC (dig X))) ∧ Below W.heap.size W w') := hid fun W hW => by rw [hn9]; exact dsum_any p9 c9 X W (by omega) (by omega) (hbuf.bl.below hW) hX8
      have HBF := hid hbuf
      have HXL := hid hXl
      have hdl := dig_len X
      generalize hD : dig X = D at HSUM hdl
      have HD := hid hD
      have HX := hid hX
      clear hbuf hXl hX8 hn9 hc9 hD hX hke
      have hsl := run_dig
      go_wp2_with (first
        | (go_at_call 23; refine (HSUM.out _ (Below.refl _ _)).mono ?_; rintro e wd ⟨rfl, hbd⟩; have HBD := hid hbd; clear hbd)
        | ((with_reducible refine wpList_allocD rfl rfl ?_); intro wa ga hza hba hga; have HZA := hid hza; have HBA := hid (below_on HBD.out hba); have HGA := hid (show wr.heap.size ≤ ga by have := HBD.out.size; omega); clear hza hba hga)
        | ((with_reducible refine wpList_storeD rfl rfl _ _ rfl ga ?_ (m := zeroD) (n := D) ?_ ?_ hdl HZA.out ?_); exact rfl; exact rfl; exact rfl; intro wb hb9 ob9; have HBB := hid (below_tr HBA.out (ob9.below HBA.out.size (fun i e => by have := HGA.out; omega))); have hblD := hb9.bl; obtain ⟨ve, we, hre, hbe, hge⟩ := (HBF.out.below HBB.out).app (some ⟨ga, 0, none⟩) 32 D hblD (fun e => by cases e) (by have := HXL.out; omega) (by have := I.out.below.size; have := HBB.out.size; omega); rw [hdl] at hre; have HRUN := hid hre; have HBE := hid hbe; have HGE := hid hge; clear hb9 ob9 HZA hblD hre hbe hge)
        | (at_builtin; refine wpList_append_run _ _ 29 29 rfl rfl _ _ _ rfl rfl HRUN.out ?_))
      go_ret2
      have hjb : jB dig ⟨s, rcs l⟩ = X ++ D := by unfold jB; rw [HX.out, HD.out]
      have hbw : Below w5.heap.size wr we := below_grown (below_less HBB.out (by have := I.out.below.size; omega)) HGE.out (by have := I.out.below.size; omega) (fun b e => (own_ge HBF.out b e).1)
      refine ⟨_, rfl, ?_, below_tr (below_on HF.out.below I.out.below) (below_less hbw (by have := HF.out.below.size; omega))⟩
      rw [hjb]
      exact own_base HBE.out (by have := HF.out.below.size; omega)
end Go.Proofs.YtelkijiphhoacaaDoor

/- Copies (what drives answer) and lists of them in memory; bools in memory. -/
namespace Go.Proofs.YtelkijiphhoacaaDoor
open Go Go.RowKit

/-- A copy as a value, and its bytes. -/
structure Cv where
  err : Int
  v : Value
  bs : List Nat
def Cv.cp (x : Cv) : Cp := ⟨x.err, x.bs⟩
def cps (l : List Cv) : List Cp := l.map Cv.cp
theorem cps_len (l : List Cv) : (cps l).length = l.length := by simp [cps]
theorem cps_get (l : List Cv) (i : Nat) : (cps l)[i]? = l[i]?.map Cv.cp := by simp [cps]
theorem take_next {α : Type} {l : List α} {k : Nat} {x : α} (h : l[k]? = some x) : l.take (k + 1) = l.take k ++ [x] := by
  obtain ⟨hk, rfl⟩ := List.getElem?_eq_some_iff.1 h
  rw [List.take_add_one, h]; rfl
theorem cps_next {l : List Cv} {k : Nat} {x : Cv} (h : l[k]? = some x) : cps (l.take (k + 1)) = cps (l.take k) ++ [x.cp] := by rw [take_next h]; simp [cps]
/-- Bytes of a copy: where they lie. -/
structure CvOk (w : World) (x : Cv) : Prop where
  sl : ∃ po c, x.v = .slice po x.bs.length c ∧ BL w po x.bs ∧ x.bs.length ≤ c ∧ (po = none → c = 0)
  small : x.bs.length ≤ 100000
  byte : ∀ z ∈ x.bs, z < 256
theorem CvOk.keep {w w' : World} {x : Cv} (h : CvOk w x) (hk : ∀ a, w.cell? a ≠ none → w'.cell? a = w.cell? a) : CvOk w' x := by
  obtain ⟨⟨po, c, h1, h2, h3, h4⟩, h5, h6⟩ := h
  exact ⟨⟨po, c, h1, h2.keep hk, h3, h4⟩, h5, h6⟩
theorem CvOk.slv {w : World} {x : Cv} (h : CvOk w x) : SL w x.v x.bs := by
  obtain ⟨⟨po, c, h1, h2, h3, _⟩, _, _⟩ := h
  exact ⟨po, c, h1, h2, h3⟩
/-- The copies lie there, one behind the other. -/
def CCells (w : World) (b o : Nat) (l : List Cv) : Prop := ∀ i x, l[i]? = some x → w.cell? ⟨b, o + i * 2, none⟩ = some (i64 x.err) ∧ w.cell? ⟨b, o + i * 2 + 1, none⟩ = some x.v
theorem CCells.keep {w w' : World} {b o : Nat} {l : List Cv} (h : CCells w b o l) (hk : ∀ a, w.cell? a ≠ none → w'.cell? a = w.cell? a) : CCells w' b o l := fun i x e => by
  have := h i x e
  exact ⟨(hk _ (by rw [this.1]; simp)).trans this.1, (hk _ (by rw [this.2]; simp)).trans this.2⟩
/-- The slice v leads to the copies l. -/
def CL (w : World) (v : Value) (l : List Cv) : Prop := ∃ po c, v = .slice po l.length c ∧ l.length ≤ c ∧ l.length ≤ 1000 ∧ (po = none → c = 0) ∧ (l = [] ∨ ∃ b o, po = some ⟨b, o, none⟩ ∧ CCells w b o l) ∧ ∀ x ∈ l, CvOk w x
theorem CL.each {w : World} {v : Value} {l : List Cv} (h : CL w v l) : ∀ x ∈ l, CvOk w x := by obtain ⟨_, _, _, _, _, _, _, h⟩ := h; exact h
theorem CL.keep {w w' : World} {v : Value} {l : List Cv} (h : CL w v l) (hk : ∀ a, w.cell? a ≠ none → w'.cell? a = w.cell? a) : CL w' v l := by
  obtain ⟨po, c, h1, h2, h3, h4, h5, h6⟩ := h
  refine ⟨po, c, h1, h2, h3, h4, ?_, fun x hx => (h6 x hx).keep hk⟩
  rcases h5 with h5 | ⟨b, o, e, h5⟩
  · exact Or.inl h5
  · exact Or.inr ⟨b, o, e, h5.keep hk⟩
theorem CL.below {w w' : World} {v : Value} {l : List Cv} (h : CL w v l) (hb : Below w.heap.size w w') : CL w' v l := h.keep fun a ha => World.cell?_of_block (hb.block a.block (cell_lt' ha))
/-- One of them, by its place. -/
theorem CL.where {w : World} {v : Value} {l : List Cv} (h : CL w v l) {i : Nat} {x : Cv} (hx : l[i]? = some x) : ∃ b o c, v = .slice (some ⟨b, o, none⟩) l.length c ∧ l.length ≤ c ∧ CCells w b o l ∧ CvOk w x := by
  obtain ⟨po, c, h1, h2, h3, h4, h5, h6⟩ := h
  rcases h5 with rfl | ⟨b, o, rfl, h5⟩
  · simp at hx
  · exact ⟨b, o, c, h1, h2, h5, h6 x (List.mem_of_getElem? hx)⟩
/-- A copy's two cells, in the world at hand, and its bytes. -/
theorem CL.at {w w' : World} {b o n c : Nat} {l : List Cv} (h : CL w (.slice (some ⟨b, o, none⟩) n c) l) (hb : Below w.heap.size w w') {i : Nat} {x : Cv} (hx : l[i]? = some x) : w'.cell? ⟨b, o + i * 2, none⟩ = some (i64 x.err) ∧ w'.cell? ⟨b, o + i * 2 + 1, none⟩ = some x.v ∧ CvOk w' x := by
  obtain ⟨b', o', c', e, _, h1, h2⟩ := (h.below hb).where hx
  cases e
  exact ⟨(h1 i x hx).1, (h1 i x hx).2, h2⟩
/-- A slice of bools. -/
def BoL (w : World) (v : Value) (hs : List Bool) : Prop := ∃ po c, v = .slice po hs.length c ∧ hs.length ≤ c ∧ (hs = [] ∨ ∃ b o, po = some ⟨b, o, none⟩ ∧ ∀ i x, hs[i]? = some x → w.cell? ⟨b, o + i, none⟩ = some (.bool x))
theorem BoL.keep {w w' : World} {v : Value} {hs : List Bool} (h : BoL w v hs) (hk : ∀ a, w.cell? a ≠ none → w'.cell? a = w.cell? a) : BoL w' v hs := by
  obtain ⟨po, c, h1, h2, h3⟩ := h
  refine ⟨po, c, h1, h2, ?_⟩
  rcases h3 with h3 | ⟨b, o, e, h3⟩
  · exact Or.inl h3
  · exact Or.inr ⟨b, o, e, fun i x hx => by have := h3 i x hx; exact (hk _ (by rw [this]; simp)).trans this⟩
theorem BoL.below {w w' : World} {v : Value} {hs : List Bool} (h : BoL w v hs) (hb : Below w.heap.size w w') : BoL w' v hs := h.keep fun a ha => World.cell?_of_block (hb.block a.block (cell_lt' ha))
theorem BoL.nil (w : World) : BoL w (.slice none 0 0) [] := ⟨none, 0, rfl, Nat.le_refl _, Or.inl rfl⟩
theorem BoL.at {w w' : World} {b o n c : Nat} {hs : List Bool} (h : BoL w (.slice (some ⟨b, o, none⟩) n c) hs) (hb : Below w.heap.size w w') {i : Nat} {x : Bool} (hx : hs[i]? = some x) : w'.cell? ⟨b, o + i, none⟩ = some (.bool x) := by
  obtain ⟨po, c', h1, _, h3⟩ := h.below hb
  rcases h3 with rfl | ⟨b', o', e, h3⟩
  · simp at hx
  · cases h1; cases e; exact h3 i x hx
theorem BoL.some {w : World} {v : Value} {hs : List Bool} (h : BoL w v hs) (hne : 0 < hs.length) : ∃ b o c, v = .slice (some ⟨b, o, none⟩) hs.length c := by
  obtain ⟨po, c, h1, _, h3⟩ := h
  rcases h3 with rfl | ⟨b, o, rfl, h3⟩
  · simp at hne
  · exact ⟨b, o, c, h1⟩
end Go.Proofs.YtelkijiphhoacaaDoor
