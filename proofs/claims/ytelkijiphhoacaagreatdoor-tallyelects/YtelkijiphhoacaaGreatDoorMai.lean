/- Texts laid into one, cut to what is needed: the remark ahead of each part says what is proved there. -/
import Derived.Test.YtelkijiphhoacaaGreatDoorMah
import Derived.Deep.MidRow
import Derived.Laws.Tables
import Derived.Laws.Rows
/- Contract of Bytes of package record. -/
namespace Go.Proofs.YtelkijiphhoacaaGreatDoor
open Go Go.RowKit

theorem AppZ.pushA {B : Nat} {v0 v : Value} {w0 w : World} {L : List Nat} (h : AppZ B v0 w0 L v w) (k : Nat) (hL : L.length ≤ 900000) (hB : B ≤ w0.heap.size) (W : World) (hW : Below w.heap.size w W) (g : Nat) (hg : g = W.heap.size) :
    ∃ v' w', (Builtin.append_ #[28, 28] 28 #[v, .slice (some ⟨g, 0, none⟩) 1 1]).run Tryz.prog (W.alloc (.cells #[u8 k] 5)) = .ok v' w' ∧ AppZ B v0 w0 (L ++ [k]) v' w' := by
  subst hg
  have h2 := h.below hW
  obtain ⟨v', w', h3, h4⟩ := h2.buf.pushZ k (by omega) (by have := h2.only.size; omega)
  exact ⟨v', w', h3, h2.trans h4⟩
theorem rcB_mark {r : Rv} {ps : Ps} (h : r.mark = true) : rcB (r.rc ps) = tb (lst r.id) ++ (ib r.time ++ [1]) := by
  unfold rcB Rv.rc; simp [h]
theorem rcB_vers {r : Rv} {ps : Ps} (h : r.mark = false) : rcB (r.rc ps) = tb (lst r.id) ++ (ib r.time ++ ([0] ++ vB r ps)) := by
  unfold rcB Rv.rc vB; simp [h]
theorem run_loadR {w : World} {g : Nat} {r : Rv} (hr : r.ok) (h : RBox w g r) : (Instr.loadAt 74 (.pointer (some ⟨g, 0, none⟩))).run Tryz.prog w = .ok (.agg r.cs) w := by
  simp only [Instr.loadAt, Instr.sureAddr, Sem.run_bind, Sem.run_pure, Result.andThen_ok, run_loadVar_at w g 0 74 r.cs _ h.whole underRec rfl (by rw [hr.size]; exact sizeR)]
theorem exec_load {a : Act} {o : Oper} {ty : TypeId} {x : Operand} {p v : Value} {W : World} (ho : o.op = .load ty x) (hx : a.eval x = p) (h : (Instr.loadAt ty p).run Tryz.prog W = .ok v W) : (execOp a.eval o).run Tryz.prog W = .ok (.value v) W := by
  unfold execOp
  simp only [ho, hx, Sem.run_bind, h, Result.andThen_ok, Sem.run_pure]
theorem okRc_id {r : Rv} {ps : Ps} (h : okRc (r.rc ps) = true) : r.id.size ≤ 32 ∧ 0 ≤ r.time ∧ r.time ≤ 1048576 := by
  unfold okRc Rv.rc at h
  simp only [Bool.and_eq_true] at h
  have h1 := okOf_len h.1.1
  have h2 := inR_iff.1 h.1.2
  rw [lst_len] at h1
  exact ⟨h1.2, h2.1, h2.2⟩
set_option maxRecDepth 100000 in
set_option maxHeartbeats 2000000 in
theorem bytes_mark (r : Rv) (hr : r.ok) (ps : Ps) (w : World) (hp : PL w r.pv ps) (h : okRc (r.rc ps) = true) (hm : r.mark = true) : Calls Tryz.prog 50 #[.agg r.cs] w (OutE w (rcB (r.rc ps)) 0) := by
  have HR := hid hr
  have HP := hid hp
  have H := hid h
  obtain ⟨q1, q2, q3⟩ := okRc_id h
  clear hr hp h
  go_enter Tryz.func50, Tryz.ntmps50
  go_wp2_with (first
    | ((with_reducible refine wpList_boxR rfl _ rfl r.cs ?_ ?_); exact rfl; intro w1 g1 hc1 hb1 hg1; have HA := hid (RBox.mk' HR.out hc1); have HB := hid hb1; have HP1 := hid (HP.out.below hb1); clear hc1 hb1)
    | ((with_reducible refine wpList_load_at 74 _ rfl ?_ g1 0 ?_ r.cs (.struct (Tryz.prog.fieldsOf 74)) ?_ underRec rfl ?_ ?_); exact rfl; exact rfl; exact HA.out.whole; (rw [HR.out.size]; exact sizeR))
    | (go_at_call 67; refine (check_any r HR.out ps _ HP1.out).mono ?_; rintro e w2 ⟨rfl, hb2⟩; rw [H.out]; replace HA := hid (HA.out.below HR.out hb2); replace HB := hid (below_on HB.out hb2); clear hb2))
  have HZ := hid (AppZ.refl (Buf.nil w.heap.size w2))
  have hB1 : w.heap.size ≤ w2.heap.size := HB.out.size
  have HG : Hid (∀ W, Only (fun b => (Value.slice none 0 0).ownBlock = some b) w2 W → RBox W g1 r) := fun W ho => HA.out.only HR.out ho (by simp [Value.ownBlock])
  have HC := hid (show _ ∧ _ from ⟨HA.out.c0, HA.out.c1⟩)
  have l1 := tb_le (s := r.id) (by omega)
  have l2 := ib_le (n := r.time) (by omega)
  go_region_held3 (fun w' => w'.cell? ⟨g1, 0, none⟩ = some (.string r.id) ∧ w'.cell? ⟨g1, 1, none⟩ = some (i64 r.time)) (exact HC.out) (first
    | (go_at_call 72; (first | refine (HZ.out.text (by omega) (by simp) hB1 _ (below_drewN _ _)).mono ?_ | refine (HZ.out.text (by omega) (by simp) hB1 _ (Below.refl _ _)).mono ?_); rintro e w3 ⟨v3, rfl, hz⟩; replace HZ := hid hz; replace HC := hid (show _ ∧ _ from ⟨(HG.out _ hz.only).c0, (HG.out _ hz.only).c1⟩); clear hz)
    | (go_at_call 71; (first | refine (HZ.out.num q2 (by omega) (by simp only [List.nil_append]; omega) hB1 _ (below_drewN _ _)).mono ?_ | refine (HZ.out.num q2 (by omega) (by simp only [List.nil_append]; omega) hB1 _ (Below.refl _ _)).mono ?_); rintro e w4 ⟨v4, rfl, hz⟩; replace HZ := hid hz; replace HC := hid (show _ ∧ _ from ⟨(HG.out _ hz.only).c0, (HG.out _ hz.only).c1⟩); clear hz))
  have c2 := (HG.out _ HZ.out.only).c2
  rw [hm] at c2
  obtain ⟨v5, w5, hrun, hz5⟩ := HZ.out.pushA 1 (by simp only [List.length_append, List.length_nil]; omega) hB1 w4 (Below.refl _ _) w4.heap.size rfl
  have HRUN := hid hrun
  clear hrun HC
  go_wp2_with (first
    | (at_builtin; refine wpList_append_run _ _ 28 28 rfl rfl _ _ _ rfl rfl HRUN.out ?_)
    | (go_at_call 70; refine (clip_any w.heap.size _ _ _ hz5.buf).mono ?_; rintro e w6 ⟨⟨v6, rfl, ho⟩, hw6⟩; have hw7 := hw6.symm; subst hw7))
  go_ret2
  refine ⟨v6, rfl, ?_, below_tr HB.out (hz5.only.below hB1 (by simp [Value.ownBlock]))⟩
  rw [rcB_mark hm]; simpa using ho
set_option maxRecDepth 100000 in
set_option maxHeartbeats 2000000 in
theorem bytes_vers (r : Rv) (hr : r.ok) (ps : Ps) (w : World) (hp : PL w r.pv ps) (h : okRc (r.rc ps) = true) (hm : r.mark = false) : Calls Tryz.prog 50 #[.agg r.cs] w (OutE w (rcB (r.rc ps)) 0) := by
  have HR := hid hr
  have HP := hid hp
  have H := hid h
  obtain ⟨q1, q2, q3⟩ := okRc_id h
  have hvo : versOk r ps = true := by rw [okRc_vers r ps hm hr.sl] at h; simp only [Bool.and_eq_true] at h; exact h.2
  have HV := hid hvo
  have HSZ := hid hr.size
  clear hr hp h hvo
  go_enter Tryz.func50, Tryz.ntmps50
  go_wp2_with (first
    | ((with_reducible refine wpList_boxR rfl _ rfl r.cs ?_ ?_); exact rfl; intro w1 g1 hc1 hb1 hg1; have HA := hid (RBox.mk' HR.out hc1); have HB := hid hb1; have HP1 := hid (HP.out.below hb1); clear hc1 hb1)
    | ((with_reducible refine wpList_load_at 74 _ rfl ?_ g1 0 ?_ r.cs (.struct (Tryz.prog.fieldsOf 74)) ?_ underRec rfl ?_ ?_); exact rfl; exact rfl; exact HA.out.whole; (rw [HR.out.size]; exact sizeR))
    | (go_at_call 67; refine (check_any r HR.out ps _ HP1.out).mono ?_; rintro e w2 ⟨rfl, hb2⟩; rw [H.out]; replace HA := hid (HA.out.below HR.out hb2); replace HB := hid (below_on HB.out hb2); clear hb2))
  have HZ := hid (AppZ.refl (Buf.nil w.heap.size w2))
  have hB1 : w.heap.size ≤ w2.heap.size := HB.out.size
  have HG : Hid (∀ W, Only (fun b => (Value.slice none 0 0).ownBlock = some b) w2 W → RBox W g1 r) := fun W ho => HA.out.only HR.out ho (by simp [Value.ownBlock])
  have HC := hid (show _ ∧ _ from ⟨HA.out.c0, HA.out.c1⟩)
  have l1 := tb_le (s := r.id) (by omega)
  have l2 := ib_le (n := r.time) (by omega)
  go_region_held3 (fun w' => w'.cell? ⟨g1, 0, none⟩ = some (.string r.id) ∧ w'.cell? ⟨g1, 1, none⟩ = some (i64 r.time)) (exact HC.out) (first
    | (go_at_call 72; (first | refine (HZ.out.text (by omega) (by simp) hB1 _ (below_drewN _ _)).mono ?_ | refine (HZ.out.text (by omega) (by simp) hB1 _ (Below.refl _ _)).mono ?_); rintro e w3 ⟨v3, rfl, hz⟩; replace HZ := hid hz; replace HC := hid (show _ ∧ _ from ⟨(HG.out _ hz.only).c0, (HG.out _ hz.only).c1⟩); clear hz)
    | (go_at_call 71; (first | refine (HZ.out.num q2 (by omega) (by simp only [List.nil_append]; omega) hB1 _ (below_drewN _ _)).mono ?_ | refine (HZ.out.num q2 (by omega) (by simp only [List.nil_append]; omega) hB1 _ (Below.refl _ _)).mono ?_); rintro e w4 ⟨v4, rfl, hz⟩; replace HZ := hid hz; replace HC := hid (show _ ∧ _ from ⟨(HG.out _ hz.only).c0, (HG.out _ hz.only).c1⟩); clear hz))
  have c2 := (HG.out _ HZ.out.only).c2
  rw [hm] at c2
  clear HC
  go_wp2
  clear c2
  have HAF : Hid (∀ W, Below w4.heap.size w4 W → (Instr.loadAt 74 (.pointer (some ⟨g1, 0, none⟩))).run Tryz.prog W = .ok (.agg r.cs) W) := fun W hW => run_loadR HR.out ((HG.out _ HZ.out.only).below HR.out hW)
  have HC := hid (HAF.out _ (Below.refl _ _))
  have HBB := hid (fun W (ho : Only (fun b => (Value.slice none 0 0).ownBlock = some b) w2 W) => below_tr HB.out (ho.below hB1 (by simp [Value.ownBlock])))
  refine wp_region_held_drew (S := fun w' => (Instr.loadAt 74 (.pointer (some ⟨g1, 0, none⟩))).run Tryz.prog w' = .ok (.agg r.cs) w') (by kernel_rfl) (HAF.out _ (below_drew _)) (fun hHeld => ?_)
  refine wpAnyH_take (i := 0) (v := v4) rfl (by kernel_rfl) (by kernel_rfl) (by kernel_rfl) (fun _ _ _ h => h) (Or.inl ⟨by rfl, by intro W hW; go_simp⟩) hHeld ?_
  refine wpAnyH_take (i := 3) (v := .agg r.cs) rfl (by kernel_rfl) (by kernel_rfl) (by kernel_rfl) (fun _ _ _ h => h) (Or.inl ⟨by rfl, fun W hW => exec_load rfl rfl hW⟩) hHeld ?_
  refine wpAnyH_ready (rs := [1]) (by kernel_rfl) (by simp) ?_
  refine AllReadyH.cons rfl (fun K hK => ?_) AllReadyH.nil
  go_simp
  refine hK.out _ _ (HAF.out _ (below_on (below_drew _) (below_al _ _))) (fun hHeld => ?_)
  clear hK K
  refine wpAnyH_ready (rs := [2]) (by kernel_rfl) (by simp) ?_
  refine AllReadyH.cons rfl (fun K hK => ?_) AllReadyH.nil
  refine step_append_ex (by rfl) (.tmp 23) (.tmp 24) 28 (by rfl) v4 (.slice (some ⟨w4.heap.size, 0, none⟩) 1 1) (by rfl) (by rfl) (HZ.out.pushA 0 (by simp only [List.length_append, List.length_nil]; omega) hB1 w4.drew (below_drew _) w4.heap.size rfl) ?_
  rintro v5 w5 hz
  replace HZ := hid hz
  clear hz
  refine hK.out _ _ (run_loadR HR.out (HG.out _ HZ.out.only)) (fun hHeld => ?_)
  clear hK K
  refine wpAnyH_ready (rs := [4]) (by kernel_rfl) (by simp) ?_
  refine AllReadyH.cons rfl (fun K hK => ?_) AllReadyH.nil
  go_simp
  refine (appVers w r HR.out ps HP.out HV.out v5 _ w5 (HBB.out _ HZ.out.only) HZ.out.buf (by simp only [List.length_append, List.length_nil, List.length_singleton]; omega)).mono ?_
  rintro e w6 ⟨v6, rfl, hz⟩
  replace HZ := hid (HZ.out.trans hz)
  clear hz
  go_wp2_with fail
  refine hK.out _ _ (run_loadR HR.out (HG.out _ HZ.out.only)) (fun hHeld => ?_)
  clear hK K
  refine wpAnyH_ready (rs := [5]) (by kernel_rfl) (by simp) ?_
  refine AllReadyH.cons rfl (fun K hK => ?_) AllReadyH.nil
  go_simp
  refine (clip_any w.heap.size _ _ _ HZ.out.buf).mono ?_
  rintro e w7 ⟨⟨v7, rfl, ho⟩, hw7⟩
  have hw8 := hw7.symm
  subst hw8
  go_wp2_with fail
  refine hK.out _ _ (run_loadR HR.out (HG.out _ HZ.out.only)) (fun hHeld => ?_)
  clear hK K
  refine wpAnyH_take (i := 6) (oi := ⟨some 2, .assign (.tmp 28), 28, _, _, none⟩) (v := v7) rfl (by kernel_rfl) (by kernel_rfl) (by kernel_rfl) (fun _ _ _ h => h) (Or.inl ⟨by rfl, by intro W hW; go_simp⟩) hHeld ?_
  refine wpAnyH_take (i := 7) (oi := ⟨some 3, .assign (.const (.int .i64 0)), 32, _, _, none⟩) (v := i64 0) rfl (by kernel_rfl) (by kernel_rfl) (by kernel_rfl) (fun _ _ _ h => h) (Or.inl ⟨by rfl, by intro W hW; go_simp⟩) hHeld ?_
  refine wpAnyH_done (by kernel_rfl) ?_ _
  simp only [Act.put, List.setIfInBounds_toArray, List.set_cons_zero, List.set_cons_succ]
  go_wp2
  go_ret2
  refine ⟨v7, rfl, ?_, HBB.out _ HZ.out.only⟩
  rw [rcB_vers hm]; simpa using ho
theorem bytes_ok (r : Rv) (hr : r.ok) (ps : Ps) (w : World) (hp : PL w r.pv ps) (h : okRc (r.rc ps) = true) : Calls Tryz.prog 50 #[.agg r.cs] w (OutE w (rcB (r.rc ps)) 0) := by
  cases hm : r.mark
  · exact bytes_vers r hr ps w hp h hm
  · exact bytes_mark r hr ps w hp h hm
end Go.Proofs.YtelkijiphhoacaaGreatDoor

/- Contract of record of the reader of package record. -/
namespace Go.Proofs.YtelkijiphhoacaaGreatDoor
open Go Go.RowKit

def zR : Rv := ⟨⟨#[]⟩, 0, false, 0, ⟨#[]⟩, 0, 0, ⟨#[]⟩, zeroD, .slice none 0 0, ⟨#[]⟩⟩
theorem zR_ok : zR.ok := ⟨rfl, by simp [zR, zeroD], by simp [zR, ByteArray.size], by simp [zR, ByteArray.size], by simp [zR, ByteArray.size], by simp [zR, ByteArray.size]⟩
theorem zeroR : (Tryz.prog.info? 74).map (·.zero) = some (some (.agg zR.cs)) := by kernel_rfl
theorem built_head (id : ByteArray) (time : Int) : Tryz.prog.built 74 [(0, .string id), (1, i64 time)] = some ({ zR with id := id, time := time } : Rv).cs := by kernel_rfl
theorem headR_ok {t : ByteArray} {v : Int} (h : t.size ≤ 65536) : ({ zR with id := t, time := v } : Rv).ok := ⟨zR_ok.sl, zR_ok.s8, by show t.size ≤ _; omega, zR_ok.e, zR_ok.d, zR_ok.u⟩
theorem Rv.one {r : Rv} (h : r.pv.oneCell' = true) : r.cs.all (·.oneCell') = true := by
  rw [Array.all_eq_true_iff_forall_mem]
  intro v hv
  rw [← Array.mem_toList_iff, Rv.toL] at hv
  simp only [List.mem_append, List.mem_cons, List.not_mem_nil, or_false, List.mem_map] at hv
  rcases hv with (rfl | rfl | rfl | rfl | rfl | rfl | rfl | rfl) | ⟨_, _, rfl⟩ | rfl | rfl <;> first | rfl | exact h
theorem only_setRow {S : Nat → Prop} (w : World) (g : Nat) (cs : Array Value) (h : S g) : Only S w (w.setRow g cs) := ⟨rfl, rfl, rfl, by simp, fun k _ hk => setRow_other w g k cs fun e => hk (e ▸ h)⟩
theorem run_storeR {w : World} {g : Nat} {r0 r : Rv} (h0 : r0.ok) (hr : r.ok) (hpv : r.pv.oneCell' = true) (hb : RBox w g r0) : (Instr.storeAt 74 (.pointer (some ⟨g, 0, none⟩)) (.agg r.cs)).run Tryz.prog w = .ok () (w.setRow g r.cs) ∧ RBox (w.setRow g r.cs) g r := by
  have e := run_storeVar_row (P := Tryz.prog) w g 74 74 r0.cs r.cs hb.at_ (by rw [hr.size]; exact sizeR) (by rw [h0.size, hr.size]) (Rv.one hpv)
  refine ⟨?_, RBox.mk' hr (setRow_heap w g r0.cs r.cs _ _ hb.at_)⟩
  simp only [Instr.storeAt, Instr.sureAddr, Sem.run_bind, Sem.run_pure, Result.andThen_ok, e]
theorem wpList_allocR {ops : Array Oper} {rest : List Oper} {o : Oper} {a : Act} {w : World} {Q : Exit → Act → World → Prop} (hg : o.guard = none) (ho : o.op = .alloc 74)
    (h : ∀ w1 g, RBox w1 g zR → Below w.heap.size w w1 → w.heap.size = g → wpList Tryz.prog ops Q rest (a.put o.dst (ptr g)) w1) : wpList Tryz.prog ops Q (o :: rest) a w := by
  refine wpList_plain hg fun _ hK => ?_
  obtain ⟨i, hq, hz'⟩ := Option.map_eq_some_iff.1 zeroR
  unfold Oper.wp execOp
  simp only [ho, Instr.alloc, zeroValue, typeInfo, Sem.run_bind, newVar, newRow]
  simp [hq, hz', Value.cells]
  exact hK _ _ (h _ _ (RBox.mk' zR_ok (CAt.made _ _ _)) (below_al _ _) rfl)
theorem wpList_storeR {ops : Array Oper} {rest : List Oper} {o : Oper} {a : Act} {w : World} {Q : Exit → Act → World → Prop} (hg : o.guard = none) (hdst : o.dst = none) (x y : Operand) (ho : o.op = .store 74 x y) (g : Nat) (hx : a.eval x = ptr g) {r0 r : Rv} (hy : a.eval y = .agg r.cs) (h0 : r0.ok) (hr : r.ok) (hpv : r.pv.oneCell' = true) (hb : RBox w g r0)
    (h : ∀ w1, RBox w1 g r → Only (fun b => b = g) w w1 → wpList Tryz.prog ops Q rest a w1) : wpList Tryz.prog ops Q (o :: rest) a w := by
  refine wpList_plain hg fun _ hK => ?_
  obtain ⟨e1, e2⟩ := run_storeR h0 hr hpv hb
  unfold Oper.wp execOp
  simp only [ho, hx, hy, ptr, Sem.run_bind, e1, Result.andThen_ok, Sem.run_pure]
  refine hK (a.put o.dst undef) _ ?_
  rw [hdst]
  exact h _ e2 (only_setRow _ _ _ rfl)
/-- The reader's block, the block of the result and that of the record. -/
structure RR (w : World) (p g2 g : Nat) (r : Rv) (s : Option (List Nat)) (W : World) : Prop where
  ok : r.ok
  zb : RBox W g2 zR
  rb : RBox W g r
  rd : Rd W p s
  only : Only (fun b => b = p) w W
  h1 : p < w.heap.size
  h2 : w.heap.size ≤ g2
  h3 : g2 < g
section
variable {w W W' : World} {p g2 g : Nat} {r r' : Rv} {s s' : Option (List Nat)} (h : RR w p g2 g r s W)
include h
theorem RR.below (hb : Below W.heap.size W W') : RR w p g2 g r s W' := ⟨h.ok, h.zb.below zR_ok hb, h.rb.below h.ok hb, h.rd.below hb, h.only.trans (Only.of_below hb), h.h1, h.h2, h.h3⟩
theorem RR.pp (hr : Rd W' p s') (ho : Only (fun b => b = p) W W') : RR w p g2 g r s' W' :=
  ⟨h.ok, h.zb.only zR_ok ho (by have := h.h1; have := h.h2; omega), h.rb.only h.ok ho (by have := h.h1; have := h.h2; have := h.h3; omega), hr, h.only.trans ho, h.h1, h.h2, h.h3⟩
theorem RR.v2 : V2 W p g r s W := ⟨h.ok, by have := h.h1; have := h.h2; have := h.h3; omega, h.rb, h.rd, Only.refl _ _⟩
theorem RR.ver (k : V2 W p g r' s' W') : RR w p g2 g r' s' W' :=
  ⟨k.ok, h.zb.only zR_ok k.only (by have := h.h1; have := h.h2; have := h.h3; omega), k.rb, k.rd, h.only.then k.only (fun i hi e => by have := h.h1; have := h.h2; have := h.h3; omega), h.h1, h.h2, h.h3⟩
theorem RR.set2 (b : Bool) : RR w p g2 g { r with mark := b } s (W.setCell ⟨g, 2, none⟩ (.bool b)) := by
  have ho : Only (fun b => b = g) W (W.setCell ⟨g, 2, none⟩ (.bool b)) := Only.set W _ _ rfl
  exact ⟨⟨h.ok.sl, h.ok.s8, h.ok.i, h.ok.e, h.ok.d, h.ok.u⟩, h.zb.only zR_ok ho (by have := h.h3; omega), h.rb.set2 h.ok b, h.rd.only ho (fun i e => by have := h.h1; have := h.h2; have := h.h3; omega), h.only.then ho (fun i hi e => by have := h.h1; have := h.h2; have := h.h3; omega), h.h1, h.h2, h.h3⟩
end
theorem RR.mk1 {w w1 w2 w3 w4 : World} {p g2 g : Nat} {r : Rv} {s : Option (List Nat)} (hp : p < w.heap.size) (hz : RBox w1 g2 zR) (hb : Below w.heap.size w w1) (hg : w.heap.size = g2) (hr : Rd w2 p s) (ho : Only (fun b => b = p) w1 w2)
    (hb3 : Below w2.heap.size w2 w3) (hg3 : w2.heap.size = g) (h4 : RBox w4 g r) (hk : r.ok) (ho4 : Only (fun b => b = g) w3 w4) : RR w p g2 g r s w4 := by
  have l1 := hz.at_.lt
  have l2 := ho.size
  have z2 := hz.only zR_ok ho (by omega)
  have z3 := z2.below zR_ok hb3
  have r3 := hr.below hb3
  exact ⟨hk, z3.only zR_ok ho4 (by omega), h4, r3.only ho4 (fun i e => by omega), ((((Only.of_below hb).trans ho).trans (Only.of_below hb3)).then ho4 fun i hi e => by have := hb.size; omega), hp, by omega, by omega⟩
theorem rdAny_eq (s : Option (List Nat)) : s.bind rdAny = (s.bind rdT).bind fun q => ((stT s).bind rdU).bind fun q2 => (st1 (stT s)).bind fun b => match b with
  | [] => none
  | c :: b => if 1 < c then none else if c = 1 then some (⟨q.1, q2.1, true, 0, [], 0, 0, [], zeroD, [], []⟩, b) else rdD q.1 q2.1 b := by
  cases s with
  | none => rfl
  | some L =>
  simp only [Option.bind_some, stT, st1]
  unfold rdAny
  cases h1 : rdT L with
  | none => rfl
  | some q =>
  obtain ⟨id, L1⟩ := q
  simp only [Option.bind_eq_bind, Option.bind_some, Option.map_some]
  cases h2 : rdU L1 with
  | none => rfl
  | some q2 => obtain ⟨t, L2⟩ := q2; rfl
theorem rdR_eq (s : Option (List Nat)) : s.bind rdR = (s.bind rdAny).bind fun q => if okRc q.1 then some q else none := by
  cases s with
  | none => rfl
  | some L => simp only [Option.bind_some]; unfold rdR; cases rdAny L <;> rfl
def RecS (w : World) (p : Nat) (s : Option (List Nat)) (e : Ending) (w' : World) : Prop :=
  ∃ (r : Rv) (ps : Ps), e = .returned (.agg r.cs) ∧ r.ok ∧ PLF w.heap.size w' r.pv ps ∧ Rd w' p ((s.bind rdR).map (·.2)) ∧ Only (fun b => b = p) w w' ∧ ∀ rc c, s.bind rdR = some (rc, c) → r.rc ps = rc
theorem ret_rowR {fn : Func} {q : Tmp} (h : fn.results = #[.cell q 74]) {R : Ending → World → Prop} {a : Act} {w : World} (g : Nat) {r : Rv}
    (hd0 : a.defers = []) (hp : a.tmps.getD q undef = .pointer (some ⟨g, 0, none⟩)) (hb : RBox w g r) (hr : r.ok) (hR : R (.returned (.agg r.cs)) w) : bodyPost Tryz.prog fn R .ret a w :=
  ⟨hd0, _, results_cell_row h _ _ g 74 r.cs (0, 0) _ hp hb.at_ underRec rfl (by rw [hr.size]; exact sizeR), hR⟩
end Go.Proofs.YtelkijiphhoacaaGreatDoor

/- Contract of record of the reader of package record: the walks. -/
namespace Go.Proofs.YtelkijiphhoacaaGreatDoor
open Go Go.RowKit

theorem any_mark {s : Option (List Nat)} (h : oneV (st1 (stT s)) = 1) : ∃ x r n r2, s.bind rdT = some (x, r) ∧ (stT s).bind rdU = some (n, r2) ∧ oneR (st1 (stT s)) = (s.bind rdAny).map (·.2) ∧ ∀ rc c, s.bind rdAny = some (rc, c) → rc = ⟨x, n, true, 0, [], 0, 0, [], zeroD, [], []⟩ := by
  rw [rdAny_eq]
  cases h1 : s.bind rdT with
  | none => unfold stT at h; rw [h1] at h; cases h
  | some q =>
  obtain ⟨x, r⟩ := q
  cases h2 : (stT s).bind rdU with
  | none => unfold st1 at h; rw [h2] at h; cases h
  | some q2 =>
  obtain ⟨n, r2⟩ := q2
  have e : st1 (stT s) = some r2 := by unfold st1; rw [h2]; rfl
  rw [e] at h ⊢
  refine ⟨x, r, n, r2, rfl, rfl, ?_, ?_⟩
  · match r2, h with
    | c :: b, h => have h' : c = 1 := h; subst h'; rfl
  · match r2, h with
    | c :: b, h =>
      have h' : c = 1 := h
      subst h'
      intro rc c h
      simp at h
      exact h.1.symm
theorem any_vers {s : Option (List Nat)} (h : oneV (st1 (stT s)) = 0) : ((oneR (st1 (stT s))).bind (rdD [] 0)).map (·.2) = (s.bind rdAny).map (·.2) ∧ ∀ rc c, s.bind rdAny = some (rc, c) → ∃ x r n r2, s.bind rdT = some (x, r) ∧ (stT s).bind rdU = some (n, r2) ∧ (oneR (st1 (stT s))).bind (rdD x n) = some (rc, c) := by
  rw [rdAny_eq]
  cases h1 : s.bind rdT with
  | none =>
    have e : stT s = none := by unfold stT; rw [h1]; rfl
    rw [e]
    exact ⟨rfl, fun rc c h => by cases h⟩
  | some q =>
  obtain ⟨x, r⟩ := q
  cases h2 : (stT s).bind rdU with
  | none =>
    have e : st1 (stT s) = none := by unfold st1; rw [h2]; rfl
    rw [e]
    exact ⟨rfl, fun rc c h => by cases h⟩
  | some q2 =>
  obtain ⟨n, r2⟩ := q2
  have e : st1 (stT s) = some r2 := by unfold st1; rw [h2]; rfl
  rw [e] at h ⊢
  match r2, h with
  | [], _ => exact ⟨rfl, fun rc c h => by cases h⟩
  | c :: b, h =>
    have h' : c = 0 := h
    subst h'
    refine ⟨?_, fun rc c h => ⟨x, r, n, _, rfl, rfl, by simpa [oneR] using h⟩⟩
    have e1 := rdD_end (some b) [] 0
    have e2 := rdD_end (some b) x n
    simp only [Option.bind_some] at e1 e2 ⊢
    simp only [oneR, Option.bind_some]
    rw [e1, ← e2]; rfl
theorem any_none {s : Option (List Nat)} {c : Nat} (h : oneV (st1 (stT s)) = c) (hc : 1 < c) : s.bind rdAny = none := by
  rw [rdAny_eq]
  cases h1 : s.bind rdT with
  | none => rfl
  | some q =>
  cases h2 : (stT s).bind rdU with
  | none => rfl
  | some q2 =>
  obtain ⟨n, r2⟩ := q2
  have e : st1 (stT s) = some r2 := by unfold st1; rw [h2]; rfl
  rw [e] at h ⊢
  match r2, h with
  | [], _ => rfl
  | d :: b, h => have h' : d = c := h; subst h'; simp [hc]
theorem fin_rec {s s7 : Option (List Nat)} {R : Rc} {n : Int} (hv : ∀ rc c, s.bind rdAny = some (rc, c) → R = rc) (hs : s7 = (s.bind rdAny).map (·.2)) (hn : n = if okRc R = true then 0 else 2) : (if (n == 0) then s7 else none) = (s.bind rdR).map (·.2) ∧ ∀ rc c, s.bind rdR = some (rc, c) → R = rc := by
  rw [rdR_eq]
  cases h : s.bind rdAny with
  | none => rw [h] at hs; rw [hs]; exact ⟨by cases (n == 0) <;> rfl, fun rc c h => by cases h⟩
  | some q =>
    obtain ⟨rc, c⟩ := q
    have e := hv rc c h
    subst e
    rw [h] at hs
    rw [hs]
    cases ho : okRc R
    · rw [ho] at hn
      have : n = 2 := by simpa using hn
      subst this
      exact ⟨by simp [ho], fun rc c h => by simp [ho] at h⟩
    · rw [ho] at hn
      have : n = 0 := by simpa using hn
      subst this
      exact ⟨by simp [ho], fun rc c h => by simp [ho] at h; exact h.1⟩
theorem markR_any (B : Nat) {w W : World} {p g2 g : Nat} {s : Option (List Nat)} {t : ByteArray} {v : Int} (h : RR w p g2 g { zR with id := t, time := v, mark := true } s W) : ∃ (R : Rv) (ps : Ps), R.rc ps = ⟨lst t, v, true, 0, [], 0, 0, [], zeroD, [], []⟩ ∧ RR w p g2 g R s W ∧ R.pv.oneCell' = true ∧ PLF B W R.pv ps :=
  ⟨_, [], rfl, h, rfl, PLF.nil _ _⟩
set_option maxRecDepth 100000 in
set_option maxHeartbeats 1000000 in
theorem record_mark (w : World) (p : Nat) (s : Option (List Nat)) (h : Rd w p s) (hc : oneV (st1 (stT s)) = 1) : Calls Tryz.prog 97 #[ptr p] w (RecS w p s) := by
  have H := hid h
  have HC := hid hc
  have hp := h.lt
  clear h hc
  go_enter Tryz.func97, Tryz.ntmps97
  go_wp2_with (first
    | ((with_reducible refine wpList_allocR rfl rfl ?_); intro w1 g2 hz1 hb1 hg2; have HZ1 := hid hz1; have HB1 := hid hb1; have HG2 := hid hg2; have H1 := hid (H.out.below hb1); clear hz1 hb1 hg2 H)
    | (go_at_call 108; refine (text_any _ p s H1.out).mono ?_; rintro e w2 ⟨t, rfl, hr2, ho2, l2, f2⟩; have HR2 : Hid (Rd w2 p (stT s)) := hid hr2; have HO2 := hid ho2; have F2 := hid f2; clear hr2 ho2 f2)
    | (go_at_call 106; refine (number_any _ p _ HR2.out).mono ?_; rintro e w3 ⟨v, rfl, hr3, ho3, f3⟩; have HR3 : Hid (Rd w3 p (st1 (stT s))) := hid hr3; have HO3 := hid (HO2.out.trans ho3); have F3 := hid f3; clear hr3 ho3 f3 HR2 HO2)
    | ((with_reducible refine wpList_build_want 74 _ rfl ?_ ({ zR with id := t, time := v } : Rv).cs ?_ ?_); exact rfl; exact built_head t v)
    | ((with_reducible refine wpList_allocR rfl rfl ?_); intro w4 g hz4 hb4 hg4; have HZ4 := hid hz4; have HB4 := hid hb4; have HG4 := hid hg4; clear hz4 hb4 hg4)
    | ((with_reducible refine wpList_storeR rfl rfl _ _ rfl g ?_ (r := { zR with id := t, time := v }) ?_ zR_ok (headR_ok l2) rfl HZ4.out ?_); exact rfl; exact rfl; intro w5 h5 o5; have HRR := hid (RR.mk1 hp HZ1.out HB1.out HG2.out HR3.out HO3.out HB4.out HG4.out h5 (headR_ok l2) o5); clear h5 o5 HZ1 HB1 HG2 HR3 HO3 HB4 HG4 HZ4 H1)
    | (go_at_call 109; refine (one_any _ p _ HRR.out.rd).mono ?_; rintro e w6 ⟨rfl, hr6, ho6⟩; rw [HC.out, show u8 1 = Value.int .u8 1 from rfl]; have HR6 := hid (HRR.out.pp hr6 ho6); have c2 := HR6.out.rb.c2; have z2 := HR6.out.rb.free; have hr7 := HR6.out.set2 true; have d2 := hr7.rb.c2; obtain ⟨R, ps, hR, hr8, hone, hpl⟩ := markR_any (w6.heap.size) hr7; have HR7 := hid hr8; have HRE := hid hR; have HW : Hid (p < w.heap.size ∧ g2 < w6.heap.size ∧ w.heap.size ≤ w6.heap.size) := hid ⟨hp, HR6.out.zb.at_.lt, HR6.out.only.size⟩; have HPL := hid hpl; clear hr6 ho6 HRR HR6 hr7 hR hr8 hpl)
    | (go_at_call 110; (with_reducible refine (need_true _ p).mono ?_); rintro e w7 ⟨rfl, hw7⟩; have hw8 := hw7.symm; subst hw8; clear hw7)
    | ((with_reducible refine wpList_load_at 74 _ rfl ?_ g 0 ?_ R.cs (.struct (Tryz.prog.fieldsOf 74)) ?_ underRec rfl ?_ ?_); exact rfl; exact rfl; exact HR9.out.rb.whole; (rw [HR9.out.ok.size]; exact sizeR))
    | ((with_reducible refine wpList_load_at 74 _ rfl ?_ g 0 ?_ R.cs (.struct (Tryz.prog.fieldsOf 74)) ?_ underRec rfl ?_ ?_); exact rfl; exact rfl; exact HR7.out.rb.whole; (rw [HR7.out.ok.size]; exact sizeR))
    | (go_at_call 67; refine (check_any R HR7.out.ok ps _ HPL.out.1).mono ?_; rintro e w8 ⟨rfl, hb8⟩; generalize hn : (if okRc (Rv.rc R ps) = true then (0 : Int) else 2) = n; have HN := hid hn; have HR8 := hid (HR7.out.below hb8); replace HPL := hid (HPL.out.only (Only.of_below (S := fun _ => False) hb8) (fun _ h => h.elim)); clear hn hb8 HR7)
    | (go_at_call 110; refine (need_any _ p _ _ HR8.out.rd).mono ?_; rintro e w9 ⟨rfl, hr9, ho9⟩; have HR9 := hid (HR8.out.pp hr9 ho9); replace HPL := hid (HPL.out.only ho9 (fun i e => by have := HW.out; omega)); clear hr9 ho9 HR8)
    | ((with_reducible refine wpList_storeR rfl rfl _ _ rfl g2 ?_ (r := R) ?_ zR_ok HR9.out.ok ?_ HR9.out.zb ?_); exact rfl; exact rfl; exact hone; intro w10 h10 o10; have H10 := hid h10; have O10 := hid o10; replace HPL := hid (HPL.out.only o10 (fun i e => by have := HW.out; omega)); clear h10 o10))
  refine ret_rowR rfl g2 rfl rfl H10.out HR9.out.ok ?_
  obtain ⟨x, r, n1, r2, e1, e2, e3, e4⟩ := any_mark HC.out
  obtain ⟨k1, k2⟩ := fin_rec (s := s) (R := R.rc ps) (n := n) (fun rc c h => by rw [e4 rc c h, HRE.out, F2.out _ _ e1, F3.out _ _ e2]) e3 HN.out.symm
  exact ⟨R, ps, rfl, HR9.out.ok, PLF.base HPL.out HW.out.2.2, k1 ▸ (HR9.out.rd.only O10.out (fun i e => by have := HR9.out.h1; have := HR9.out.h2; omega)), HR9.out.only.then O10.out (fun i hi e => by have := HR9.out.h1; have := HR9.out.h2; omega), k2⟩
set_option maxRecDepth 100000 in
set_option maxHeartbeats 1000000 in
theorem record_vers (w : World) (p : Nat) (s : Option (List Nat)) (h : Rd w p s) (hc : oneV (st1 (stT s)) = 0) : Calls Tryz.prog 97 #[ptr p] w (RecS w p s) := by
  have H := hid h
  have HC := hid hc
  have hp := h.lt
  clear h hc
  go_enter Tryz.func97, Tryz.ntmps97
  go_wp2_with (first
    | ((with_reducible refine wpList_allocR rfl rfl ?_); intro w1 g2 hz1 hb1 hg2; have HZ1 := hid hz1; have HB1 := hid hb1; have HG2 := hid hg2; have H1 := hid (H.out.below hb1); clear hz1 hb1 hg2 H)
    | (go_at_call 108; refine (text_any _ p s H1.out).mono ?_; rintro e w2 ⟨t, rfl, hr2, ho2, l2, f2⟩; have HR2 : Hid (Rd w2 p (stT s)) := hid hr2; have HO2 := hid ho2; have F2 := hid f2; clear hr2 ho2 f2)
    | (go_at_call 106; refine (number_any _ p _ HR2.out).mono ?_; rintro e w3 ⟨v, rfl, hr3, ho3, f3⟩; have HR3 : Hid (Rd w3 p (st1 (stT s))) := hid hr3; have HO3 := hid (HO2.out.trans ho3); have F3 := hid f3; clear hr3 ho3 f3 HR2 HO2)
    | ((with_reducible refine wpList_build_want 74 _ rfl ?_ ({ zR with id := t, time := v } : Rv).cs ?_ ?_); exact rfl; exact built_head t v)
    | ((with_reducible refine wpList_allocR rfl rfl ?_); intro w4 g hz4 hb4 hg4; have HZ4 := hid hz4; have HB4 := hid hb4; have HG4 := hid hg4; clear hz4 hb4 hg4)
    | ((with_reducible refine wpList_storeR rfl rfl _ _ rfl g ?_ (r := { zR with id := t, time := v }) ?_ zR_ok (headR_ok l2) rfl HZ4.out ?_); exact rfl; exact rfl; intro w5 h5 o5; have HRR := hid (RR.mk1 hp HZ1.out HB1.out HG2.out HR3.out HO3.out HB4.out HG4.out h5 (headR_ok l2) o5); clear h5 o5 HZ1 HB1 HG2 HR3 HO3 HB4 HG4 HZ4 H1)
    | (go_at_call 109; refine (one_any _ p _ HRR.out.rd).mono ?_; rintro e w6 ⟨rfl, hr6, ho6⟩; rw [HC.out, show u8 0 = Value.int .u8 0 from rfl]; have HR6 := hid (HRR.out.pp hr6 ho6); clear hr6 ho6 HRR; have c2 := HR6.out.rb.c2; have z2 := HR6.out.rb.free; have hr7 := HR6.out.set2 false; have d2 := hr7.rb.c2; have HRV := hid hr7; have HW := hid (show p < w.heap.size ∧ _ ∧ _ from ⟨hp, HRV.out.zb.at_.lt, HRV.out.only.size⟩); clear hr7 HR6)
    | (go_at_call 110; (with_reducible refine (need_true _ p).mono ?_); rintro e w7 ⟨rfl, hw7⟩; have hw8 := hw7.symm; subst hw8; clear hw7)
    | (go_at_call 111; refine (version_any _ p g _ _ HRV.out.v2).mono ?_; rintro e w7 ⟨R, ps, rfl, q1, q2, q3, k7, hpl, hval⟩; have hone : R.pv.oneCell' = true := (by obtain ⟨_, _, _, e⟩ := hpl.form; rw [e]; rfl); have HR7 := hid (HRV.out.ver k7); have HPL := hid hpl; have HVAL := hid hval; clear q1 q2 q3 k7 hpl hval HRV c2 z2 d2)
    | ((with_reducible refine wpList_load_at 74 _ rfl ?_ g 0 ?_ R.cs (.struct (Tryz.prog.fieldsOf 74)) ?_ underRec rfl ?_ ?_); exact rfl; exact rfl; exact HR9.out.rb.whole; (rw [HR9.out.ok.size]; exact sizeR))
    | ((with_reducible refine wpList_load_at 74 _ rfl ?_ g 0 ?_ R.cs (.struct (Tryz.prog.fieldsOf 74)) ?_ underRec rfl ?_ ?_); exact rfl; exact rfl; exact HR7.out.rb.whole; (rw [HR7.out.ok.size]; exact sizeR))
    | (go_at_call 67; refine (check_any R HR7.out.ok ps _ HPL.out.1).mono ?_; rintro e w8 ⟨rfl, hb8⟩; generalize hn : (if okRc (Rv.rc R ps) = true then (0 : Int) else 2) = n; have HN := hid hn; have HR8 := hid (HR7.out.below hb8); replace HPL := hid (HPL.out.only (Only.of_below (S := fun _ => False) hb8) (fun _ h => h.elim)); clear hn hb8 HR7)
    | (go_at_call 110; refine (need_any _ p _ _ HR8.out.rd).mono ?_; rintro e w9 ⟨rfl, hr9, ho9⟩; have HR9 := hid (HR8.out.pp hr9 ho9); replace HPL := hid (HPL.out.only ho9 (fun i e => by have := HW.out; omega)); clear hr9 ho9 HR8)
    | ((with_reducible refine wpList_storeR rfl rfl _ _ rfl g2 ?_ (r := R) ?_ zR_ok HR9.out.ok ?_ HR9.out.zb ?_); exact rfl; exact rfl; exact hone; intro w10 h10 o10; have H10 := hid h10; have O10 := hid o10; replace HPL := hid (HPL.out.only o10 (fun i e => by have := HW.out; omega)); clear h10 o10))
  refine ret_rowR rfl g2 rfl rfl H10.out HR9.out.ok ?_
  obtain ⟨a1, a2⟩ := any_vers HC.out
  obtain ⟨k1, k2⟩ := fin_rec (s := s) (R := R.rc ps) (n := n) (fun rc c h => by
    obtain ⟨x, r, n1, r2, e1, e2, e3⟩ := a2 rc c h
    have b := HVAL.out n1 rc c (by show (oneR (st1 (stT s))).bind (rdD (lst t) n1) = _; rw [F2.out _ _ e1]; exact e3)
    obtain ⟨_, _, _, _, _, _, _, _, _, _, _, _, _, _, _, _, _, rfl⟩ := rdD_val e3
    rw [b]
    simp only [F3.out _ _ e2]) (s7 := stT (stP ((stT (st1 (st1 (stT (st1 (oneR (st1 (stT s)))))))).bind tk32))) (by rw [← a1]; exact (rdD_end _ _ _).symm) HN.out.symm
  exact ⟨R, ps, rfl, HR9.out.ok, PLF.base HPL.out HW.out.2.2, k1 ▸ (HR9.out.rd.only O10.out (fun i e => by have := HR9.out.h1; have := HR9.out.h2; omega)), HR9.out.only.then O10.out (fun i hi e => by have := HR9.out.h1; have := HR9.out.h2; omega), k2⟩
set_option maxRecDepth 100000 in
set_option maxHeartbeats 1000000 in
theorem record_bad (w : World) (p : Nat) (s : Option (List Nat)) (h : Rd w p s) (c : Nat) (hc : oneV (st1 (stT s)) = c) (hc2 : 1 < c) : Calls Tryz.prog 97 #[ptr p] w (RecS w p s) := by
  have H := hid h
  have HC := hid hc
  have hp := h.lt
  have hc0 : ((c : Int) == 0) = false := by simp; omega
  have hc1 : ((c : Int) == 1) = false := by simp; omega
  clear h hc
  go_enter Tryz.func97, Tryz.ntmps97
  go_wp2_with (first
    | ((with_reducible refine wpList_allocR rfl rfl ?_); intro w1 g2 hz1 hb1 hg2; have HZ1 := hid hz1; have HB1 := hid hb1; have HG2 := hid hg2; have H1 := hid (H.out.below hb1); clear hz1 hb1 hg2 H)
    | (go_at_call 108; refine (text_any _ p s H1.out).mono ?_; rintro e w2 ⟨t, rfl, hr2, ho2, l2, f2⟩; have HR2 : Hid (Rd w2 p (stT s)) := hid hr2; have HO2 := hid ho2; have F2 := hid f2; clear hr2 ho2 f2)
    | (go_at_call 106; refine (number_any _ p _ HR2.out).mono ?_; rintro e w3 ⟨v, rfl, hr3, ho3, f3⟩; have HR3 : Hid (Rd w3 p (st1 (stT s))) := hid hr3; have HO3 := hid (HO2.out.trans ho3); have F3 := hid f3; clear hr3 ho3 f3 HR2 HO2)
    | ((with_reducible refine wpList_build_want 74 _ rfl ?_ ({ zR with id := t, time := v } : Rv).cs ?_ ?_); exact rfl; exact built_head t v)
    | ((with_reducible refine wpList_allocR rfl rfl ?_); intro w4 g hz4 hb4 hg4; have HZ4 := hid hz4; have HB4 := hid hb4; have HG4 := hid hg4; clear hz4 hb4 hg4)
    | ((with_reducible refine wpList_storeR rfl rfl _ _ rfl g ?_ (r := { zR with id := t, time := v }) ?_ zR_ok (headR_ok l2) rfl HZ4.out ?_); exact rfl; exact rfl; intro w5 h5 o5; have HRR := hid (RR.mk1 hp HZ1.out HB1.out HG2.out HR3.out HO3.out HB4.out HG4.out h5 (headR_ok l2) o5); clear h5 o5 HZ1 HB1 HG2 HR3 HO3 HB4 HG4 HZ4 H1)
    | (go_at_call 109; refine (one_any _ p _ HRR.out.rd).mono ?_; rintro e w6 ⟨rfl, hr6, ho6⟩; rw [HC.out, show u8 c = Value.int .u8 (c : Int) from rfl]; have HR6 := hid (HRR.out.pp hr6 ho6); clear hr6 ho6 HRR)
    | (go_at_call 110; (with_reducible refine (need_any _ p _ false HR6.out.rd).mono ?_); rintro e w61 ⟨rfl, hr61, ho61⟩; replace HR6 := hid (HR6.out.pp hr61 ho61); clear hr61 ho61; have c2 := HR6.out.rb.c2; have z2 := HR6.out.rb.free; have hr7 := HR6.out.set2 false; have d2 := hr7.rb.c2; have HRV := hid hr7; have HW := hid (show p < w.heap.size ∧ _ ∧ _ from ⟨hp, HRV.out.zb.at_.lt, HRV.out.only.size⟩); clear hr7 HR6)
    | (go_at_call 111; refine (version_any _ p g _ _ HRV.out.v2).mono ?_; rintro e w7 ⟨R, ps, rfl, q1, q2, q3, k7, hpl, hval⟩; have hone : R.pv.oneCell' = true := (by obtain ⟨_, _, _, e⟩ := hpl.form; rw [e]; rfl); have HR7 := hid (HRV.out.ver k7); have HPL := hid hpl; have HVAL := hid hval; clear q1 q2 q3 k7 hpl hval HRV c2 z2 d2)
    | ((with_reducible refine wpList_load_at 74 _ rfl ?_ g 0 ?_ R.cs (.struct (Tryz.prog.fieldsOf 74)) ?_ underRec rfl ?_ ?_); exact rfl; exact rfl; exact HR9.out.rb.whole; (rw [HR9.out.ok.size]; exact sizeR))
    | ((with_reducible refine wpList_load_at 74 _ rfl ?_ g 0 ?_ R.cs (.struct (Tryz.prog.fieldsOf 74)) ?_ underRec rfl ?_ ?_); exact rfl; exact rfl; exact HR7.out.rb.whole; (rw [HR7.out.ok.size]; exact sizeR))
    | (go_at_call 67; refine (check_any R HR7.out.ok ps _ HPL.out.1).mono ?_; rintro e w8 ⟨rfl, hb8⟩; generalize hn : (if okRc (Rv.rc R ps) = true then (0 : Int) else 2) = n; have HN := hid hn; have HR8 := hid (HR7.out.below hb8); replace HPL := hid (HPL.out.only (Only.of_below (S := fun _ => False) hb8) (fun _ h => h.elim)); clear hn hb8 HR7)
    | (go_at_call 110; refine (need_any _ p _ _ HR8.out.rd).mono ?_; rintro e w9 ⟨rfl, hr9, ho9⟩; have HR9 := hid (HR8.out.pp hr9 ho9); replace HPL := hid (HPL.out.only ho9 (fun i e => by have := HW.out; omega)); clear hr9 ho9 HR8)
    | ((with_reducible refine wpList_storeR rfl rfl _ _ rfl g2 ?_ (r := R) ?_ zR_ok HR9.out.ok ?_ HR9.out.zb ?_); exact rfl; exact rfl; exact hone; intro w10 h10 o10; have H10 := hid h10; have O10 := hid o10; replace HPL := hid (HPL.out.only o10 (fun i e => by have := HW.out; omega)); clear h10 o10))
  refine ret_rowR rfl g2 rfl rfl H10.out HR9.out.ok ?_
  have a1 := any_none HC.out hc2
  obtain ⟨k1, k2⟩ := fin_rec (s := s) (R := R.rc ps) (n := n) (fun rc c h => by rw [a1] at h; cases h) (by rw [a1]) HN.out.symm
  exact ⟨R, ps, rfl, HR9.out.ok, PLF.base HPL.out HW.out.2.2, k1 ▸ (HR9.out.rd.only O10.out (fun i e => by have := HR9.out.h1; have := HR9.out.h2; omega)), HR9.out.only.then O10.out (fun i hi e => by have := HR9.out.h1; have := HR9.out.h2; omega), k2⟩
theorem record_any (w : World) (p : Nat) (s : Option (List Nat)) (h : Rd w p s) : Calls Tryz.prog 97 #[ptr p] w (RecS w p s) := by
  by_cases h0 : oneV (st1 (stT s)) = 0
  · exact record_vers w p s h h0
  by_cases h1 : oneV (st1 (stT s)) = 1
  · exact record_mark w p s h h1
  · exact record_bad w p s h _ rfl (by omega)
end Go.Proofs.YtelkijiphhoacaaGreatDoor
