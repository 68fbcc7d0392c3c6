/- Texts laid into one, cut to what is needed: the remark ahead of each part says what is proved there. -/
import Derived.Test.YtelkijiphhoacaaGreatDoorMag
import Derived.Test.YtelkijiphhoacaaGreatDoorMaf
/- Contract of appendVersion of package record. -/
namespace Go.Proofs.YtelkijiphhoacaaGreatDoor
open Go Go.RowKit

theorem below_drewN (w : World) (n : Nat) : Below w.heap.size w (w.drewN n) := ⟨rfl, rfl, rfl, Nat.le_refl _, fun _ _ => rfl⟩
theorem below_drew (w : World) : Below w.heap.size w w.drew := (Below.refl _ _).drew
def ZT (B : Nat) (v0 : Value) (w0 : World) (L : List Nat) (e : Ending) (w' : World) : Prop := ∃ v', e = .returned v' ∧ AppZ B v0 w0 L v' w'
section
variable {B : Nat} {v0 v : Value} {w0 w : World} {L : List Nat}
theorem AppZ.num (h : AppZ B v0 w0 L v w) {n : Int} (h0 : 0 ≤ n) (hn : n ≤ 1099511627776) (hL : L.length ≤ 900000) (hB : B ≤ w0.heap.size) (W : World) (hW : Below w.heap.size w W) : Calls Tryz.prog 71 #[v, i64 n] W (ZT B v0 w0 (L ++ ib n)) := by
  obtain ⟨k, rfl⟩ := Int.eq_ofNat_of_zero_le h0
  have h2 := h.below hW
  exact (appNumZ B L v k W (by omega) h2.buf (by omega) (by have := h2.only.size; omega)).mono fun e w' ⟨v', e1, hz⟩ => ⟨v', e1, h2.trans hz⟩
theorem AppZ.text (h : AppZ B v0 w0 L v w) {s : ByteArray} (hn : s.size ≤ 65536) (hL : L.length ≤ 900000) (hB : B ≤ w0.heap.size) (W : World) (hW : Below w.heap.size w W) : Calls Tryz.prog 72 #[v, .string s] W (ZT B v0 w0 (L ++ tb (lst s))) := by
  have h2 := h.below hW
  exact (appTextZ B L v s W hn h2.buf hL (by have := h2.only.size; omega)).mono fun e w' ⟨v', e1, hz⟩ => ⟨v', e1, h2.trans hz⟩
end
theorem RBox.only {w w' : World} {g : Nat} {r : Rv} {S : Nat → Prop} (h : RBox w g r) (ho : r.ok) (hO : Only S w w') (hS : ¬ S g) : RBox w' g r := RBox.mk' ho (h.at_.keep (hO.block g h.at_.lt hS))
theorem ib_le {n : Int} (h : n ≤ 1099511627776) : (ib n).length ≤ 6 := nb_le (by omega)
theorem tb_le {s : ByteArray} (h : s.size ≤ 65536) : (tb (lst s)).length ≤ s.size + 6 := by
  unfold tb; rw [List.length_append, lst_len]; have := nb_le (n := s.size) (by omega); omega
/-- What only a record of no mark has, as bytes. -/
def vB (r : Rv) (ps : Ps) : List Nat := ib r.size ++ (tb (lst r.etag) ++ (ib r.k ++ (ib r.m ++ (tb (lst r.data) ++ (r.sum ++ (nb ps.length ++ (psB ps ++ tb (lst r.up))))))))
theorem versOk_iff {r : Rv} {ps : Ps} (h : versOk r ps = true) : 0 ≤ r.size ∧ r.size ≤ 65536 ∧ r.etag.size ≤ 40 ∧ 1 ≤ r.k ∧ r.k ≤ 16 ∧ 1 ≤ r.m ∧ r.m ≤ 16 ∧ r.data.size ≤ 32 ∧ ps.length ≤ 32 ∧ okPs 0 ps = true ∧ r.up.size ≤ 32 := by
  unfold versOk at h
  simp only [Bool.and_eq_true] at h
  obtain ⟨h1, h2, h3, h4, h5, h6, h7⟩ := h
  have a1 := inR_iff.1 h1
  have a3 := inR_iff.1 h3
  have a4 := inR_iff.1 h4
  have a2 := okOf_len h2
  have a5 := okOf_len h5
  rw [lst_len] at a2 a5
  unfold okParts at h6
  simp only [Bool.and_eq_true, decide_eq_true_eq] at h6
  have a7 : r.up.size ≤ 32 := by
    unfold upOk at h7
    rw [Bool.or_eq_true] at h7
    rcases h7 with h | h
    · rw [isEmpty_lst] at h
      have : (lst r.up).length = 0 := by simpa using h
      rw [lst_len] at this; omega
    · have := okOf_len h; rw [lst_len] at this; omega
  exact ⟨a1.1, a1.2, a2.2, a3.1, a3.2, a4.1, by omega, a5.2, h6.1.1, h6.1.2, a7⟩
theorem okPs_at : ∀ {ps : Ps} {last : Int}, 0 ≤ last → okPs last ps = true → ∀ i, i < ps.length → 0 ≤ (ps.getD i (0, 0)).1 ∧ (ps.getD i (0, 0)).1 ≤ 10000 ∧ 0 ≤ (ps.getD i (0, 0)).2 ∧ (ps.getD i (0, 0)).2 ≤ 65536
  | [], _, _, _, i, hi => by simp at hi
  | p :: r, last, h0, h, i, hi => by
    simp [okPs, inR] at h
    cases i with
    | zero => simp; omega
    | succ i => simpa using okPs_at (ps := r) (last := p.1) (by omega) h.2 i (by simpa using hi)
theorem run_sum (g : Nat) (w : World) : (Instr.sliceAt 66 (.pointer (some ⟨g, 8, none⟩)) none none none).run Tryz.prog w = .ok (.slice (some ⟨g, 8, none⟩) 32 32) w := by kernel_rfl
theorem psB_take {ps : Ps} {k : Nat} (h : k < ps.length) : psB (ps.take (k + 1)) = psB (ps.take k) ++ (ib (ps.getD k (0, 0)).1 ++ ib (ps.getD k (0, 0)).2) := by
  have e : ps.take (k + 1) = ps.take k ++ [ps.getD k (0, 0)] := by rw [List.take_succ_eq_append_getElem h]; simp [List.getD, h]
  rw [e]
  unfold psB
  rw [List.map_append, List.flatten_append]
  simp
theorem psB_le {ps : Ps} (h : ∀ i, i < ps.length → (ps.getD i (0, 0)).1 ≤ 10000 ∧ (ps.getD i (0, 0)).2 ≤ 65536) : ∀ k, k ≤ ps.length → (psB (ps.take k)).length ≤ 12 * k
  | 0, _ => by simp [psB]
  | k + 1, hk => by
    have ih := psB_le h k (by omega)
    have h1 := h k (by omega)
    rw [psB_take (by omega), List.length_append, List.length_append]
    have := ib_le (n := (ps.getD k (0, 0)).1) (by omega)
    have := ib_le (n := (ps.getD k (0, 0)).2) (by omega)
    omega
theorem step_append_ex {P : Program} {w : World} {ops : Array Oper} {o : Oper} {a : Act} {K : Act → World → Prop} {Q : Exit → Act → World → Prop} {E : Prop} {R : Value → World → Prop} (hgd : o.guard = none) (s x : Operand) (t : TypeId)
    (ho : o.op = .call { callee := .builtin .append, args := #[s, x], argTypes := #[t, t] }) (v xv : Value) (hs : a.eval s = v) (hx : a.eval x = xv)
    (hr : ∃ v' w', (Builtin.append_ #[t, t] o.type #[v, xv]).run P w = .ok v' w' ∧ R v' w') (h : ∀ v' w', R v' w' → K (a.put o.dst v') w') : if Region.wanted o (yielded ops a.tmps) = true then Oper.wp P o a w K Q else E := by
  have hw : Region.wanted o (yielded ops a.tmps) = true := by simp [Region.wanted, hgd]
  rw [if_pos hw]
  obtain ⟨v', w', hr, hR⟩ := hr
  unfold Oper.wp execOp
  simp only [ho, resolve, invoke, builtin, Sem.run_bind, Sem.run_pure, Result.andThen_ok, List.map_toArray, List.map_cons, List.map_nil, hs, hx, hr]
  exact h _ _ hR
theorem AppZ.sumA {B : Nat} {v0 v : Value} {w0 w : World} {L : List Nat} (h : AppZ B v0 w0 L v w) {g : Nat} {r : Rv} (hr : r.ok) (hg : RBox w g r) (hL : L.length ≤ 900000) (hB : B ≤ w0.heap.size) (W : World) (hW : Below w.heap.size w W) :
    ∃ v' w', (Builtin.append_ #[28, 28] 28 #[v, .slice (some ⟨g, 8, none⟩) 32 32]).run Tryz.prog W = .ok v' w' ∧ AppZ B v0 w0 (L ++ r.sum) v' w' := by
  have h2 := h.below hW
  have hg2 := hg.below hr hW
  obtain ⟨v', w', h3, h4⟩ := h2.buf.appZ (some ⟨g, 8, none⟩) 32 r.sum (Or.inr ⟨g, 8, rfl, fun i hi => hg2.cs i _ (sumC_get hi)⟩) (by simp) (by rw [hr.sl]; omega) (by have := h2.only.size; omega)
  rw [hr.sl] at h3
  exact ⟨v', w', h3, h2.trans h4⟩
set_option maxRecDepth 100000 in
set_option maxHeartbeats 4000000 in
theorem appVers (w0 : World) (r : Rv) (hr : r.ok) (ps : Ps) (hp : PL w0 r.pv ps) (hv : versOk r ps = true) (v : Value) (L : List Nat) (w : World) (hw : Below w0.heap.size w0 w) (hb : Buf w0.heap.size w v L) (hL : L.length ≤ 200000) :
    Calls Tryz.prog 73 #[v, .agg r.cs] w (ZS w0.heap.size v w (L ++ vB r ps)) := by
  have HR := hid hr
  have HP := hid hp
  have HW := hid hw
  have HB := hid hb
  obtain ⟨q1, q2, q3, q4, q5, q6, q7, q8, q9, q10, q11⟩ := versOk_iff hv
  have HPS := hid (okPs_at (Int.le_refl 0) q10)
  have HVO := hid (fun b hb' => (own_ge hb b hb').2)
  have HVB := hid (fun b hb' => (own_ge hb b hb').1)
  obtain ⟨p1, d1, hpv, hpc, hpl, _⟩ := hp
  clear hr hv hw hb
  go_enter Tryz.func73, Tryz.ntmps73
  go_wp2_with ((with_reducible refine wpList_boxR rfl _ rfl r.cs ?_ ?_); exact rfl; intro w1 g1 hc1 hb1 hg1; have HA := hid (RBox.mk' HR.out hc1); have HB1 := hid hb1; clear hc1 hb1)
  have HG : Hid (∀ W, Only (fun b => v.ownBlock = some b) w1 W → RBox W g1 r) := fun W ho => HA.out.only HR.out ho (fun e => by have := HVO.out g1 e; omega)
  have hB1 : w0.heap.size ≤ w1.heap.size := by have := HW.out.size; have := HB1.out.size; omega
  have HZ := hid (AppZ.refl (HB.out.below HB1.out))
  have HC := hid (show _ ∧ _ from ⟨HA.out.c3, HA.out.c4⟩)
  have l1 := ib_le (n := r.size) (by omega)
  have l2 := tb_le (s := r.etag) (by omega)
  have l3 := ib_le (n := r.k) (by omega)
  have l4 := ib_le (n := r.m) (by omega)
  have l5 := tb_le (s := r.data) (by omega)
  have HLL := hid (And.intro l1 (And.intro l2 (And.intro l3 (And.intro l4 l5))))
  clear l1 l2 l3 l4 l5
  go_region_held3 (fun w' => w'.cell? ⟨g1, 3, none⟩ = some (i64 r.size) ∧ w'.cell? ⟨g1, 4, none⟩ = some (.string r.etag)) (exact HC.out) (first
    | (go_at_call 71; (first | refine (HZ.out.num q1 (by omega) (by omega) hB1 _ (below_drewN _ _)).mono ?_ | refine (HZ.out.num q1 (by omega) (by omega) hB1 _ (Below.refl _ _)).mono ?_); rintro e w2 ⟨v2, rfl, hz⟩; replace HZ := hid hz; replace HC := hid (show _ ∧ _ from ⟨(HG.out _ hz.only).c3, (HG.out _ hz.only).c4⟩); clear hz)
    | (go_at_call 72; (first | refine (HZ.out.text (by omega) (by rw [List.length_append]; have := HLL.out; omega) hB1 _ (below_drewN _ _)).mono ?_ | refine (HZ.out.text (by omega) (by rw [List.length_append]; have := HLL.out; omega) hB1 _ (Below.refl _ _)).mono ?_); rintro e w3 ⟨v3, rfl, hz⟩; replace HZ := hid hz; replace HC := hid (show _ ∧ _ from ⟨(HG.out _ hz.only).c3, (HG.out _ hz.only).c4⟩); clear hz))
  go_wp2
  replace HC := hid (show _ ∧ _ from ⟨(HG.out _ HZ.out.only).c5, (HG.out _ HZ.out.only).c6⟩)
  have q4' : 0 ≤ r.k := by omega
  have q6' : 0 ≤ r.m := by omega
  go_region_held3 (fun w' => w'.cell? ⟨g1, 5, none⟩ = some (i64 r.k) ∧ w'.cell? ⟨g1, 6, none⟩ = some (i64 r.m)) (exact HC.out) ((go_at_call 71; (first
    | with_reducible refine (HZ.out.num (n := r.k) q4' (by omega) (by simp only [List.length_append]; have := HLL.out; omega) hB1 _ (below_drewN _ _)).mono ?_
    | with_reducible refine (HZ.out.num (n := r.k) q4' (by omega) (by simp only [List.length_append]; have := HLL.out; omega) hB1 _ (below_drew _)).mono ?_
    | with_reducible refine (HZ.out.num (n := r.k) q4' (by omega) (by simp only [List.length_append]; have := HLL.out; omega) hB1 _ (Below.refl _ _)).mono ?_
    | with_reducible refine (HZ.out.num (n := r.m) q6' (by omega) (by simp only [List.length_append]; have := HLL.out; omega) hB1 _ (below_drewN _ _)).mono ?_
    | with_reducible refine (HZ.out.num (n := r.m) q6' (by omega) (by simp only [List.length_append]; have := HLL.out; omega) hB1 _ (below_drew _)).mono ?_
    | with_reducible refine (HZ.out.num (n := r.m) q6' (by omega) (by simp only [List.length_append]; have := HLL.out; omega) hB1 _ (Below.refl _ _)).mono ?_); rintro e w4 ⟨v4, rfl, hz⟩; replace HZ := hid hz; replace HC := hid (show _ ∧ _ from ⟨(HG.out _ hz.only).c5, (HG.out _ hz.only).c6⟩); clear hz))
  go_wp2
  replace HC := hid (HG.out _ HZ.out.only).c7
  have hsl := run_sum g1
  go_region_held3 (fun w' => w'.cell? ⟨g1, 7, none⟩ = some (.string r.data)) (exact HC.out) (first
    | (go_at_call 72; (first | refine (HZ.out.text (by omega) (by simp only [List.length_append]; have := HLL.out; omega) hB1 _ (below_drewN _ _)).mono ?_ | refine (HZ.out.text (by omega) (by simp only [List.length_append]; have := HLL.out; omega) hB1 _ (Below.refl _ _)).mono ?_); rintro e w5 ⟨v5, rfl, hz⟩; replace HZ := hid hz; replace HC := hid (HG.out _ hz.only).c7; clear hz)
    | ((first | refine step_append_ex (by rfl) (.tmp 24) (.tmp 26) 28 (by rfl) _ (.slice (some ⟨g1, 8, none⟩) 32 32) (by rfl) (by rfl) (HZ.out.sumA HR.out (HG.out _ HZ.out.only) (by simp only [List.length_append]; have := HLL.out; omega) hB1 _ (below_drewN _ _)) ?_ | refine step_append_ex (by rfl) (.tmp 24) (.tmp 26) 28 (by rfl) _ (.slice (some ⟨g1, 8, none⟩) 32 32) (by rfl) (by rfl) (HZ.out.sumA HR.out (HG.out _ HZ.out.only) (by simp only [List.length_append]; have := HLL.out; omega) hB1 _ (Below.refl _ _)) ?_); rintro v6 w6 hz; replace HZ := hid hz; replace HC := hid (HG.out _ hz.only).c7; clear hz))
  have hM : (L ++ ib r.size ++ tb (lst r.etag) ++ ib r.k ++ ib r.m ++ tb (lst r.data) ++ r.sum).length ≤ 300000 := by simp only [List.length_append, HR.out.sl]; have := HLL.out; omega
  generalize hMM : L ++ ib r.size ++ tb (lst r.etag) ++ ib r.k ++ ib r.m ++ tb (lst r.data) ++ r.sum = M at HZ hM
  have HMM := hid hMM
  clear hMM HC hsl HLL
  have HBW : Hid (∀ W, Only (fun b => v.ownBlock = some b) w1 W → Below w0.heap.size w0 W) := fun W ho => below_tr (below_tr HW.out (below_less HB1.out HW.out.size)) (ho.below (by have := HW.out.size; have := HB1.out.size; omega) (fun i e => HVB.out i e))
  have c40 := (HG.out _ HZ.out.only).c40
  rw [hpv] at c40
  have hps : ((ps.length : Nat) : Int) ≤ 1099511627776 := by omega
  go_wp2_with (go_at_call 71; refine (HZ.out.num (n := (ps.length : Int)) (by omega) hps (by omega) hB1 _ (Below.refl _ _)).mono ?_; rintro e w7 ⟨v7, rfl, hz⟩; replace HZ := hid hz; clear c40; have c40 := (HG.out _ hz.only).c40; rw [hpv] at c40; clear hz)
  have HPL := hid (psB_le fun i hi => ⟨(HPS.out i hi).2.1, (HPS.out i hi).2.2.2⟩)
  have hN : (M ++ ib (ps.length : Int)).length ≤ 300006 := by rw [List.length_append]; have := ib_le hps; omega
  generalize hNN : M ++ ib (ps.length : Int) = N at HZ hN
  have HNN := hid hNN
  clear hNN hM
  go_loopw [0, 36] (fun bv iv wr => ∃ k : Nat, k ≤ ps.length ∧ iv = i64 k ∧ AppZ w0.heap.size v w1 (N ++ psB (ps.take k)) bv wr) (fun _ iv _ => (ps.length - intOf iv).toNat)
  case atStart => exact ⟨0, by omega, rfl, by simpa [psB] using HZ.out⟩
  case round =>
    clear c40
    obtain ⟨k, hk, rfl, hz⟩ := hrel
    have HZ2 := hid hz
    have hlenN : (N ++ psB (ps.take k)).length ≤ 700000 := by rw [List.length_append]; have := HPL.out k hk; omega
    by_cases hlt : k < ps.length
    · have hlt' : (k : Int) < (ps.length : Int) := by omega
      have hpl2 := HP.out.below (HBW.out _ hz.only)
      rw [hpv] at hpl2
      obtain ⟨b, o, hpo, x1, x2⟩ := hpl2.at hlt
      subst hpo
      clear hpl2 hz
      obtain ⟨s1, s2, s3, s4⟩ := HPS.out k hlt
      have HPT := hid (psB_take hlt)
      generalize (ps.getD k (0, 0)).1 = X1 at *
      generalize (ps.getD k (0, 0)).2 = X2 at *
      go_wp2
      have hpb := CAt.made wr #[Value.int IntKind.i64 X1, Value.int IntKind.i64 X2] 103
      have hbl := below_al wr (.cells #[Value.int IntKind.i64 X1, Value.int IntKind.i64 X2] 103)
      generalize wr.alloc (.cells #[Value.int IntKind.i64 X1, Value.int IntKind.i64 X2] 103) = Wp at hpb hbl ⊢
      have HZW := hid (HZ2.out.below hbl)
      have HOW := hid (fun b e => (own_ge HZ2.out.buf b e).2)
      have HCF : Hid (∀ W, Only (fun b => u0.ownBlock = some b) Wp W → W.cell? ⟨wr.heap.size, 0, none⟩ = some (i64 X1) ∧ W.cell? ⟨wr.heap.size, 1, none⟩ = some (i64 X2)) := fun W ho => by
        have hk2 := hpb.keep (ho.block wr.heap.size hpb.lt (fun e => by have := HOW.out _ e; omega))
        exact ⟨hk2.cell 0, hk2.cell 1⟩
      have HC := hid (HCF.out _ (Only.refl _ _))
      have HZp := hid (AppZ.refl HZW.out.buf)
      have hBp : w0.heap.size ≤ Wp.heap.size := by have := HZW.out.only.size; omega
      clear hpb hbl HZ2
      have e1 := ib_le (n := X1) (by omega)
      have s2' : X1 ≤ 1099511627776 := by omega
      have s4' : X2 ≤ 1099511627776 := by omega
      have hl2 : (N ++ psB (ps.take k) ++ ib X1).length ≤ 800000 := by rw [List.length_append]; omega
      have hl1 : (N ++ psB (ps.take k)).length ≤ 900000 := by omega
      have hl3 : (N ++ psB (ps.take k) ++ ib X1).length ≤ 900000 := by omega
      go_region_held3 (fun w' => w'.cell? ⟨wr.heap.size, 0, none⟩ = some (i64 X1) ∧ w'.cell? ⟨wr.heap.size, 1, none⟩ = some (i64 X2)) (exact HC.out) (first
        | (go_at_call 71; (with_reducible refine (HZp.out.num (n := X1) s1 s2' hl1 hBp _ (below_drewN _ _)).mono ?_); rintro e w8 ⟨v8, rfl, hz⟩; replace HZp := hid hz; replace HC := hid (HCF.out _ hz.only); clear hz)
        | (go_at_call 71; (with_reducible refine (HZp.out.num (n := X1) s1 s2' hl1 hBp _ (below_drew _)).mono ?_); rintro e w8 ⟨v8, rfl, hz⟩; replace HZp := hid hz; replace HC := hid (HCF.out _ hz.only); clear hz)
        | (go_at_call 71; (with_reducible refine (HZp.out.num (n := X1) s1 s2' hl1 hBp _ (Below.refl _ _)).mono ?_); rintro e w8 ⟨v8, rfl, hz⟩; replace HZp := hid hz; replace HC := hid (HCF.out _ hz.only); clear hz)
        | (go_at_call 71; (with_reducible refine (HZp.out.num (n := X2) s3 s4' hl3 hBp _ (below_drewN _ _)).mono ?_); rintro e w8 ⟨v8, rfl, hz⟩; replace HZp := hid hz; replace HC := hid (HCF.out _ hz.only); clear hz)
        | (go_at_call 71; (with_reducible refine (HZp.out.num (n := X2) s3 s4' hl3 hBp _ (below_drew _)).mono ?_); rintro e w8 ⟨v8, rfl, hz⟩; replace HZp := hid hz; replace HC := hid (HCF.out _ hz.only); clear hz)
        | (go_at_call 71; (with_reducible refine (HZp.out.num (n := X2) s3 s4' hl3 hBp _ (Below.refl _ _)).mono ?_); rintro e w8 ⟨v8, rfl, hz⟩; replace HZp := hid hz; replace HC := hid (HCF.out _ hz.only); clear hz))
      go_wp2
      refine ⟨⟨k + 1, by omega, by simp, ?_⟩, by simp [intOf]; omega⟩
      have := HZW.out.trans HZp.out
      rw [HPT.out, ← List.append_assoc, ← List.append_assoc]; exact this
    · have hlt' : ¬ (k : Int) < (ps.length : Int) := by omega
      have c41 := (HG.out _ hz.only).c41
      clear hz
      go_wp2_with (go_at_call 72; refine (HZ2.out.text (by omega) (by omega) hB1 _ (Below.refl _ _)).mono ?_; rintro e w9 ⟨v9, rfl, hz⟩)
      go_ret
      refine ⟨v9, rfl, ?_⟩
      have hb := AppZ.start HB1.out hz
      have hk2 : ps.take k = ps := List.take_of_length_le (by omega)
      rw [hk2, ← HNN.out, ← HMM.out] at hb
      have e2 : ib (ps.length : Int) = nb ps.length := by unfold ib; simp
      rw [e2] at hb
      unfold vB
      simp only [List.append_assoc] at hb ⊢
      exact hb
end Go.Proofs.YtelkijiphhoacaaGreatDoor

/- Contract of version of the reader of package record. -/
namespace Go.Proofs.YtelkijiphhoacaaGreatDoor
open Go Go.RowKit

def tk32 (b : List Nat) : Option (List Nat) := if b.length < 32 then none else some (b.drop 32)
def st1 (s : Option (List Nat)) : Option (List Nat) := (s.bind rdU).map (·.2)
def stT (s : Option (List Nat)) : Option (List Nat) := (s.bind rdT).map (·.2)
def stP (s : Option (List Nat)) : Option (List Nat) := (rdP s).map (·.2)
theorem rdD_end (s : Option (List Nat)) (id : List Nat) (t : Nat) : (s.bind (rdD id t)).map (·.2) = stT (stP ((stT (st1 (st1 (stT (st1 s))))).bind tk32)) := by
  unfold st1 stT stP tk32 rdP
  cases s with
  | none => rfl
  | some L =>
  simp only [Option.bind_some]
  unfold rdD
  cases h1 : rdU L with
  | none => rfl
  | some q1 =>
  obtain ⟨a1, L1⟩ := q1
  simp only [Option.bind_eq_bind, Option.bind_some, Option.map_some]
  cases h2 : rdT L1 with
  | none => rfl
  | some q2 =>
  obtain ⟨a2, L2⟩ := q2
  simp only [Option.bind_some, Option.map_some]
  cases h3 : rdU L2 with
  | none => rfl
  | some q3 =>
  obtain ⟨a3, L3⟩ := q3
  simp only [Option.bind_some, Option.map_some]
  cases h4 : rdU L3 with
  | none => rfl
  | some q4 =>
  obtain ⟨a4, L4⟩ := q4
  simp only [Option.bind_some, Option.map_some]
  cases h5 : rdT L4 with
  | none => rfl
  | some q5 =>
  obtain ⟨a5, L5⟩ := q5
  simp only [Option.bind_some, Option.map_some]
  by_cases hl : L5.length < 32
  · rw [if_pos hl, if_pos hl]; rfl
  rw [if_neg hl, if_neg hl]
  simp only [Option.bind_some]
  cases h6 : rdU (L5.drop 32) with
  | none => rfl
  | some q6 =>
  obtain ⟨n, L6⟩ := q6
  simp only [Option.bind_some]
  by_cases hn : 32 < n
  · rw [if_pos hn, if_pos hn]; rfl
  rw [if_neg hn, if_neg hn]
  cases h7 : rdPs n L6 with
  | none => rfl
  | some q7 =>
  obtain ⟨ps, L7⟩ := q7
  simp only [Option.bind_some, Option.map_some]
  cases h8 : rdT L7 with
  | none => rfl
  | some q8 => rfl
theorem rdD_val {s : Option (List Nat)} {id : List Nat} {t : Nat} {rc : Rc} {c : List Nat} (h : s.bind (rdD id t) = some (rc, c)) :
    ∃ size etag k m data L5 ps up, s.bind rdU = some (size, (st1 s).getD []) ∧ (st1 s).bind rdT = some (etag, (stT (st1 s)).getD []) ∧ (stT (st1 s)).bind rdU = some (k, (st1 (stT (st1 s))).getD []) ∧ (st1 (stT (st1 s))).bind rdU = some (m, (st1 (st1 (stT (st1 s)))).getD []) ∧
      (st1 (st1 (stT (st1 s)))).bind rdT = some (data, L5) ∧ stT (st1 (st1 (stT (st1 s)))) = some L5 ∧ 32 ≤ L5.length ∧ rdP (some (L5.drop 32)) = some (ps, (stP (some (L5.drop 32))).getD []) ∧ (stP (some (L5.drop 32))).bind rdT = some (up, c) ∧ rc = ⟨id, t, false, size, etag, k, m, data, L5.take 32, ps, up⟩ := by
  cases s with
  | none => cases h
  | some L =>
  simp only [Option.bind_some] at h
  unfold rdD at h
  cases h1 : rdU L with
  | none => rw [h1] at h; cases h
  | some q1 =>
  obtain ⟨a1, L1⟩ := q1
  rw [h1] at h
  simp only [Option.bind_eq_bind, Option.bind_some] at h
  have e1 : st1 (some L) = some L1 := by unfold st1; simp [h1]
  rw [e1]
  cases h2 : rdT L1 with
  | none => rw [h2] at h; cases h
  | some q2 =>
  obtain ⟨a2, L2⟩ := q2
  rw [h2] at h
  simp only [Option.bind_some] at h
  have e2 : stT (some L1) = some L2 := by unfold stT; simp [h2]
  rw [e2]
  cases h3 : rdU L2 with
  | none => rw [h3] at h; cases h
  | some q3 =>
  obtain ⟨a3, L3⟩ := q3
  rw [h3] at h
  simp only [Option.bind_some] at h
  have e3 : st1 (some L2) = some L3 := by unfold st1; simp [h3]
  rw [e3]
  cases h4 : rdU L3 with
  | none => rw [h4] at h; cases h
  | some q4 =>
  obtain ⟨a4, L4⟩ := q4
  rw [h4] at h
  simp only [Option.bind_some] at h
  have e4 : st1 (some L3) = some L4 := by unfold st1; simp [h4]
  rw [e4]
  cases h5 : rdT L4 with
  | none => rw [h5] at h; cases h
  | some q5 =>
  obtain ⟨a5, L5⟩ := q5
  rw [h5] at h
  simp only [Option.bind_some] at h
  have e5 : stT (some L4) = some L5 := by unfold stT; simp [h5]
  rw [e5]
  by_cases hl : L5.length < 32
  · rw [if_pos hl] at h; cases h
  rw [if_neg hl] at h
  cases h6 : rdU (L5.drop 32) with
  | none => rw [h6] at h; cases h
  | some q6 =>
  obtain ⟨n, L6⟩ := q6
  rw [h6] at h
  simp only [Option.bind_some] at h
  by_cases hn : 32 < n
  · rw [if_pos hn] at h; cases h
  rw [if_neg hn] at h
  cases h7 : rdPs n L6 with
  | none => rw [h7] at h; cases h
  | some q7 =>
  obtain ⟨ps, L7⟩ := q7
  rw [h7] at h
  simp only [Option.bind_some] at h
  have e7 : rdP (some (L5.drop 32)) = some (ps, L7) := by rw [rdP_some (s := some (L5.drop 32)) (n := n) (c := L6) h6, if_neg hn, h7]
  have e8 : stP (some (L5.drop 32)) = some L7 := by unfold stP; rw [e7]; rfl
  cases h8 : rdT L7 with
  | none => rw [h8] at h; cases h
  | some q8 =>
  obtain ⟨up, L8⟩ := q8
  rw [h8] at h
  simp only [Option.bind_some, Option.pure_def, Option.some.injEq, Prod.mk.injEq] at h
  obtain ⟨rfl, rfl⟩ := h
  exact ⟨a1, a2, a3, a4, a5, L5, ps, up, h1, h2, h3, h4, h5, rfl, by omega, by rw [e8]; exact e7, by rw [e8]; exact h8, rfl⟩
theorem step_copy_ex {P : Program} {w : World} {ops : Array Oper} {o : Oper} {a : Act} {K : Act → World → Prop} {Q : Exit → Act → World → Prop} {E : Prop} {R : Value → World → Prop} (hgd : o.guard = none) (s x : Operand) (t : TypeId)
    (ho : o.op = .call { callee := .builtin .copy, args := #[s, x], argTypes := #[t, t] }) (v xv : Value) (hs : a.eval s = v) (hx : a.eval x = xv)
    (hr : ∃ v' w', (Builtin.copy_ #[t, t] o.type #[v, xv]).run P w = .ok v' w' ∧ R v' w') (h : ∀ v' w', R v' w' → K (a.put o.dst v') w') : if Region.wanted o (yielded ops a.tmps) = true then Oper.wp P o a w K Q else E := by
  have hw : Region.wanted o (yielded ops a.tmps) = true := by simp [Region.wanted, hgd]
  rw [if_pos hw]
  obtain ⟨v', w', hr, hR⟩ := hr
  unfold Oper.wp execOp
  simp only [ho, resolve, invoke, builtin, Sem.run_bind, Sem.run_pure, Result.andThen_ok, List.map_toArray, List.map_cons, List.map_nil, hs, hx, hr]
  exact h _ _ hR
theorem PLF.base {B B' : Nat} {w : World} {v : Value} {ps : Ps} (h : PLF B w v ps) (hB : B' ≤ B) : PLF B' w v ps := ⟨h.1, fun a n c e e' => ⟨Nat.le_trans hB (h.2.1 a n c e e').1, (h.2.1 a n c e e').2⟩, h.2.2⟩
theorem PLF.form {B : Nat} {w : World} {v : Value} {ps : Ps} (h : PLF B w v ps) : ∃ po n c, v = .slice po n c := by obtain ⟨⟨po, c, h, _⟩, _⟩ := h; exact ⟨_, _, _, h⟩
/-- A reader's block and a record's block behind it. -/
structure V2 (w0 : World) (p g : Nat) (r : Rv) (s : Option (List Nat)) (w : World) : Prop where
  ok : r.ok
  lt : p < g
  rb : RBox w g r
  rd : Rd w p s
  only : Only (fun b => b = p ∨ b = g) w0 w
theorem V2.below {w0 w w' : World} {p g : Nat} {r : Rv} {s : Option (List Nat)} (h : V2 w0 p g r s w) (hb : Below w.heap.size w w') : V2 w0 p g r s w' :=
  ⟨h.ok, h.lt, h.rb.below h.ok hb, h.rd.below hb, h.only.trans (Only.of_below hb)⟩
theorem V2.p {w0 w w' : World} {p g : Nat} {r : Rv} {s s' : Option (List Nat)} (h : V2 w0 p g r s w) (hr : Rd w' p s') (ho : Only (fun b => b = p) w w') : V2 w0 p g r s' w' :=
  ⟨h.ok, h.lt, h.rb.only h.ok ho (by have := h.lt; omega), hr, h.only.trans (ho.mono fun _ e => Or.inl e)⟩
theorem V2.g {w0 w w' : World} {p g : Nat} {r r' : Rv} {s : Option (List Nat)} (h : V2 w0 p g r s w) (hr : RBox w' g r') (hk : r'.ok) (ho : Only (fun b => b = g) w w') : V2 w0 p g r' s w' :=
  ⟨hk, h.lt, hr, h.rd.only ho (fun i e => by have := h.lt; omega), h.only.trans (ho.mono fun _ e => Or.inr e)⟩
section
variable {w0 w : World} {p g : Nat} {r : Rv} {s : Option (List Nat)} (h : V2 w0 p g r s w)
include h
theorem V2.set3 (n : Int) : V2 w0 p g { r with size := n } s (w.setCell ⟨g, 3, none⟩ (i64 n)) := h.g (h.rb.set3 h.ok n) ⟨h.ok.sl, h.ok.s8, h.ok.i, h.ok.e, h.ok.d, h.ok.u⟩ (Only.set w _ _ rfl)
theorem V2.set4 (t : ByteArray) (ht : t.size ≤ 65536) : V2 w0 p g { r with etag := t } s (w.setCell ⟨g, 4, none⟩ (.string t)) := h.g (h.rb.set4 h.ok t (by omega)) ⟨h.ok.sl, h.ok.s8, h.ok.i, by show t.size ≤ _; omega, h.ok.d, h.ok.u⟩ (Only.set w _ _ rfl)
theorem V2.set5 (n : Int) : V2 w0 p g { r with k := n } s (w.setCell ⟨g, 5, none⟩ (i64 n)) := h.g (h.rb.set5 h.ok n) ⟨h.ok.sl, h.ok.s8, h.ok.i, h.ok.e, h.ok.d, h.ok.u⟩ (Only.set w _ _ rfl)
theorem V2.set6 (n : Int) : V2 w0 p g { r with m := n } s (w.setCell ⟨g, 6, none⟩ (i64 n)) := h.g (h.rb.set6 h.ok n) ⟨h.ok.sl, h.ok.s8, h.ok.i, h.ok.e, h.ok.d, h.ok.u⟩ (Only.set w _ _ rfl)
theorem V2.set7 (t : ByteArray) (ht : t.size ≤ 65536) : V2 w0 p g { r with data := t } s (w.setCell ⟨g, 7, none⟩ (.string t)) := h.g (h.rb.set7 h.ok t (by omega)) ⟨h.ok.sl, h.ok.s8, h.ok.i, h.ok.e, by show t.size ≤ _; omega, h.ok.u⟩ (Only.set w _ _ rfl)
theorem V2.set40 (v : Value) : V2 w0 p g { r with pv := v } s (w.setCell ⟨g, 40, none⟩ v) := h.g (h.rb.set40 h.ok v) ⟨h.ok.sl, h.ok.s8, h.ok.i, h.ok.e, h.ok.d, h.ok.u⟩ (Only.set w _ _ rfl)
theorem V2.set41 (t : ByteArray) (ht : t.size ≤ 65536) : V2 w0 p g { r with up := t } s (w.setCell ⟨g, 41, none⟩ (.string t)) := h.g (h.rb.set41 h.ok t (by omega)) ⟨h.ok.sl, h.ok.s8, h.ok.i, h.ok.e, h.ok.d, by show t.size ≤ _; omega⟩ (Only.set w _ _ rfl)
theorem V2.num : Calls Tryz.prog 106 #[ptr p] w fun e w' => ∃ v : Int, e = .returned (i64 v) ∧ V2 w0 p g r (st1 s) w' ∧ Only (fun b => b = p) w w' ∧ ∀ n c, s.bind rdU = some (n, c) → v = n :=
  (number_any w p s h.rd).mono fun _ _ ⟨v, h1, h2, h3, h4⟩ => ⟨v, h1, h.p h2 h3, h3, h4⟩
theorem V2.text : Calls Tryz.prog 108 #[ptr p] w fun e w' => ∃ t : ByteArray, e = .returned (.string t) ∧ V2 w0 p g r (stT s) w' ∧ Only (fun b => b = p) w w' ∧ t.size ≤ 65536 ∧ ∀ x c, s.bind rdT = some (x, c) → lst t = x :=
  (text_any w p s h.rd).mono fun _ _ ⟨v, h1, h2, h3, h4, h5⟩ => ⟨v, h1, h.p h2 h3, h3, h4, h5⟩
theorem V2.parts : Calls Tryz.prog 113 #[ptr p] w fun e w' => ∃ (v : Value) (ps : Ps), e = .returned v ∧ V2 w0 p g r (stP s) w' ∧ PLF w.heap.size w' v ps ∧ ∀ qs c, rdP s = some (qs, c) → ps = qs :=
  (parts_any w p s h.rd).mono fun _ _ ⟨v, ps, h1, h2, h3, h4, h5⟩ => ⟨v, ps, h1, h.p h3 h4, h2, h5⟩
theorem V2.take : Calls Tryz.prog 112 #[ptr p, i64 32] w fun e w' => ∃ (po : Option Addr) (x : List Nat), e = .returned (.slice po x.length x.length) ∧ V2 w0 p g r (s.bind tk32) w' ∧ BL w' po x ∧ (x = [] ∧ po = none ∨ x.length = 32) ∧ (∀ z ∈ x, z < 256) ∧ ∀ L, s = some L → 32 ≤ L.length → x = L.take 32 := by
  by_cases hb : ∀ L, s = some L → (L.length : Int) < 32
  · refine (take_bad w p 32 s h.rd hb).mono ?_
    rintro e w' ⟨rfl, h2, h3⟩
    refine ⟨none, [], rfl, ?_, Or.inl rfl, Or.inl ⟨rfl, rfl⟩, by simp, fun L h1 h2 => by have := hb L h1; omega⟩
    have e : s.bind tk32 = none := by
      cases s with
      | none => rfl
      | some L => have := hb L rfl; show tk32 L = none; unfold tk32; rw [if_pos (by omega)]
    rw [e]; exact h.p h2 h3
  · cases s with
    | none => exact (hb fun L e => by cases e).elim
    | some L =>
      have hl : 32 ≤ L.length := by
        rcases Nat.lt_or_ge L.length 32 with q | q
        · exact (hb fun L' e => by cases e; omega).elim
        · exact q
      refine (take_ok w p 32 L h.rd hl).mono ?_
      rintro e w' ⟨po, rfl, h2, h3, h4, h5⟩
      have e1 : (L.take 32).length = 32 := by rw [List.length_take]; omega
      refine ⟨po, L.take 32, by rw [e1], ?_, h2, Or.inr e1, fun z hz => h.rd.bytes.2 z (List.mem_of_mem_take hz), fun L' e _ => by cases e; rfl⟩
      have e2 : (some L).bind tk32 = some (L.drop 32) := by show tk32 L = _; unfold tk32; rw [if_neg (by omega)]
      rw [e2]; exact h.p h3 h4
theorem V2.copy {po : Option Addr} {x : List Nat} (hb : BL w po x) (hx : x = [] ∧ po = none ∨ x.length = 32) (h8 : ∀ z ∈ x, z < 256) (ty : TypeId) : ∀ w2, Below w.heap.size w w2 → ∃ v' w', (Builtin.copy_ #[28, 28] ty #[.slice (some ⟨g, 8, none⟩) 32 32, .slice po x.length x.length]).run Tryz.prog w2 = .ok v' w' ∧ ∃ y, V2 w0 p g { r with sum := y } s w' ∧ (x.length = 32 → y = x) := by
  intro w2 hw
  have h2 := h.below hw
  rcases hx with ⟨rfl, rfl⟩ | hx
  · refine ⟨_, _, run_copy_none (P := Tryz.prog) w2 28 28 ty 5 _ _ 32 32 0 0 Tryz.underlying28 (by kernel_rfl) rfl, r.sum, h2, fun e => by cases e⟩
  · have := run_copySum h2.rb h2.ok po x hx (hb.below hw) ty
    rw [← hx] at this
    refine ⟨_, _, by rw [hx] at this ⊢; exact this, x, h2.g (h2.rb.setSum h2.ok x hx h8) ⟨hx, h8, h.ok.i, h.ok.e, h.ok.d, h.ok.u⟩ (only_setCells _ _ _ _ rfl), fun _ => rfl⟩
end
def VerS (w : World) (p g : Nat) (r : Rv) (s : Option (List Nat)) (e : Ending) (w' : World) : Prop :=
  ∃ (r' : Rv) (ps : Ps), e = .returned (.tuple #[]) ∧ r'.id = r.id ∧ r'.time = r.time ∧ r'.mark = r.mark ∧ V2 w p g r' (stT (stP ((stT (st1 (st1 (stT (st1 s))))).bind tk32))) w' ∧ PLF w.heap.size w' r'.pv ps ∧
    ∀ t rc c, s.bind (rdD (lst r.id) t) = some (rc, c) → r'.rc ps = { rc with time := r.time, mark := r.mark }
set_option maxRecDepth 100000 in
set_option maxHeartbeats 2000000 in
theorem version_any (w : World) (p g : Nat) (r : Rv) (s : Option (List Nat)) (h : V2 w p g r s w) : Calls Tryz.prog 111 #[ptr p, ptr g] w (VerS w p g r s) := by
  have hnum := h.num
  have HL : Hid (g < w.heap.size ∧ p < g) := hid ⟨h.rb.at_.lt, h.lt⟩
  clear h
  go_enter Tryz.func111, Tryz.ntmps111
  go_wp2_with (first
    | (go_at_call 106; refine hnum.mono ?_; rintro e w1 ⟨v1, rfl, k1, _, f1⟩; clear hnum; have K1 := hid k1; have F1 := hid f1; clear k1 f1)
    | (go_at_call 108; refine K1.out.text.mono ?_; rintro e w2 ⟨t2, rfl, k2, _, l2, f2⟩; have c3 := k2.rb.c3; have c4 := (k2.set3 v1).rb.c4; have z := k2.rb.free; have z' := (k2.set3 v1).rb.free; have K2 := hid ((k2.set3 v1).set4 t2 l2); have F2 := hid f2; clear k2 f2 K1)
    | (go_at_call 106; refine K2.out.num.mono ?_; rintro e w3 ⟨v3, rfl, k3, _, f3⟩; have K3 := hid k3; have F3 := hid f3; clear k3 f3 K2 c3 c4 z z')
    | (go_at_call 106; refine K3.out.num.mono ?_; rintro e w4 ⟨v4, rfl, k4, _, f4⟩; have c5 := k4.rb.c5; have c6 := (k4.set5 v3).rb.c6; have z := k4.rb.free; have z' := (k4.set5 v3).rb.free; have K4 := hid ((k4.set5 v3).set6 v4); have F4 := hid f4; clear k4 f4 K3)
    | (go_at_call 108; refine K4.out.text.mono ?_; rintro e w5 ⟨t5, rfl, k5, _, l5, f5⟩; clear c5 c6 z z'; have c7 := k5.rb.c7; have z := k5.rb.free; have K5 := hid (k5.set7 t5 l5); have F5 := hid f5; clear k5 f5 K4))
  clear c7 z
  generalize hw6 : w5.setCell ⟨g, 7, none⟩ (.string t5) = w6 at K5
  have hsl := run_sum g
  go_region_held3 (fun w' => True) (trivial) (first
    | (go_at_call 112; (first | refine (K5.out.below (below_drewN _ _)).take.mono ?_ | refine K5.out.take.mono ?_); rintro e w7 ⟨po, x, rfl, k7, hb7, hx7, h8, f7⟩; have K7 := hid k7; have F7 := hid f7; have HB7 := hid hb7; have H8 := hid h8; have HX7 := hid hx7; clear k7 f7 hb7 h8 hx7 K5)
    | ((first | refine step_copy_ex (by rfl) (.tmp 32) (.tmp 34) 28 (by rfl) (.slice (some ⟨g, 8, none⟩) 32 32) _ (by rfl) (by rfl) (K7.out.copy HB7.out HX7.out H8.out _ _ (below_drewN _ _)) ?_ | refine step_copy_ex (by rfl) (.tmp 32) (.tmp 34) 28 (by rfl) (.slice (some ⟨g, 8, none⟩) 32 32) _ (by rfl) (by rfl) (K7.out.copy HB7.out HX7.out H8.out _ _ (Below.refl _ _)) ?_); rintro v8 w8 ⟨y, k8, f8⟩; have K8 := hid k8; have F8 := hid f8; clear k8 f8 K7))
  clear hsl HB7 H8 hw6
  go_wp2_with (first
    | (go_at_call 113; refine K8.out.parts.mono ?_; rintro e w9 ⟨v9, ps, rfl, k9, hp9, f9⟩; obtain ⟨po9, n9, c9, hv9⟩ := hp9.form; subst hv9; have c40 := k9.rb.c40; have z := k9.rb.free; have K9 := hid (k9.set40 (.slice po9 n9 c9)); have F9 := hid f9; have HP9 := hid ((hp9.base K8.out.only.size).only (Only.set (S := fun b => b = g) w9 ⟨g, 40, none⟩ (.slice po9 n9 c9) rfl) (fun i e => by have := HL.out; omega)); clear k9 f9 hp9 K8)
    | (go_at_call 108; refine K9.out.text.mono ?_; rintro e w10 ⟨t10, rfl, k10, o10, l10, f10⟩; clear c40 z; have c41 := k10.rb.c41; have z := k10.rb.free; have K10 := hid (k10.set41 t10 l10); have F10 := hid f10; have HP10 := hid ((HP9.out.only o10 (fun i e => by have := HL.out; omega)).only (Only.set (S := fun b => b = g) w10 ⟨g, 41, none⟩ (.string t10) rfl) (fun i e => by have := HL.out; omega)); clear k10 f10 K9 o10))
  go_end0
  refine ⟨{ r with size := v1, etag := t2, k := v3, m := v4, data := t5, sum := y, pv := .slice po9 n9 c9, up := t10 }, ps, rfl, rfl, rfl, rfl, K10.out, HP10.out, fun t rc c hs => ?_⟩
  obtain ⟨size, etag, k, m, data, L5, qs, up, a1, a2, a3, a4, a5, a6, a7, a8, a9, rfl⟩ := rdD_val hs
  have e32 : (stT (st1 (st1 (stT (st1 s))))).bind tk32 = some (L5.drop 32) := by rw [a6]; show tk32 L5 = _; unfold tk32; rw [if_neg (by omega)]
  have b7 := F7.out L5 a6 a7
  have b8 := F8.out (by rw [b7, List.length_take]; omega)
  have b9 := F9.out
  have b10 := F10.out
  rw [e32] at b9 b10
  unfold Rv.rc
  simp only [F1.out _ _ a1, F2.out _ _ a2, F3.out _ _ a3, F4.out _ _ a4, F5.out _ _ a5, b8, b7, b9 _ _ a8, b10 _ _ a9]
end Go.Proofs.YtelkijiphhoacaaGreatDoor
