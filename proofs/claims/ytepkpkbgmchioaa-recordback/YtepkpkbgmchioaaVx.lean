/- Contract of appendVersion of package record. -/
import Derived.Test.YtepkpkbgmchioaaVw
import Derived.Test.YtepkpkbgmchioaaVt
namespace Go.Proofs.Ytepkpkbgmchioaa
open Go Go.RowKit

theorem below_drewN (w : World) (n : Nat) : Below w.heap.size w (w.drewN n) := ⟨rfl, rfl, rfl, Nat.le_refl _, fun _ _ => rfl⟩
theorem below_drew (w : World) : Below w.heap.size w w.drew := (Below.refl _ _).drew
def ZT (B : Nat) (v0 : Value) (w0 : World) (L : List Nat) (e : Ending) (w' : World) : Prop := ∃ v', e = .returned v' ∧ AppZ B v0 w0 L v' w'
section
variable {B : Nat} {v0 v : Value} {w0 w : World} {L : List Nat}
theorem AppZ.num (h : AppZ B v0 w0 L v w) {n : Int} (h0 : 0 ≤ n) (hn : n ≤ 1099511627776) (hL : L.length ≤ 900000) (hB : B ≤ w0.heap.size) (W : World) (hW : Below w.heap.size w W) : Calls Try.prog 37 #[v, i64 n] W (ZT B v0 w0 (L ++ ib n)) := by
  obtain ⟨k, rfl⟩ := Int.eq_ofNat_of_zero_le h0
  have h2 := h.below hW
  exact (appNumZ B L v k W (by omega) h2.buf (by omega) (by have := h2.only.size; omega)).mono fun e w' ⟨v', e1, hz⟩ => ⟨v', e1, h2.trans hz⟩
theorem AppZ.text (h : AppZ B v0 w0 L v w) {s : ByteArray} (hn : s.size ≤ 65536) (hL : L.length ≤ 900000) (hB : B ≤ w0.heap.size) (W : World) (hW : Below w.heap.size w W) : Calls Try.prog 38 #[v, .string s] W (ZT B v0 w0 (L ++ tb (lst s))) := by
  have h2 := h.below hW
  exact (appTextZ B L v s W hn h2.buf hL (by have := h2.only.size; omega)).mono fun e w' ⟨v', e1, hz⟩ => ⟨v', e1, h2.trans hz⟩
end
theorem RBox.only {w w' : World} {g : Nat} {r : Rv} {S : Nat → Prop} (h : RBox w g r) (ho : r.ok) (hO : Only S w w') (hS : ¬ S g) : RBox w' g r := RBox.mk' ho (h.at_.keep (hO.block g h.at_.lt hS))
theorem ib_le {n : Int} (h : n ≤ 1099511627776) : (ib n).length ≤ 6 := nb_le (by omega)
theorem tb_le {s : ByteArray} (h : s.size ≤ 65536) : (tb (lst s)).length ≤ s.size + 6 := by
  unfold tb; rw [List.length_append, lst_len]; have := nb_le (n := s.size) (by omega); omega
/-- What only a record of no mark has, as bytes. -/
def vB (r : Rv) (ps : Ps) : List Nat := ib r.size ++ (tb (lst r.etag) ++ (ib r.k ++ (ib r.m ++ (tb (lst r.data) ++ (r.sum ++ (nb ps.length ++ (psB ps ++ tb (lst r.up))))))))
theorem versOk_iff {r : Rv} {ps : Ps} (h : versOk r ps = true) : 0 ≤ r.size ∧ r.size ≤ 65536 ∧ r.etag.size ≤ 40 ∧ 1 ≤ r.k ∧ r.k ≤ 16 ∧ 1 ≤ r.m ∧ r.m ≤ 16 ∧ r.data.size ≤ 32 ∧ ps.length ≤ 32 ∧ okPs 0 ps = true ∧ r.up.size ≤ 32 := by
  unfold versOk at h
  simp only [Bool.and_eq_true] at h
  obtain ⟨h1, h2, h3, h4, h5, h6, h7⟩ := h
  have a1 := inR_iff.1 h1
  have a3 := inR_iff.1 h3
  have a4 := inR_iff.1 h4
  have a2 := okOf_len h2
  have a5 := okOf_len h5
  rw [lst_len] at a2 a5
  unfold okParts at h6
  simp only [Bool.and_eq_true, decide_eq_true_eq] at h6
  have a7 : r.up.size ≤ 32 := by
    unfold upOk at h7
    rw [Bool.or_eq_true] at h7
    rcases h7 with h | h
    · rw [isEmpty_lst] at h
      have : (lst r.up).length = 0 := by simpa using h
      rw [lst_len] at this; omega
    · have := okOf_len h; rw [lst_len] at this; omega
  exact ⟨a1.1, a1.2, a2.2, a3.1, a3.2, a4.1, by omega, a5.2, h6.1.1, h6.1.2, a7⟩
theorem okPs_at : ∀ {ps : Ps} {last : Int}, 0 ≤ last → okPs last ps = true → ∀ i, i < ps.length → 0 ≤ (ps.getD i (0, 0)).1 ∧ (ps.getD i (0, 0)).1 ≤ 10000 ∧ 0 ≤ (ps.getD i (0, 0)).2 ∧ (ps.getD i (0, 0)).2 ≤ 65536
  | [], _, _, _, i, hi => by simp at hi
  | p :: r, last, h0, h, i, hi => by
    simp [okPs, inR] at h
    cases i with
    | zero => simp; omega
    | succ i => simpa using okPs_at (ps := r) (last := p.1) (by omega) h.2 i (by simpa using hi)
theorem run_sum (g : Nat) (w : World) : (Instr.sliceAt 42 (.pointer (some ⟨g, 8, none⟩)) none none none).run Try.prog w = .ok (.slice (some ⟨g, 8, none⟩) 32 32) w := by kernel_rfl
theorem psB_take {ps : Ps} {k : Nat} (h : k < ps.length) : psB (ps.take (k + 1)) = psB (ps.take k) ++ (ib (ps.getD k (0, 0)).1 ++ ib (ps.getD k (0, 0)).2) := by
  have e : ps.take (k + 1) = ps.take k ++ [ps.getD k (0, 0)] := by rw [List.take_succ_eq_append_getElem h]; simp [List.getD, h]
  rw [e]
  unfold psB
  rw [List.map_append, List.flatten_append]
  simp
theorem psB_le {ps : Ps} (h : ∀ i, i < ps.length → (ps.getD i (0, 0)).1 ≤ 10000 ∧ (ps.getD i (0, 0)).2 ≤ 65536) : ∀ k, k ≤ ps.length → (psB (ps.take k)).length ≤ 12 * k
  | 0, _ => by simp [psB]
  | k + 1, hk => by
    have ih := psB_le h k (by omega)
    have h1 := h k (by omega)
    rw [psB_take (by omega), List.length_append, List.length_append]
    have := ib_le (n := (ps.getD k (0, 0)).1) (by omega)
    have := ib_le (n := (ps.getD k (0, 0)).2) (by omega)
    omega
theorem step_append_ex {P : Program} {w : World} {ops : Array Oper} {o : Oper} {a : Act} {K : Act → World → Prop} {Q : Exit → Act → World → Prop} {E : Prop} {R : Value → World → Prop} (hgd : o.guard = none) (s x : Operand) (t : TypeId)
    (ho : o.op = .call { callee := .builtin .append, args := #[s, x], argTypes := #[t, t] }) (v xv : Value) (hs : a.eval s = v) (hx : a.eval x = xv)
    (hr : ∃ v' w', (Builtin.append_ #[t, t] o.type #[v, xv]).run P w = .ok v' w' ∧ R v' w') (h : ∀ v' w', R v' w' → K (a.put o.dst v') w') : if Region.wanted o (yielded ops a.tmps) = true then Oper.wp P o a w K Q else E := by
  have hw : Region.wanted o (yielded ops a.tmps) = true := by simp [Region.wanted, hgd]
  rw [if_pos hw]
  obtain ⟨v', w', hr, hR⟩ := hr
  unfold Oper.wp execOp
  simp only [ho, resolve, invoke, builtin, Sem.run_bind, Sem.run_pure, Result.andThen_ok, List.map_toArray, List.map_cons, List.map_nil, hs, hx, hr]
  exact h _ _ hR
theorem AppZ.sumA {B : Nat} {v0 v : Value} {w0 w : World} {L : List Nat} (h : AppZ B v0 w0 L v w) {g : Nat} {r : Rv} (hr : r.ok) (hg : RBox w g r) (hL : L.length ≤ 900000) (hB : B ≤ w0.heap.size) (W : World) (hW : Below w.heap.size w W) :
    ∃ v' w', (Builtin.append_ #[22, 22] 22 #[v, .slice (some ⟨g, 8, none⟩) 32 32]).run Try.prog W = .ok v' w' ∧ AppZ B v0 w0 (L ++ r.sum) v' w' := by
  have h2 := h.below hW
  have hg2 := hg.below hr hW
  obtain ⟨v', w', h3, h4⟩ := h2.buf.appZ (some ⟨g, 8, none⟩) 32 r.sum (Or.inr ⟨g, 8, rfl, fun i hi => hg2.cs i _ (sumC_get hi)⟩) (by simp) (by rw [hr.sl]; omega) (by have := h2.only.size; omega)
  rw [hr.sl] at h3
  exact ⟨v', w', h3, h2.trans h4⟩
set_option maxRecDepth 100000 in
set_option maxHeartbeats 4000000 in
theorem appVers (w0 : World) (r : Rv) (hr : r.ok) (ps : Ps) (hp : PL w0 r.pv ps) (hv : versOk r ps = true) (v : Value) (L : List Nat) (w : World) (hw : Below w0.heap.size w0 w) (hb : Buf w0.heap.size w v L) (hL : L.length ≤ 200000) :
    Calls Try.prog 46 #[v, .agg r.cs] w (ZS w0.heap.size v w (L ++ vB r ps)) := by
  have HR := hid hr
  have HP := hid hp
  have HW := hid hw
  have HB := hid hb
  obtain ⟨q1, q2, q3, q4, q5, q6, q7, q8, q9, q10, q11⟩ := versOk_iff hv
  have HPS := hid (okPs_at (Int.le_refl 0) q10)
  have HVO := hid (fun b hb' => (own_ge hb b hb').2)
  have HVB := hid (fun b hb' => (own_ge hb b hb').1)
  obtain ⟨p1, d1, hpv, hpc, hpl, _⟩ := hp
  clear hr hv hw hb
  go_enter Try.func46, Try.ntmps46
  go_wp2_with ((with_reducible refine wpList_boxR rfl _ rfl r.cs ?_ ?_); exact rfl; intro w1 g1 hc1 hb1 hg1; have HA := hid (RBox.mk' HR.out hc1); have HB1 := hid hb1; clear hc1 hb1)
  have HG : Hid (∀ W, Only (fun b => v.ownBlock = some b) w1 W → RBox W g1 r) := fun W ho => HA.out.only HR.out ho (fun e => by have := HVO.out g1 e; omega)
  have hB1 : w0.heap.size ≤ w1.heap.size := by have := HW.out.size; have := HB1.out.size; omega
  have HZ := hid (AppZ.refl (HB.out.below HB1.out))
  have HC := hid (show _ ∧ _ from ⟨HA.out.c3, HA.out.c4⟩)
  have l1 := ib_le (n := r.size) (by omega)
  have l2 := tb_le (s := r.etag) (by omega)
  have l3 := ib_le (n := r.k) (by omega)
  have l4 := ib_le (n := r.m) (by omega)
  have l5 := tb_le (s := r.data) (by omega)
  have HLL := hid (And.intro l1 (And.intro l2 (And.intro l3 (And.intro l4 l5))))
  clear l1 l2 l3 l4 l5
  go_region_held3 (fun w' => w'.cell? ⟨g1, 3, none⟩ = some (i64 r.size) ∧ w'.cell? ⟨g1, 4, none⟩ = some (.string r.etag)) (exact HC.out) (first
    | (go_at_call 37; (first | refine (HZ.out.num q1 (by omega) (by omega) hB1 _ (below_drewN _ _)).mono ?_ | refine (HZ.out.num q1 (by omega) (by omega) hB1 _ (Below.refl _ _)).mono ?_); rintro e w2 ⟨v2, rfl, hz⟩; replace HZ := hid hz; replace HC := hid (show _ ∧ _ from ⟨(HG.out _ hz.only).c3, (HG.out _ hz.only).c4⟩); clear hz)
    | (go_at_call 38; (first | refine (HZ.out.text (by omega) (by rw [List.length_append]; have := HLL.out; omega) hB1 _ (below_drewN _ _)).mono ?_ | refine (HZ.out.text (by omega) (by rw [List.length_append]; have := HLL.out; omega) hB1 _ (Below.refl _ _)).mono ?_); rintro e w3 ⟨v3, rfl, hz⟩; replace HZ := hid hz; replace HC := hid (show _ ∧ _ from ⟨(HG.out _ hz.only).c3, (HG.out _ hz.only).c4⟩); clear hz))
  go_wp2
  replace HC := hid (show _ ∧ _ from ⟨(HG.out _ HZ.out.only).c5, (HG.out _ HZ.out.only).c6⟩)
  have q4' : 0 ≤ r.k := by omega
  have q6' : 0 ≤ r.m := by omega
  go_region_held3 (fun w' => w'.cell? ⟨g1, 5, none⟩ = some (i64 r.k) ∧ w'.cell? ⟨g1, 6, none⟩ = some (i64 r.m)) (exact HC.out) ((go_at_call 37; (first
    | with_reducible refine (HZ.out.num (n := r.k) q4' (by omega) (by simp only [List.length_append]; have := HLL.out; omega) hB1 _ (below_drewN _ _)).mono ?_
    | with_reducible refine (HZ.out.num (n := r.k) q4' (by omega) (by simp only [List.length_append]; have := HLL.out; omega) hB1 _ (below_drew _)).mono ?_
    | with_reducible refine (HZ.out.num (n := r.k) q4' (by omega) (by simp only [List.length_append]; have := HLL.out; omega) hB1 _ (Below.refl _ _)).mono ?_
    | with_reducible refine (HZ.out.num (n := r.m) q6' (by omega) (by simp only [List.length_append]; have := HLL.out; omega) hB1 _ (below_drewN _ _)).mono ?_
    | with_reducible refine (HZ.out.num (n := r.m) q6' (by omega) (by simp only [List.length_append]; have := HLL.out; omega) hB1 _ (below_drew _)).mono ?_
    | with_reducible refine (HZ.out.num (n := r.m) q6' (by omega) (by simp only [List.length_append]; have := HLL.out; omega) hB1 _ (Below.refl _ _)).mono ?_); rintro e w4 ⟨v4, rfl, hz⟩; replace HZ := hid hz; replace HC := hid (show _ ∧ _ from ⟨(HG.out _ hz.only).c5, (HG.out _ hz.only).c6⟩); clear hz))
  go_wp2
  replace HC := hid (HG.out _ HZ.out.only).c7
  have hsl := run_sum g1
  go_region_held3 (fun w' => w'.cell? ⟨g1, 7, none⟩ = some (.string r.data)) (exact HC.out) (first
    | (go_at_call 38; (first | refine (HZ.out.text (by omega) (by simp only [List.length_append]; have := HLL.out; omega) hB1 _ (below_drewN _ _)).mono ?_ | refine (HZ.out.text (by omega) (by simp only [List.length_append]; have := HLL.out; omega) hB1 _ (Below.refl _ _)).mono ?_); rintro e w5 ⟨v5, rfl, hz⟩; replace HZ := hid hz; replace HC := hid (HG.out _ hz.only).c7; clear hz)
    | ((first | refine step_append_ex (by rfl) (.tmp 24) (.tmp 26) 22 (by rfl) _ (.slice (some ⟨g1, 8, none⟩) 32 32) (by rfl) (by rfl) (HZ.out.sumA HR.out (HG.out _ HZ.out.only) (by simp only [List.length_append]; have := HLL.out; omega) hB1 _ (below_drewN _ _)) ?_ | refine step_append_ex (by rfl) (.tmp 24) (.tmp 26) 22 (by rfl) _ (.slice (some ⟨g1, 8, none⟩) 32 32) (by rfl) (by rfl) (HZ.out.sumA HR.out (HG.out _ HZ.out.only) (by simp only [List.length_append]; have := HLL.out; omega) hB1 _ (Below.refl _ _)) ?_); rintro v6 w6 hz; replace HZ := hid hz; replace HC := hid (HG.out _ hz.only).c7; clear hz))
  have hM : (L ++ ib r.size ++ tb (lst r.etag) ++ ib r.k ++ ib r.m ++ tb (lst r.data) ++ r.sum).length ≤ 300000 := by simp only [List.length_append, HR.out.sl]; have := HLL.out; omega
  generalize hMM : L ++ ib r.size ++ tb (lst r.etag) ++ ib r.k ++ ib r.m ++ tb (lst r.data) ++ r.sum = M at HZ hM
  have HMM := hid hMM
  clear hMM HC hsl HLL
  have HBW : Hid (∀ W, Only (fun b => v.ownBlock = some b) w1 W → Below w0.heap.size w0 W) := fun W ho => below_tr (below_tr HW.out (below_less HB1.out HW.out.size)) (ho.below (by have := HW.out.size; have := HB1.out.size; omega) (fun i e => HVB.out i e))
  have c40 := (HG.out _ HZ.out.only).c40
  rw [hpv] at c40
  have hps : ((ps.length : Nat) : Int) ≤ 1099511627776 := by omega
  go_wp2_with (go_at_call 37; refine (HZ.out.num (n := (ps.length : Int)) (by omega) hps (by omega) hB1 _ (Below.refl _ _)).mono ?_; rintro e w7 ⟨v7, rfl, hz⟩; replace HZ := hid hz; clear c40; have c40 := (HG.out _ hz.only).c40; rw [hpv] at c40; clear hz)
  have HPL := hid (psB_le fun i hi => ⟨(HPS.out i hi).2.1, (HPS.out i hi).2.2.2⟩)
  have hN : (M ++ ib (ps.length : Int)).length ≤ 300006 := by rw [List.length_append]; have := ib_le hps; omega
  generalize hNN : M ++ ib (ps.length : Int) = N at HZ hN
  have HNN := hid hNN
  clear hNN hM
  go_loopw [0, 36] (fun bv iv wr => ∃ k : Nat, k ≤ ps.length ∧ iv = i64 k ∧ AppZ w0.heap.size v w1 (N ++ psB (ps.take k)) bv wr) (fun _ iv _ => (ps.length - intOf iv).toNat)
  case atStart => exact ⟨0, by omega, rfl, by simpa [psB] using HZ.out⟩
  case round =>
    clear c40
    obtain ⟨k, hk, rfl, hz⟩ := hrel
    have HZ2 := hid hz
    have hlenN : (N ++ psB (ps.take k)).length ≤ 700000 := by rw [List.length_append]; have := HPL.out k hk; omega
    by_cases hlt : k < ps.length
    · have hlt' : (k : Int) < (ps.length : Int) := by omega
      have hpl2 := HP.out.below (HBW.out _ hz.only)
      rw [hpv] at hpl2
      obtain ⟨b, o, hpo, x1, x2⟩ := hpl2.at hlt
      subst hpo
      clear hpl2 hz
      obtain ⟨s1, s2, s3, s4⟩ := HPS.out k hlt
      have HPT := hid (psB_take hlt)
      generalize (ps.getD k (0, 0)).1 = X1 at *
      generalize (ps.getD k (0, 0)).2 = X2 at *
      go_wp2
      have hpb := CAt.made wr #[Value.int IntKind.i64 X1, Value.int IntKind.i64 X2] 53
      have hbl := below_al wr (.cells #[Value.int IntKind.i64 X1, Value.int IntKind.i64 X2] 53)
      generalize wr.alloc (.cells #[Value.int IntKind.i64 X1, Value.int IntKind.i64 X2] 53) = Wp at hpb hbl ⊢
      have HZW := hid (HZ2.out.below hbl)
      have HOW := hid (fun b e => (own_ge HZ2.out.buf b e).2)
      have HCF : Hid (∀ W, Only (fun b => u0.ownBlock = some b) Wp W → W.cell? ⟨wr.heap.size, 0, none⟩ = some (i64 X1) ∧ W.cell? ⟨wr.heap.size, 1, none⟩ = some (i64 X2)) := fun W ho => by
        have hk2 := hpb.keep (ho.block wr.heap.size hpb.lt (fun e => by have := HOW.out _ e; omega))
        exact ⟨hk2.cell 0, hk2.cell 1⟩
      have HC := hid (HCF.out _ (Only.refl _ _))
      have HZp := hid (AppZ.refl HZW.out.buf)
      have hBp : w0.heap.size ≤ Wp.heap.size := by have := HZW.out.only.size; omega
      clear hpb hbl HZ2
      have e1 := ib_le (n := X1) (by omega)
      have s2' : X1 ≤ 1099511627776 := by omega
      have s4' : X2 ≤ 1099511627776 := by omega
      have hl2 : (N ++ psB (ps.take k) ++ ib X1).length ≤ 800000 := by rw [List.length_append]; omega
      have hl1 : (N ++ psB (ps.take k)).length ≤ 900000 := by omega
      have hl3 : (N ++ psB (ps.take k) ++ ib X1).length ≤ 900000 := by omega
      go_region_held3 (fun w' => w'.cell? ⟨wr.heap.size, 0, none⟩ = some (i64 X1) ∧ w'.cell? ⟨wr.heap.size, 1, none⟩ = some (i64 X2)) (exact HC.out) (first
        | (go_at_call 37; (with_reducible refine (HZp.out.num (n := X1) s1 s2' hl1 hBp _ (below_drewN _ _)).mono ?_); rintro e w8 ⟨v8, rfl, hz⟩; replace HZp := hid hz; replace HC := hid (HCF.out _ hz.only); clear hz)
        | (go_at_call 37; (with_reducible refine (HZp.out.num (n := X1) s1 s2' hl1 hBp _ (below_drew _)).mono ?_); rintro e w8 ⟨v8, rfl, hz⟩; replace HZp := hid hz; replace HC := hid (HCF.out _ hz.only); clear hz)
        | (go_at_call 37; (with_reducible refine (HZp.out.num (n := X1) s1 s2' hl1 hBp _ (Below.refl _ _)).mono ?_); rintro e w8 ⟨v8, rfl, hz⟩; replace HZp := hid hz; replace HC := hid (HCF.out _ hz.only); clear hz)
        | (go_at_call 37; (with_reducible refine (HZp.out.num (n := X2) s3 s4' hl3 hBp _ (below_drewN _ _)).mono ?_); rintro e w8 ⟨v8, rfl, hz⟩; replace HZp := hid hz; replace HC := hid (HCF.out _ hz.only); clear hz)
        | (go_at_call 37; (with_reducible refine (HZp.out.num (n := X2) s3 s4' hl3 hBp _ (below_drew _)).mono ?_); rintro e w8 ⟨v8, rfl, hz⟩; replace HZp := hid hz; replace HC := hid (HCF.out _ hz.only); clear hz)
        | (go_at_call 37; (with_reducible refine (HZp.out.num (n := X2) s3 s4' hl3 hBp _ (Below.refl _ _)).mono ?_); rintro e w8 ⟨v8, rfl, hz⟩; replace HZp := hid hz; replace HC := hid (HCF.out _ hz.only); clear hz))
      go_wp2
      refine ⟨⟨k + 1, by omega, by simp, ?_⟩, by simp [intOf]; omega⟩
      have := HZW.out.trans HZp.out
      rw [HPT.out, ← List.append_assoc, ← List.append_assoc]; exact this
    · have hlt' : ¬ (k : Int) < (ps.length : Int) := by omega
      have c41 := (HG.out _ hz.only).c41
      clear hz
      go_wp2_with (go_at_call 38; refine (HZ2.out.text (by omega) (by omega) hB1 _ (Below.refl _ _)).mono ?_; rintro e w9 ⟨v9, rfl, hz⟩)
      go_ret
      refine ⟨v9, rfl, ?_⟩
      have hb := AppZ.start HB1.out hz
      have hk2 : ps.take k = ps := List.take_of_length_le (by omega)
      rw [hk2, ← HNN.out, ← HMM.out] at hb
      have e2 : ib (ps.length : Int) = nb ps.length := by unfold ib; simp
      rw [e2] at hb
      unfold vB
      simp only [List.append_assoc] at hb ⊢
      exact hb
#print axioms appVers
end Go.Proofs.Ytepkpkbgmchioaa
