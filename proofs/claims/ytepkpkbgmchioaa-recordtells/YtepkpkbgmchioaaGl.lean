/- Texts laid into one: the remark ahead of each part says what is proved there. -/
import Derived.Test.YtepkpkbgmchioaaGk
import Derived.Deep.Cut
/- Contract of the document's Bytes. -/
namespace Go.Proofs.Ytepkpkbgmchioaa
open Go Go.RowKit

theorem rUintI (n : Int) (w : World) (h0 : 0 ≤ n) (hn : n ≤ 1099511627776) : Calls Try.prog 12 #[i64 n] w (BufS w.heap.size w (ib n)) := by
  obtain ⟨k, rfl⟩ := Int.eq_ofNat_of_zero_le h0
  have e : ib (k : Int) = nb k := by unfold ib; simp
  rw [e]
  exact rUint_any k w (by omega)
/-- A record's box, and bytes of one's own made behind it. -/
structure BS (w : World) (g : Nat) (r : Rv) (L : List Nat) (v : Value) (W : World) : Prop where
  ok : r.ok
  hg : w.heap.size ≤ g
  box : RBox W g r
  buf : Buf (g + 1) W v L
  below : Below w.heap.size w W
section
variable {w W W1 : World} {g : Nat} {r : Rv} {L x : List Nat} {v v2 : Value}
theorem BS.on (h : BS w g r L v W) (hb : Below W.heap.size W W1) : BS w g r L v W1 := ⟨h.ok, h.hg, h.box.below h.ok hb, h.buf.below hb, below_on h.below hb⟩
theorem BS.app (h : BS w g r L v W) (po : Option Addr) (c : Nat) (hx : BL W po x) (hc : po = none → c = 0) (hn : L.length + x.length ≤ 2000000) :
    ∃ v3 W3, (Builtin.append_ #[22, 22] 22 #[v, .slice po x.length c]).run Try.prog W = .ok v3 W3 ∧ BS w g r (L ++ x) v3 W3 := by
  have hlt := h.box.at_.lt
  obtain ⟨v3, W3, hr, hB, hG⟩ := h.buf.app po c x hx hc hn (by omega)
  refine ⟨v3, W3, hr, h.ok, h.hg, RBox.mk' h.ok (h.box.at_.keep (hG.block g hlt fun e => ?_)), hB, below_grown h.below hG (Nat.le_refl _) fun b hb => ?_⟩
  · have := (own_ge h.buf g e.symm).1; omega
  · have := (own_ge h.buf b hb).1; have := h.hg; omega
theorem BS.cat (h : BS w g r L v W) (hb : Below W.heap.size W W1) (h2 : Buf W.heap.size W1 v2 x) (hn : L.length + x.length ≤ 2000000) (W2 : World) (hW : Below W1.heap.size W1 W2) :
    ∃ v3 W3, (Builtin.append_ #[22, 22] 22 #[v, v2]).run Try.prog W2 = .ok v3 W3 ∧ BS w g r (L ++ x) v3 W3 := by
  obtain ⟨po, cc, rfl⟩ := h2.form
  have h3 := h2.below hW
  exact ((h.on hb).on hW).app po cc h3.bl (fun e => by subst e; exact h3.capn) hn
theorem BS.push (h : BS w g r L v W) (k : Nat) (hn : L.length ≤ 1000000) :
    ∃ v3 W3, (Builtin.append_ #[22, 22] 22 #[v, .slice (some ⟨W.heap.size, 0, none⟩) 1 1]).run Try.prog (W.alloc (.cells #[u8 k] 5)) = .ok v3 W3 ∧ BS w g r (L ++ [k]) v3 W3 :=
  h.cat (below_al _ _) (Buf.one W k W.heap.size (Nat.le_refl _)) (by simp; omega) _ (Below.refl _ _)
theorem BS.sum (h : BS w g r L v W) (hn : L.length ≤ 1000000) :
    ∃ v3 W3, (Builtin.append_ #[22, 22] 22 #[v, .slice (some ⟨g, 8, none⟩) 32 32]).run Try.prog W = .ok v3 W3 ∧ BS w g r (L ++ r.sum) v3 W3 := by
  have := h.app (x := r.sum) (some ⟨g, 8, none⟩) 32 (Or.inr ⟨g, 8, rfl, fun i hi => h.box.cs i _ (sumC_get hi)⟩) (by simp) (by rw [h.ok.sl]; omega)
  rw [h.ok.sl] at this
  exact this
end
def BytS (w : World) (L : List Nat) (e : Ending) (w' : World) : Prop := ∃ v, e = .returned v ∧ SL w' v L ∧ Below w.heap.size w w'
set_option maxRecDepth 100000 in
set_option maxHeartbeats 4000000 in
theorem rBytes_any (r : Rv) (hr : r.ok) (ps : Ps) (w : World) (hp : PL w r.pv ps) (h : okRc (r.rc ps) = true) : Calls Try.prog 28 #[.agg r.cs] w (BytS w (rcB (r.rc ps))) := by
  obtain ⟨q1, q2, q3⟩ := okRc_id h
  have HR := hid hr
  have HO := hid h
  have HPP := hid hp
  have HL1 : Hid ((tb (lst r.id)).length ≤ 100 ∧ (ib r.time).length ≤ 6) := hid ⟨by have := tb_le (s := r.id) (by omega); omega, ib_le (by omega)⟩
  have q3' : r.time ≤ 1099511627776 := by omega
  have q1' : r.id.size ≤ 65536 := by omega
  clear hr h hp q1 q3
  go_enter Try.func28, Try.ntmps28
  go_wp2_with ((with_reducible refine wpList_boxR rfl _ rfl r.cs ?_ ?_); exact rfl; intro w1 g hc1 hb1 hg1; have HA := hid (RBox.mk' HR.out hc1); have HB1 := hid hb1; clear hc1 hb1)
  have HC := hid (show _ ∧ _ from ⟨HA.out.c0, HA.out.c1⟩)
  have HG := hid (fun W (hb : Below w1.heap.size w1 W) => show _ ∧ _ from ⟨(HA.out.below HR.out hb).c0, (HA.out.below HR.out hb).c1⟩)
  go_region_held3 (fun w' => w'.cell? ⟨g, 0, none⟩ = some (.string r.id) ∧ w'.cell? ⟨g, 1, none⟩ = some (i64 r.time)) (exact HC.out) (first
    | (go_at_call 13; refine (rText_any r.id _ q1').mono ?_; rintro e w2 ⟨v2, rfl, hb2, hw2⟩; have HT : Hid (BS w g r (tb (lst r.id)) v2 w2) := hid ⟨HR.out, hg1, HA.out.below HR.out (below_on (below_drewN _ _) hw2), hb2.base (by have := HA.out.at_.lt; exact this), below_on HB1.out (below_on (below_drewN _ _) hw2)⟩; replace HC := hid (HG.out _ (below_on (below_drewN _ _) hw2)); clear hb2 hw2)
    | (go_at_call 12; refine (rUintI r.time _ q2 q3').mono ?_; rintro e w3 ⟨v3, rfl, hb3, hw3⟩; have HU := hid (HT.out.cat hw3 hb3 (by have := HL1.out; omega)); replace HC := hid (show _ ∧ _ from ⟨(HT.out.on hw3).box.c0, (HT.out.on hw3).box.c1⟩); clear hb3 hw3)
    | ((first | refine step_append_ex (by rfl) (.tmp 7) (.tmp 10) 22 (by rfl) _ _ (by rfl) (by rfl) (HU.out _ (below_drewN _ _)) ?_ | refine step_append_ex (by rfl) (.tmp 7) (.tmp 10) 22 (by rfl) _ _ (by rfl) (by rfl) (HU.out _ (Below.refl _ _)) ?_); rintro v4 w4 h4; have H4 := hid h4; replace HC := hid (show _ ∧ _ from ⟨h4.box.c0, h4.box.c1⟩); clear h4))
  clear HC HG HU HT HA HB1 q1' q2 q3'
  cases hm : r.mark with
  | true =>
    have HE : Hid (rcB (r.rc ps) = tb (lst r.id) ++ ib r.time ++ [1]) := hid (by rw [rcB_mark hm, List.append_assoc])
    have c2 := H4.out.box.c2
    rw [hm] at c2
    obtain ⟨v5, w5, hrun, h5⟩ := H4.out.push 1 (by rw [List.length_append]; have := HL1.out; omega)
    have HRUN := hid hrun
    have H5 := hid h5
    clear hrun h5 hm
    go_wp2_with (at_builtin; refine wpList_append_run _ _ 22 22 rfl rfl _ _ _ rfl rfl HRUN.out ?_)
    go_ret
    exact ⟨_, rfl, HE.out ▸ H5.out.buf.sl, H5.out.below⟩
  | false =>
    have hv : versOk r ps = true := by have h := HO.out; rw [okRc_vers r ps hm HR.out.sl] at h; simp only [Bool.and_eq_true] at h; exact h.2
    have HE : Hid (rcB (r.rc ps) = tb (lst r.id) ++ (ib r.time ++ ([0] ++ vB r ps))) := hid (rcB_vers hm)
    obtain ⟨a1, a2, a3, a4, a5, a6, a7, a8, a9, a10, a11⟩ := versOk_iff hv
    have HPS := hid (okPs_at (Int.le_refl 0) a10)
    have HLL : Hid ((tb (lst r.id)).length ≤ 100 ∧ (ib r.time).length ≤ 6 ∧ (ib r.size).length ≤ 6 ∧ (tb (lst r.etag)).length ≤ 100 ∧ (ib r.k).length ≤ 6 ∧ (ib r.m).length ≤ 6 ∧ (tb (lst r.data)).length ≤ 100 ∧ r.sum.length = 32 ∧ (ib (ps.length : Int)).length ≤ 6 ∧ [0].length = 1 ∧ (tb (lst r.up)).length ≤ 100) := hid ⟨HL1.out.1, HL1.out.2, ib_le (by omega), by have := tb_le (s := r.etag) (by omega); omega, ib_le (by omega), ib_le (by omega), by have := tb_le (s := r.data) (by omega); omega, HR.out.sl, ib_le (by omega), rfl, by have := tb_le (s := r.up) (by omega); omega⟩
    have a2' : r.size ≤ 1099511627776 := by omega
    have a3' : r.etag.size ≤ 65536 := by omega
    have a4' : 0 ≤ r.k := by omega
    have a5' : r.k ≤ 1099511627776 := by omega
    have a6' : 0 ≤ r.m := by omega
    have a7' : r.m ≤ 1099511627776 := by omega
    have a8' : r.data.size ≤ 65536 := by omega
    have hps : (ps.length : Int) ≤ 1099511627776 := by omega
    have a11' : r.up.size ≤ 65536 := by omega
    obtain ⟨p1, d1, hpv, hpc, hpl, _⟩ := HPP.out
    have c2 := H4.out.box.c2
    rw [hm] at c2
    obtain ⟨v5, w5, hrun, h5⟩ := H4.out.push 0 (by rw [List.length_append]; have := HL1.out; omega)
    have HRUN0 := hid hrun
    have H5 := hid h5
    have c3 := h5.box.c3
    have hsl := run_sum g
    clear hrun h5 hm hv a2 a3 a4 a5 a6 a7 a8 a11
    go_wp2_with (first
    | (at_builtin; refine wpList_append_run _ _ 22 22 rfl rfl _ _ _ rfl rfl HRUN0.out ?_; clear HRUN0)
    | (go_at_call 12; (with_reducible refine (rUintI r.size _ a1 a2').mono ?_); rintro e w6 ⟨u6, rfl, hb, hw⟩; obtain ⟨v6, w6', hrun, hbs⟩ := H5.out.cat hw hb (by simp only [List.length_append]; have := HLL.out; omega) _ (Below.refl _ _); have HRUN6 := hid hrun; have H6 := hid hbs; have c4 := hbs.box.c4; clear hb hw hrun hbs c3 H5)
    | (at_builtin; refine wpList_append_run _ _ 22 22 rfl rfl _ _ _ rfl rfl HRUN6.out ?_; clear HRUN6)
    | (go_at_call 13; (with_reducible refine (rText_any r.etag _ a3').mono ?_); rintro e w7 ⟨u7, rfl, hb, hw⟩; obtain ⟨v7, w7', hrun, hbs⟩ := H6.out.cat hw hb (by simp only [List.length_append]; have := HLL.out; omega) _ (Below.refl _ _); have HRUN7 := hid hrun; have H7 := hid hbs; have c5 := hbs.box.c5; clear hb hw hrun hbs c4 H6)
    | (at_builtin; refine wpList_append_run _ _ 22 22 rfl rfl _ _ _ rfl rfl HRUN7.out ?_; clear HRUN7)
    | (go_at_call 12; (with_reducible refine (rUintI r.k _ a4' a5').mono ?_); rintro e w8 ⟨u8, rfl, hb, hw⟩; obtain ⟨v8, w8', hrun, hbs⟩ := H7.out.cat hw hb (by simp only [List.length_append]; have := HLL.out; omega) _ (Below.refl _ _); have HRUN8 := hid hrun; have H8 := hid hbs; have c6 := hbs.box.c6; clear hb hw hrun hbs c5 H7)
    | (at_builtin; refine wpList_append_run _ _ 22 22 rfl rfl _ _ _ rfl rfl HRUN8.out ?_; clear HRUN8)
    | (go_at_call 12; (with_reducible refine (rUintI r.m _ a6' a7').mono ?_); rintro e w9 ⟨u9, rfl, hb, hw⟩; obtain ⟨v9, w9', hrun, hbs⟩ := H8.out.cat hw hb (by simp only [List.length_append]; have := HLL.out; omega) _ (Below.refl _ _); have HRUN9 := hid hrun; have H9 := hid hbs; have c7 := hbs.box.c7; clear hb hw hrun hbs c6 H8)
    | (at_builtin; refine wpList_append_run _ _ 22 22 rfl rfl _ _ _ rfl rfl HRUN9.out ?_; clear HRUN9)
    | (go_at_call 13; (with_reducible refine (rText_any r.data _ a8').mono ?_); rintro e w10 ⟨u10, rfl, hb, hw⟩; obtain ⟨v10, w10', hrun, hbs⟩ := H9.out.cat hw hb (by simp only [List.length_append]; have := HLL.out; omega) _ (Below.refl _ _); have HRUN10 := hid hrun; have H10 := hid hbs; obtain ⟨v11, w11', hrun2, hbs2⟩ := hbs.sum (by simp only [List.length_append]; have := HLL.out; omega); have HRUN11 := hid hrun2; have H11 := hid hbs2; have c40 := hbs2.box.c40; rw [hpv] at c40; clear hrun2 hbs2; clear hb hw hrun hbs c7 H9)
    | (at_builtin; refine wpList_append_run _ _ 22 22 rfl rfl _ _ _ rfl rfl HRUN10.out ?_; clear HRUN10)
    | (at_builtin; refine wpList_append_run _ _ 22 22 rfl rfl _ _ _ rfl rfl HRUN11.out ?_; clear HRUN11)
    | (go_at_call 12; (with_reducible refine (rUintI (ps.length : Int) _ (by omega) hps).mono ?_); rintro e w12 ⟨u12, rfl, hb, hw⟩; obtain ⟨v12, w12', hrun, hbs⟩ := H11.out.cat hw hb (by simp only [List.length_append]; have := HLL.out; omega) _ (Below.refl _ _); have HRUN12 := hid hrun; have H12 := hid hbs; skip; clear hb hw hrun hbs c40 H11 H10)
    | (at_builtin; refine wpList_append_run _ _ 22 22 rfl rfl _ _ _ rfl rfl HRUN12.out ?_; clear HRUN12))
    have hN : (tb (lst r.id) ++ ib r.time ++ [0] ++ ib r.size ++ tb (lst r.etag) ++ ib r.k ++ ib r.m ++ tb (lst r.data) ++ r.sum ++ ib (ps.length : Int)).length ≤ 1000 := by simp only [List.length_append]; have := HLL.out; omega
    have HNN : Hid (∀ Y, tb (lst r.id) ++ ib r.time ++ [0] ++ ib r.size ++ tb (lst r.etag) ++ ib r.k ++ ib r.m ++ tb (lst r.data) ++ r.sum ++ ib (ps.length : Int) ++ psB ps ++ tb (lst r.up) = Y → rcB (r.rc ps) = Y) := hid (fun Y e => by
      rw [← e, HE.out]
      have e2 : ib (ps.length : Int) = nb ps.length := by unfold ib; simp
      rw [e2]
      unfold vB
      simp only [List.append_assoc])
    generalize tb (lst r.id) ++ ib r.time ++ [0] ++ ib r.size ++ tb (lst r.etag) ++ ib r.k ++ ib r.m ++ tb (lst r.data) ++ r.sum ++ ib (ps.length : Int) = N at H12 hN HNN
    have HPL := hid (psB_le fun i hi => ⟨(HPS.out i hi).2.1, (HPS.out i hi).2.2.2⟩)
    clear hsl c2 H4 HL1 HE
    go_loopw [3, 4] (fun bv iv wr => ∃ k : Nat, k ≤ ps.length ∧ iv = i64 k ∧ BS w g r (N ++ psB (ps.take k)) bv wr) (fun _ iv _ => (ps.length - intOf iv).toNat)
    case atStart => exact ⟨0, by omega, rfl, by simpa [psB] using H12.out⟩
    case round =>
      obtain ⟨k, hk, rfl, hz⟩ := hrel
      have HZ := hid hz
      have hlenN : (N ++ psB (ps.take k)).length ≤ 2000 := by rw [List.length_append]; have := HPL.out k hk; omega
      have c40 := hz.box.c40
      rw [hpv] at c40
      by_cases hlt : k < ps.length
      · have hlt' : (k : Int) < (ps.length : Int) := by omega
        have hpl2 := HPP.out
        rw [hpv] at hpl2
        obtain ⟨b, o, hpo, x1, x2⟩ := (hpl2.below hz.below).at hlt
        subst hpo
        have HP2 := hid hpl2
        clear hz hpl2
        obtain ⟨s1, s2, s3, s4⟩ := HPS.out k hlt
        have HPT := hid (psB_take hlt)
        have HX2 : Hid (∀ W, Below w.heap.size w W → W.cell? ⟨b, o + k * 2 + 1, none⟩ = some (i64 (ps.getD k (0, 0)).2)) := hid (fun W hW => by
          obtain ⟨b', o', e, _, h2⟩ := (HP2.out.below hW).at hlt
          cases e; exact h2)
        generalize (ps.getD k (0, 0)).1 = X1 at *
        generalize (ps.getD k (0, 0)).2 = X2 at *
        have e1 := ib_le (n := X1) (by omega)
        have e2 := ib_le (n := X2) (by omega)
        have s2' : X1 ≤ 1099511627776 := by omega
        have s4' : X2 ≤ 1099511627776 := by omega
        have hwr : IntKind.i64.wrap ((k : Int) + 1) = ((k + 1 : Nat) : Int) := by rw [IntKind.wrap_i64]; omega
        go_wp2_with (first
          | (go_at_call 12; (with_reducible refine (rUintI X1 _ s1 s2').mono ?_); rintro e w13 ⟨u13, rfl, hb, hw⟩; obtain ⟨v13, w13', hrun, hbs⟩ := HZ.out.cat hw hb (by omega) _ (Below.refl _ _); have HRUN13 := hid hrun; have HY := hid hbs; clear c40 x1 x2; have c40 := hbs.box.c40; rw [hpv] at c40; have x2 := HX2.out _ hbs.below; clear hb hw hrun hbs)
          | (at_builtin; refine wpList_append_run _ _ 22 22 rfl rfl _ _ _ rfl rfl HRUN13.out ?_; clear HRUN13)
          | (go_at_call 12; (with_reducible refine (rUintI X2 _ s3 s4').mono ?_); rintro e w14 ⟨u14, rfl, hb, hw⟩; obtain ⟨v14, w14', hrun, hbs⟩ := HY.out.cat hw hb (by rw [List.length_append]; omega) _ (Below.refl _ _); have HRUN14 := hid hrun; have HV := hid hbs; clear hb hw hrun hbs)
          | (at_builtin; refine wpList_append_run _ _ 22 22 rfl rfl _ _ _ rfl rfl HRUN14.out ?_; clear HRUN14))
        refine ⟨⟨k + 1, by omega, rfl, ?_⟩, by simp [intOf]; omega⟩
        rw [HPT.out, ← List.append_assoc, ← List.append_assoc]; exact HV.out
      · have hlt' : ¬ (k : Int) < (ps.length : Int) := by omega
        have c41 := hz.box.c41
        have hk2 : ps.take k = ps := List.take_of_length_le (by omega)
        rw [hk2] at HZ
        clear hz
        go_wp2_with (first
          | (go_at_call 13; (with_reducible refine (rText_any r.up _ a11').mono ?_); rintro e w13 ⟨u13, rfl, hb, hw⟩; obtain ⟨v13, w13', hrun, hbs⟩ := HZ.out.cat hw hb (by rw [hk2] at hlenN; have := HLL.out; omega) _ (Below.refl _ _); have HRUN13 := hid hrun; have HY := hid hbs; clear hb hw hrun hbs)
          | (at_builtin; refine wpList_append_run _ _ 22 22 rfl rfl _ _ _ rfl rfl HRUN13.out ?_; clear HRUN13))
        go_ret
        exact ⟨_, rfl, (HNN.out _ rfl) ▸ HY.out.buf.sl, HY.out.below⟩
#print axioms rBytes_any
end Go.Proofs.Ytepkpkbgmchioaa

/- The document's data: what is read, step by step; bytes beside a record's block. -/
namespace Go.Proofs.Ytepkpkbgmchioaa
open Go Go.RowKit

theorem rdN_less : ∀ {n : Nat} {b xs c : List Nat}, (∀ x ∈ b, x < 256) → rdN n b = some (xs, c) → c.length ≤ b.length ∧ (∀ z ∈ c, z < 256)
  | 0, b, xs, c, h8, h => by simp [rdN] at h; rw [← h.2]; exact ⟨Nat.le_refl _, h8⟩
  | n + 1, b, xs, c, h8, h => by
    rw [rdN] at h
    cases h1 : rdU b with
    | none => rw [h1] at h; cases h
    | some q =>
      rw [h1] at h
      simp only [Option.bind_some] at h
      cases h2 : rdN n q.2 with
      | none => rw [h2] at h; cases h
      | some r =>
        rw [h2] at h
        simp at h
        obtain ⟨k1, k2, _⟩ := rdU_less h8 (n := q.1) (r := q.2) h1
        obtain ⟨k3, k4⟩ := rdN_less k2 (xs := r.1) (c := r.2) h2
        rw [← h.2]
        exact ⟨Nat.le_trans k3 k1, k4⟩
/-- What stands of a record that is no mark, as the document reads it. -/
def chD (id : List Nat) (t : Nat) (b : List Nat) : Option (Rc × List Nat) :=
  (rdU b).bind fun q1 => (rdT q1.2).bind fun q2 => (rdN 2 q2.2).bind fun q3 => (rdT q3.2).bind fun q4 => if q4.2.length < 32 then none else
    (rdU (q4.2.drop 32)).bind fun q5 => if 32 < q5.1 then none else (rdN (2 * q5.1) q5.2).bind fun q6 => (rdT q6.2).map fun q7 =>
      (⟨id, t, false, q1.1, q2.1, (q3.1.getD 0 0 : Nat), (q3.1.getD 1 0 : Nat), q4.1, q4.2.take 32, pairs q6.1, q7.1⟩, q7.2)
theorem rdD_ch (id : List Nat) (t : Nat) (b : List Nat) : rdD id t b = chD id t b := by
  unfold rdD chD
  cases h1 : rdU b with
  | none => rfl
  | some q1 =>
  obtain ⟨a1, L1⟩ := q1
  simp only [Option.bind_eq_bind, Option.bind_some]
  cases h2 : rdT L1 with
  | none => rfl
  | some q2 =>
  obtain ⟨a2, L2⟩ := q2
  simp only [Option.bind_some]
  rw [show rdN 2 L2 = (rdU L2).bind fun q => (rdN 1 q.2).map fun r => (q.1 :: r.1, r.2) from rfl]
  cases h3 : rdU L2 with
  | none => rfl
  | some q3 =>
  obtain ⟨a3, L3⟩ := q3
  simp only [Option.bind_some]
  rw [show rdN 1 L3 = (rdU L3).bind fun q => (rdN 0 q.2).map fun r => (q.1 :: r.1, r.2) from rfl]
  cases h4 : rdU L3 with
  | none => rfl
  | some q4 =>
  obtain ⟨a4, L4⟩ := q4
  simp only [Option.bind_some, rdN, Option.map_some]
  cases h5 : rdT L4 with
  | none => rfl
  | some q5 =>
  obtain ⟨a5, L5⟩ := q5
  simp only [Option.bind_some]
  by_cases hl : L5.length < 32
  · rw [if_pos hl, if_pos hl]
  rw [if_neg hl, if_neg hl]
  cases h6 : rdU (L5.drop 32) with
  | none => rfl
  | some q6 =>
  obtain ⟨n, L6⟩ := q6
  simp only [Option.bind_some]
  by_cases hn : 32 < n
  · rw [if_pos hn, if_pos hn]
  rw [if_neg hn, if_neg hn, rdPs_rdN]
  cases h7 : rdN (2 * n) L6 with
  | none => rfl
  | some q7 =>
  obtain ⟨ps, L7⟩ := q7
  simp only [Option.bind_some, Option.map_some]
  cases h8 : rdT L7 with
  | none => rfl
  | some q8 => rfl
section
variable {po : Option Addr} {w w' : World} {v : Value} {d : List Nat} (h : SLn po w v d) (hl : d.length ≤ 100000) (h8 : ∀ x ∈ d, x < 256)
include h
theorem SLn.off {g : Nat} (hP : ∀ a, po = some a → a.block ≠ g) (ho : Only (fun b => b = g) w w') : SLn po w' v d := by
  obtain ⟨⟨p, c, rfl, hb, hc⟩, hn⟩ := h
  refine ⟨⟨p, c, rfl, hb.onlyAt ho (fun hne a ha e => ?_), hc⟩, hn⟩
  obtain ⟨a', h1, h2⟩ := hn a _ _ (by rw [ha])
  exact hP a' h1 (h2 ▸ e)
include hl h8
theorem SLn.uint : Calls Try.prog 17 #[v] w (RuN po w (rdU d)) := by
  obtain ⟨⟨p, c, rfl, hb, hc⟩, hn⟩ := h
  refine (rReadUint_near p c d w hb hc hl h8).mono ?_
  rintro e w' ⟨hb', hm⟩
  refine ⟨hb', ?_⟩
  cases hq : rdU d with
  | none => rw [hq] at hm; exact hm
  | some q =>
    obtain ⟨n, r⟩ := q
    rw [hq] at hm
    obtain ⟨v', e1, e2⟩ := hm
    exact ⟨v', e1, e2.via fun a' ea => hn a' _ _ (by rw [ea])⟩
theorem SLn.text : Calls Try.prog 18 #[v] w (RtN po w (rdT d)) := by
  obtain ⟨⟨p, c, rfl, hb, hc⟩, hn⟩ := h
  refine (rReadText_near p c d w hb hc hl h8).mono ?_
  rintro e w' ⟨hb', hm⟩
  refine ⟨hb', ?_⟩
  cases hq : rdT d with
  | none => rw [hq] at hm; exact hm
  | some q =>
    obtain ⟨x, r⟩ := q
    rw [hq] at hm
    obtain ⟨t, v', e1, e2, e3⟩ := hm
    exact ⟨t, v', e1, e2, e3.via fun a' ea => hn a' _ _ (by rw [ea])⟩
theorem SLn.nums (n : Nat) (hn2 : n ≤ 1000) : Calls Try.prog 68 #[v, i64 n] w (NuS po w (rdN n d)) := by
  obtain ⟨⟨p, c, rfl, hb, hc⟩, hn⟩ := h
  refine (rnum_any p c d w hb hc hl h8 n hn2).mono ?_
  rintro e w' ⟨hb', hm⟩
  refine ⟨hb', ?_⟩
  cases hq : rdN n d with
  | none => rw [hq] at hm; exact hm
  | some q =>
    obtain ⟨xs, r⟩ := q
    rw [hq] at hm
    obtain ⟨v', u, e1, e2, e3⟩ := hm
    exact ⟨v', u, e1, e2, e3.via fun a' ea => hn a' _ _ (by rw [ea])⟩
end
/-- A record's block; of what was there nothing else has turned. -/
structure DB (w0 : World) (g : Nat) (r : Rv) (w : World) : Prop where
  ok : r.ok
  rb : RBox w g r
  only : Only (fun b => b = g) w0 w
section
variable {w0 w w' : World} {g : Nat} {r r' : Rv} (h : DB w0 g r w)
include h
theorem DB.below (hb : Below w.heap.size w w') : DB w0 g r w' := ⟨h.ok, h.rb.below h.ok hb, h.only.trans (Only.of_below hb)⟩
theorem DB.turn (hr : RBox w' g r') (hk : r'.ok) (ho : Only (fun b => b = g) w w') : DB w0 g r' w' := ⟨hk, hr, h.only.trans ho⟩
theorem DB.grow {S : Nat → Prop} (ho : Only S w w') (hS : ∀ i, S i → g ≠ i ∧ w0.heap.size ≤ i) : DB w0 g r w' := ⟨h.ok, h.rb.only h.ok ho (fun e => (hS g e).1 rfl), h.only.then ho (fun i hi e => by have := (hS i e).2; omega)⟩
theorem DB.set3 (n : Int) : DB w0 g { r with size := n } (w.setCell ⟨g, 3, none⟩ (i64 n)) := h.turn (h.rb.set3 h.ok n) ⟨h.ok.sl, h.ok.s8, h.ok.i, h.ok.e, h.ok.d, h.ok.u⟩ (Only.set w _ _ rfl)
theorem DB.set4 (t : ByteArray) (ht : t.size ≤ 65536) : DB w0 g { r with etag := t } (w.setCell ⟨g, 4, none⟩ (.string t)) := h.turn (h.rb.set4 h.ok t (by omega)) ⟨h.ok.sl, h.ok.s8, h.ok.i, by show t.size ≤ _; omega, h.ok.d, h.ok.u⟩ (Only.set w _ _ rfl)
theorem DB.set5 (n : Int) : DB w0 g { r with k := n } (w.setCell ⟨g, 5, none⟩ (i64 n)) := h.turn (h.rb.set5 h.ok n) ⟨h.ok.sl, h.ok.s8, h.ok.i, h.ok.e, h.ok.d, h.ok.u⟩ (Only.set w _ _ rfl)
theorem DB.set6 (n : Int) : DB w0 g { r with m := n } (w.setCell ⟨g, 6, none⟩ (i64 n)) := h.turn (h.rb.set6 h.ok n) ⟨h.ok.sl, h.ok.s8, h.ok.i, h.ok.e, h.ok.d, h.ok.u⟩ (Only.set w _ _ rfl)
theorem DB.set7 (t : ByteArray) (ht : t.size ≤ 65536) : DB w0 g { r with data := t } (w.setCell ⟨g, 7, none⟩ (.string t)) := h.turn (h.rb.set7 h.ok t (by omega)) ⟨h.ok.sl, h.ok.s8, h.ok.i, h.ok.e, by show t.size ≤ _; omega, h.ok.u⟩ (Only.set w _ _ rfl)
theorem DB.set40 (v : Value) : DB w0 g { r with pv := v } (w.setCell ⟨g, 40, none⟩ v) := h.turn (h.rb.set40 h.ok v) ⟨h.ok.sl, h.ok.s8, h.ok.i, h.ok.e, h.ok.d, h.ok.u⟩ (Only.set w _ _ rfl)
theorem DB.set41 (t : ByteArray) (ht : t.size ≤ 65536) : DB w0 g { r with up := t } (w.setCell ⟨g, 41, none⟩ (.string t)) := h.turn (h.rb.set41 h.ok t (by omega)) ⟨h.ok.sl, h.ok.s8, h.ok.i, h.ok.e, h.ok.d, by show t.size ≤ _; omega⟩ (Only.set w _ _ rfl)
/-- copy(r.Sum[:], b[:32]) -/
theorem DB.copy {po : Option Addr} {x : List Nat} (hb : BL w po x) (hx : x.length = 32) (h8 : ∀ z ∈ x, z < 256) (c : Nat) (ty : TypeId) :
    (Builtin.copy_ #[22, 22] ty #[.slice (some ⟨g, 8, none⟩) 32 32, .slice po 32 c]).run Try.prog w = .ok (goInt 32) (w.setCells g 8 (x.map u8)) ∧ DB w0 g { r with sum := x } (w.setCells g 8 (x.map u8)) := by
  refine ⟨?_, h.turn (h.rb.setSum h.ok x hx h8) ⟨hx, h8, h.ok.i, h.ok.e, h.ok.d, h.ok.u⟩ (only_setCells _ _ _ _ rfl)⟩
  rcases hb with rfl | ⟨b, o, rfl, hb⟩
  · simp at hx
  have := run_copy_cells (P := Try.prog) w 22 22 ty 5 g 8 32 32 ⟨b, o, none⟩ 32 c (x.map u8) Try.underlying22 (by kernel_rfl) (by simp [hx])
    (fun j v hj => by
      have hjn : j < x.length := by
        rcases Nat.lt_or_ge j x.length with q | q
        · exact q
        · rw [List.getElem?_eq_none (by simpa using q)] at hj; cases hj
      rw [add_none, hb j hjn]
      simp [hjn] at hj
      rw [← hj]; simp [List.getD, hjn])
    (fun j hj => by
      have hj' : j < 32 := by simpa [hx] using hj
      rw [h.rb.cs j _ (sumC_get (by rw [h.ok.sl]; exact hj'))]; rfl)
    (fun j _ => h.rb.free _)
    (fun v hv => by obtain ⟨i, _, rfl⟩ := List.mem_map.1 hv; rfl)
  simp only [List.length_map, hx] at this
  exact this
end
theorem txt_size {t : ByteArray} {b s r : List Nat} (h8 : ∀ x ∈ b, x < 256) (h : rdT b = some (s, r)) (e : lst t = s) : t.size ≤ 65536 := by
  rw [← lst_len, e]; exact (rdT_some h8 h).2
/-- The cells of a row of ints. -/
theorem IBuf.open_ {B : Nat} {w : World} {v : Value} {xs : List Nat} (h : IBuf B w v xs) (hne : xs ≠ []) : ∃ gi c, v = .slice (some ⟨gi, 0, none⟩) xs.length c ∧ xs.length ≤ c ∧ B ≤ gi ∧ gi < w.heap.size ∧ ∀ i, i < xs.length → w.cell? ⟨gi, i, none⟩ = some (i64 ((xs.getD i 0 : Nat) : Int)) := by
  rcases h.2 with ⟨_, h0⟩ | ⟨g, cap, cur, rfl, hB, hg, h1, _, h3, h4⟩
  · exact absurd (List.eq_nil_of_length_eq_zero h0) hne
  · have hc : CAt w g cur 3 := hg
    refine ⟨g, cap, rfl, h1, hB, hc.lt, fun i hi => ?_⟩
    have := congrArg (fun l => l[i]?) h4
    simp [hi] at this
    rw [hc.cell, this]
    simp [List.getD, hi]
theorem pairs_take : ∀ (xs : List Nat) (k : Nat), 2 * k + 1 < xs.length → pairs (xs.take (2 * (k + 1))) = pairs (xs.take (2 * k)) ++ [(((xs.getD (2 * k) 0 : Nat) : Int), ((xs.getD (2 * k + 1) 0 : Nat) : Int))]
  | a :: b :: r, 0, _ => by simp [pairs]
  | a :: b :: r, k + 1, h => by
    have ih := pairs_take r k (by simp at h; omega)
    rw [show 2 * (k + 1 + 1) = 2 * (k + 1) + 1 + 1 by omega, show 2 * (k + 1) = 2 * k + 1 + 1 by omega] at *
    simp only [List.take_succ_cons, pairs, ih, List.cons_append, List.getD_cons_succ]
  | [a], k, h => by simp at h
  | [], k, h => by simp at h
theorem pairs_len : ∀ (n : Nat) (xs : List Nat), xs.length = 2 * n → (pairs xs).length = n
  | 0, xs, h => by have : xs = [] := List.eq_nil_of_length_eq_zero (by omega); subst this; rfl
  | n + 1, xs, h => by
    match xs, h with
    | a :: b :: r, h => simp only [pairs, List.length_cons, pairs_len n r (by simp at h; omega)]
    | [a], h => simp at h; omega
    | [], h => simp at h
#print axioms rdD_ch
#print axioms DB.copy
#print axioms pairs_take
end Go.Proofs.Ytepkpkbgmchioaa

/- Contract of the document's data. -/
namespace Go.Proofs.Ytepkpkbgmchioaa
open Go Go.RowKit

def DaS (w : World) (g : Nat) (po : Option Addr) (q : Option (Rc × List Nat)) (e : Ending) (w' : World) : Prop := Only (fun b => b = g) w w' ∧ match q with
  | none => e = .returned (.tuple #[.slice none 0 0, .bool false]) ∧ ∃ r, DB w g r w'
  | some (rc, L) => ∃ (r : Rv) (ps : Ps) (v : Value), e = .returned (.tuple #[v, .bool true]) ∧ DB w g r w' ∧ r.rc ps = rc ∧ PLF w.heap.size w' r.pv ps ∧ SLn po w' v L
set_option maxRecDepth 100000 in
set_option maxHeartbeats 4000000 in
theorem data_any (w : World) (g : Nat) (po : Option Addr) (v : Value) (d : List Nat) (r0 : Rv) (t : Nat) (hk : r0.ok) (hr : RBox w g r0) (hm : r0.mark = false) (hpv : r0.pv = .slice none 0 0) (ht : r0.time = (t : Int)) (hs : SLn po w v d) (hP : ∀ a, po = some a → a.block ≠ g) (hl : d.length ≤ 100000) (h8 : ∀ x ∈ d, x < 256) :
    Calls Try.prog 56 #[ptr g, v] w (DaS w g po (rdD (lst r0.id) t d)) := by
  have hg := hr.at_.lt
  have K0 : Hid (DB w g r0 w) := hid ⟨hk, hr, Only.refl _ _⟩
  have HP := hid hP
  have HM := hid hm
  have HPV := hid hpv
  have HT := hid ht
  have hQ := rdD_ch (lst r0.id) t d
  unfold chD at hQ
  have hc := hs.uint hl h8
  generalize rdD (lst r0.id) t d = Q at hQ ⊢
  clear hk hr hm hpv ht hs hP
  go_enter Try.func56, Try.ntmps56
  cases h1 : rdU d with
  | none =>
    rw [h1] at hQ hc
    have HQ : Hid (Q = none) := hid hQ
    have HC := hid hc
    clear hQ hc h1 h8
    go_wp2_with (go_at_call 17; refine HC.out.mono ?_; rintro e w1 ⟨hb1, rfl⟩; have HB1 := hid hb1; clear hb1)
    go_ret2
    rw [HQ.out]
    exact ⟨Only.of_below HB1.out, rfl, r0, K0.out.below HB1.out⟩
  | some q1 =>
    obtain ⟨n1, d1⟩ := q1
    rw [h1] at hQ hc
    simp only [Option.bind_some] at hQ
    obtain ⟨hl1, h81, hn1⟩ := rdU_less h8 h1
    replace hl1 : d1.length ≤ 100000 := Nat.le_trans hl1 hl
    have HC := hid hc
    have HQ := hid hQ
    have H81 := hid h81
    clear hQ hc h1 h8 h81 hn1 hl
    go_upto_region 5 with (go_at_call 17; refine HC.out.mono ?_; rintro e w1 ⟨hb1, v1, rfl, hs1⟩; have k1 := K0.out.below hb1; have c3 := k1.rb.c3; have z := k1.rb.free; have K1 := hid (k1.set3 n1); have S1 := hid (hs1.off HP.out (Only.set w1 ⟨g, 3, none⟩ (i64 (n1 : Int)) rfl)); clear k1 hb1 hs1 K0)
    clear c3 z HC
    have hQ := HQ.out
    have hc := S1.out.text hl1 H81.out
    clear HQ
    cases h2 : rdT d1 with
    | none =>
      rw [h2] at hQ hc
      have HQ : Hid (Q = none) := hid hQ
      have HC := hid hc
      clear hQ hc h2
      go_wp2_with (go_at_call 18; refine HC.out.mono ?_; rintro e w2 ⟨hb2, rfl⟩; have K2 := hid (K1.out.below hb2); clear hb2)
      go_ret2
      rw [HQ.out]
      exact ⟨K2.out.only, rfl, _, K2.out⟩
    | some q2 =>
      obtain ⟨s2, d2⟩ := q2
      rw [h2] at hQ hc
      simp only [Option.bind_some] at hQ
      obtain ⟨hl2, h82, _⟩ := rdT_less H81.out h2
      replace hl2 : d2.length ≤ 100000 := Nat.le_trans hl2 hl1
      have HZ : Hid (∀ t : ByteArray, lst t = s2 → t.size ≤ 65536) := hid (fun t e => txt_size H81.out h2 e)
      have HC := hid hc
      have HQ := hid hQ
      have H82 := hid h82
      clear hQ hc h2 h82 hl1 H81
      go_upto_region 9 with (go_at_call 18; refine HC.out.mono ?_; rintro e w2 ⟨hb2, t2, v2, rfl, ht2, hs2⟩; have k2 := K1.out.below hb2; have c4 := k2.rb.c4; have z := k2.rb.free; have K2 := hid (k2.set4 t2 (HZ.out t2 ht2)); have S2 := hid (hs2.off HP.out (Only.set w2 ⟨g, 4, none⟩ (.string t2) rfl)); have HT2 := hid ht2; clear k2 hb2 hs2 K1 S1 ht2)
      clear c4 z HC HZ
      have hQ := HQ.out
      have hc := S2.out.nums hl2 H82.out 2 (by omega)
      clear HQ
      cases h3 : rdN 2 d2 with
      | none =>
        rw [h3] at hQ hc
        have HQ : Hid (Q = none) := hid hQ
        have HC := hid hc
        clear hQ hc h3
        go_wp2_with (go_at_call 68; refine HC.out.mono ?_; rintro e w3 ⟨hb3, rfl⟩; have K3 := hid (K2.out.below hb3); clear hb3)
        go_ret2
        rw [HQ.out]
        exact ⟨K3.out.only, rfl, _, K3.out⟩
      | some q3 =>
        obtain ⟨x3, d3⟩ := q3
        rw [h3] at hQ hc
        simp only [Option.bind_some] at hQ
        obtain ⟨hl3, h83⟩ := rdN_less H82.out h3
        replace hl3 : d3.length ≤ 100000 := Nat.le_trans hl3 hl2
        have hx3 := rdN_len h3
        obtain ⟨xa, xb, rfl⟩ : ∃ a b, x3 = [a, b] := by
          match x3, hx3 with
          | [a, b], _ => exact ⟨a, b, rfl⟩
        simp only [List.getD_cons_zero, List.getD_cons_succ] at hQ
        have HC := hid hc
        have HQ := hid hQ
        have H83 := hid h83
        clear hQ hc h3 h83 hl2 H82 hx3
        go_upto_region 14 with (go_at_call 68; refine HC.out.mono ?_; rintro e w3 ⟨hb3, v3, u3, rfl, hi3, hs3⟩; have k3 := K2.out.below hb3; obtain ⟨gi, ci, hv3, hci, hgi, _, hcell⟩ := hi3.open_ (by simp); subst hv3; have hci2 : 2 ≤ ci := hci; have l0 : w3.cell? ⟨gi, 0, none⟩ = some (i64 (xa : Int)) := hcell 0 (by simp); have l1 : w3.cell? ⟨gi, 1, none⟩ = some (i64 (xb : Int)) := hcell 1 (by simp); have hne : g ≠ gi := (by have := K2.out.only.size; omega); have hne' : gi ≠ g := Ne.symm hne; have c5 := k3.rb.c5; have z := k3.rb.free; have k4 := k3.set5 (xa : Int); have c6 := k4.rb.c6; have z' := k4.rb.free; have K4 := hid (k4.set6 (xb : Int)); have S4 := hid ((hs3.off HP.out (Only.set w3 ⟨g, 5, none⟩ (i64 (xa : Int)) rfl)).off HP.out (Only.set _ ⟨g, 6, none⟩ (i64 (xb : Int)) rfl)); clear k3 k4 hb3 hs3 hi3 K2 S2 hcell hci; simp only [List.length_cons, List.length_nil])
        clear HC l0 l1 c5 c6 z z' hgi
        have HR4 : Hid (∃ R : Rv, (R.id = r0.id ∧ R.time = r0.time ∧ R.mark = r0.mark ∧ R.size = (n1 : Int) ∧ R.etag = t2 ∧ R.k = (xa : Int) ∧ R.m = (xb : Int) ∧ R.pv = r0.pv) ∧ DB w g R ((w3.setCell ⟨g, 5, none⟩ (i64 (xa : Int))).setCell ⟨g, 6, none⟩ (i64 (xb : Int)))) := hid ⟨{ r0 with size := (n1 : Int), etag := t2, k := (xa : Int), m := (xb : Int) }, ⟨rfl, rfl, rfl, rfl, rfl, rfl, rfl, rfl⟩, K4.out⟩
        clear K4
        generalize (w3.setCell ⟨g, 5, none⟩ (i64 (xa : Int))).setCell ⟨g, 6, none⟩ (i64 (xb : Int)) = W4 at HR4 S4 ⊢
        obtain ⟨R4, f4, k4⟩ := HR4.out
        have F4 := hid f4
        have K4 := hid k4
        have hQ := HQ.out
        have hc := S4.out.text hl3 H83.out
        clear HQ HR4 f4 k4
        cases h4 : rdT d3 with
        | none =>
          rw [h4] at hQ hc
          have HQ : Hid (Q = none) := hid hQ
          have HC := hid hc
          clear hQ hc h4
          go_wp2_with (go_at_call 18; refine HC.out.mono ?_; rintro e w5 ⟨hb5, rfl⟩; have K5 := hid (K4.out.below hb5); clear hb5)
          go_ret2
          rw [HQ.out]
          exact ⟨K5.out.only, rfl, _, K5.out⟩
        | some q4 =>
          obtain ⟨s4, d4⟩ := q4
          rw [h4] at hQ hc
          simp only [Option.bind_some] at hQ
          obtain ⟨hl4, h84, _⟩ := rdT_less H83.out h4
          replace hl4 : d4.length ≤ 100000 := Nat.le_trans hl4 hl3
          have HZ : Hid (∀ t : ByteArray, lst t = s4 → t.size ≤ 65536) := hid (fun t e => txt_size H83.out h4 e)
          have HC := hid hc
          have H84 := hid h84
          clear hc h4 h84 hl3 H83
          by_cases h32 : d4.length < 32
          · rw [if_pos h32] at hQ
            have HQ : Hid (Q = none) := hid hQ
            have h32' : (d4.length : Int) < 32 := by omega
            clear hQ
            go_wp2_with (go_at_call 18; refine HC.out.mono ?_; rintro e w5 ⟨hb5, t5, v5, rfl, ht5, ⟨⟨p5, c5, hv5, _, _⟩, _⟩⟩; subst hv5; have K5 := hid (K4.out.below hb5); clear hb5)
            go_ret2
            rw [HQ.out]
            exact ⟨K5.out.only, rfl, _, K5.out⟩
          rw [if_neg h32] at hQ
          have h32' : ¬ (d4.length : Int) < 32 := by omega
          have HQ := hid hQ
          clear hQ
          go_upto_region 18 with (go_at_call 18; refine HC.out.mono ?_; rintro e w5 ⟨hb5, t5, v5, rfl, ht5, hs5⟩; have k5 := K4.out.below hb5; have c7 := k5.rb.c7; have z := k5.rb.free; have K5 := hid (k5.set7 t5 (HZ.out t5 ht5)); have S5 := hid (hs5.off HP.out (Only.set w5 ⟨g, 7, none⟩ (.string t5) rfl)); have HT5 := hid ht5; obtain ⟨⟨p5, c5, hv5, _, hc5⟩, _⟩ := hs5; subst hv5; clear k5 hb5 K4 S4 ht5)
          clear HC c7 z HZ
          have HS5 := hid (show ∀ W, Below (w5.setCell ⟨g, 7, none⟩ (.string t5)).heap.size (w5.setCell ⟨g, 7, none⟩ (.string t5)) W → ∃ v' w', (Builtin.copy_ #[22, 22] 3 #[.slice (some ⟨g, 8, none⟩) 32 32, .slice p5 32 c5]).run Try.prog W = .ok v' w' ∧ (DB w g { R4 with data := t5, sum := d4.take 32 } w' ∧ SLn po w' (.slice p5 d4.length c5) d4) from fun W hW => by
            have k := K5.out.below hW
            have s := S5.out.below hW
            have e32 : (d4.take 32).length = 32 := by rw [List.length_take]; omega
            have hbl : BL W p5 d4 := by obtain ⟨⟨p', c', e, hb, _⟩, _⟩ := s; cases e; exact hb
            obtain ⟨h1, h2⟩ := k.copy (hbl.take 32) e32 (fun z hz => H84.out z (List.mem_of_mem_take hz)) c5 3
            exact ⟨_, _, h1, h2, s.off HP.out (only_setCells _ _ _ _ rfl)⟩)
          have hsl := run_sum g
          have hh : ∀ W : World, (Instr.slice 22 (.slice p5 d4.length c5) none (some (.int .i64 32)) none).run Try.prog W = .ok (.slice p5 32 c5) W := run_h8 p5 d4.length c5 32 (by omega)
          generalize w5.setCell ⟨g, 7, none⟩ (.string t5) = W5 at HS5 ⊢
          clear K5 S5
          go_region_held3 (fun w' => True) (trivial) (((first | refine step_copy_ex (by rfl) (.tmp 75) (.tmp 77) 22 (by rfl) (.slice (some ⟨g, 8, none⟩) 32 32) (.slice p5 32 c5) (by rfl) (by rfl) (HS5.out _ (below_drewN _ _)) ?_ | refine step_copy_ex (by rfl) (.tmp 75) (.tmp 77) 22 (by rfl) (.slice (some ⟨g, 8, none⟩) 32 32) (.slice p5 32 c5) (by rfl) (by rfl) (HS5.out _ (Below.refl _ _)) ?_); rintro v6 w6 ⟨k6, s6⟩; have K6 := hid k6; have S6 := hid s6; clear k6 s6))
          clear hsl hh HS5
          have hbl : BL w6 p5 d4 := by obtain ⟨⟨p', c', e, hb, _⟩, _⟩ := S6.out; cases e; exact hb
          obtain ⟨p6, hsl0, hS⟩ := hbl.from8n c5 32 (by omega) hc5
          have hsl : ∀ w : World, (Instr.slice 22 (.slice p5 d4.length c5) (some (.int .i64 32)) none none).run Try.prog w = .ok (.slice p6 (d4.length - 32) (c5 - 32)) w := hsl0
          have hS2 : SLn po w6 (.slice p6 (d4.length - 32) (c5 - 32)) (d4.drop 32) := hS.via fun a' ea => S6.out.2 a' _ _ (by rw [ea])
          have hd8 : ∀ z ∈ d4.drop 32, z < 256 := fun z hz => H84.out z (List.mem_of_mem_drop hz)
          have hdl : (d4.drop 32).length ≤ 100000 := by rw [List.length_drop]; omega
          have hc := hS2.uint hdl hd8
          have hQ := HQ.out
          have HTK : Hid (∃ y, y = d4.take 32) := hid ⟨_, rfl⟩
          clear HQ hsl0 hbl hS hS2 S6 H84
          cases h5 : rdU (d4.drop 32) with
          | none =>
            rw [h5] at hQ hc
            have HQ : Hid (Q = none) := hid hQ
            have HC := hid hc
            clear hQ hc h5
            go_wp2_with (go_at_call 17; refine HC.out.mono ?_; rintro e w7 ⟨hb7, rfl⟩; have K7 := hid (K6.out.below hb7); clear hb7)
            go_ret2
            rw [HQ.out]
            exact ⟨K7.out.only, rfl, _, K7.out⟩
          | some q5 =>
            obtain ⟨n5, d5⟩ := q5
            rw [h5] at hQ hc
            simp only [Option.bind_some] at hQ
            obtain ⟨hl5, h85, _⟩ := rdU_less hd8 h5
            replace hl5 : d5.length ≤ 100000 := Nat.le_trans hl5 hdl
            have HC := hid hc
            have H85 := hid h85
            clear hc h5 h85 hd8 hdl hl4
            by_cases hn5 : 32 < n5
            · rw [if_pos hn5] at hQ
              have HQ : Hid (Q = none) := hid hQ
              have hn5' : 32 < (n5 : Int) := by omega
              clear hQ
              go_wp2_with (go_at_call 17; refine HC.out.mono ?_; rintro e w7 ⟨hb7, v7, rfl, hs7⟩; have K7 := hid (K6.out.below hb7); clear hb7 hs7)
              go_ret2
              rw [HQ.out]
              exact ⟨K7.out.only, rfl, _, K7.out⟩
            rw [if_neg hn5] at hQ
            have hn5' : ¬ 32 < (n5 : Int) := by omega
            have HQ := hid hQ
            clear hQ
            go_upto_region 22 with (go_at_call 17; refine HC.out.mono ?_; rintro e w7 ⟨hb7, v7, rfl, hs7⟩; have K7 := hid (K6.out.below hb7); have S7 := hid hs7; clear hb7 hs7 K6)
            clear HC hsl
            have hc := S7.out.nums hl5 H85.out (2 * n5) (by omega)
            have hmul : 2 * (n5 : Int) = ((2 * n5 : Nat) : Int) := by omega
            have hQ := HQ.out
            have hdel : rdN (2 * n5) d5 = rdN (2 * n5) d5 := rfl
            clear HQ hdel
            obtain ⟨m5, hm5⟩ : ∃ m, m = 2 * n5 := ⟨_, rfl⟩
            rw [← hm5] at hc hQ hmul
            have HM5 := hid hm5
            have hm5b : m5 ≤ 64 := by omega
            clear hm5
            cases h6 : rdN m5 d5 with
            | none =>
              rw [h6] at hQ hc
              have HQ : Hid (Q = none) := hid hQ
              have HC := hid hc
              clear hQ hc h6
              go_wp2_with (go_at_call 68; refine HC.out.mono ?_; rintro e w8 ⟨hb8, rfl⟩; have K8 := hid (K7.out.below hb8); clear hb8)
              go_ret2
              rw [HQ.out]
              exact ⟨K8.out.only, rfl, _, K8.out⟩
            | some q6 =>
              obtain ⟨x6, d6⟩ := q6
              rw [h6] at hQ hc
              simp only [Option.bind_some] at hQ
              obtain ⟨hl6, h86⟩ := rdN_less H85.out h6
              replace hl6 : d6.length ≤ 100000 := Nat.le_trans hl6 hl5
              have hx6 := rdN_len h6
              have HC := hid hc
              have HQ := hid hQ
              have H86 := hid h86
              clear hQ hc h6 h86 hl5 H85
              go_wp2_with (go_at_call 68; refine HC.out.mono ?_; rintro e w8 ⟨hb8, v8, u8', rfl, hi8, hs8⟩; have K8 := hid (K7.out.below hb8); have S8 := hid hs8; have I8 := hid hi8; have HB8 := hid (K7.out.only.size); clear hb8 hs8 hi8 K7 S7)
              clear HC hmul hm5b hne hne' hci2 HTK
              obtain ⟨R8, f8, k8⟩ : ∃ R : Rv, (R.id = r0.id ∧ R.time = (t : Int) ∧ R.mark = false ∧ R.size = (n1 : Int) ∧ R.etag = t2 ∧ R.k = (xa : Int) ∧ R.m = (xb : Int) ∧ R.data = t5 ∧ R.sum = d4.take 32 ∧ R.pv = .slice none 0 0) ∧ DB w g R w8 := by
                obtain ⟨b1, b2, b3, b4, b5, b6, b7, b8⟩ := F4.out
                exact ⟨{ R4 with data := t5, sum := d4.take 32 }, ⟨b1, b2.trans HT.out, b3.trans HM.out, b4, b5, b6, b7, rfl, rfl, b8.trans HPV.out⟩, K8.out⟩
              have F8 := hid f8
              replace K8 := hid k8
              clear f8 k8 F4
              go_loopw [10] (fun iv wr => ∃ (k : Nat) (pv : Value), k ≤ n5 ∧ iv = i64 k ∧ DB w8 g { R8 with pv := pv } wr ∧ PBuf w8.heap.size wr pv (pairs (x6.take (2 * k)))) (fun iv _ => (n5 - intOf iv).toNat)
              case atStart => exact ⟨0, R8.pv, by omega, rfl, ⟨K8.out.ok, K8.out.rb, Only.refl _ _⟩, by rw [F8.out.2.2.2.2.2.2.2.2.2]; exact PBuf.nil _ _⟩
              case round =>
                obtain ⟨k, pv, hk, rfl, hdb, hpb⟩ := hrel
                have hxl : x6.length = 2 * n5 := by rw [hx6]; exact HM5.out
                have hpl : (pairs (x6.take (2 * k))).length = k := pairs_len k _ (by rw [List.length_take]; omega)
                have HDB := hid hdb
                have HPB := hid hpb
                have HOW : Hid (∀ b, pv.ownBlock = some b → w8.heap.size ≤ b) := hid (fun b hb => (own_ge hpb b hb).1)
                obtain ⟨pp, cp, hpv, hcp⟩ := hpb.form
                have hs8 := hdb.only.size
                have hg8 : g < w8.heap.size := K8.out.rb.at_.lt
                clear hpb hdb
                by_cases hlt : k < n5
                · have hlt' : (k : Int) < (n5 : Int) := by omega
                  have hI : IBuf w7.heap.size wr v8 x6 := I8.out.keep fun b hb => HDB.out.only.block b (own_ge I8.out b hb).2 (fun e => by have := (own_ge I8.out b hb).1; have := HB8.out; omega)
                  obtain ⟨gi, ci, hvi, hci, hgi, hgl, hcell⟩ := hI.open_ (fun e => by rw [e] at hxl; simp at hxl; omega)
                  have HPT := hid (pairs_take x6 k (by omega))
                  have l0 := hcell (2 * k) (by omega)
                  have l1 := hcell (2 * k + 1) (by omega)
                  obtain ⟨j, hj⟩ : ∃ j, j = 2 * k := ⟨_, rfl⟩
                  have hm7 : IntKind.i64.wrap (2 * (k : Int)) = (j : Int) := by rw [IntKind.wrap_i64]; omega
                  have hm8 : IntKind.i64.wrap ((j : Int) + 1) = ((j + 1 : Nat) : Int) := by rw [IntKind.wrap_i64]; omega
                  rw [← hj] at l0 l1
                  have hjl : j + 1 < x6.length := by omega
                  have hjl1 : (j : Int) < (x6.length : Int) := by omega
                  have hjl2 : ((j + 1 : Nat) : Int) < (x6.length : Int) := by omega
                  generalize hX : ((x6.getD j 0 : Nat) : Int) = X at l0
                  generalize hY : ((x6.getD (j + 1) 0 : Nat) : Int) = Y at l1
                  rw [← hj, hX, hY] at HPT
                  subst hvi
                  have c40 := HDB.out.rb.c40
                  have hpb2 : PBuf w8.heap.size wr.drew pv (pairs (x6.take (2 * k))) := HPB.out.keep (fun _ _ => rfl)
                  rw [hpl] at hpv hcp
                  rw [← hj] at hpb2 hpl
                  obtain ⟨v9, w9, hrun, hpb9, hg9⟩ := hpb2.push X Y (by rw [hpl]; omega) hs8
                  have ho9 : Only (fun b => pv.ownBlock = some b) wr w9 := ((Only.of_below (below_drew wr)).trans (Only.alloc _ _)).trans (Only.of_grown hg9 fun b e _ => e)
                  have HK9 : Hid (w9.heap[gi]? = wr.heap[gi]?) := hid (ho9.block gi hgl (fun e => by have := HOW.out gi e; have := (own_ge I8.out gi rfl).2; omega))
                  have hdb9 := HDB.out.grow ho9 (fun i e => by have := HOW.out i e; omega)
                  obtain ⟨p9, c9, hv9, hc9⟩ := hpb9.form
                  rw [← HPT.out] at hpb9 hv9 hc9
                  subst hv9
                  have c40 := HDB.out.rb.c40
                  have d40 := hdb9.rb.c40
                  have f40 := hdb9.rb.free
                  have HRUN := hid hrun
                  have HPB9 := hid hpb9
                  have HDB9 := hid hdb9
                  subst hpv
                  clear hpb2 hrun hpb9 hg9 ho9 hdb9 hI hcell HPT HPB hc9 hX hY
                  have HSF : Hid (∀ W : World, W.heap[gi]? = wr.heap[gi]? → W.cell? ⟨gi, j, none⟩ = some (i64 X) ∧ W.cell? ⟨gi, j + 1, none⟩ = some (i64 Y)) := hid (fun W hW => ⟨(World.cell?_of_block (a := ⟨gi, j, none⟩) hW).trans l0, (World.cell?_of_block (a := ⟨gi, j + 1, none⟩) hW).trans l1⟩)
                  have HKA : Hid ((wr.drew.alloc (.cells #[i64 X, i64 Y] 53)).heap[gi]? = wr.heap[gi]?) := hid (heap_alloc_old wr.drew _ (show gi < wr.drew.heap.size from hgl))
                  have hgw : g < wr.heap.size := by omega
                  have HG40 : Hid ((wr.drew.alloc (.cells #[i64 X, i64 Y] 53)).cell? ⟨g, 40, none⟩ = wr.cell? ⟨g, 40, none⟩) := hid (World.cell?_of_block (a := ⟨g, 40, none⟩) (heap_alloc_old wr.drew _ (show g < wr.drew.heap.size from hgw)))
                  have c40a := HG40.out.trans c40
                  have HKS : Hid ((w9.setCell ⟨g, 40, none⟩ (.slice p9 (pairs (x6.take (2 * (k + 1)))).length c9)).heap[gi]? = wr.heap[gi]?) := hid ((heap_setCell_ne _ _ _ _ (show gi ≠ g by have := HB8.out; omega)).trans HK9.out)
                  have HJ := hid hj
                  have HX6 := hid hx6
                  clear l0 l1 hj hx6 hxl
                  go_wp2_with fail
                  refine wp_region_held_drew (S := fun W => W.cell? ⟨gi, j, none⟩ = some (i64 X) ∧ W.cell? ⟨gi, j + 1, none⟩ = some (i64 Y)) (by kernel_rfl) (HSF.out _ rfl) (fun hHeld => ?_)
                  refine wpAnyH_take (i := 0) (oi := ⟨some 107, .move (.tmp 0), _, _, _, none⟩) (v := ptr g) rfl (by kernel_rfl) (by kernel_rfl) (by kernel_rfl) (fun _ _ _ h => h) (Or.inl ⟨by kernel_rfl, by intro W hW; go_simp⟩) hHeld ?_
                  refine wpAnyH_take (i := 1) (oi := ⟨some 108, .move (.tmp 0), _, _, _, none⟩) (v := ptr g) rfl (by kernel_rfl) (by kernel_rfl) (by kernel_rfl) (fun _ _ _ h => h) (Or.inl ⟨by kernel_rfl, by intro W hW; go_simp⟩) hHeld ?_
                  refine wpAnyH_take (i := 2) (oi := ⟨some 109, .nilCheck (.tmp 108), _, _, _, none⟩) (v := ptr g) rfl (by kernel_rfl) (by kernel_rfl) (by kernel_rfl) (fun _ _ _ h => h) (Or.inl ⟨by kernel_rfl, by intro W hW; go_simp⟩) hHeld ?_
                  refine wpAnyH_take (i := 3) (oi := ⟨some 110, .fieldAddr 45 (.tmp 109) 9, _, _, _, none⟩) (v := .pointer (some ⟨g, 40, none⟩)) rfl (by kernel_rfl) (by kernel_rfl) (by kernel_rfl) (fun _ _ _ h => h) (Or.inl ⟨by kernel_rfl, by intro W hW; go_simp⟩) hHeld ?_
                  refine wpAnyH_take (i := 5) (oi := ⟨some 112, .move (.tmp 9), _, _, _, none⟩) (v := .slice (some ⟨gi, 0, none⟩) x6.length ci) rfl (by kernel_rfl) (by kernel_rfl) (by kernel_rfl) (fun _ _ _ h => h) (Or.inl ⟨by kernel_rfl, by intro W hW; go_simp⟩) hHeld ?_
                  refine wpAnyH_take (i := 6) (oi := ⟨some 113, .move (.tmp 10), _, _, _, none⟩) (v := i64 k) rfl (by kernel_rfl) (by kernel_rfl) (by kernel_rfl) (fun _ _ _ h => h) (Or.inl ⟨by kernel_rfl, by intro W hW; go_simp⟩) hHeld ?_
                  refine wpAnyH_take (i := 7) (oi := ⟨some 114, .binOp .mul 3 (.const (.int .i64 2)) (.tmp 113) 3, _, _, _, none⟩) (v := i64 j) rfl (by kernel_rfl) (by kernel_rfl) (by kernel_rfl) (fun _ _ _ h => h) (Or.inl ⟨by kernel_rfl, by intro W hW; go_simp⟩) hHeld ?_
                  refine wpAnyH_take (i := 8) (oi := ⟨some 115, .indexAddr 89 (.tmp 112) (.tmp 114), _, _, _, none⟩) (v := .pointer (some ⟨gi, j, none⟩)) rfl (by kernel_rfl) (by kernel_rfl) (by kernel_rfl) (fun _ _ _ h => h) (Or.inl ⟨by kernel_rfl, by intro W hW; go_simp⟩) hHeld ?_
                  refine wpAnyH_take (i := 9) (oi := ⟨some 116, .load 3 (.tmp 115), _, _, _, none⟩) (v := i64 X) rfl (by kernel_rfl) (by kernel_rfl) (by kernel_rfl) (fun _ _ _ h => h) (Or.inl ⟨by kernel_rfl, by intro W hW; have x9 := hW.1; go_simp⟩) hHeld ?_
                  refine wpAnyH_take (i := 10) (oi := ⟨some 117, .move (.tmp 9), _, _, _, none⟩) (v := .slice (some ⟨gi, 0, none⟩) x6.length ci) rfl (by kernel_rfl) (by kernel_rfl) (by kernel_rfl) (fun _ _ _ h => h) (Or.inl ⟨by kernel_rfl, by intro W hW; go_simp⟩) hHeld ?_
                  refine wpAnyH_take (i := 11) (oi := ⟨some 118, .move (.tmp 10), _, _, _, none⟩) (v := i64 k) rfl (by kernel_rfl) (by kernel_rfl) (by kernel_rfl) (fun _ _ _ h => h) (Or.inl ⟨by kernel_rfl, by intro W hW; go_simp⟩) hHeld ?_
                  refine wpAnyH_take (i := 12) (oi := ⟨some 119, .binOp .mul 3 (.const (.int .i64 2)) (.tmp 118) 3, _, _, _, none⟩) (v := i64 j) rfl (by kernel_rfl) (by kernel_rfl) (by kernel_rfl) (fun _ _ _ h => h) (Or.inl ⟨by kernel_rfl, by intro W hW; go_simp⟩) hHeld ?_
                  refine wpAnyH_take (i := 13) (oi := ⟨some 120, .binOp .add 3 (.tmp 119) (.const (.int .i64 1)) 3, _, _, _, none⟩) (v := i64 ((j + 1 : Nat) : Int)) rfl (by kernel_rfl) (by kernel_rfl) (by kernel_rfl) (fun _ _ _ h => h) (Or.inl ⟨by kernel_rfl, by intro W hW; go_simp⟩) hHeld ?_
                  refine wpAnyH_take (i := 14) (oi := ⟨some 121, .indexAddr 89 (.tmp 117) (.tmp 120), _, _, _, none⟩) (v := .pointer (some ⟨gi, j + 1, none⟩)) rfl (by kernel_rfl) (by kernel_rfl) (by kernel_rfl) (fun _ _ _ h => h) (Or.inl ⟨by kernel_rfl, by intro W hW; go_simp; intro hx; exact absurd (hx (by omega)) (by omega)⟩) hHeld ?_
                  refine wpAnyH_take (i := 15) (oi := ⟨some 122, .load 3 (.tmp 121), _, _, _, none⟩) (v := i64 Y) rfl (by kernel_rfl) (by kernel_rfl) (by kernel_rfl) (fun _ _ _ h => h) (Or.inl ⟨by kernel_rfl, by intro W hW; have x9 := hW.2; go_simp⟩) hHeld ?_
                  refine wpAnyH_take (i := 16) (oi := ⟨some 123, .build 53 #[(0, .tmp 116), (1, .tmp 122)], _, _, _, none⟩) (v := .agg #[i64 X, i64 Y]) rfl (by kernel_rfl) (by kernel_rfl) (by kernel_rfl) (fun _ _ _ h => h) (Or.inl ⟨by kernel_rfl, by intro W hW; go_simp⟩) hHeld ?_
                  refine wpAnyH_ready (rs := [4, 17]) (by kernel_rfl) (by simp) ?_
                  refine AllReadyH.cons rfl (fun K hK => ?_) (AllReadyH.cons rfl (fun K hK => ?_) AllReadyH.nil)
                  · go_simp
                    refine hK.out _ _ (HSF.out _ rfl) (fun hHeld => ?_)
                    clear hK K
                    refine wpAnyH_ready (rs := [17]) (by kernel_rfl) (by simp) ?_
                    refine AllReadyH.cons rfl (fun K hK => ?_) AllReadyH.nil
                    go_simp
                    refine hK.out _ _ (HSF.out _ HKA.out) (fun hHeld => ?_)
                    clear hK K
                    refine wpAnyH_ready (rs := [18]) (by kernel_rfl) (by simp) ?_
                    refine AllReadyH.cons (o := ⟨some 125, .call { callee := .builtin .append, args := #[.tmp 111, .tmp 124], argTypes := #[43, 43] }, 43, _, _, none⟩) rfl (fun K hK => ?_) AllReadyH.nil
                    with_reducible refine step_append_ex (R := fun v' w' => v' = .slice p9 (pairs (x6.take (2 * (k + 1)))).length c9 ∧ w' = w9) ?_ (.tmp 111) (.tmp 124) 43 ?_ (.slice pp k cp) (.slice (some ⟨wr.heap.size, 0, none⟩) 1 1) ?_ ?_ ?_ ?_
                    · exact rfl
                    · exact rfl
                    · kernel_rfl
                    · kernel_rfl
                    · exact ⟨_, _, HRUN.out, rfl, rfl⟩
                    rintro v' w' ⟨hv9, hw9⟩
                    subst hv9 hw9
                    refine hK.out _ _ (HSF.out _ HK9.out) (fun hHeld => ?_)
                    clear hK K
                    refine wpAnyH_take (i := 19) (oi := ⟨some 126, .nilCheck (.tmp 107), _, _, _, none⟩) (v := ptr g) rfl (by kernel_rfl) (by kernel_rfl) (by kernel_rfl) (fun _ _ _ h => h) (Or.inl ⟨by kernel_rfl, by intro W hW; go_simp⟩) hHeld ?_
                    refine wpAnyH_take (i := 20) (oi := ⟨some 127, .fieldAddr 45 (.tmp 126) 9, _, _, _, none⟩) (v := .pointer (some ⟨g, 40, none⟩)) rfl (by kernel_rfl) (by kernel_rfl) (by kernel_rfl) (fun _ _ _ h => h) (Or.inl ⟨by kernel_rfl, by intro W hW; go_simp⟩) hHeld ?_
                    refine wpAnyH_ready (rs := [21]) (by kernel_rfl) (by simp) ?_
                    refine AllReadyH.cons rfl (fun K hK => ?_) AllReadyH.nil
                    go_simp
                    refine hK.out _ _ (HSF.out _ HKS.out) (fun hHeld => ?_)
                    clear hK K
                    refine wpAnyH_done (by kernel_rfl) ?_ _
                    (try simp only [Act.put, List.setIfInBounds_toArray, List.set_cons_zero, List.set_cons_succ])
                    go_wp2
                    refine ⟨⟨k + 1, _, by omega, by simp, HDB9.out.set40 (.slice p9 (pairs (x6.take (2 * (k + 1)))).length c9), HPB9.out.keep fun b hb => heap_setCell_ne _ _ _ _ (fun e => ?_)⟩, by simp [intOf]; omega⟩
                    have h1 : w8.heap.size ≤ b := (own_ge HPB9.out b hb).1
                    have h2 : b = g := e
                    omega
                  · go_simp
                    refine hK.out _ _ (HSF.out _ HKA.out) (fun hHeld => ?_)
                    clear hK K
                    refine wpAnyH_ready (rs := [4]) (by kernel_rfl) (by simp) ?_
                    refine AllReadyH.cons rfl (fun K hK => ?_) AllReadyH.nil
                    go_simp
                    refine hK.out _ _ (HSF.out _ HKA.out) (fun hHeld => ?_)
                    clear hK K
                    refine wpAnyH_ready (rs := [18]) (by kernel_rfl) (by simp) ?_
                    refine AllReadyH.cons (o := ⟨some 125, .call { callee := .builtin .append, args := #[.tmp 111, .tmp 124], argTypes := #[43, 43] }, 43, _, _, none⟩) rfl (fun K hK => ?_) AllReadyH.nil
                    with_reducible refine step_append_ex (R := fun v' w' => v' = .slice p9 (pairs (x6.take (2 * (k + 1)))).length c9 ∧ w' = w9) ?_ (.tmp 111) (.tmp 124) 43 ?_ (.slice pp k cp) (.slice (some ⟨wr.heap.size, 0, none⟩) 1 1) ?_ ?_ ?_ ?_
                    · exact rfl
                    · exact rfl
                    · kernel_rfl
                    · kernel_rfl
                    · exact ⟨_, _, HRUN.out, rfl, rfl⟩
                    rintro v' w' ⟨hv9, hw9⟩
                    subst hv9 hw9
                    refine hK.out _ _ (HSF.out _ HK9.out) (fun hHeld => ?_)
                    clear hK K
                    refine wpAnyH_take (i := 19) (oi := ⟨some 126, .nilCheck (.tmp 107), _, _, _, none⟩) (v := ptr g) rfl (by kernel_rfl) (by kernel_rfl) (by kernel_rfl) (fun _ _ _ h => h) (Or.inl ⟨by kernel_rfl, by intro W hW; go_simp⟩) hHeld ?_
                    refine wpAnyH_take (i := 20) (oi := ⟨some 127, .fieldAddr 45 (.tmp 126) 9, _, _, _, none⟩) (v := .pointer (some ⟨g, 40, none⟩)) rfl (by kernel_rfl) (by kernel_rfl) (by kernel_rfl) (fun _ _ _ h => h) (Or.inl ⟨by kernel_rfl, by intro W hW; go_simp⟩) hHeld ?_
                    refine wpAnyH_ready (rs := [21]) (by kernel_rfl) (by simp) ?_
                    refine AllReadyH.cons rfl (fun K hK => ?_) AllReadyH.nil
                    go_simp
                    refine hK.out _ _ (HSF.out _ HKS.out) (fun hHeld => ?_)
                    clear hK K
                    refine wpAnyH_done (by kernel_rfl) ?_ _
                    (try simp only [Act.put, List.setIfInBounds_toArray, List.set_cons_zero, List.set_cons_succ])
                    go_wp2
                    refine ⟨⟨k + 1, _, by omega, by simp, HDB9.out.set40 (.slice p9 (pairs (x6.take (2 * (k + 1)))).length c9), HPB9.out.keep fun b hb => heap_setCell_ne _ _ _ _ (fun e => ?_)⟩, by simp [intOf]; omega⟩
                    have h1 : w8.heap.size ≤ b := (own_ge HPB9.out b hb).1
                    have h2 : b = g := e
                    omega
                · have hlt' : ¬ (k : Int) < (n5 : Int) := by omega
                  have hk2 : k = n5 := by omega
                  have htk : x6.take (2 * k) = x6 := List.take_of_length_le (by omega)
                  have hPL := (by have h := HPB.out; rw [hpv] at h; exact h.pl (by rw [hpl]; omega) cp hcp : _ ∧ PLF w8.heap.size wr (.slice pp (pairs (x6.take (2 * k))).length cp) (pairs (x6.take (2 * k)))).2
                  rw [htk] at hPL
                  have HPL := hid hPL
                  have S9 := hid (S8.out.off HP.out HDB.out.only)
                  have hc := S9.out.text hl6 H86.out
                  have hQ := HQ.out
                  have HONE : Hid (pv = .slice pp (pairs x6).length cp) := hid (by rw [hpv, htk])
                  clear HQ HPB hPL hpv hcp hpl htk hxl hx6 S8 I8
                  cases h7 : rdT d6 with
                  | none =>
                    rw [h7] at hQ hc
                    have HQ : Hid (Q = none) := hid hQ
                    have HC := hid hc
                    clear hQ hc h7
                    go_wp2_with (go_at_call 18; refine HC.out.mono ?_; rintro e w9 ⟨hb9, rfl⟩; have k9 := HDB.out.below hb9; have c41 := k9.rb.c41; have z := k9.rb.free; have K9 := hid (k9.set41 ⟨#[]⟩ (by decide)); clear k9 hb9)
                    go_ret2
                    rw [HQ.out]
                    exact ⟨K8.out.only.trans K9.out.only, rfl, _, K9.out.ok, K9.out.rb, K8.out.only.trans K9.out.only⟩
                  | some q7 =>
                    obtain ⟨s7, d7⟩ := q7
                    rw [h7] at hQ hc
                    simp only [Option.map_some] at hQ
                    have HZ : Hid (∀ t : ByteArray, lst t = s7 → t.size ≤ 65536) := hid (fun t e => txt_size H86.out h7 e)
                    have HC := hid hc
                    have HQ := hid hQ
                    clear hc h7 hQ
                    go_wp2_with (go_at_call 18; refine HC.out.mono ?_; rintro e w9 ⟨hb9, t9, v9, rfl, ht9, hs9⟩; have k9 := HDB.out.below hb9; have c41 := k9.rb.c41; have z := k9.rb.free; have K9 := hid (k9.set41 t9 (HZ.out t9 ht9)); have S10 := hid (hs9.off HP.out (Only.set w9 ⟨g, 41, none⟩ (.string t9) rfl)); have HB9 := hid hb9; have HT9 := hid ht9; clear k9 hb9 hs9 ht9)
                    go_ret2
                    rw [HQ.out]
                    have ho := K8.out.only.trans K9.out.only
                    refine ⟨ho, _, pairs x6, v9, rfl, ⟨K9.out.ok, K9.out.rb, ho⟩, ?_, ?_, S10.out⟩
                    · obtain ⟨b1, b2, b3, b4, b5, b6, b7, b8, b9, b10⟩ := F8.out
                      simp only [Rv.rc, b1, b2, b3, b4, b5, b6, b7, b8, b9, HT2.out, HT5.out, HT9.out]
                    · show PLF w.heap.size _ pv (pairs x6)
                      rw [HONE.out]
                      exact ((HPL.out.only (Only.of_below (S := fun b => b = g) HB9.out) (fun i e => by omega)).only (Only.set (S := fun b => b = g) w9 ⟨g, 41, none⟩ (.string t9) rfl) (fun i e => by omega)).base K8.out.only.size
#print axioms data_any
end Go.Proofs.Ytepkpkbgmchioaa
