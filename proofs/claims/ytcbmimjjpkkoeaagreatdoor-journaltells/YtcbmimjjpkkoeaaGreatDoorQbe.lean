/- Texts laid into one: the remark ahead of each part says what is proved there. -/
import Derived.Test.YtcbmimjjpkkoeaaGreatDoorQbd
import Derived.Deep.Cut
import Derived.Test.YtcbmimjjpkkoeaaGreatDoorQba
import Derived.Test.YtcbmimjjpkkoeaaGreatDoorQao
/- Contract of the document's Bytes. -/
namespace Go.Proofs.YtcbmimjjpkkoeaaGreatDoor
open Go Go.RowKit

theorem rUintI (n : Int) (w : World) (h0 : 0 ≤ n) (hn : n ≤ 1099511627776) : Calls Tryz.prog 31 #[i64 n] w (BufS w.heap.size w (ib n)) := by
  obtain ⟨k, rfl⟩ := Int.eq_ofNat_of_zero_le h0
  have e : ib (k : Int) = nb k := by unfold ib; simp
  rw [e]
  exact rUint_any k w (by omega)
/-- A record's box, and bytes of one's own made behind it. -/
structure BS (w : World) (g : Nat) (r : Rv) (L : List Nat) (v : Value) (W : World) : Prop where
  ok : r.ok
  hg : w.heap.size ≤ g
  box : RBox W g r
  buf : Buf (g + 1) W v L
  below : Below w.heap.size w W
section
variable {w W W1 : World} {g : Nat} {r : Rv} {L x : List Nat} {v v2 : Value}
theorem BS.on (h : BS w g r L v W) (hb : Below W.heap.size W W1) : BS w g r L v W1 := ⟨h.ok, h.hg, h.box.below h.ok hb, h.buf.below hb, below_on h.below hb⟩
theorem BS.app (h : BS w g r L v W) (po : Option Addr) (c : Nat) (hx : BL W po x) (hc : po = none → c = 0) (hn : L.length + x.length ≤ 2000000) :
    ∃ v3 W3, (Builtin.append_ #[25, 25] 25 #[v, .slice po x.length c]).run Tryz.prog W = .ok v3 W3 ∧ BS w g r (L ++ x) v3 W3 := by
  have hlt := h.box.at_.lt
  obtain ⟨v3, W3, hr, hB, hG⟩ := h.buf.app po c x hx hc hn (by omega)
  refine ⟨v3, W3, hr, h.ok, h.hg, RBox.mk' h.ok (h.box.at_.keep (hG.block g hlt fun e => ?_)), hB, below_grown h.below hG (Nat.le_refl _) fun b hb => ?_⟩
  · have := (own_ge h.buf g e.symm).1; omega
  · have := (own_ge h.buf b hb).1; have := h.hg; omega
theorem BS.cat (h : BS w g r L v W) (hb : Below W.heap.size W W1) (h2 : Buf W.heap.size W1 v2 x) (hn : L.length + x.length ≤ 2000000) (W2 : World) (hW : Below W1.heap.size W1 W2) :
    ∃ v3 W3, (Builtin.append_ #[25, 25] 25 #[v, v2]).run Tryz.prog W2 = .ok v3 W3 ∧ BS w g r (L ++ x) v3 W3 := by
  obtain ⟨po, cc, rfl⟩ := h2.form
  have h3 := h2.below hW
  exact ((h.on hb).on hW).app po cc h3.bl (fun e => by subst e; exact h3.capn) hn
theorem BS.push (h : BS w g r L v W) (k : Nat) (hn : L.length ≤ 1000000) :
    ∃ v3 W3, (Builtin.append_ #[25, 25] 25 #[v, .slice (some ⟨W.heap.size, 0, none⟩) 1 1]).run Tryz.prog (W.alloc (.cells #[u8 k] 5)) = .ok v3 W3 ∧ BS w g r (L ++ [k]) v3 W3 :=
  h.cat (below_al _ _) (Buf.one W k W.heap.size (Nat.le_refl _)) (by simp; omega) _ (Below.refl _ _)
theorem BS.sum (h : BS w g r L v W) (hn : L.length ≤ 1000000) :
    ∃ v3 W3, (Builtin.append_ #[25, 25] 25 #[v, .slice (some ⟨g, 8, none⟩) 32 32]).run Tryz.prog W = .ok v3 W3 ∧ BS w g r (L ++ r.sum) v3 W3 := by
  have := h.app (x := r.sum) (some ⟨g, 8, none⟩) 32 (Or.inr ⟨g, 8, rfl, fun i hi => h.box.cs i _ (sumC_get hi)⟩) (by simp) (by rw [h.ok.sl]; omega)
  rw [h.ok.sl] at this
  exact this
end
def BytS (w : World) (L : List Nat) (e : Ending) (w' : World) : Prop := ∃ v, e = .returned v ∧ SL w' v L ∧ Below w.heap.size w w'
set_option maxRecDepth 100000 in
set_option maxHeartbeats 4000000 in
theorem rBytes_any (r : Rv) (hr : r.ok) (ps : Ps) (w : World) (hp : PL w r.pv ps) (h : okRc (r.rc ps) = true) : Calls Tryz.prog 32 #[.agg r.cs] w (BytS w (rcB (r.rc ps))) := by
  obtain ⟨q1, q2, q3⟩ := okRc_id h
  have HR := hid hr
  have HO := hid h
  have HPP := hid hp
  have HL1 : Hid ((tb (lst r.id)).length ≤ 100 ∧ (ib r.time).length ≤ 6) := hid ⟨by have := tb_le (s := r.id) (by omega); omega, ib_le (by omega)⟩
  have q3' : r.time ≤ 1099511627776 := by omega
  have q1' : r.id.size ≤ 65536 := by omega
  clear hr h hp q1 q3
  go_enter Tryz.func32, Tryz.ntmps32
  go_wp2_with ((with_reducible refine wpList_boxR rfl _ rfl r.cs ?_ ?_); exact rfl; intro w1 g hc1 hb1 hg1; have HA := hid (RBox.mk' HR.out hc1); have HB1 := hid hb1; clear hc1 hb1)
  have HC := hid (show _ ∧ _ from ⟨HA.out.c0, HA.out.c1⟩)
  have HG := hid (fun W (hb : Below w1.heap.size w1 W) => show _ ∧ _ from ⟨(HA.out.below HR.out hb).c0, (HA.out.below HR.out hb).c1⟩)
  go_region_held3 (fun w' => w'.cell? ⟨g, 0, none⟩ = some (.string r.id) ∧ w'.cell? ⟨g, 1, none⟩ = some (i64 r.time)) (exact HC.out) (first
    | (go_at_call 60; refine (rText_any r.id _ q1').mono ?_; rintro e w2 ⟨v2, rfl, hb2, hw2⟩; have HT : Hid (BS w g r (tb (lst r.id)) v2 w2) := hid ⟨HR.out, hg1, HA.out.below HR.out (below_on (below_drewN _ _) hw2), hb2.base (by have := HA.out.at_.lt; exact this), below_on HB1.out (below_on (below_drewN _ _) hw2)⟩; replace HC := hid (HG.out _ (below_on (below_drewN _ _) hw2)); clear hb2 hw2)
    | (go_at_call 31; refine (rUintI r.time _ q2 q3').mono ?_; rintro e w3 ⟨v3, rfl, hb3, hw3⟩; have HU := hid (HT.out.cat hw3 hb3 (by have := HL1.out; omega)); replace HC := hid (show _ ∧ _ from ⟨(HT.out.on hw3).box.c0, (HT.out.on hw3).box.c1⟩); clear hb3 hw3)
    | ((first | refine step_append_ex (by rfl) (.tmp 7) (.tmp 10) 25 (by rfl) _ _ (by rfl) (by rfl) (HU.out _ (below_drewN _ _)) ?_ | refine step_append_ex (by rfl) (.tmp 7) (.tmp 10) 25 (by rfl) _ _ (by rfl) (by rfl) (HU.out _ (Below.refl _ _)) ?_); rintro v4 w4 h4; have H4 := hid h4; replace HC := hid (show _ ∧ _ from ⟨h4.box.c0, h4.box.c1⟩); clear h4))
  clear HC HG HU HT HA HB1 q1' q2 q3'
  cases hm : r.mark with
  | true =>
    have HE : Hid (rcB (r.rc ps) = tb (lst r.id) ++ ib r.time ++ [1]) := hid (by rw [rcB_mark hm, List.append_assoc])
    have c2 := H4.out.box.c2
    rw [hm] at c2
    obtain ⟨v5, w5, hrun, h5⟩ := H4.out.push 1 (by rw [List.length_append]; have := HL1.out; omega)
    have HRUN := hid hrun
    have H5 := hid h5
    clear hrun h5 hm
    go_wp2_with (at_builtin; refine wpList_append_run _ _ 25 25 rfl rfl _ _ _ rfl rfl HRUN.out ?_)
    go_ret
    exact ⟨_, rfl, HE.out ▸ H5.out.buf.sl, H5.out.below⟩
  | false =>
    have hv : versOk r ps = true := by have h := HO.out; rw [okRc_vers r ps hm HR.out.sl] at h; simp only [Bool.and_eq_true] at h; exact h.2
    have HE : Hid (rcB (r.rc ps) = tb (lst r.id) ++ (ib r.time ++ ([0] ++ vB r ps))) := hid (rcB_vers hm)
    obtain ⟨a1, a2, a3, a4, a5, a6, a7, a8, a9, a10, a11⟩ := versOk_iff hv
    have HPS := hid (okPs_at (Int.le_refl 0) a10)
    have HLL : Hid ((tb (lst r.id)).length ≤ 100 ∧ (ib r.time).length ≤ 6 ∧ (ib r.size).length ≤ 6 ∧ (tb (lst r.etag)).length ≤ 100 ∧ (ib r.k).length ≤ 6 ∧ (ib r.m).length ≤ 6 ∧ (tb (lst r.data)).length ≤ 100 ∧ r.sum.length = 32 ∧ (ib (ps.length : Int)).length ≤ 6 ∧ [0].length = 1 ∧ (tb (lst r.up)).length ≤ 100) := hid ⟨HL1.out.1, HL1.out.2, ib_le (by omega), by have := tb_le (s := r.etag) (by omega); omega, ib_le (by omega), ib_le (by omega), by have := tb_le (s := r.data) (by omega); omega, HR.out.sl, ib_le (by omega), rfl, by have := tb_le (s := r.up) (by omega); omega⟩
    have a2' : r.size ≤ 1099511627776 := by omega
    have a3' : r.etag.size ≤ 65536 := by omega
    have a4' : 0 ≤ r.k := by omega
    have a5' : r.k ≤ 1099511627776 := by omega
    have a6' : 0 ≤ r.m := by omega
    have a7' : r.m ≤ 1099511627776 := by omega
    have a8' : r.data.size ≤ 65536 := by omega
    have hps : (ps.length : Int) ≤ 1099511627776 := by omega
    have a11' : r.up.size ≤ 65536 := by omega
    obtain ⟨p1, d1, hpv, hpc, hpl, _⟩ := HPP.out
    have c2 := H4.out.box.c2
    rw [hm] at c2
    obtain ⟨v5, w5, hrun, h5⟩ := H4.out.push 0 (by rw [List.length_append]; have := HL1.out; omega)
    have HRUN0 := hid hrun
    have H5 := hid h5
    have c3 := h5.box.c3
    have hsl := run_sum g
    clear hrun h5 hm hv a2 a3 a4 a5 a6 a7 a8 a11
    go_wp2_with (first
    | (at_builtin; refine wpList_append_run _ _ 25 25 rfl rfl _ _ _ rfl rfl HRUN0.out ?_; clear HRUN0)
    | (go_at_call 31; (with_reducible refine (rUintI r.size _ a1 a2').mono ?_); rintro e w6 ⟨u6, rfl, hb, hw⟩; obtain ⟨v6, w6', hrun, hbs⟩ := H5.out.cat hw hb (by simp only [List.length_append]; have := HLL.out; omega) _ (Below.refl _ _); have HRUN6 := hid hrun; have H6 := hid hbs; have c4 := hbs.box.c4; clear hb hw hrun hbs c3 H5)
    | (at_builtin; refine wpList_append_run _ _ 25 25 rfl rfl _ _ _ rfl rfl HRUN6.out ?_; clear HRUN6)
    | (go_at_call 60; (with_reducible refine (rText_any r.etag _ a3').mono ?_); rintro e w7 ⟨u7, rfl, hb, hw⟩; obtain ⟨v7, w7', hrun, hbs⟩ := H6.out.cat hw hb (by simp only [List.length_append]; have := HLL.out; omega) _ (Below.refl _ _); have HRUN7 := hid hrun; have H7 := hid hbs; have c5 := hbs.box.c5; clear hb hw hrun hbs c4 H6)
    | (at_builtin; refine wpList_append_run _ _ 25 25 rfl rfl _ _ _ rfl rfl HRUN7.out ?_; clear HRUN7)
    | (go_at_call 31; (with_reducible refine (rUintI r.k _ a4' a5').mono ?_); rintro e w8 ⟨u8, rfl, hb, hw⟩; obtain ⟨v8, w8', hrun, hbs⟩ := H7.out.cat hw hb (by simp only [List.length_append]; have := HLL.out; omega) _ (Below.refl _ _); have HRUN8 := hid hrun; have H8 := hid hbs; have c6 := hbs.box.c6; clear hb hw hrun hbs c5 H7)
    | (at_builtin; refine wpList_append_run _ _ 25 25 rfl rfl _ _ _ rfl rfl HRUN8.out ?_; clear HRUN8)
    | (go_at_call 31; (with_reducible refine (rUintI r.m _ a6' a7').mono ?_); rintro e w9 ⟨u9, rfl, hb, hw⟩; obtain ⟨v9, w9', hrun, hbs⟩ := H8.out.cat hw hb (by simp only [List.length_append]; have := HLL.out; omega) _ (Below.refl _ _); have HRUN9 := hid hrun; have H9 := hid hbs; have c7 := hbs.box.c7; clear hb hw hrun hbs c6 H8)
    | (at_builtin; refine wpList_append_run _ _ 25 25 rfl rfl _ _ _ rfl rfl HRUN9.out ?_; clear HRUN9)
    | (go_at_call 60; (with_reducible refine (rText_any r.data _ a8').mono ?_); rintro e w10 ⟨u10, rfl, hb, hw⟩; obtain ⟨v10, w10', hrun, hbs⟩ := H9.out.cat hw hb (by simp only [List.length_append]; have := HLL.out; omega) _ (Below.refl _ _); have HRUN10 := hid hrun; have H10 := hid hbs; obtain ⟨v11, w11', hrun2, hbs2⟩ := hbs.sum (by simp only [List.length_append]; have := HLL.out; omega); have HRUN11 := hid hrun2; have H11 := hid hbs2; have c40 := hbs2.box.c40; rw [hpv] at c40; clear hrun2 hbs2; clear hb hw hrun hbs c7 H9)
    | (at_builtin; refine wpList_append_run _ _ 25 25 rfl rfl _ _ _ rfl rfl HRUN10.out ?_; clear HRUN10)
    | (at_builtin; refine wpList_append_run _ _ 25 25 rfl rfl _ _ _ rfl rfl HRUN11.out ?_; clear HRUN11)
    | (go_at_call 31; (with_reducible refine (rUintI (ps.length : Int) _ (by omega) hps).mono ?_); rintro e w12 ⟨u12, rfl, hb, hw⟩; obtain ⟨v12, w12', hrun, hbs⟩ := H11.out.cat hw hb (by simp only [List.length_append]; have := HLL.out; omega) _ (Below.refl _ _); have HRUN12 := hid hrun; have H12 := hid hbs; skip; clear hb hw hrun hbs c40 H11 H10)
    | (at_builtin; refine wpList_append_run _ _ 25 25 rfl rfl _ _ _ rfl rfl HRUN12.out ?_; clear HRUN12))
    have hN : (tb (lst r.id) ++ ib r.time ++ [0] ++ ib r.size ++ tb (lst r.etag) ++ ib r.k ++ ib r.m ++ tb (lst r.data) ++ r.sum ++ ib (ps.length : Int)).length ≤ 1000 := by simp only [List.length_append]; have := HLL.out; omega
    have HNN : Hid (∀ Y, tb (lst r.id) ++ ib r.time ++ [0] ++ ib r.size ++ tb (lst r.etag) ++ ib r.k ++ ib r.m ++ tb (lst r.data) ++ r.sum ++ ib (ps.length : Int) ++ psB ps ++ tb (lst r.up) = Y → rcB (r.rc ps) = Y) := hid (fun Y e => by
      rw [← e, HE.out]
      have e2 : ib (ps.length : Int) = nb ps.length := by unfold ib; simp
      rw [e2]
      unfold vB
      simp only [List.append_assoc])
    generalize tb (lst r.id) ++ ib r.time ++ [0] ++ ib r.size ++ tb (lst r.etag) ++ ib r.k ++ ib r.m ++ tb (lst r.data) ++ r.sum ++ ib (ps.length : Int) = N at H12 hN HNN
    have HPL := hid (psB_le fun i hi => ⟨(HPS.out i hi).2.1, (HPS.out i hi).2.2.2⟩)
    clear hsl c2 H4 HL1 HE
    go_loopw [3, 4] (fun bv iv wr => ∃ k : Nat, k ≤ ps.length ∧ iv = i64 k ∧ BS w g r (N ++ psB (ps.take k)) bv wr) (fun _ iv _ => (ps.length - intOf iv).toNat)
    case atStart => exact ⟨0, by omega, rfl, by simpa [psB] using H12.out⟩
    case round =>
      obtain ⟨k, hk, rfl, hz⟩ := hrel
      have HZ := hid hz
      have hlenN : (N ++ psB (ps.take k)).length ≤ 2000 := by rw [List.length_append]; have := HPL.out k hk; omega
      have c40 := hz.box.c40
      rw [hpv] at c40
      by_cases hlt : k < ps.length
      · have hlt' : (k : Int) < (ps.length : Int) := by omega
        have hpl2 := HPP.out
        rw [hpv] at hpl2
        obtain ⟨b, o, hpo, x1, x2⟩ := (hpl2.below hz.below).at hlt
        subst hpo
        have HP2 := hid hpl2
        clear hz hpl2
        obtain ⟨s1, s2, s3, s4⟩ := HPS.out k hlt
        have HPT := hid (psB_take hlt)
        have HX2 : Hid (∀ W, Below w.heap.size w W → W.cell? ⟨b, o + k * 2 + 1, none⟩ = some (i64 (ps.getD k (0, 0)).2)) := hid (fun W hW => by
          obtain ⟨b', o', e, _, h2⟩ := (HP2.out.below hW).at hlt
          cases e; exact h2)
        generalize (ps.getD k (0, 0)).1 = X1 at *
        generalize (ps.getD k (0, 0)).2 = X2 at *
        have e1 := ib_le (n := X1) (by omega)
        have e2 := ib_le (n := X2) (by omega)
        have s2' : X1 ≤ 1099511627776 := by omega
        have s4' : X2 ≤ 1099511627776 := by omega
        have hwr : IntKind.i64.wrap ((k : Int) + 1) = ((k + 1 : Nat) : Int) := by rw [IntKind.wrap_i64]; omega
        go_wp2_with (first
          | (go_at_call 31; (with_reducible refine (rUintI X1 _ s1 s2').mono ?_); rintro e w13 ⟨u13, rfl, hb, hw⟩; obtain ⟨v13, w13', hrun, hbs⟩ := HZ.out.cat hw hb (by omega) _ (Below.refl _ _); have HRUN13 := hid hrun; have HY := hid hbs; clear c40 x1 x2; have c40 := hbs.box.c40; rw [hpv] at c40; have x2 := HX2.out _ hbs.below; clear hb hw hrun hbs)
          | (at_builtin; refine wpList_append_run _ _ 25 25 rfl rfl _ _ _ rfl rfl HRUN13.out ?_; clear HRUN13)
          | (go_at_call 31; (with_reducible refine (rUintI X2 _ s3 s4').mono ?_); rintro e w14 ⟨u14, rfl, hb, hw⟩; obtain ⟨v14, w14', hrun, hbs⟩ := HY.out.cat hw hb (by rw [List.length_append]; omega) _ (Below.refl _ _); have HRUN14 := hid hrun; have HV := hid hbs; clear hb hw hrun hbs)
          | (at_builtin; refine wpList_append_run _ _ 25 25 rfl rfl _ _ _ rfl rfl HRUN14.out ?_; clear HRUN14))
        refine ⟨⟨k + 1, by omega, rfl, ?_⟩, by simp [intOf]; omega⟩
        rw [HPT.out, ← List.append_assoc, ← List.append_assoc]; exact HV.out
      · have hlt' : ¬ (k : Int) < (ps.length : Int) := by omega
        have c41 := hz.box.c41
        have hk2 : ps.take k = ps := List.take_of_length_le (by omega)
        rw [hk2] at HZ
        clear hz
        go_wp2_with (first
          | (go_at_call 60; (with_reducible refine (rText_any r.up _ a11').mono ?_); rintro e w13 ⟨u13, rfl, hb, hw⟩; obtain ⟨v13, w13', hrun, hbs⟩ := HZ.out.cat hw hb (by rw [hk2] at hlenN; have := HLL.out; omega) _ (Below.refl _ _); have HRUN13 := hid hrun; have HY := hid hbs; clear hb hw hrun hbs)
          | (at_builtin; refine wpList_append_run _ _ 25 25 rfl rfl _ _ _ rfl rfl HRUN13.out ?_; clear HRUN13))
        go_ret
        exact ⟨_, rfl, (HNN.out _ rfl) ▸ HY.out.buf.sl, HY.out.below⟩
#print axioms rBytes_any
end Go.Proofs.YtcbmimjjpkkoeaaGreatDoor

/- The document's Bytes of a journal. -/
namespace Go.Proofs.YtcbmimjjpkkoeaaGreatDoor
open Go Go.RowKit

theorem rcB_ne8 (x : Rc) : rcB x ≠ [] := fun e => by
  have h := congrArg List.length e
  unfold rcB tb at h
  have h2 := List.length_pos_iff.2 (nb_ne x.id.length)
  simp only [List.length_append, List.length_nil] at h
  omega
theorem ib_nat (n : Nat) : ib ((n : Nat) : Int) = nb n := by unfold ib; rw [Int.toNat_natCast]
theorem SL.some8 {w : World} {v : Value} {L : List Nat} (h : SL w v L) (hne : L ≠ []) : ∃ b o c, v = .slice (some ⟨b, o, none⟩) L.length c ∧ BL w (some ⟨b, o, none⟩) L ∧ L.length ≤ c := by
  obtain ⟨po, c, e, hb, hc⟩ := h
  rcases hb with e2 | ⟨b, o, e2, h2⟩
  · exact absurd e2 hne
  · exact ⟨b, o, c, by rw [e, e2], Or.inr ⟨b, o, rfl, h2⟩, hc⟩
theorem BI.appN {w1 W W1 : World} {s : Int} {n : Nat} {rs : List Rc} {k : Nat} {v : Value} (h : BI w1 s n rs k v W) (hb : Below W.heap.size W W1) {x : Rc} (hx : rs[k]? = some x) {b o c : Nat} (hbl : BL W1 (some ⟨b, o, none⟩) (rcB x)) (hn : (hdJ s n ++ rsB (rs.take k)).length + (rcB x).length ≤ 2000000) :
    ∃ v' W2, (Builtin.append_ #[25, 25] 25 #[v, .slice (some ⟨b, o, none⟩) (rcB x).length c]).run Tryz.prog W1 = .ok v' W2 ∧ BI w1 s n rs (k + 1) v' W2 := by
  obtain ⟨v', W2, hr, hb2, hg⟩ := (h.buf.below hb).app (some ⟨b, o, none⟩) c (rcB x) hbl (fun e => by cases e) hn (Nat.le_trans h.below.size hb.size)
  refine ⟨v', W2, hr, below_grown (below_on h.below hb) hg (Nat.le_refl _) (fun b e => (own_ge h.buf b e).1), ?_⟩
  rw [rsB_take hx, ← List.append_assoc]; exact hb2
set_option maxRecDepth 100000 in
set_option maxHeartbeats 2000000 in
theorem rjbytes_any (s : Int) (v : Value) (l : List Rp) (w : World) (hl : RL w v l) (h : okJ ⟨s, rcs l⟩ = true) : Calls Tryz.prog 13 #[.agg (jC s v)] w (BufS w.heap.size w (jB dig ⟨s, rcs l⟩)) := by
  have HL := hid hl
  obtain ⟨k1, k2, k3, k4, _⟩ := okJ_parts h
  simp only [rcs_len] at k1 k2 k3 k4
  have hlok := hl.ok
  have HOK := hid hlok
  have HRL := hid (rsB_len hlok k4)
  have HALL := hid k4
  obtain ⟨po, c, rfl, _⟩ := hl
  have hcv := fun (w : World) (C : Array Value) (n c : Nat) => Go.Lib.run_convert_bytes_const (P := Tryz.prog) w 25 5 C n c Tryz.underlying25 under5'
  have HU1 : Hid (∀ W, Calls Tryz.prog 31 #[i64 s] W (BufS W.heap.size W (ib s))) := hid fun W => rUintI s W (by omega) (by omega)
  have HU2 : Hid (∀ W, Calls Tryz.prog 31 #[i64 (l.length : Int)] W (BufS W.heap.size W (nb l.length))) := hid fun W => by have h9 := rUintI (l.length : Int) W (by omega) (by omega); rw [ib_nat] at h9; exact h9
  have HH := hid (hdJ_len (s := s) (n := l.length) (by omega) k3)
  have HI6 := hid (ib_le (n := s) k2)
  have HN6 := hid (nb_le (n := l.length) (by omega))
  clear h k4 hlok
  have T1 : Hid True := hid trivial
  have T3 : Hid True := hid trivial
  go_enter Tryz.func13, Tryz.ntmps13
  go_wp2_with (first
    | ((with_reducible refine wpList_boxT 24 rfl _ rfl (jC s (.slice po l.length c)) ?_ ?_); exact rfl; intro w1 g1 hc1 hb1 hg1; have HF : Hid (B2 w g1 s (.slice po l.length c) w1) := hid ⟨hb1, hc1⟩; have HF1 := hid HF.out; have c0 := (hc1.below (below_al w1 (.cells c3 5 (3, 4)))).j0; clear hb1 hc1)
    | (clear T1; go_at_call 31; refine (HU1.out _).mono ?_; rintro e w4 ⟨v4, rfl, ho4, hb4⟩; have hb14 := below_on (below_al w1 (.cells c3 5 (3, 4))) hb4; obtain ⟨p4, c4, hv4⟩ := ho4.form; subst hv4; obtain ⟨v6, w6, hr6, hbf6, hb6⟩ := grow_buf w4 w1.heap.size [83, 74, 49] (fun j hj => (World.cell?_of_block (a := ⟨w1.heap.size, j, none⟩) (hb4.block w1.heap.size (by rw [size_al]; omega))).trans (c3_cells w1 (3, 4) j hj)) p4 c4 (ib s) ho4.bl (nb_ne _) (by have := HI6.out; simp only [List.length_cons, List.length_nil]; omega); have HRUN6 := hid hr6; have HBF6 := hid hbf6; have hb46 := below_on hb14 hb6; have HS6 := hid hb6.size; replace HF := hid (HF.out.on hb46); clear c0; have c1 := HF.out.cj.j1; obtain ⟨p6, n6, c6, hv6⟩ := hbf6.form3; subst hv6; have HB16 := hid hb46; have HB14 := hid hb14.size; clear ho4 hb4 hr6 hbf6 hb6 hb14 hb46)
    | (clear T3; at_builtin; refine wpList_append_run _ _ 25 25 rfl rfl _ _ _ rfl rfl HRUN6.out ?_)
    | (go_at_call 31; refine (HU2.out _).mono ?_; rintro e w5 ⟨v5, rfl, ho5, hb5⟩; obtain ⟨p5, c5, hv5⟩ := ho5.form; subst hv5; obtain ⟨v7, w7, hr7, hbf7, hg7⟩ := (HBF6.out.below hb5).app p5 c5 (nb l.length) ho5.bl (fun e => by subst e; exact ho5.capn) (by have := HI6.out; have := HN6.out; simp only [List.length_append, List.length_cons, List.length_nil]; omega) (by have := HS6.out; have := hb5.size; omega); have HRUN7 := hid hr7; have HI : Hid (BI w1 s l.length (rcs l) 0 v7 w7) := hid ⟨below_grown (below_on HB16.out hb5) hg7 (Nat.le_refl _) (fun b e => by have := (own_ge HBF6.out b e).1; have := HB14.out; omega), (by have e9 : hdJ s l.length ++ rsB ((rcs l).take 0) = [83, 74, 49] ++ ib s ++ nb l.length := (by simp [hdJ, rsB]); rw [e9]; exact own_base hbf7 HB14.out)⟩; clear c1; obtain ⟨p7, n7, c7, hv7⟩ := hbf7.form3; subst hv7; clear ho5 hb5 hr7 hbf7 hg7)
    | (at_builtin; refine wpList_append_run _ _ 25 25 rfl rfl _ _ _ rfl rfl HRUN7.out ?_))
  go_loopg [3, 4] l.length (fun gg s3 s4 wr => ∃ (kk : Nat) (p9 : Option Addr) (n9 c9 : Nat), kk ≤ l.length ∧ l.length - kk ≤ gg ∧ s4 = i64 kk ∧ s3 = .slice p9 n9 c9 ∧ Hid (BI w1 s l.length (rcs l) kk (.slice p9 n9 c9) wr))
  case atStart => exact ⟨0, _, _, _, Nat.zero_le _, by omega, rfl, rfl, HI.out⟩
  case round =>
    obtain ⟨kk, p9, n9, c9, hkk, hg, rfl, rfl, I⟩ := hrel
    clear HI HRUN6 HRUN7
    have c1 := (HF1.out.on I.out.below).cj.j1
    by_cases hlt : kk < l.length
    · have hltz : (kk : Int) < (l.length : Int) := by omega
      have HBW := hid (below_on HF1.out.below I.out.below)
      obtain ⟨b, o, x, e1, hx, hrx, hkx, hox⟩ := HL.out.at HBW.out hlt
      subst e1
      have hok := hkx.ok
      have HR := hid hrx
      have HKX := hid hkx
      have hxr : (rcs l)[kk]? = some x.rc := by rw [rcs_get, hx]; rfl
      have HXR := hid hxr
      have HX1 := hid (show (rcB x.rc).length ≤ 1000 from rcB_len x.r hok x.ps (List.all_eq_true.1 HALL.out x.rc (List.mem_of_getElem? hxr)))
      have HBY : Hid (∀ W, Below wr.heap.size wr W → Calls Tryz.prog 32 #[.agg x.r.cs] W (BytS W (rcB x.rc))) := hid fun W hW => rBytes_any x.r hok x.ps W (HKX.out.pl.below hW) (List.all_eq_true.1 HALL.out x.rc (List.mem_of_getElem? HXR.out))
      clear hrx hkx hx hxr
      go_wp2_with (first
        | ((with_reducible refine wpList_loadM rfl _ rfl b (o + kk * 42) ?_ x.r hok HR.out ?_); exact rfl)
        | (go_at_call 32; refine (HBY.out _ (Below.refl _ _)).mono ?_; rintro e wc ⟨vc, rfl, hoc, hbc⟩; obtain ⟨b2, o2, c2, hpc, hblc, _⟩ := hoc.some8 (rcB_ne8 _); subst hpc; obtain ⟨vd, wd, hrd, hId⟩ := I.out.appN (c := c2) hbc HXR.out hblc (by have h1 := HRL.out kk (by omega); have h2 := HH.out; have h3 := HX1.out; simp only [List.length_append]; omega); have HRUN := hid hrd; have HID := hid hId; obtain ⟨pd, nd, cd, hvd⟩ := hId.buf.form3; subst hvd; clear hoc hbc hblc hrd hId)
        | (at_builtin; refine wpList_append_run _ _ 25 25 rfl rfl _ _ _ rfl rfl HRUN.out ?_))
      go_roundg (l.length - (kk + 1))
      case measure => omega
      case rel => exact ⟨kk + 1, _, _, _, by omega, by omega, by go_num, rfl, HID.out⟩
    · have hltz : ¬ (kk : Int) < (l.length : Int) := by omega
      have hke : kk = l.length := by omega
      obtain ⟨X, hX⟩ : ∃ X, jBody ⟨s, rcs l⟩ = X := ⟨_, rfl⟩
      have hbuf : Buf w1.heap.size wr (.slice p9 n9 c9) X := by
        have := I.out.buf
        rw [List.take_of_length_le (by rw [rcs_len]; omega), ← jBody_hd, hX] at this
        exact this
      have hXl : X.length ≤ 100000 := by
        have h1 := HRL.out l.length (Nat.le_refl _)
        have h2 := HH.out
        rw [List.take_of_length_le (by rw [rcs_len]; omega)] at h1
        rw [← hX, jBody_hd, List.length_append]; omega
      have hX8 : ∀ z ∈ X, z < 256 := fun z hz => by
        rw [← hX, jBody_hd] at hz
        rcases List.mem_append.1 hz with hz | hz
        · exact hdJ_byte _ _ z hz
        · exact rsB_byte HOK.out z hz
      obtain ⟨hn9, hc9⟩ := hbuf.cap
      have HSUM : Hid (∀ W, Below wr.heap.size wr W → Calls Tryz.prog 33 #[.slice p9 n9 c9] W fun e w' => e = .returned (.agg (sumC (dig X))) ∧ Below W.heap.size W w') := hid fun W hW => by rw [hn9]; exact rdsum_any p9 c9 X W (by omega) (fun e => by subst e; exact hbuf.capn) (hbuf.bl.below hW) hX8
      have HBF := hid hbuf
      have HXL := hid hXl
      have hdl := dig_len X
      generalize hD : dig X = D at HSUM hdl
      have HD := hid hD
      have HX := hid hX
      clear hbuf hXl hX8 hn9 hc9 hD hX hke
      have hsl := run_dig
      go_wp2_with (first
        | (go_at_call 33; refine (HSUM.out _ (Below.refl _ _)).mono ?_; rintro e wd ⟨rfl, hbd⟩; have HBD := hid hbd; clear hbd)
        | ((with_reducible refine wpList_allocD rfl rfl ?_); intro wa ga hza hba hga; have HZA := hid hza; have HBA := hid (below_on HBD.out hba); have HGA := hid (show wr.heap.size ≤ ga by have := HBD.out.size; omega); clear hza hba hga)
        | ((with_reducible refine wpList_storeD rfl rfl _ _ rfl ga ?_ (m := zeroD) (n := D) ?_ ?_ hdl HZA.out ?_); exact rfl; exact rfl; exact rfl; intro wb hb9 ob9; have HBB := hid (below_tr HBA.out (ob9.below HBA.out.size (fun i e => by have := HGA.out; omega))); have hblD := hb9.bl; obtain ⟨ve, we, hre, hbe, hge⟩ := (HBF.out.below HBB.out).app (some ⟨ga, 0, none⟩) 32 D hblD (fun e => by cases e) (by have := HXL.out; omega) (by have := I.out.below.size; have := HBB.out.size; omega); rw [hdl] at hre; have HRUN := hid hre; have HBE := hid hbe; have HGE := hid hge; clear hb9 ob9 HZA hblD hre hbe hge)
        | (at_builtin; refine wpList_append_run _ _ 25 25 rfl rfl _ _ _ rfl rfl HRUN.out ?_))
      go_ret
      have hjb : jB dig ⟨s, rcs l⟩ = X ++ D := by unfold jB; rw [HX.out, HD.out]
      have hbw : Below w1.heap.size wr we := below_grown (below_less HBB.out (by have := I.out.below.size; omega)) HGE.out (by have := I.out.below.size; omega) (fun b e => (own_ge HBF.out b e).1)
      refine ⟨_, rfl, ?_, below_tr (below_on HF1.out.below I.out.below) (below_less hbw (by have := HF1.out.below.size; omega))⟩
      rw [hjb]
      exact own_base HBE.out (by have := HF1.out.below.size; omega)
#print axioms rjbytes_any
end Go.Proofs.YtcbmimjjpkkoeaaGreatDoor

/- The document's data: what is read, step by step; bytes beside a record's block. -/
namespace Go.Proofs.YtcbmimjjpkkoeaaGreatDoor
open Go Go.RowKit

theorem rdN_less : ∀ {n : Nat} {b xs c : List Nat}, (∀ x ∈ b, x < 256) → rdN n b = some (xs, c) → c.length ≤ b.length ∧ (∀ z ∈ c, z < 256)
  | 0, b, xs, c, h8, h => by simp [rdN] at h; rw [← h.2]; exact ⟨Nat.le_refl _, h8⟩
  | n + 1, b, xs, c, h8, h => by
    rw [rdN] at h
    cases h1 : rdU b with
    | none => rw [h1] at h; cases h
    | some q =>
      rw [h1] at h
      simp only [Option.bind_some] at h
      cases h2 : rdN n q.2 with
      | none => rw [h2] at h; cases h
      | some r =>
        rw [h2] at h
        simp at h
        obtain ⟨k1, k2, _⟩ := rdU_less h8 (n := q.1) (r := q.2) h1
        obtain ⟨k3, k4⟩ := rdN_less k2 (xs := r.1) (c := r.2) h2
        rw [← h.2]
        exact ⟨Nat.le_trans k3 k1, k4⟩
/-- What stands of a record that is no mark, as the document reads it. -/
def chD (id : List Nat) (t : Nat) (b : List Nat) : Option (Rc × List Nat) :=
  (rdU b).bind fun q1 => (rdT q1.2).bind fun q2 => (rdN 2 q2.2).bind fun q3 => (rdT q3.2).bind fun q4 => if q4.2.length < 32 then none else
    (rdU (q4.2.drop 32)).bind fun q5 => if 32 < q5.1 then none else (rdN (2 * q5.1) q5.2).bind fun q6 => (rdT q6.2).map fun q7 =>
      (⟨id, t, false, q1.1, q2.1, (q3.1.getD 0 0 : Nat), (q3.1.getD 1 0 : Nat), q4.1, q4.2.take 32, pairs q6.1, q7.1⟩, q7.2)
theorem rdD_ch (id : List Nat) (t : Nat) (b : List Nat) : rdD id t b = chD id t b := by
  unfold rdD chD
  cases h1 : rdU b with
  | none => rfl
  | some q1 =>
  obtain ⟨a1, L1⟩ := q1
  simp only [Option.bind_eq_bind, Option.bind_some]
  cases h2 : rdT L1 with
  | none => rfl
  | some q2 =>
  obtain ⟨a2, L2⟩ := q2
  simp only [Option.bind_some]
  rw [show rdN 2 L2 = (rdU L2).bind fun q => (rdN 1 q.2).map fun r => (q.1 :: r.1, r.2) from rfl]
  cases h3 : rdU L2 with
  | none => rfl
  | some q3 =>
  obtain ⟨a3, L3⟩ := q3
  simp only [Option.bind_some]
  rw [show rdN 1 L3 = (rdU L3).bind fun q => (rdN 0 q.2).map fun r => (q.1 :: r.1, r.2) from rfl]
  cases h4 : rdU L3 with
  | none => rfl
  | some q4 =>
  obtain ⟨a4, L4⟩ := q4
  simp only [Option.bind_some, rdN, Option.map_some]
  cases h5 : rdT L4 with
  | none => rfl
  | some q5 =>
  obtain ⟨a5, L5⟩ := q5
  simp only [Option.bind_some]
  by_cases hl : L5.length < 32
  · rw [if_pos hl, if_pos hl]
  rw [if_neg hl, if_neg hl]
  cases h6 : rdU (L5.drop 32) with
  | none => rfl
  | some q6 =>
  obtain ⟨n, L6⟩ := q6
  simp only [Option.bind_some]
  by_cases hn : 32 < n
  · rw [if_pos hn, if_pos hn]
  rw [if_neg hn, if_neg hn, rdPs_rdN]
  cases h7 : rdN (2 * n) L6 with
  | none => rfl
  | some q7 =>
  obtain ⟨ps, L7⟩ := q7
  simp only [Option.bind_some, Option.map_some]
  cases h8 : rdT L7 with
  | none => rfl
  | some q8 => rfl
section
variable {po : Option Addr} {w w' : World} {v : Value} {d : List Nat} (h : SLn po w v d) (hl : d.length ≤ 100000) (h8 : ∀ x ∈ d, x < 256)
include h
theorem SLn.off {g : Nat} (hP : ∀ a, po = some a → a.block ≠ g) (ho : Only (fun b => b = g) w w') : SLn po w' v d := by
  obtain ⟨⟨p, c, rfl, hb, hc⟩, hn⟩ := h
  refine ⟨⟨p, c, rfl, hb.onlyAt ho (fun hne a ha e => ?_), hc⟩, hn⟩
  obtain ⟨a', h1, h2⟩ := hn a _ _ (by rw [ha])
  exact hP a' h1 (h2 ▸ e)
include hl h8
theorem SLn.uint : Calls Tryz.prog 74 #[v] w (RuN po w (rdU d)) := by
  obtain ⟨⟨p, c, rfl, hb, hc⟩, hn⟩ := h
  refine (rReadUint_near p c d w hb hc hl h8).mono ?_
  rintro e w' ⟨hb', hm⟩
  refine ⟨hb', ?_⟩
  cases hq : rdU d with
  | none => rw [hq] at hm; exact hm
  | some q =>
    obtain ⟨n, r⟩ := q
    rw [hq] at hm
    obtain ⟨v', e1, e2⟩ := hm
    exact ⟨v', e1, e2.via fun a' ea => hn a' _ _ (by rw [ea])⟩
theorem SLn.text : Calls Tryz.prog 96 #[v] w (RtN po w (rdT d)) := by
  obtain ⟨⟨p, c, rfl, hb, hc⟩, hn⟩ := h
  refine (rReadText_near p c d w hb hc hl h8).mono ?_
  rintro e w' ⟨hb', hm⟩
  refine ⟨hb', ?_⟩
  cases hq : rdT d with
  | none => rw [hq] at hm; exact hm
  | some q =>
    obtain ⟨x, r⟩ := q
    rw [hq] at hm
    obtain ⟨t, v', e1, e2, e3⟩ := hm
    exact ⟨t, v', e1, e2, e3.via fun a' ea => hn a' _ _ (by rw [ea])⟩
theorem SLn.nums (n : Nat) (hn2 : n ≤ 1000) : Calls Tryz.prog 107 #[v, i64 n] w (NuS po w (rdN n d)) := by
  obtain ⟨⟨p, c, rfl, hb, hc⟩, hn⟩ := h
  refine (rnum_any p c d w hb hc hl h8 n hn2).mono ?_
  rintro e w' ⟨hb', hm⟩
  refine ⟨hb', ?_⟩
  cases hq : rdN n d with
  | none => rw [hq] at hm; exact hm
  | some q =>
    obtain ⟨xs, r⟩ := q
    rw [hq] at hm
    obtain ⟨v', u, e1, e2, e3⟩ := hm
    exact ⟨v', u, e1, e2, e3.via fun a' ea => hn a' _ _ (by rw [ea])⟩
end
/-- A record's block; of what was there nothing else has turned. -/
structure DB (w0 : World) (g : Nat) (r : Rv) (w : World) : Prop where
  ok : r.ok
  rb : RBox w g r
  only : Only (fun b => b = g) w0 w
section
variable {w0 w w' : World} {g : Nat} {r r' : Rv} (h : DB w0 g r w)
include h
theorem DB.below (hb : Below w.heap.size w w') : DB w0 g r w' := ⟨h.ok, h.rb.below h.ok hb, h.only.trans (Only.of_below hb)⟩
theorem DB.turn (hr : RBox w' g r') (hk : r'.ok) (ho : Only (fun b => b = g) w w') : DB w0 g r' w' := ⟨hk, hr, h.only.trans ho⟩
theorem DB.grow {S : Nat → Prop} (ho : Only S w w') (hS : ∀ i, S i → g ≠ i ∧ w0.heap.size ≤ i) : DB w0 g r w' := ⟨h.ok, h.rb.only h.ok ho (fun e => (hS g e).1 rfl), h.only.then ho (fun i hi e => by have := (hS i e).2; omega)⟩
theorem DB.set3 (n : Int) : DB w0 g { r with size := n } (w.setCell ⟨g, 3, none⟩ (i64 n)) := h.turn (h.rb.set3 h.ok n) ⟨h.ok.sl, h.ok.s8, h.ok.i, h.ok.e, h.ok.d, h.ok.u⟩ (Only.set w _ _ rfl)
theorem DB.set4 (t : ByteArray) (ht : t.size ≤ 65536) : DB w0 g { r with etag := t } (w.setCell ⟨g, 4, none⟩ (.string t)) := h.turn (h.rb.set4 h.ok t (by omega)) ⟨h.ok.sl, h.ok.s8, h.ok.i, by show t.size ≤ _; omega, h.ok.d, h.ok.u⟩ (Only.set w _ _ rfl)
theorem DB.set5 (n : Int) : DB w0 g { r with k := n } (w.setCell ⟨g, 5, none⟩ (i64 n)) := h.turn (h.rb.set5 h.ok n) ⟨h.ok.sl, h.ok.s8, h.ok.i, h.ok.e, h.ok.d, h.ok.u⟩ (Only.set w _ _ rfl)
theorem DB.set6 (n : Int) : DB w0 g { r with m := n } (w.setCell ⟨g, 6, none⟩ (i64 n)) := h.turn (h.rb.set6 h.ok n) ⟨h.ok.sl, h.ok.s8, h.ok.i, h.ok.e, h.ok.d, h.ok.u⟩ (Only.set w _ _ rfl)
theorem DB.set7 (t : ByteArray) (ht : t.size ≤ 65536) : DB w0 g { r with data := t } (w.setCell ⟨g, 7, none⟩ (.string t)) := h.turn (h.rb.set7 h.ok t (by omega)) ⟨h.ok.sl, h.ok.s8, h.ok.i, h.ok.e, by show t.size ≤ _; omega, h.ok.u⟩ (Only.set w _ _ rfl)
theorem DB.set40 (v : Value) : DB w0 g { r with pv := v } (w.setCell ⟨g, 40, none⟩ v) := h.turn (h.rb.set40 h.ok v) ⟨h.ok.sl, h.ok.s8, h.ok.i, h.ok.e, h.ok.d, h.ok.u⟩ (Only.set w _ _ rfl)
theorem DB.set41 (t : ByteArray) (ht : t.size ≤ 65536) : DB w0 g { r with up := t } (w.setCell ⟨g, 41, none⟩ (.string t)) := h.turn (h.rb.set41 h.ok t (by omega)) ⟨h.ok.sl, h.ok.s8, h.ok.i, h.ok.e, h.ok.d, by show t.size ≤ _; omega⟩ (Only.set w _ _ rfl)
/-- copy(r.Sum[:], b[:32]) -/
theorem DB.copy {po : Option Addr} {x : List Nat} (hb : BL w po x) (hx : x.length = 32) (h8 : ∀ z ∈ x, z < 256) (c : Nat) (ty : TypeId) :
    (Builtin.copy_ #[25, 25] ty #[.slice (some ⟨g, 8, none⟩) 32 32, .slice po 32 c]).run Tryz.prog w = .ok (goInt 32) (w.setCells g 8 (x.map u8)) ∧ DB w0 g { r with sum := x } (w.setCells g 8 (x.map u8)) := by
  refine ⟨?_, h.turn (h.rb.setSum h.ok x hx h8) ⟨hx, h8, h.ok.i, h.ok.e, h.ok.d, h.ok.u⟩ (only_setCells _ _ _ _ rfl)⟩
  rcases hb with rfl | ⟨b, o, rfl, hb⟩
  · simp at hx
  have := run_copy_cells (P := Tryz.prog) w 25 25 ty 5 g 8 32 32 ⟨b, o, none⟩ 32 c (x.map u8) Tryz.underlying25 (by kernel_rfl) (by simp [hx])
    (fun j v hj => by
      have hjn : j < x.length := by
        rcases Nat.lt_or_ge j x.length with q | q
        · exact q
        · rw [List.getElem?_eq_none (by simpa using q)] at hj; cases hj
      rw [add_none, hb j hjn]
      simp [hjn] at hj
      rw [← hj]; simp [List.getD, hjn])
    (fun j hj => by
      have hj' : j < 32 := by simpa [hx] using hj
      rw [h.rb.cs j _ (sumC_get (by rw [h.ok.sl]; exact hj'))]; rfl)
    (fun j _ => h.rb.free _)
    (fun v hv => by obtain ⟨i, _, rfl⟩ := List.mem_map.1 hv; rfl)
  simp only [List.length_map, hx] at this
  exact this
end
theorem txt_size {t : ByteArray} {b s r : List Nat} (h8 : ∀ x ∈ b, x < 256) (h : rdT b = some (s, r)) (e : lst t = s) : t.size ≤ 65536 := by
  rw [← lst_len, e]; exact (rdT_some h8 h).2
/-- The cells of a row of ints. -/
theorem IBuf.open_ {B : Nat} {w : World} {v : Value} {xs : List Nat} (h : IBuf B w v xs) (hne : xs ≠ []) : ∃ gi c, v = .slice (some ⟨gi, 0, none⟩) xs.length c ∧ xs.length ≤ c ∧ B ≤ gi ∧ gi < w.heap.size ∧ ∀ i, i < xs.length → w.cell? ⟨gi, i, none⟩ = some (i64 ((xs.getD i 0 : Nat) : Int)) := by
  rcases h.2 with ⟨_, h0⟩ | ⟨g, cap, cur, rfl, hB, hg, h1, _, h3, h4⟩
  · exact absurd (List.eq_nil_of_length_eq_zero h0) hne
  · have hc : CAt w g cur 3 := hg
    refine ⟨g, cap, rfl, h1, hB, hc.lt, fun i hi => ?_⟩
    have := congrArg (fun l => l[i]?) h4
    simp [hi] at this
    rw [hc.cell, this]
    simp [List.getD, hi]
theorem pairs_take : ∀ (xs : List Nat) (k : Nat), 2 * k + 1 < xs.length → pairs (xs.take (2 * (k + 1))) = pairs (xs.take (2 * k)) ++ [(((xs.getD (2 * k) 0 : Nat) : Int), ((xs.getD (2 * k + 1) 0 : Nat) : Int))]
  | a :: b :: r, 0, _ => by simp [pairs]
  | a :: b :: r, k + 1, h => by
    have ih := pairs_take r k (by simp at h; omega)
    rw [show 2 * (k + 1 + 1) = 2 * (k + 1) + 1 + 1 by omega, show 2 * (k + 1) = 2 * k + 1 + 1 by omega] at *
    simp only [List.take_succ_cons, pairs, ih, List.cons_append, List.getD_cons_succ]
  | [a], k, h => by simp at h
  | [], k, h => by simp at h
theorem pairs_len : ∀ (n : Nat) (xs : List Nat), xs.length = 2 * n → (pairs xs).length = n
  | 0, xs, h => by have : xs = [] := List.eq_nil_of_length_eq_zero (by omega); subst this; rfl
  | n + 1, xs, h => by
    match xs, h with
    | a :: b :: r, h => simp only [pairs, List.length_cons, pairs_len n r (by simp at h; omega)]
    | [a], h => simp at h; omega
    | [], h => simp at h
#print axioms rdD_ch
#print axioms DB.copy
#print axioms pairs_take
end Go.Proofs.YtcbmimjjpkkoeaaGreatDoor
