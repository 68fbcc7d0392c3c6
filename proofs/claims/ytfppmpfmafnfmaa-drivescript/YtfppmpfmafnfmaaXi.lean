/- Texts laid into one: the remark ahead of each part says what is proved there. -/
import Derived.Test.YtfppmpfmafnfmaaXh
/- Contract of told of the statements. (Written by tools/gen_Ku.py.) -/
namespace Go.Proofs.Ytfppmpfmafnfmaa
open Go Go.RowKit

theorem over_row2 {w : World} {B n : Nat} {v : Value} {xs : List Value} (h : w.ownsRow B 5 1 v n xs) (hq : AllQ Q8 5 w v) : Calls Try.prog 47 #[v] w fun e w' => e = .returned (.tuple #[]) ∧ Only (fun b => v.ownBlock = some b) w w' := by
  rcases cells_of h hq with rfl | ⟨g, c, rfl, hB, hm, hc⟩
  · exact (over2_nil w).mono fun e w' ⟨h1, h2⟩ => ⟨h1, by rw [h2]; exact Only.refl _ _⟩
  · exact (over2_any g n c w hm hc).mono fun e w' ⟨h1, h2⟩ => ⟨h1, h2.mono fun b (e : b = g) => (by rw [e]; rfl)⟩
theorem overT_row2 {w : World} {B : Nat} {v : Value} {ns : List Nm} (h : TxtS B w v ns) : Calls Try.prog 58 #[v] w fun e w' => e = .returned (.tuple #[]) ∧ Only (fun b => v.ownBlock = some b) w w' := by
  rcases cells_of h.t h.q with rfl | ⟨g, c, rfl, hB, hm, hc⟩
  · exact (overT_nil w).mono fun e w' ⟨h1, h2⟩ => ⟨h1, by rw [h2]; exact Only.refl _ _⟩
  · exact (overT_any g ns.length c w hm hc).mono fun e w' ⟨h1, h2⟩ => ⟨h1, h2.mono fun b (e : b = g) => (by rw [e]; rfl)⟩
theorem Row8.below {w w' : World} {v : Value} {bs : List Nat} (h : Row8 w v bs) (hb : Below w.heap.size w w') : Row8 w' v bs := by
  obtain ⟨B, h⟩ := h; exact ⟨B, ownsRow_keep h fun b hb' => hb.block b (own_ge h b hb').2⟩
theorem rowQ_below {w w' : World} {B n : Nat} {v : Value} {xs : List Value} {Q : Value → Prop} (h : w.ownsRow B 5 1 v n xs ∧ AllQ Q 5 w v) (hb : Below w.heap.size w w') : w'.ownsRow B 5 1 v n xs ∧ AllQ Q 5 w' v :=
  ⟨ownsRow_keep h.1 fun b hb' => hb.block b (own_ge h.1 b hb').2, h.2.keep fun b hb' => hb.block b (own_ge h.1 b hb').2⟩
theorem first2 {w w' : World} {j : Nat} (h : Below (w.drewN j).heap.size (w.drewN j) w') : Below w.heap.size w w' := below_on _ _ (below_drewN w j) h
set_option maxHeartbeats 8000000 in
set_option maxRecDepth 100000 in
theorem told_any {w wr : World} {a b a' b' : Dl} {Z ZR : Nat → Nat × Bool} {T : Nat → Prop} (h : JB w wr a b a' b' Z ZR T) (hr : Rel a b a' b' Z ZR) {n : Nat} (hf : a.d.few n) (hn : n ≤ 1000) (s : Nm) (hs : s.length ≤ 600) :
    Calls Try.prog 17 #[.agg #[ptr a.p, ptr a'.p], sv s] wr fun e w' => e = .returned (.bool true) ∧ Below wr.heap.size wr w' := by
  have hfine := h.fine
  have hsm : s.length ≤ maxLen := by unfold maxLen; omega
  have hl := hf.len
  have hda := hr.da
  have hfa := hr.fa
  have HR1 : Hid (∀ W, JB w W a b a' b' Z ZR T → Calls Try.prog 21 #[ptr a.p, sv s] W (ReadS W (a.d.readE (a.fu.map Z) s) (a.d.readB (a.fu.map Z) s))) := hid fun W hW => hW.look fun _ _ _ hd hff => read2_any hd hff s hsm
  have HR2 : Hid (∀ W, JB w W a b a' b' Z ZR T → Calls Try.prog 51 #[ptr a'.p, sv s] W (ReadAt W (a.d.readE (a.fu.map Z) s) (a.d.readB (a.fu.map Z) s))) := hid fun W hW => hW.rlook fun _ _ _ hd hff => by
    have := rread_any hd hff s hsm (by rw [hd.lenF, hda]; omega) (hd.lens (by rw [hda]; exact hfine))
    rw [hda, hfa] at this; exact this
  have HL1 : Hid (∀ W, JB w W a b a' b' Z ZR T → Calls Try.prog 22 #[ptr a.p, sv []] W (ListS W (a.d.ans (a.fu.map Z) []) (a.d.list (a.fu.map Z) []))) := hid fun W hW => hW.look fun _ _ _ hd hff => list2_any hd hff [] (by omega)
  have HL2 : Hid (∀ W, JB w W a b a' b' Z ZR T → Calls Try.prog 52 #[ptr a'.p, sv []] W (ListAt W (a.d.ans (a.fu.map Z) []) (a.d.list (a.fu.map Z) []))) := hid fun W hW => hW.rlook fun _ _ _ hd hff => by
    have := rlist_any hd hff [] (by rw [hd.lenF, hda]; omega)
    rw [hda, hfa] at this; exact this
  have HU1 : Hid (∀ W, JB w W a b a' b' Z ZR T → Calls Try.prog 31 #[ptr a.p] W fun e w' => e = .returned (.int .i64 (usedOf a.d.F : Int)) ∧ w' = W) := hid fun W hW => hW.look fun _ _ _ hd _ => used_any hd
  have HU2 : Hid (∀ W, JB w W a b a' b' Z ZR T → Calls Try.prog 55 #[ptr a'.p] W fun e w' => e = .returned (.int .i64 (usedOf a.d.F : Int)) ∧ w' = W) := hid fun W hW => hW.rlook fun _ _ _ hd _ => by
    have := rused_any hd (by rw [hd.lenF, hda]; omega) (by rw [hda]; have := hfine.us; have := hfine.sz; omega)
    rw [hda] at this; exact this
  have HO1 : Hid (∀ W, JB w W a b a' b' Z ZR T → Calls Try.prog 32 #[ptr a.p] W (NamesAt W a.d.loose)) := hid fun W hW => hW.look fun _ _ _ hd _ => loose_any hd (by omega)
  have HO2 : Hid (∀ W, JB w W a b a' b' Z ZR T → Calls Try.prog 56 #[ptr a'.p] W (NamesAt W a.d.loose)) := hid fun W hW => hW.rlook fun _ _ _ hd _ => by
    have := rloose_any hd (by rw [hd.lenF, hda]; omega)
    rw [hda] at this; exact this
  have HP1 : Hid (∀ W, JB w W a b a' b' Z ZR T → Calls Try.prog 33 #[ptr a.p] W fun e w' => e = .returned (.int .i64 (a.d.ops : Int)) ∧ w' = W) := hid fun W hW => hW.look fun _ _ _ hd _ => ops_any hd
  have HV1 : Hid (∀ W, JB w W a b a' b' Z ZR T → Calls Try.prog 34 #[ptr a.p] W fun e w' => e = .returned (.bool (a.d.up (a.fu.map Z))) ∧ w' = W) := hid fun W hW => hW.look fun _ _ _ hd hff => up_any hd hff
  have HV2 : Hid (∀ W, JB w W a b a' b' Z ZR T → Calls Try.prog 57 #[ptr a'.p] W fun e w' => e = .returned (.bool (a.d.up (a.fu.map Z))) ∧ w' = W) := hid fun W hW => hW.rlook fun _ _ _ hd hff => by
    have := rup_any hd hff
    rw [hda, hfa] at this; exact this
  have HC6 : Hid (∀ W, JB w W a b a' b' Z ZR T → W.cell? ⟨a'.p, 6, none⟩ = some (.int .i64 (a.d.ops : Int))) := hid fun W hW => by
    obtain ⟨_, _, ⟨_, _, hd⟩, _⟩ := hW.rd
    have : W.cell? ⟨a'.p, 6, none⟩ = some (.int .i64 (a'.d.ops : Int)) := hd.c.cell 6
    rw [hda] at this; exact this
  have hnl : (a.d.list (a.fu.map Z) []).length ≤ 1000000 := by
    unfold Pd.list namesOf; split
    · rw [List.length_map]; exact Nat.le_trans (List.length_filter_le _ _) (by omega)
    · simp
  have hol : a.d.loose.length ≤ 1000000 := by unfold Pd.loose namesOf; rw [List.length_map]; exact Nat.le_trans (List.length_filter_le _ _) (by omega)
  have HNL := hid hnl
  have HOL := hid hol
  have HJ0 := hid (h.alloc (.cells #[ptr a.p, ptr a'.p] 31))
  have HBX := hid (CAt.made wr #[ptr a.p, ptr a'.p] 31)
  clear hnl hol h hr hf hfine hl hsm
  generalize a.d.readE (a.fu.map Z) s = er at *
  generalize a.d.readB (a.fu.map Z) s = bs at *
  generalize a.d.ans (a.fu.map Z) [] = el at *
  generalize a.d.list (a.fu.map Z) [] = ns at *
  generalize usedOf a.d.F = us at *
  generalize a.d.loose = ls at *
  generalize a.d.up (a.fu.map Z) = up at *
  generalize a.d.ops = ops at *
  clear hda hfa
  have HS := fun (W : World) (hb : Below (wr.alloc (.cells #[ptr a.p, ptr a'.p] 31)).heap.size (wr.alloc (.cells #[ptr a.p, ptr a'.p] 31)) W) => (show W.cell? ⟨wr.heap.size, 0, none⟩ = some (ptr a.p) ∧ W.cell? ⟨wr.heap.size, 1, none⟩ = some (ptr a'.p) ∧ W.cell? ⟨a'.p, 6, none⟩ = some (.int .i64 (ops : Int)) from ⟨(HBX.out.below hb).cell 0, (HBX.out.below hb).cell 1, HC6.out W (HJ0.out.below hb)⟩)
  have HSH := hid HS
  clear HS
  generalize a.p = pa at *
  generalize a'.p = qa at *
  go_enter Try.func17, Try.ntmps17
  go_wp2_with (first
    | (go_at_call 21; refine (HR1.out _ HJ0.out).mono ?_; rintro e w1 ⟨po1, c1, rfl, ho1, hq1, hb1⟩; have HJ := hid (HJ0.out.below hb1); have HB := hid hb1; have HROW := hid (And.intro ho1 hq1); have HBL := hid (fun b hb => (own_ge ho1 b hb).2); have hs1 := HSH.out w1 hb1; obtain ⟨x0, x1, x6⟩ := hs1; have hz1 := hb1.size; clear ho1 hq1 hb1)
    | (go_at_call 51; refine (HR2.out _ HJ.out).mono ?_; rintro e w2 ⟨po2, c2, rfl, ho2, hb2⟩; have HJ := hid (HJ.out.below hb2); have HB := hid (below_on _ _ HB.out hb2); have HRC : Hid (Row8 w2 _ bs) := hid ⟨_, ho2⟩; have HRB : Hid (Row8 w2 _ bs) := hid (Row8.below ⟨_, HROW.out.1⟩ hb2); have HROW := hid (rowQ_below HROW.out hb2); have hs2 := HSH.out w2 HB.out; obtain ⟨x0, x1, x6⟩ := hs2; have hz2 := hb2.size; clear ho2 hb2)
    | (go_at_call 22; refine (HL1.out _ HJ.out).mono ?_; rintro e w3 ⟨po3, c3, rfl, ht3, hb3⟩; have HJ := hid (HJ.out.below hb3); have HB := hid (below_on _ _ HB.out hb3); have HTX := hid ht3; have HRC := hid (HRC.out.below hb3); have HRB := hid (HRB.out.below hb3); have HROW := hid (rowQ_below HROW.out hb3); have hs3 := HSH.out w3 HB.out; obtain ⟨x0, x1, x6⟩ := hs3; have hz3 := hb3.size; clear ht3 hb3)
    | (go_at_call 52; refine (HL2.out _ HJ.out).mono ?_; rintro e w4 ⟨po4, c4, rfl, ht4, hb4⟩; have HJ := hid (HJ.out.below hb4); have HB := hid (below_on _ _ HB.out hb4); have HTM := hid ht4; have HTX := hid (HTX.out.below hb4); have HRC := hid (HRC.out.below hb4); have HRB := hid (HRB.out.below hb4); have HROW := hid (rowQ_below HROW.out hb4); have HC := hid (HSH.out w4 HB.out); have hz4 := hb4.size; clear ht4 hb4 x0 x1 x6))
  have t1 : True := trivial
  go_region_held3 (fun w' => w'.cell? ⟨wr.heap.size, 0, none⟩ = some (ptr pa) ∧ w'.cell? ⟨wr.heap.size, 1, none⟩ = some (ptr qa) ∧ w'.cell? ⟨qa, 6, none⟩ = some (.int .i64 (ops : Int))) (exact HC.out) (first
    | (go_at_call 38; (first | refine (sameBytes_true (HRB.out.below (below_drewN _ _)) (HRC.out.below (below_drewN _ _))).mono ?_ | refine (sameBytes_true (HRB.out.below (Below.refl _ _)) (HRC.out.below (Below.refl _ _))).mono ?_); rintro e w' ⟨rfl, hw'⟩; have hw2 := hw'.symm; subst hw2)
    | (go_at_call 39; have _t := t1; (first | refine (sameTexts_true _ _ ns _ (Nat.le_trans HNL.out (by omega)) (HTX.out.t.at.below (below_drewN _ _)) (HTM.out.at.below (below_drewN _ _))).mono ?_ | refine (sameTexts_true _ _ ns _ (Nat.le_trans HNL.out (by omega)) (HTX.out.t.at.below (Below.refl _ _)) (HTM.out.at.below (Below.refl _ _))).mono ?_); rintro e w5 ⟨rfl, k5, hw5⟩; have hb5 : Below w4.heap.size w4 w5 := (by rw [hw5]; first | exact below_on _ _ (below_drewN _ _) (below_drewN _ _) | exact below_drewN _ _); have HJ := hid (HJ.out.below hb5); have HB := hid (below_on _ _ HB.out hb5); have HTX := hid (HTX.out.below hb5); have HROW := hid (rowQ_below HROW.out hb5); have HC := hid (HSH.out w5 HB.out); have hz5 := hb5.size; clear hb5 hw5; clear t1)
    | (go_at_call 31; (first | refine (HU1.out _ (HJ.out.below (below_drewN _ _))).mono ?_ | refine (HU1.out _ HJ.out).mono ?_); rintro e w' ⟨rfl, hw'⟩; have hw2 := hw'.symm; subst hw2)
    | (go_at_call 55; (first | refine (HU2.out _ (HJ.out.below (below_drewN _ _))).mono ?_ | refine (HU2.out _ HJ.out).mono ?_); rintro e w' ⟨rfl, hw'⟩; have hw2 := hw'.symm; subst hw2)
    | (go_at_call 32; (first | refine (HO1.out _ (HJ.out.below (below_drewN _ _))).mono ?_ | refine (HO1.out _ HJ.out).mono ?_); rintro e w6 ⟨po6, c6, rfl, ht6, hb6⟩; have hb5 : Below w5.heap.size w5 w6 := (by first | exact hb6 | exact first2 hb6); have HJ := hid (HJ.out.below hb5); have HB := hid (below_on _ _ HB.out hb5); have HTX := hid (HTX.out.below hb5); have HROW := hid (rowQ_below HROW.out hb5); have HTL := hid ht6; have HC := hid (HSH.out w6 HB.out); have hz6 := hb5.size; clear hb5 hb6 ht6)
    | (go_at_call 56; (first | refine (HO2.out _ (HJ.out.below (below_drewN _ _))).mono ?_ | refine (HO2.out _ HJ.out).mono ?_); rintro e w7 ⟨po7, c7, rfl, ht7, hb7⟩; have hb5 : Below w6.heap.size w6 w7 := (by first | exact hb7 | exact first2 hb7); have HJ := hid (HJ.out.below hb5); have HB := hid (below_on _ _ HB.out hb5); have HTX := hid (HTX.out.below hb5); have HROW := hid (rowQ_below HROW.out hb5); have HTL := hid (HTL.out.below hb5); have HTK := hid ht7; have HC := hid (HSH.out w7 HB.out); have hz7 := hb5.size; clear hb5 hb7 ht7)
    | (go_at_call 39; (first | refine (sameTexts_true _ _ ls _ (Nat.le_trans HOL.out (by omega)) (HTL.out.at.below (below_drewN _ _)) (HTK.out.at.below (below_drewN _ _))).mono ?_ | refine (sameTexts_true _ _ ls _ (Nat.le_trans HOL.out (by omega)) (HTL.out.at.below (Below.refl _ _)) (HTK.out.at.below (Below.refl _ _))).mono ?_); rintro e w8 ⟨rfl, k8, hw8⟩; have hb5 : Below w7.heap.size w7 w8 := (by rw [hw8]; first | exact below_on _ _ (below_drewN _ _) (below_drewN _ _) | exact below_drewN _ _); have HJ := hid (HJ.out.below hb5); have HB := hid (below_on _ _ HB.out hb5); have HTX := hid (HTX.out.below hb5); have HROW := hid (rowQ_below HROW.out hb5); have HC := hid (HSH.out w8 HB.out); have hz8 := hb5.size; clear hb5 hw8)
    | (go_at_call 33; (first | refine (HP1.out _ (HJ.out.below (below_drewN _ _))).mono ?_ | refine (HP1.out _ HJ.out).mono ?_); rintro e w' ⟨rfl, hw'⟩; have hw2 := hw'.symm; subst hw2)
    | (go_at_call 34; (first | refine (HV1.out _ (HJ.out.below (below_drewN _ _))).mono ?_ | refine (HV1.out _ HJ.out).mono ?_); rintro e w' ⟨rfl, hw'⟩; have hw2 := hw'.symm; subst hw2)
    | (go_at_call 57; (first | refine (HV2.out _ (HJ.out.below (below_drewN _ _))).mono ?_ | refine (HV2.out _ HJ.out).mono ?_); rintro e w' ⟨rfl, hw'⟩; have hw2 := hw'.symm; subst hw2))
  go_wp2_with (first
    | (go_at_call 47; refine (over_row2 HROW.out.1 HROW.out.2).mono ?_; rintro e w9 ⟨rfl, ho9⟩
       have HO9 := hid (ho9.below (B := wr.heap.size) (Nat.le_trans (by rw [size_al]; omega) HB.out.size) (fun b hb => Nat.le_trans (by rw [size_al]; omega) (own_ge HROW.out.1 b hb).1))
       have HT9 := hid (HTX.out.keep (w' := w9) (fun b hb => ho9.block b (own_ge HTX.out.t b hb).2 (fun e => by have h1 := HBL.out b e; have h2 := (own_ge HTX.out.t b hb).1; omega)))
       clear ho9)
    | (go_at_call 58; refine (overT_row2 HT9.out).mono ?_; rintro e w10 ⟨rfl, ho10⟩
       have HO10 := hid (ho10.below (B := wr.heap.size) (Nat.le_trans (Nat.le_trans (Nat.le_succ _) (by rw [size_al] at hz1; omega)) HO9.out.size) (fun b hb => by have h2 := (own_ge HT9.out.t b hb).1; rw [size_al] at hz1; omega))
       clear ho10))
  go_ret
  exact ⟨rfl, ((below_on _ _ ((Below.refl _ _).alloc (Nat.le_refl _) _) HB.out).trans HO9.out).trans HO10.out⟩
#print axioms told_any
end Go.Proofs.Ytfppmpfmafnfmaa
