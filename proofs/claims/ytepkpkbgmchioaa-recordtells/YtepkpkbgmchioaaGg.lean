/- Texts laid into one: the remark ahead of each part says what is proved there. -/
import Derived.Test.YtepkpkbgmchioaaGb
import Derived.Test.YtepkpkbgmchioaaGf
/- The walk of RecordNumbers, some cases. (Written by tools/gen_Vj.py.) -/
namespace Go.Proofs.Ytepkpkbgmchioaa
open Go Go.RowKit
section
variable (s : ByteArray) (a : Option Addr) (cap : Nat) (bs : List Nat) (w : World)
set_option maxRecDepth 100000 in
set_option maxHeartbeats 2000000 in
theorem num0111 (n : Int) (hn : n < 0 ∨ 1099511627776 < n) (hs : s.size ≤ 65536) (m : Nat) (r : List Nat) (hq : rdU bs = some (m, r)) (x r2 : List Nat) (hx : rdT bs = some (x, r2)) (h : BL w a bs) (hcap : bs.length ≤ cap) (hbs : bs.length ≤ 70000) (h8 : ∀ z ∈ bs, z < 256) :
    Calls Try.prog 3 #[i64 n, .string s, .slice a bs.length cap] w fun e w' => e = .returned (.bool true) ∧ Below w.heap.size w w' := by
  have HA := hid h
  have H8 := hid h8
  have HW := hid (Below.refl w.heap.size w)
  have HAB : Hid (bs ≠ [] → ∀ b, a = some b → b.block < w.heap.size) := fun hne b hb => by
    rcases h with e | ⟨b', o', e, hc⟩
    · exact absurd e hne
    · rw [e] at hb; cases hb
      exact cell_lt' (a := ⟨b', o' + 0, none⟩) (by rw [hc 0 (List.length_pos_iff.2 hne)]; simp)
  have HQ := hid hq
  have HT := hid hx
  have HQL := hid (rdU_less h8 hq)
  have HTL := hid (rdT_less h8 hx)
  clear h h8 hq hx
  have hs2 : ¬ 66000 < (s.size : Int) := by omega
  have hb2 : ¬ 70000 < (bs.length : Int) := by omega
  have hs3 : (s.size : Int) ≤ 65536 := by omega
  have hneg : n < 0 ∨ ¬ n < 0 := by omega
  rcases hneg with hneg | hneg
  · go_enter Try.func3, Try.ntmps3
    go_wp2_with (first
      | (go_at_call 9; refine (uint_bad n _ hn).mono ?_; rintro e w0 ⟨rfl, hw0⟩; have hw9 := hw0.symm; subst hw9)
      | (go_at_call 10; refine (text_ok s _ hs).mono ?_; rintro e w2 ⟨x2, rfl, ho, hb⟩; replace HA := hid (HA.out.below hb); replace HW := hid (below_on HW.out hb); have HY := hid ho.sl; clear ho hb)
      | (go_at_call 13; refine (rText_any s _ hs).mono ?_; rintro e w4 ⟨x4, rfl, ho, hb⟩; replace HA := hid (HA.out.below hb); replace HW := hid (below_on HW.out hb); replace HY := hid (HY.out.below hb); have HY2 := hid ho.sl; clear ho hb)
      | (go_at_call 11; with_reducible refine (sameB_true HY.out HY2.out (tb_lt s)).mono ?_; rintro e w0 ⟨rfl, hw0⟩; have hw9 := hw0.symm; subst hw9)
      | (go_at_call 14; refine (lentB_any a cap bs _ hbs HA.out).mono ?_; rintro e w5 ⟨rfl, hl, hb⟩; have HLT := hid hl.lt; replace HA := hid (HA.out.below hb); replace HW := hid (below_on HW.out hb); have HL := hid hl; clear hl hb)
      | (go_at_call 15; have HS6 := hid HW.out.size; have HLB := hid HL.out.lt; refine (readUint_ok _ _ bs _ HL.out.bl (by omega) (by omega) H8.out HQ.out).mono ?_; rintro e w6 ⟨x6, rfl, ho, hb⟩; replace HA := hid (HA.out.below hb); replace HW := hid (below_on HW.out hb); replace HL := hid (HL.out.below hb); have HR := hid ho;  clear ho hb)
      | (go_at_call 16; have HD := hid (fun b hb => (HR.out.blk b hb).2); have HS7 := hid HW.out.size; have HLB2 := hid HL.out.lt; refine (readText_ok _ _ bs _ HL.out.bl (by omega) (by omega) H8.out HT.out).mono ?_; rintro e w7 ⟨t7, x7, hlst, _, rfl, ho, hb⟩; replace HA := hid (HA.out.below hb); replace HW := hid (below_on HW.out hb); replace HL := hid (HL.out.below hb); replace HR := hid (HR.out.below hb); have HM := hid ho; have HLS := hid hlst; clear ho hb hlst)
      | (go_at_call 17; refine (rReadUint_any a cap bs _ HA.out hcap (by omega) H8.out).mono ?_; rintro e w8 ⟨hb, he⟩; rw [HQ.out] at he; obtain ⟨x8, he, ho⟩ := he; subst he; replace HA := hid (HA.out.below hb); replace HW := hid (below_on HW.out hb); replace HL := hid (HL.out.below hb); replace HR := hid (HR.out.below hb); replace HM := hid (HM.out.below hb); have HR2 := hid ho; clear ho hb)
      | (go_at_call 18; refine (rReadText_any a cap bs _ HA.out hcap (by omega) H8.out).mono ?_; rintro e w9 ⟨hb, he⟩; rw [HT.out] at he; obtain ⟨t9, x9, he, hlst, ho⟩ := he; subst he; replace HA := hid (HA.out.below hb); replace HW := hid (below_on HW.out hb); replace HL := hid (HL.out.below hb); replace HR := hid (HR.out.below hb); replace HM := hid (HM.out.below hb); replace HR2 := hid (HR2.out.below hb); have HM2 := hid ho; have ht : t9 = t7 := lst_inj (hlst.trans HLS.out.symm); subst ht; clear ho hb hlst)
      | (go_at_call 11; with_reducible refine (sameB_true HR.out.sl HR2.out HQL.out.2.1).mono ?_; rintro e w0 ⟨rfl, hw0⟩; have hw10 := hw0.symm; subst hw10)
      | (go_at_call 11; with_reducible refine (sameB_true HM.out.sl HM2.out HTL.out.2.1).mono ?_; rintro e w0 ⟨rfl, hw0⟩; have hw10 := hw0.symm; subst hw10)
      | (go_at_call 19; with_reducible refine (over_out HR.out HQL.out.2.1 (by have := HQL.out.1; omega)).mono ?_; rintro e w11 ⟨rfl, ho⟩; replace HA := hid (HA.out.onlyAt ho (fun hne b hb h => by have := HAB.out hne b hb; have := HS6.out; have := h.2; omega)); replace HL := hid (HL.out.only ho (fun h => by have := HLB.out; have := h.2; omega)); replace HM := hid (HM.out.only ho (fun b hb h => by have := HD.out b h.1; have := (HM.out.blk b hb).1; omega)); replace HW := hid (below_tr HW.out (ho.below HW.out.size (fun i h => by have := HS6.out; have := h.2; omega))); clear ho HR)
      | (go_at_call 19; with_reducible refine (over_out HM.out HTL.out.2.1 (by have := HTL.out.1; omega)).mono ?_; rintro e w12 ⟨rfl, ho⟩; replace HA := hid (HA.out.onlyAt ho (fun hne b hb h => by have := HAB.out hne b hb; have := HS7.out; have := h.2; omega)); replace HL := hid (HL.out.only ho (fun h => by have := HLB2.out; have := h.2; omega)); replace HW := hid (below_tr HW.out (ho.below HW.out.size (fun i h => by have := HS7.out; have := h.2; omega))); clear ho HM)
      | (go_at_call 20; refine (keptB_any _ a cap bs _ hbs HL.out HA.out).mono ?_; rintro e w13 ⟨rfl, hb⟩; replace HW := hid (below_on HW.out hb); clear hb))
    go_ret
    exact ⟨rfl, HW.out⟩
  · have hn4 : ¬ n ≤ 1099511627776 := by omega
    go_enter Try.func3, Try.ntmps3
    go_wp2_with (first
      | (go_at_call 9; refine (uint_bad n _ hn).mono ?_; rintro e w0 ⟨rfl, hw0⟩; have hw9 := hw0.symm; subst hw9)
      | (go_at_call 10; refine (text_ok s _ hs).mono ?_; rintro e w2 ⟨x2, rfl, ho, hb⟩; replace HA := hid (HA.out.below hb); replace HW := hid (below_on HW.out hb); have HY := hid ho.sl; clear ho hb)
      | (go_at_call 13; refine (rText_any s _ hs).mono ?_; rintro e w4 ⟨x4, rfl, ho, hb⟩; replace HA := hid (HA.out.below hb); replace HW := hid (below_on HW.out hb); replace HY := hid (HY.out.below hb); have HY2 := hid ho.sl; clear ho hb)
      | (go_at_call 11; with_reducible refine (sameB_true HY.out HY2.out (tb_lt s)).mono ?_; rintro e w0 ⟨rfl, hw0⟩; have hw9 := hw0.symm; subst hw9)
      | (go_at_call 14; refine (lentB_any a cap bs _ hbs HA.out).mono ?_; rintro e w5 ⟨rfl, hl, hb⟩; have HLT := hid hl.lt; replace HA := hid (HA.out.below hb); replace HW := hid (below_on HW.out hb); have HL := hid hl; clear hl hb)
      | (go_at_call 15; have HS6 := hid HW.out.size; have HLB := hid HL.out.lt; refine (readUint_ok _ _ bs _ HL.out.bl (by omega) (by omega) H8.out HQ.out).mono ?_; rintro e w6 ⟨x6, rfl, ho, hb⟩; replace HA := hid (HA.out.below hb); replace HW := hid (below_on HW.out hb); replace HL := hid (HL.out.below hb); have HR := hid ho;  clear ho hb)
      | (go_at_call 16; have HD := hid (fun b hb => (HR.out.blk b hb).2); have HS7 := hid HW.out.size; have HLB2 := hid HL.out.lt; refine (readText_ok _ _ bs _ HL.out.bl (by omega) (by omega) H8.out HT.out).mono ?_; rintro e w7 ⟨t7, x7, hlst, _, rfl, ho, hb⟩; replace HA := hid (HA.out.below hb); replace HW := hid (below_on HW.out hb); replace HL := hid (HL.out.below hb); replace HR := hid (HR.out.below hb); have HM := hid ho; have HLS := hid hlst; clear ho hb hlst)
      | (go_at_call 17; refine (rReadUint_any a cap bs _ HA.out hcap (by omega) H8.out).mono ?_; rintro e w8 ⟨hb, he⟩; rw [HQ.out] at he; obtain ⟨x8, he, ho⟩ := he; subst he; replace HA := hid (HA.out.below hb); replace HW := hid (below_on HW.out hb); replace HL := hid (HL.out.below hb); replace HR := hid (HR.out.below hb); replace HM := hid (HM.out.below hb); have HR2 := hid ho; clear ho hb)
      | (go_at_call 18; refine (rReadText_any a cap bs _ HA.out hcap (by omega) H8.out).mono ?_; rintro e w9 ⟨hb, he⟩; rw [HT.out] at he; obtain ⟨t9, x9, he, hlst, ho⟩ := he; subst he; replace HA := hid (HA.out.below hb); replace HW := hid (below_on HW.out hb); replace HL := hid (HL.out.below hb); replace HR := hid (HR.out.below hb); replace HM := hid (HM.out.below hb); replace HR2 := hid (HR2.out.below hb); have HM2 := hid ho; have ht : t9 = t7 := lst_inj (hlst.trans HLS.out.symm); subst ht; clear ho hb hlst)
      | (go_at_call 11; with_reducible refine (sameB_true HR.out.sl HR2.out HQL.out.2.1).mono ?_; rintro e w0 ⟨rfl, hw0⟩; have hw10 := hw0.symm; subst hw10)
      | (go_at_call 11; with_reducible refine (sameB_true HM.out.sl HM2.out HTL.out.2.1).mono ?_; rintro e w0 ⟨rfl, hw0⟩; have hw10 := hw0.symm; subst hw10)
      | (go_at_call 19; with_reducible refine (over_out HR.out HQL.out.2.1 (by have := HQL.out.1; omega)).mono ?_; rintro e w11 ⟨rfl, ho⟩; replace HA := hid (HA.out.onlyAt ho (fun hne b hb h => by have := HAB.out hne b hb; have := HS6.out; have := h.2; omega)); replace HL := hid (HL.out.only ho (fun h => by have := HLB.out; have := h.2; omega)); replace HM := hid (HM.out.only ho (fun b hb h => by have := HD.out b h.1; have := (HM.out.blk b hb).1; omega)); replace HW := hid (below_tr HW.out (ho.below HW.out.size (fun i h => by have := HS6.out; have := h.2; omega))); clear ho HR)
      | (go_at_call 19; with_reducible refine (over_out HM.out HTL.out.2.1 (by have := HTL.out.1; omega)).mono ?_; rintro e w12 ⟨rfl, ho⟩; replace HA := hid (HA.out.onlyAt ho (fun hne b hb h => by have := HAB.out hne b hb; have := HS7.out; have := h.2; omega)); replace HL := hid (HL.out.only ho (fun h => by have := HLB2.out; have := h.2; omega)); replace HW := hid (below_tr HW.out (ho.below HW.out.size (fun i h => by have := HS7.out; have := h.2; omega))); clear ho HM)
      | (go_at_call 20; refine (keptB_any _ a cap bs _ hbs HL.out HA.out).mono ?_; rintro e w13 ⟨rfl, hb⟩; replace HW := hid (below_on HW.out hb); clear hb))
    go_ret
    exact ⟨rfl, HW.out⟩
set_option maxRecDepth 100000 in
set_option maxHeartbeats 2000000 in
theorem num0110 (n : Int) (hn : n < 0 ∨ 1099511627776 < n) (hs : s.size ≤ 65536) (m : Nat) (r : List Nat) (hq : rdU bs = some (m, r)) (hx : rdT bs = none) (h : BL w a bs) (hcap : bs.length ≤ cap) (hbs : bs.length ≤ 70000) (h8 : ∀ z ∈ bs, z < 256) :
    Calls Try.prog 3 #[i64 n, .string s, .slice a bs.length cap] w fun e w' => e = .returned (.bool true) ∧ Below w.heap.size w w' := by
  have HA := hid h
  have H8 := hid h8
  have HW := hid (Below.refl w.heap.size w)
  have HAB : Hid (bs ≠ [] → ∀ b, a = some b → b.block < w.heap.size) := fun hne b hb => by
    rcases h with e | ⟨b', o', e, hc⟩
    · exact absurd e hne
    · rw [e] at hb; cases hb
      exact cell_lt' (a := ⟨b', o' + 0, none⟩) (by rw [hc 0 (List.length_pos_iff.2 hne)]; simp)
  have HQ := hid hq
  have HT := hid hx
  have HQL := hid (rdU_less h8 hq)
  clear h h8 hq hx
  have hs2 : ¬ 66000 < (s.size : Int) := by omega
  have hb2 : ¬ 70000 < (bs.length : Int) := by omega
  have hs3 : (s.size : Int) ≤ 65536 := by omega
  have hneg : n < 0 ∨ ¬ n < 0 := by omega
  rcases hneg with hneg | hneg
  · go_enter Try.func3, Try.ntmps3
    go_wp2_with (first
      | (go_at_call 9; refine (uint_bad n _ hn).mono ?_; rintro e w0 ⟨rfl, hw0⟩; have hw9 := hw0.symm; subst hw9)
      | (go_at_call 10; refine (text_ok s _ hs).mono ?_; rintro e w2 ⟨x2, rfl, ho, hb⟩; replace HA := hid (HA.out.below hb); replace HW := hid (below_on HW.out hb); have HY := hid ho.sl; clear ho hb)
      | (go_at_call 13; refine (rText_any s _ hs).mono ?_; rintro e w4 ⟨x4, rfl, ho, hb⟩; replace HA := hid (HA.out.below hb); replace HW := hid (below_on HW.out hb); replace HY := hid (HY.out.below hb); have HY2 := hid ho.sl; clear ho hb)
      | (go_at_call 11; with_reducible refine (sameB_true HY.out HY2.out (tb_lt s)).mono ?_; rintro e w0 ⟨rfl, hw0⟩; have hw9 := hw0.symm; subst hw9)
      | (go_at_call 14; refine (lentB_any a cap bs _ hbs HA.out).mono ?_; rintro e w5 ⟨rfl, hl, hb⟩; have HLT := hid hl.lt; replace HA := hid (HA.out.below hb); replace HW := hid (below_on HW.out hb); have HL := hid hl; clear hl hb)
      | (go_at_call 15; have HS6 := hid HW.out.size; have HLB := hid HL.out.lt; refine (readUint_ok _ _ bs _ HL.out.bl (by omega) (by omega) H8.out HQ.out).mono ?_; rintro e w6 ⟨x6, rfl, ho, hb⟩; replace HA := hid (HA.out.below hb); replace HW := hid (below_on HW.out hb); replace HL := hid (HL.out.below hb); have HR := hid ho;  clear ho hb)
      | (go_at_call 16; refine (readText_bad _ _ bs _ HL.out.bl (by omega) (by omega) H8.out HT.out).mono ?_; rintro e w7 ⟨rfl, hb⟩; replace HA := hid (HA.out.below hb); replace HW := hid (below_on HW.out hb); replace HL := hid (HL.out.below hb); replace HR := hid (HR.out.below hb); clear hb)
      | (go_at_call 17; refine (rReadUint_any a cap bs _ HA.out hcap (by omega) H8.out).mono ?_; rintro e w8 ⟨hb, he⟩; rw [HQ.out] at he; obtain ⟨x8, he, ho⟩ := he; subst he; replace HA := hid (HA.out.below hb); replace HW := hid (below_on HW.out hb); replace HL := hid (HL.out.below hb); replace HR := hid (HR.out.below hb); have HR2 := hid ho; clear ho hb)
      | (go_at_call 18; refine (rReadText_any a cap bs _ HA.out hcap (by omega) H8.out).mono ?_; rintro e w9 ⟨hb, he⟩; rw [HT.out] at he; simp only at he; subst he; replace HA := hid (HA.out.below hb); replace HW := hid (below_on HW.out hb); replace HL := hid (HL.out.below hb); replace HR := hid (HR.out.below hb); replace HR2 := hid (HR2.out.below hb); clear hb)
      | (go_at_call 11; with_reducible refine (sameB_true HR.out.sl HR2.out HQL.out.2.1).mono ?_; rintro e w0 ⟨rfl, hw0⟩; have hw10 := hw0.symm; subst hw10)
      | (go_at_call 11; with_reducible refine (sameB_true (SL.nil _) (SL.nil _) nil_lt).mono ?_; rintro e w0 ⟨rfl, hw0⟩; have hw10 := hw0.symm; subst hw10)
      | (go_at_call 19; with_reducible refine (over_out HR.out HQL.out.2.1 (by have := HQL.out.1; omega)).mono ?_; rintro e w11 ⟨rfl, ho⟩; replace HA := hid (HA.out.onlyAt ho (fun hne b hb h => by have := HAB.out hne b hb; have := HS6.out; have := h.2; omega)); replace HL := hid (HL.out.only ho (fun h => by have := HLB.out; have := h.2; omega)); replace HW := hid (below_tr HW.out (ho.below HW.out.size (fun i h => by have := HS6.out; have := h.2; omega))); clear ho HR)
      | (go_at_call 19; with_reducible refine (over2_nil _).mono ?_; rintro e w0 ⟨rfl, hw0⟩; have hw9 := hw0.symm; subst hw9)
      | (go_at_call 20; refine (keptB_any _ a cap bs _ hbs HL.out HA.out).mono ?_; rintro e w13 ⟨rfl, hb⟩; replace HW := hid (below_on HW.out hb); clear hb))
    go_ret
    exact ⟨rfl, HW.out⟩
  · have hn4 : ¬ n ≤ 1099511627776 := by omega
    go_enter Try.func3, Try.ntmps3
    go_wp2_with (first
      | (go_at_call 9; refine (uint_bad n _ hn).mono ?_; rintro e w0 ⟨rfl, hw0⟩; have hw9 := hw0.symm; subst hw9)
      | (go_at_call 10; refine (text_ok s _ hs).mono ?_; rintro e w2 ⟨x2, rfl, ho, hb⟩; replace HA := hid (HA.out.below hb); replace HW := hid (below_on HW.out hb); have HY := hid ho.sl; clear ho hb)
      | (go_at_call 13; refine (rText_any s _ hs).mono ?_; rintro e w4 ⟨x4, rfl, ho, hb⟩; replace HA := hid (HA.out.below hb); replace HW := hid (below_on HW.out hb); replace HY := hid (HY.out.below hb); have HY2 := hid ho.sl; clear ho hb)
      | (go_at_call 11; with_reducible refine (sameB_true HY.out HY2.out (tb_lt s)).mono ?_; rintro e w0 ⟨rfl, hw0⟩; have hw9 := hw0.symm; subst hw9)
      | (go_at_call 14; refine (lentB_any a cap bs _ hbs HA.out).mono ?_; rintro e w5 ⟨rfl, hl, hb⟩; have HLT := hid hl.lt; replace HA := hid (HA.out.below hb); replace HW := hid (below_on HW.out hb); have HL := hid hl; clear hl hb)
      | (go_at_call 15; have HS6 := hid HW.out.size; have HLB := hid HL.out.lt; refine (readUint_ok _ _ bs _ HL.out.bl (by omega) (by omega) H8.out HQ.out).mono ?_; rintro e w6 ⟨x6, rfl, ho, hb⟩; replace HA := hid (HA.out.below hb); replace HW := hid (below_on HW.out hb); replace HL := hid (HL.out.below hb); have HR := hid ho;  clear ho hb)
      | (go_at_call 16; refine (readText_bad _ _ bs _ HL.out.bl (by omega) (by omega) H8.out HT.out).mono ?_; rintro e w7 ⟨rfl, hb⟩; replace HA := hid (HA.out.below hb); replace HW := hid (below_on HW.out hb); replace HL := hid (HL.out.below hb); replace HR := hid (HR.out.below hb); clear hb)
      | (go_at_call 17; refine (rReadUint_any a cap bs _ HA.out hcap (by omega) H8.out).mono ?_; rintro e w8 ⟨hb, he⟩; rw [HQ.out] at he; obtain ⟨x8, he, ho⟩ := he; subst he; replace HA := hid (HA.out.below hb); replace HW := hid (below_on HW.out hb); replace HL := hid (HL.out.below hb); replace HR := hid (HR.out.below hb); have HR2 := hid ho; clear ho hb)
      | (go_at_call 18; refine (rReadText_any a cap bs _ HA.out hcap (by omega) H8.out).mono ?_; rintro e w9 ⟨hb, he⟩; rw [HT.out] at he; simp only at he; subst he; replace HA := hid (HA.out.below hb); replace HW := hid (below_on HW.out hb); replace HL := hid (HL.out.below hb); replace HR := hid (HR.out.below hb); replace HR2 := hid (HR2.out.below hb); clear hb)
      | (go_at_call 11; with_reducible refine (sameB_true HR.out.sl HR2.out HQL.out.2.1).mono ?_; rintro e w0 ⟨rfl, hw0⟩; have hw10 := hw0.symm; subst hw10)
      | (go_at_call 11; with_reducible refine (sameB_true (SL.nil _) (SL.nil _) nil_lt).mono ?_; rintro e w0 ⟨rfl, hw0⟩; have hw10 := hw0.symm; subst hw10)
      | (go_at_call 19; with_reducible refine (over_out HR.out HQL.out.2.1 (by have := HQL.out.1; omega)).mono ?_; rintro e w11 ⟨rfl, ho⟩; replace HA := hid (HA.out.onlyAt ho (fun hne b hb h => by have := HAB.out hne b hb; have := HS6.out; have := h.2; omega)); replace HL := hid (HL.out.only ho (fun h => by have := HLB.out; have := h.2; omega)); replace HW := hid (below_tr HW.out (ho.below HW.out.size (fun i h => by have := HS6.out; have := h.2; omega))); clear ho HR)
      | (go_at_call 19; with_reducible refine (over2_nil _).mono ?_; rintro e w0 ⟨rfl, hw0⟩; have hw9 := hw0.symm; subst hw9)
      | (go_at_call 20; refine (keptB_any _ a cap bs _ hbs HL.out HA.out).mono ?_; rintro e w13 ⟨rfl, hb⟩; replace HW := hid (below_on HW.out hb); clear hb))
    go_ret
    exact ⟨rfl, HW.out⟩
set_option maxRecDepth 100000 in
set_option maxHeartbeats 2000000 in
theorem num0101 (n : Int) (hn : n < 0 ∨ 1099511627776 < n) (hs : s.size ≤ 65536) (hq : rdU bs = none) (x r2 : List Nat) (hx : rdT bs = some (x, r2)) (h : BL w a bs) (hcap : bs.length ≤ cap) (hbs : bs.length ≤ 70000) (h8 : ∀ z ∈ bs, z < 256) :
    Calls Try.prog 3 #[i64 n, .string s, .slice a bs.length cap] w fun e w' => e = .returned (.bool true) ∧ Below w.heap.size w w' := by
  have HA := hid h
  have H8 := hid h8
  have HW := hid (Below.refl w.heap.size w)
  have HAB : Hid (bs ≠ [] → ∀ b, a = some b → b.block < w.heap.size) := fun hne b hb => by
    rcases h with e | ⟨b', o', e, hc⟩
    · exact absurd e hne
    · rw [e] at hb; cases hb
      exact cell_lt' (a := ⟨b', o' + 0, none⟩) (by rw [hc 0 (List.length_pos_iff.2 hne)]; simp)
  have HQ := hid hq
  have HT := hid hx
  have HTL := hid (rdT_less h8 hx)
  clear h h8 hq hx
  have hs2 : ¬ 66000 < (s.size : Int) := by omega
  have hb2 : ¬ 70000 < (bs.length : Int) := by omega
  have hs3 : (s.size : Int) ≤ 65536 := by omega
  have hneg : n < 0 ∨ ¬ n < 0 := by omega
  rcases hneg with hneg | hneg
  · go_enter Try.func3, Try.ntmps3
    go_wp2_with (first
      | (go_at_call 9; refine (uint_bad n _ hn).mono ?_; rintro e w0 ⟨rfl, hw0⟩; have hw9 := hw0.symm; subst hw9)
      | (go_at_call 10; refine (text_ok s _ hs).mono ?_; rintro e w2 ⟨x2, rfl, ho, hb⟩; replace HA := hid (HA.out.below hb); replace HW := hid (below_on HW.out hb); have HY := hid ho.sl; clear ho hb)
      | (go_at_call 13; refine (rText_any s _ hs).mono ?_; rintro e w4 ⟨x4, rfl, ho, hb⟩; replace HA := hid (HA.out.below hb); replace HW := hid (below_on HW.out hb); replace HY := hid (HY.out.below hb); have HY2 := hid ho.sl; clear ho hb)
      | (go_at_call 11; with_reducible refine (sameB_true HY.out HY2.out (tb_lt s)).mono ?_; rintro e w0 ⟨rfl, hw0⟩; have hw9 := hw0.symm; subst hw9)
      | (go_at_call 14; refine (lentB_any a cap bs _ hbs HA.out).mono ?_; rintro e w5 ⟨rfl, hl, hb⟩; have HLT := hid hl.lt; replace HA := hid (HA.out.below hb); replace HW := hid (below_on HW.out hb); have HL := hid hl; clear hl hb)
      | (go_at_call 15; refine (readUint_bad _ _ bs _ HL.out.bl (by omega) (by omega) H8.out HQ.out).mono ?_; rintro e w6 ⟨rfl, hb⟩; replace HA := hid (HA.out.below hb); replace HW := hid (below_on HW.out hb); replace HL := hid (HL.out.below hb); clear hb)
      | (go_at_call 16; have HS7 := hid HW.out.size; have HLB2 := hid HL.out.lt; refine (readText_ok _ _ bs _ HL.out.bl (by omega) (by omega) H8.out HT.out).mono ?_; rintro e w7 ⟨t7, x7, hlst, _, rfl, ho, hb⟩; replace HA := hid (HA.out.below hb); replace HW := hid (below_on HW.out hb); replace HL := hid (HL.out.below hb); have HM := hid ho; have HLS := hid hlst; clear ho hb hlst)
      | (go_at_call 17; refine (rReadUint_any a cap bs _ HA.out hcap (by omega) H8.out).mono ?_; rintro e w8 ⟨hb, he⟩; rw [HQ.out] at he; simp only at he; subst he; replace HA := hid (HA.out.below hb); replace HW := hid (below_on HW.out hb); replace HL := hid (HL.out.below hb); replace HM := hid (HM.out.below hb); clear hb)
      | (go_at_call 18; refine (rReadText_any a cap bs _ HA.out hcap (by omega) H8.out).mono ?_; rintro e w9 ⟨hb, he⟩; rw [HT.out] at he; obtain ⟨t9, x9, he, hlst, ho⟩ := he; subst he; replace HA := hid (HA.out.below hb); replace HW := hid (below_on HW.out hb); replace HL := hid (HL.out.below hb); replace HM := hid (HM.out.below hb); have HM2 := hid ho; have ht : t9 = t7 := lst_inj (hlst.trans HLS.out.symm); subst ht; clear ho hb hlst)
      | (go_at_call 11; with_reducible refine (sameB_true HM.out.sl HM2.out HTL.out.2.1).mono ?_; rintro e w0 ⟨rfl, hw0⟩; have hw10 := hw0.symm; subst hw10)
      | (go_at_call 11; with_reducible refine (sameB_true (SL.nil _) (SL.nil _) nil_lt).mono ?_; rintro e w0 ⟨rfl, hw0⟩; have hw10 := hw0.symm; subst hw10)
      | (go_at_call 19; with_reducible refine (over_out HM.out HTL.out.2.1 (by have := HTL.out.1; omega)).mono ?_; rintro e w12 ⟨rfl, ho⟩; replace HA := hid (HA.out.onlyAt ho (fun hne b hb h => by have := HAB.out hne b hb; have := HS7.out; have := h.2; omega)); replace HL := hid (HL.out.only ho (fun h => by have := HLB2.out; have := h.2; omega)); replace HW := hid (below_tr HW.out (ho.below HW.out.size (fun i h => by have := HS7.out; have := h.2; omega))); clear ho HM)
      | (go_at_call 19; with_reducible refine (over2_nil _).mono ?_; rintro e w0 ⟨rfl, hw0⟩; have hw9 := hw0.symm; subst hw9)
      | (go_at_call 20; refine (keptB_any _ a cap bs _ hbs HL.out HA.out).mono ?_; rintro e w13 ⟨rfl, hb⟩; replace HW := hid (below_on HW.out hb); clear hb))
    go_ret
    exact ⟨rfl, HW.out⟩
  · have hn4 : ¬ n ≤ 1099511627776 := by omega
    go_enter Try.func3, Try.ntmps3
    go_wp2_with (first
      | (go_at_call 9; refine (uint_bad n _ hn).mono ?_; rintro e w0 ⟨rfl, hw0⟩; have hw9 := hw0.symm; subst hw9)
      | (go_at_call 10; refine (text_ok s _ hs).mono ?_; rintro e w2 ⟨x2, rfl, ho, hb⟩; replace HA := hid (HA.out.below hb); replace HW := hid (below_on HW.out hb); have HY := hid ho.sl; clear ho hb)
      | (go_at_call 13; refine (rText_any s _ hs).mono ?_; rintro e w4 ⟨x4, rfl, ho, hb⟩; replace HA := hid (HA.out.below hb); replace HW := hid (below_on HW.out hb); replace HY := hid (HY.out.below hb); have HY2 := hid ho.sl; clear ho hb)
      | (go_at_call 11; with_reducible refine (sameB_true HY.out HY2.out (tb_lt s)).mono ?_; rintro e w0 ⟨rfl, hw0⟩; have hw9 := hw0.symm; subst hw9)
      | (go_at_call 14; refine (lentB_any a cap bs _ hbs HA.out).mono ?_; rintro e w5 ⟨rfl, hl, hb⟩; have HLT := hid hl.lt; replace HA := hid (HA.out.below hb); replace HW := hid (below_on HW.out hb); have HL := hid hl; clear hl hb)
      | (go_at_call 15; refine (readUint_bad _ _ bs _ HL.out.bl (by omega) (by omega) H8.out HQ.out).mono ?_; rintro e w6 ⟨rfl, hb⟩; replace HA := hid (HA.out.below hb); replace HW := hid (below_on HW.out hb); replace HL := hid (HL.out.below hb); clear hb)
      | (go_at_call 16; have HS7 := hid HW.out.size; have HLB2 := hid HL.out.lt; refine (readText_ok _ _ bs _ HL.out.bl (by omega) (by omega) H8.out HT.out).mono ?_; rintro e w7 ⟨t7, x7, hlst, _, rfl, ho, hb⟩; replace HA := hid (HA.out.below hb); replace HW := hid (below_on HW.out hb); replace HL := hid (HL.out.below hb); have HM := hid ho; have HLS := hid hlst; clear ho hb hlst)
      | (go_at_call 17; refine (rReadUint_any a cap bs _ HA.out hcap (by omega) H8.out).mono ?_; rintro e w8 ⟨hb, he⟩; rw [HQ.out] at he; simp only at he; subst he; replace HA := hid (HA.out.below hb); replace HW := hid (below_on HW.out hb); replace HL := hid (HL.out.below hb); replace HM := hid (HM.out.below hb); clear hb)
      | (go_at_call 18; refine (rReadText_any a cap bs _ HA.out hcap (by omega) H8.out).mono ?_; rintro e w9 ⟨hb, he⟩; rw [HT.out] at he; obtain ⟨t9, x9, he, hlst, ho⟩ := he; subst he; replace HA := hid (HA.out.below hb); replace HW := hid (below_on HW.out hb); replace HL := hid (HL.out.below hb); replace HM := hid (HM.out.below hb); have HM2 := hid ho; have ht : t9 = t7 := lst_inj (hlst.trans HLS.out.symm); subst ht; clear ho hb hlst)
      | (go_at_call 11; with_reducible refine (sameB_true HM.out.sl HM2.out HTL.out.2.1).mono ?_; rintro e w0 ⟨rfl, hw0⟩; have hw10 := hw0.symm; subst hw10)
      | (go_at_call 11; with_reducible refine (sameB_true (SL.nil _) (SL.nil _) nil_lt).mono ?_; rintro e w0 ⟨rfl, hw0⟩; have hw10 := hw0.symm; subst hw10)
      | (go_at_call 19; with_reducible refine (over_out HM.out HTL.out.2.1 (by have := HTL.out.1; omega)).mono ?_; rintro e w12 ⟨rfl, ho⟩; replace HA := hid (HA.out.onlyAt ho (fun hne b hb h => by have := HAB.out hne b hb; have := HS7.out; have := h.2; omega)); replace HL := hid (HL.out.only ho (fun h => by have := HLB2.out; have := h.2; omega)); replace HW := hid (below_tr HW.out (ho.below HW.out.size (fun i h => by have := HS7.out; have := h.2; omega))); clear ho HM)
      | (go_at_call 19; with_reducible refine (over2_nil _).mono ?_; rintro e w0 ⟨rfl, hw0⟩; have hw9 := hw0.symm; subst hw9)
      | (go_at_call 20; refine (keptB_any _ a cap bs _ hbs HL.out HA.out).mono ?_; rintro e w13 ⟨rfl, hb⟩; replace HW := hid (below_on HW.out hb); clear hb))
    go_ret
    exact ⟨rfl, HW.out⟩
set_option maxRecDepth 100000 in
set_option maxHeartbeats 2000000 in
theorem num0100 (n : Int) (hn : n < 0 ∨ 1099511627776 < n) (hs : s.size ≤ 65536) (hq : rdU bs = none) (hx : rdT bs = none) (h : BL w a bs) (hcap : bs.length ≤ cap) (hbs : bs.length ≤ 70000) (h8 : ∀ z ∈ bs, z < 256) :
    Calls Try.prog 3 #[i64 n, .string s, .slice a bs.length cap] w fun e w' => e = .returned (.bool true) ∧ Below w.heap.size w w' := by
  have HA := hid h
  have H8 := hid h8
  have HW := hid (Below.refl w.heap.size w)
  have HAB : Hid (bs ≠ [] → ∀ b, a = some b → b.block < w.heap.size) := fun hne b hb => by
    rcases h with e | ⟨b', o', e, hc⟩
    · exact absurd e hne
    · rw [e] at hb; cases hb
      exact cell_lt' (a := ⟨b', o' + 0, none⟩) (by rw [hc 0 (List.length_pos_iff.2 hne)]; simp)
  have HQ := hid hq
  have HT := hid hx
  clear h h8 hq hx
  have hs2 : ¬ 66000 < (s.size : Int) := by omega
  have hb2 : ¬ 70000 < (bs.length : Int) := by omega
  have hs3 : (s.size : Int) ≤ 65536 := by omega
  have hneg : n < 0 ∨ ¬ n < 0 := by omega
  rcases hneg with hneg | hneg
  · go_enter Try.func3, Try.ntmps3
    go_wp2_with (first
      | (go_at_call 9; refine (uint_bad n _ hn).mono ?_; rintro e w0 ⟨rfl, hw0⟩; have hw9 := hw0.symm; subst hw9)
      | (go_at_call 10; refine (text_ok s _ hs).mono ?_; rintro e w2 ⟨x2, rfl, ho, hb⟩; replace HA := hid (HA.out.below hb); replace HW := hid (below_on HW.out hb); have HY := hid ho.sl; clear ho hb)
      | (go_at_call 13; refine (rText_any s _ hs).mono ?_; rintro e w4 ⟨x4, rfl, ho, hb⟩; replace HA := hid (HA.out.below hb); replace HW := hid (below_on HW.out hb); replace HY := hid (HY.out.below hb); have HY2 := hid ho.sl; clear ho hb)
      | (go_at_call 11; with_reducible refine (sameB_true HY.out HY2.out (tb_lt s)).mono ?_; rintro e w0 ⟨rfl, hw0⟩; have hw9 := hw0.symm; subst hw9)
      | (go_at_call 14; refine (lentB_any a cap bs _ hbs HA.out).mono ?_; rintro e w5 ⟨rfl, hl, hb⟩; have HLT := hid hl.lt; replace HA := hid (HA.out.below hb); replace HW := hid (below_on HW.out hb); have HL := hid hl; clear hl hb)
      | (go_at_call 15; refine (readUint_bad _ _ bs _ HL.out.bl (by omega) (by omega) H8.out HQ.out).mono ?_; rintro e w6 ⟨rfl, hb⟩; replace HA := hid (HA.out.below hb); replace HW := hid (below_on HW.out hb); replace HL := hid (HL.out.below hb); clear hb)
      | (go_at_call 16; refine (readText_bad _ _ bs _ HL.out.bl (by omega) (by omega) H8.out HT.out).mono ?_; rintro e w7 ⟨rfl, hb⟩; replace HA := hid (HA.out.below hb); replace HW := hid (below_on HW.out hb); replace HL := hid (HL.out.below hb); clear hb)
      | (go_at_call 17; refine (rReadUint_any a cap bs _ HA.out hcap (by omega) H8.out).mono ?_; rintro e w8 ⟨hb, he⟩; rw [HQ.out] at he; simp only at he; subst he; replace HA := hid (HA.out.below hb); replace HW := hid (below_on HW.out hb); replace HL := hid (HL.out.below hb); clear hb)
      | (go_at_call 18; refine (rReadText_any a cap bs _ HA.out hcap (by omega) H8.out).mono ?_; rintro e w9 ⟨hb, he⟩; rw [HT.out] at he; simp only at he; subst he; replace HA := hid (HA.out.below hb); replace HW := hid (below_on HW.out hb); replace HL := hid (HL.out.below hb); clear hb)
      | (go_at_call 11; with_reducible refine (sameB_true (SL.nil _) (SL.nil _) nil_lt).mono ?_; rintro e w0 ⟨rfl, hw0⟩; have hw10 := hw0.symm; subst hw10)
      | (go_at_call 19; with_reducible refine (over2_nil _).mono ?_; rintro e w0 ⟨rfl, hw0⟩; have hw9 := hw0.symm; subst hw9)
      | (go_at_call 20; refine (keptB_any _ a cap bs _ hbs HL.out HA.out).mono ?_; rintro e w13 ⟨rfl, hb⟩; replace HW := hid (below_on HW.out hb); clear hb))
    go_ret
    exact ⟨rfl, HW.out⟩
  · have hn4 : ¬ n ≤ 1099511627776 := by omega
    go_enter Try.func3, Try.ntmps3
    go_wp2_with (first
      | (go_at_call 9; refine (uint_bad n _ hn).mono ?_; rintro e w0 ⟨rfl, hw0⟩; have hw9 := hw0.symm; subst hw9)
      | (go_at_call 10; refine (text_ok s _ hs).mono ?_; rintro e w2 ⟨x2, rfl, ho, hb⟩; replace HA := hid (HA.out.below hb); replace HW := hid (below_on HW.out hb); have HY := hid ho.sl; clear ho hb)
      | (go_at_call 13; refine (rText_any s _ hs).mono ?_; rintro e w4 ⟨x4, rfl, ho, hb⟩; replace HA := hid (HA.out.below hb); replace HW := hid (below_on HW.out hb); replace HY := hid (HY.out.below hb); have HY2 := hid ho.sl; clear ho hb)
      | (go_at_call 11; with_reducible refine (sameB_true HY.out HY2.out (tb_lt s)).mono ?_; rintro e w0 ⟨rfl, hw0⟩; have hw9 := hw0.symm; subst hw9)
      | (go_at_call 14; refine (lentB_any a cap bs _ hbs HA.out).mono ?_; rintro e w5 ⟨rfl, hl, hb⟩; have HLT := hid hl.lt; replace HA := hid (HA.out.below hb); replace HW := hid (below_on HW.out hb); have HL := hid hl; clear hl hb)
      | (go_at_call 15; refine (readUint_bad _ _ bs _ HL.out.bl (by omega) (by omega) H8.out HQ.out).mono ?_; rintro e w6 ⟨rfl, hb⟩; replace HA := hid (HA.out.below hb); replace HW := hid (below_on HW.out hb); replace HL := hid (HL.out.below hb); clear hb)
      | (go_at_call 16; refine (readText_bad _ _ bs _ HL.out.bl (by omega) (by omega) H8.out HT.out).mono ?_; rintro e w7 ⟨rfl, hb⟩; replace HA := hid (HA.out.below hb); replace HW := hid (below_on HW.out hb); replace HL := hid (HL.out.below hb); clear hb)
      | (go_at_call 17; refine (rReadUint_any a cap bs _ HA.out hcap (by omega) H8.out).mono ?_; rintro e w8 ⟨hb, he⟩; rw [HQ.out] at he; simp only at he; subst he; replace HA := hid (HA.out.below hb); replace HW := hid (below_on HW.out hb); replace HL := hid (HL.out.below hb); clear hb)
      | (go_at_call 18; refine (rReadText_any a cap bs _ HA.out hcap (by omega) H8.out).mono ?_; rintro e w9 ⟨hb, he⟩; rw [HT.out] at he; simp only at he; subst he; replace HA := hid (HA.out.below hb); replace HW := hid (below_on HW.out hb); replace HL := hid (HL.out.below hb); clear hb)
      | (go_at_call 11; with_reducible refine (sameB_true (SL.nil _) (SL.nil _) nil_lt).mono ?_; rintro e w0 ⟨rfl, hw0⟩; have hw10 := hw0.symm; subst hw10)
      | (go_at_call 19; with_reducible refine (over2_nil _).mono ?_; rintro e w0 ⟨rfl, hw0⟩; have hw9 := hw0.symm; subst hw9)
      | (go_at_call 20; refine (keptB_any _ a cap bs _ hbs HL.out HA.out).mono ?_; rintro e w13 ⟨rfl, hb⟩; replace HW := hid (below_on HW.out hb); clear hb))
    go_ret
    exact ⟨rfl, HW.out⟩
end
end Go.Proofs.Ytepkpkbgmchioaa

/- The walk of RecordNumbers, some cases. (Written by tools/gen_Vj.py.) -/
namespace Go.Proofs.Ytepkpkbgmchioaa
open Go Go.RowKit
section
variable (s : ByteArray) (a : Option Addr) (cap : Nat) (bs : List Nat) (w : World)
set_option maxRecDepth 100000 in
set_option maxHeartbeats 2000000 in
theorem num0011 (n : Int) (hn : n < 0 ∨ 1099511627776 < n) (hs : 65536 < s.size ∧ s.size ≤ 66000) (m : Nat) (r : List Nat) (hq : rdU bs = some (m, r)) (x r2 : List Nat) (hx : rdT bs = some (x, r2)) (h : BL w a bs) (hcap : bs.length ≤ cap) (hbs : bs.length ≤ 70000) (h8 : ∀ z ∈ bs, z < 256) :
    Calls Try.prog 3 #[i64 n, .string s, .slice a bs.length cap] w fun e w' => e = .returned (.bool true) ∧ Below w.heap.size w w' := by
  have HA := hid h
  have H8 := hid h8
  have HW := hid (Below.refl w.heap.size w)
  have HAB : Hid (bs ≠ [] → ∀ b, a = some b → b.block < w.heap.size) := fun hne b hb => by
    rcases h with e | ⟨b', o', e, hc⟩
    · exact absurd e hne
    · rw [e] at hb; cases hb
      exact cell_lt' (a := ⟨b', o' + 0, none⟩) (by rw [hc 0 (List.length_pos_iff.2 hne)]; simp)
  have HQ := hid hq
  have HT := hid hx
  have HQL := hid (rdU_less h8 hq)
  have HTL := hid (rdT_less h8 hx)
  clear h h8 hq hx
  have hs2 : ¬ 66000 < (s.size : Int) := by omega
  have hb2 : ¬ 70000 < (bs.length : Int) := by omega
  have hs3 : ¬ (s.size : Int) ≤ 65536 := by omega
  have hneg : n < 0 ∨ ¬ n < 0 := by omega
  rcases hneg with hneg | hneg
  · go_enter Try.func3, Try.ntmps3
    go_wp2_with (first
      | (go_at_call 9; refine (uint_bad n _ hn).mono ?_; rintro e w0 ⟨rfl, hw0⟩; have hw9 := hw0.symm; subst hw9)
      | (go_at_call 10; refine (text_bad s _ hs.1).mono ?_; rintro e w0 ⟨rfl, hw0⟩; have hw9 := hw0.symm; subst hw9)
      | (go_at_call 14; refine (lentB_any a cap bs _ hbs HA.out).mono ?_; rintro e w5 ⟨rfl, hl, hb⟩; have HLT := hid hl.lt; replace HA := hid (HA.out.below hb); replace HW := hid (below_on HW.out hb); have HL := hid hl; clear hl hb)
      | (go_at_call 15; have HS6 := hid HW.out.size; have HLB := hid HL.out.lt; refine (readUint_ok _ _ bs _ HL.out.bl (by omega) (by omega) H8.out HQ.out).mono ?_; rintro e w6 ⟨x6, rfl, ho, hb⟩; replace HA := hid (HA.out.below hb); replace HW := hid (below_on HW.out hb); replace HL := hid (HL.out.below hb); have HR := hid ho;  clear ho hb)
      | (go_at_call 16; have HD := hid (fun b hb => (HR.out.blk b hb).2); have HS7 := hid HW.out.size; have HLB2 := hid HL.out.lt; refine (readText_ok _ _ bs _ HL.out.bl (by omega) (by omega) H8.out HT.out).mono ?_; rintro e w7 ⟨t7, x7, hlst, _, rfl, ho, hb⟩; replace HA := hid (HA.out.below hb); replace HW := hid (below_on HW.out hb); replace HL := hid (HL.out.below hb); replace HR := hid (HR.out.below hb); have HM := hid ho; have HLS := hid hlst; clear ho hb hlst)
      | (go_at_call 17; refine (rReadUint_any a cap bs _ HA.out hcap (by omega) H8.out).mono ?_; rintro e w8 ⟨hb, he⟩; rw [HQ.out] at he; obtain ⟨x8, he, ho⟩ := he; subst he; replace HA := hid (HA.out.below hb); replace HW := hid (below_on HW.out hb); replace HL := hid (HL.out.below hb); replace HR := hid (HR.out.below hb); replace HM := hid (HM.out.below hb); have HR2 := hid ho; clear ho hb)
      | (go_at_call 18; refine (rReadText_any a cap bs _ HA.out hcap (by omega) H8.out).mono ?_; rintro e w9 ⟨hb, he⟩; rw [HT.out] at he; obtain ⟨t9, x9, he, hlst, ho⟩ := he; subst he; replace HA := hid (HA.out.below hb); replace HW := hid (below_on HW.out hb); replace HL := hid (HL.out.below hb); replace HR := hid (HR.out.below hb); replace HM := hid (HM.out.below hb); replace HR2 := hid (HR2.out.below hb); have HM2 := hid ho; have ht : t9 = t7 := lst_inj (hlst.trans HLS.out.symm); subst ht; clear ho hb hlst)
      | (go_at_call 11; with_reducible refine (sameB_true HR.out.sl HR2.out HQL.out.2.1).mono ?_; rintro e w0 ⟨rfl, hw0⟩; have hw10 := hw0.symm; subst hw10)
      | (go_at_call 11; with_reducible refine (sameB_true HM.out.sl HM2.out HTL.out.2.1).mono ?_; rintro e w0 ⟨rfl, hw0⟩; have hw10 := hw0.symm; subst hw10)
      | (go_at_call 19; with_reducible refine (over_out HR.out HQL.out.2.1 (by have := HQL.out.1; omega)).mono ?_; rintro e w11 ⟨rfl, ho⟩; replace HA := hid (HA.out.onlyAt ho (fun hne b hb h => by have := HAB.out hne b hb; have := HS6.out; have := h.2; omega)); replace HL := hid (HL.out.only ho (fun h => by have := HLB.out; have := h.2; omega)); replace HM := hid (HM.out.only ho (fun b hb h => by have := HD.out b h.1; have := (HM.out.blk b hb).1; omega)); replace HW := hid (below_tr HW.out (ho.below HW.out.size (fun i h => by have := HS6.out; have := h.2; omega))); clear ho HR)
      | (go_at_call 19; with_reducible refine (over_out HM.out HTL.out.2.1 (by have := HTL.out.1; omega)).mono ?_; rintro e w12 ⟨rfl, ho⟩; replace HA := hid (HA.out.onlyAt ho (fun hne b hb h => by have := HAB.out hne b hb; have := HS7.out; have := h.2; omega)); replace HL := hid (HL.out.only ho (fun h => by have := HLB2.out; have := h.2; omega)); replace HW := hid (below_tr HW.out (ho.below HW.out.size (fun i h => by have := HS7.out; have := h.2; omega))); clear ho HM)
      | (go_at_call 20; refine (keptB_any _ a cap bs _ hbs HL.out HA.out).mono ?_; rintro e w13 ⟨rfl, hb⟩; replace HW := hid (below_on HW.out hb); clear hb))
    go_ret
    exact ⟨rfl, HW.out⟩
  · have hn4 : ¬ n ≤ 1099511627776 := by omega
    go_enter Try.func3, Try.ntmps3
    go_wp2_with (first
      | (go_at_call 9; refine (uint_bad n _ hn).mono ?_; rintro e w0 ⟨rfl, hw0⟩; have hw9 := hw0.symm; subst hw9)
      | (go_at_call 10; refine (text_bad s _ hs.1).mono ?_; rintro e w0 ⟨rfl, hw0⟩; have hw9 := hw0.symm; subst hw9)
      | (go_at_call 14; refine (lentB_any a cap bs _ hbs HA.out).mono ?_; rintro e w5 ⟨rfl, hl, hb⟩; have HLT := hid hl.lt; replace HA := hid (HA.out.below hb); replace HW := hid (below_on HW.out hb); have HL := hid hl; clear hl hb)
      | (go_at_call 15; have HS6 := hid HW.out.size; have HLB := hid HL.out.lt; refine (readUint_ok _ _ bs _ HL.out.bl (by omega) (by omega) H8.out HQ.out).mono ?_; rintro e w6 ⟨x6, rfl, ho, hb⟩; replace HA := hid (HA.out.below hb); replace HW := hid (below_on HW.out hb); replace HL := hid (HL.out.below hb); have HR := hid ho;  clear ho hb)
      | (go_at_call 16; have HD := hid (fun b hb => (HR.out.blk b hb).2); have HS7 := hid HW.out.size; have HLB2 := hid HL.out.lt; refine (readText_ok _ _ bs _ HL.out.bl (by omega) (by omega) H8.out HT.out).mono ?_; rintro e w7 ⟨t7, x7, hlst, _, rfl, ho, hb⟩; replace HA := hid (HA.out.below hb); replace HW := hid (below_on HW.out hb); replace HL := hid (HL.out.below hb); replace HR := hid (HR.out.below hb); have HM := hid ho; have HLS := hid hlst; clear ho hb hlst)
      | (go_at_call 17; refine (rReadUint_any a cap bs _ HA.out hcap (by omega) H8.out).mono ?_; rintro e w8 ⟨hb, he⟩; rw [HQ.out] at he; obtain ⟨x8, he, ho⟩ := he; subst he; replace HA := hid (HA.out.below hb); replace HW := hid (below_on HW.out hb); replace HL := hid (HL.out.below hb); replace HR := hid (HR.out.below hb); replace HM := hid (HM.out.below hb); have HR2 := hid ho; clear ho hb)
      | (go_at_call 18; refine (rReadText_any a cap bs _ HA.out hcap (by omega) H8.out).mono ?_; rintro e w9 ⟨hb, he⟩; rw [HT.out] at he; obtain ⟨t9, x9, he, hlst, ho⟩ := he; subst he; replace HA := hid (HA.out.below hb); replace HW := hid (below_on HW.out hb); replace HL := hid (HL.out.below hb); replace HR := hid (HR.out.below hb); replace HM := hid (HM.out.below hb); replace HR2 := hid (HR2.out.below hb); have HM2 := hid ho; have ht : t9 = t7 := lst_inj (hlst.trans HLS.out.symm); subst ht; clear ho hb hlst)
      | (go_at_call 11; with_reducible refine (sameB_true HR.out.sl HR2.out HQL.out.2.1).mono ?_; rintro e w0 ⟨rfl, hw0⟩; have hw10 := hw0.symm; subst hw10)
      | (go_at_call 11; with_reducible refine (sameB_true HM.out.sl HM2.out HTL.out.2.1).mono ?_; rintro e w0 ⟨rfl, hw0⟩; have hw10 := hw0.symm; subst hw10)
      | (go_at_call 19; with_reducible refine (over_out HR.out HQL.out.2.1 (by have := HQL.out.1; omega)).mono ?_; rintro e w11 ⟨rfl, ho⟩; replace HA := hid (HA.out.onlyAt ho (fun hne b hb h => by have := HAB.out hne b hb; have := HS6.out; have := h.2; omega)); replace HL := hid (HL.out.only ho (fun h => by have := HLB.out; have := h.2; omega)); replace HM := hid (HM.out.only ho (fun b hb h => by have := HD.out b h.1; have := (HM.out.blk b hb).1; omega)); replace HW := hid (below_tr HW.out (ho.below HW.out.size (fun i h => by have := HS6.out; have := h.2; omega))); clear ho HR)
      | (go_at_call 19; with_reducible refine (over_out HM.out HTL.out.2.1 (by have := HTL.out.1; omega)).mono ?_; rintro e w12 ⟨rfl, ho⟩; replace HA := hid (HA.out.onlyAt ho (fun hne b hb h => by have := HAB.out hne b hb; have := HS7.out; have := h.2; omega)); replace HL := hid (HL.out.only ho (fun h => by have := HLB2.out; have := h.2; omega)); replace HW := hid (below_tr HW.out (ho.below HW.out.size (fun i h => by have := HS7.out; have := h.2; omega))); clear ho HM)
      | (go_at_call 20; refine (keptB_any _ a cap bs _ hbs HL.out HA.out).mono ?_; rintro e w13 ⟨rfl, hb⟩; replace HW := hid (below_on HW.out hb); clear hb))
    go_ret
    exact ⟨rfl, HW.out⟩
set_option maxRecDepth 100000 in
set_option maxHeartbeats 2000000 in
theorem num0010 (n : Int) (hn : n < 0 ∨ 1099511627776 < n) (hs : 65536 < s.size ∧ s.size ≤ 66000) (m : Nat) (r : List Nat) (hq : rdU bs = some (m, r)) (hx : rdT bs = none) (h : BL w a bs) (hcap : bs.length ≤ cap) (hbs : bs.length ≤ 70000) (h8 : ∀ z ∈ bs, z < 256) :
    Calls Try.prog 3 #[i64 n, .string s, .slice a bs.length cap] w fun e w' => e = .returned (.bool true) ∧ Below w.heap.size w w' := by
  have HA := hid h
  have H8 := hid h8
  have HW := hid (Below.refl w.heap.size w)
  have HAB : Hid (bs ≠ [] → ∀ b, a = some b → b.block < w.heap.size) := fun hne b hb => by
    rcases h with e | ⟨b', o', e, hc⟩
    · exact absurd e hne
    · rw [e] at hb; cases hb
      exact cell_lt' (a := ⟨b', o' + 0, none⟩) (by rw [hc 0 (List.length_pos_iff.2 hne)]; simp)
  have HQ := hid hq
  have HT := hid hx
  have HQL := hid (rdU_less h8 hq)
  clear h h8 hq hx
  have hs2 : ¬ 66000 < (s.size : Int) := by omega
  have hb2 : ¬ 70000 < (bs.length : Int) := by omega
  have hs3 : ¬ (s.size : Int) ≤ 65536 := by omega
  have hneg : n < 0 ∨ ¬ n < 0 := by omega
  rcases hneg with hneg | hneg
  · go_enter Try.func3, Try.ntmps3
    go_wp2_with (first
      | (go_at_call 9; refine (uint_bad n _ hn).mono ?_; rintro e w0 ⟨rfl, hw0⟩; have hw9 := hw0.symm; subst hw9)
      | (go_at_call 10; refine (text_bad s _ hs.1).mono ?_; rintro e w0 ⟨rfl, hw0⟩; have hw9 := hw0.symm; subst hw9)
      | (go_at_call 14; refine (lentB_any a cap bs _ hbs HA.out).mono ?_; rintro e w5 ⟨rfl, hl, hb⟩; have HLT := hid hl.lt; replace HA := hid (HA.out.below hb); replace HW := hid (below_on HW.out hb); have HL := hid hl; clear hl hb)
      | (go_at_call 15; have HS6 := hid HW.out.size; have HLB := hid HL.out.lt; refine (readUint_ok _ _ bs _ HL.out.bl (by omega) (by omega) H8.out HQ.out).mono ?_; rintro e w6 ⟨x6, rfl, ho, hb⟩; replace HA := hid (HA.out.below hb); replace HW := hid (below_on HW.out hb); replace HL := hid (HL.out.below hb); have HR := hid ho;  clear ho hb)
      | (go_at_call 16; refine (readText_bad _ _ bs _ HL.out.bl (by omega) (by omega) H8.out HT.out).mono ?_; rintro e w7 ⟨rfl, hb⟩; replace HA := hid (HA.out.below hb); replace HW := hid (below_on HW.out hb); replace HL := hid (HL.out.below hb); replace HR := hid (HR.out.below hb); clear hb)
      | (go_at_call 17; refine (rReadUint_any a cap bs _ HA.out hcap (by omega) H8.out).mono ?_; rintro e w8 ⟨hb, he⟩; rw [HQ.out] at he; obtain ⟨x8, he, ho⟩ := he; subst he; replace HA := hid (HA.out.below hb); replace HW := hid (below_on HW.out hb); replace HL := hid (HL.out.below hb); replace HR := hid (HR.out.below hb); have HR2 := hid ho; clear ho hb)
      | (go_at_call 18; refine (rReadText_any a cap bs _ HA.out hcap (by omega) H8.out).mono ?_; rintro e w9 ⟨hb, he⟩; rw [HT.out] at he; simp only at he; subst he; replace HA := hid (HA.out.below hb); replace HW := hid (below_on HW.out hb); replace HL := hid (HL.out.below hb); replace HR := hid (HR.out.below hb); replace HR2 := hid (HR2.out.below hb); clear hb)
      | (go_at_call 11; with_reducible refine (sameB_true HR.out.sl HR2.out HQL.out.2.1).mono ?_; rintro e w0 ⟨rfl, hw0⟩; have hw10 := hw0.symm; subst hw10)
      | (go_at_call 11; with_reducible refine (sameB_true (SL.nil _) (SL.nil _) nil_lt).mono ?_; rintro e w0 ⟨rfl, hw0⟩; have hw10 := hw0.symm; subst hw10)
      | (go_at_call 19; with_reducible refine (over_out HR.out HQL.out.2.1 (by have := HQL.out.1; omega)).mono ?_; rintro e w11 ⟨rfl, ho⟩; replace HA := hid (HA.out.onlyAt ho (fun hne b hb h => by have := HAB.out hne b hb; have := HS6.out; have := h.2; omega)); replace HL := hid (HL.out.only ho (fun h => by have := HLB.out; have := h.2; omega)); replace HW := hid (below_tr HW.out (ho.below HW.out.size (fun i h => by have := HS6.out; have := h.2; omega))); clear ho HR)
      | (go_at_call 19; with_reducible refine (over2_nil _).mono ?_; rintro e w0 ⟨rfl, hw0⟩; have hw9 := hw0.symm; subst hw9)
      | (go_at_call 20; refine (keptB_any _ a cap bs _ hbs HL.out HA.out).mono ?_; rintro e w13 ⟨rfl, hb⟩; replace HW := hid (below_on HW.out hb); clear hb))
    go_ret
    exact ⟨rfl, HW.out⟩
  · have hn4 : ¬ n ≤ 1099511627776 := by omega
    go_enter Try.func3, Try.ntmps3
    go_wp2_with (first
      | (go_at_call 9; refine (uint_bad n _ hn).mono ?_; rintro e w0 ⟨rfl, hw0⟩; have hw9 := hw0.symm; subst hw9)
      | (go_at_call 10; refine (text_bad s _ hs.1).mono ?_; rintro e w0 ⟨rfl, hw0⟩; have hw9 := hw0.symm; subst hw9)
      | (go_at_call 14; refine (lentB_any a cap bs _ hbs HA.out).mono ?_; rintro e w5 ⟨rfl, hl, hb⟩; have HLT := hid hl.lt; replace HA := hid (HA.out.below hb); replace HW := hid (below_on HW.out hb); have HL := hid hl; clear hl hb)
      | (go_at_call 15; have HS6 := hid HW.out.size; have HLB := hid HL.out.lt; refine (readUint_ok _ _ bs _ HL.out.bl (by omega) (by omega) H8.out HQ.out).mono ?_; rintro e w6 ⟨x6, rfl, ho, hb⟩; replace HA := hid (HA.out.below hb); replace HW := hid (below_on HW.out hb); replace HL := hid (HL.out.below hb); have HR := hid ho;  clear ho hb)
      | (go_at_call 16; refine (readText_bad _ _ bs _ HL.out.bl (by omega) (by omega) H8.out HT.out).mono ?_; rintro e w7 ⟨rfl, hb⟩; replace HA := hid (HA.out.below hb); replace HW := hid (below_on HW.out hb); replace HL := hid (HL.out.below hb); replace HR := hid (HR.out.below hb); clear hb)
      | (go_at_call 17; refine (rReadUint_any a cap bs _ HA.out hcap (by omega) H8.out).mono ?_; rintro e w8 ⟨hb, he⟩; rw [HQ.out] at he; obtain ⟨x8, he, ho⟩ := he; subst he; replace HA := hid (HA.out.below hb); replace HW := hid (below_on HW.out hb); replace HL := hid (HL.out.below hb); replace HR := hid (HR.out.below hb); have HR2 := hid ho; clear ho hb)
      | (go_at_call 18; refine (rReadText_any a cap bs _ HA.out hcap (by omega) H8.out).mono ?_; rintro e w9 ⟨hb, he⟩; rw [HT.out] at he; simp only at he; subst he; replace HA := hid (HA.out.below hb); replace HW := hid (below_on HW.out hb); replace HL := hid (HL.out.below hb); replace HR := hid (HR.out.below hb); replace HR2 := hid (HR2.out.below hb); clear hb)
      | (go_at_call 11; with_reducible refine (sameB_true HR.out.sl HR2.out HQL.out.2.1).mono ?_; rintro e w0 ⟨rfl, hw0⟩; have hw10 := hw0.symm; subst hw10)
      | (go_at_call 11; with_reducible refine (sameB_true (SL.nil _) (SL.nil _) nil_lt).mono ?_; rintro e w0 ⟨rfl, hw0⟩; have hw10 := hw0.symm; subst hw10)
      | (go_at_call 19; with_reducible refine (over_out HR.out HQL.out.2.1 (by have := HQL.out.1; omega)).mono ?_; rintro e w11 ⟨rfl, ho⟩; replace HA := hid (HA.out.onlyAt ho (fun hne b hb h => by have := HAB.out hne b hb; have := HS6.out; have := h.2; omega)); replace HL := hid (HL.out.only ho (fun h => by have := HLB.out; have := h.2; omega)); replace HW := hid (below_tr HW.out (ho.below HW.out.size (fun i h => by have := HS6.out; have := h.2; omega))); clear ho HR)
      | (go_at_call 19; with_reducible refine (over2_nil _).mono ?_; rintro e w0 ⟨rfl, hw0⟩; have hw9 := hw0.symm; subst hw9)
      | (go_at_call 20; refine (keptB_any _ a cap bs _ hbs HL.out HA.out).mono ?_; rintro e w13 ⟨rfl, hb⟩; replace HW := hid (below_on HW.out hb); clear hb))
    go_ret
    exact ⟨rfl, HW.out⟩
set_option maxRecDepth 100000 in
set_option maxHeartbeats 2000000 in
theorem num0001 (n : Int) (hn : n < 0 ∨ 1099511627776 < n) (hs : 65536 < s.size ∧ s.size ≤ 66000) (hq : rdU bs = none) (x r2 : List Nat) (hx : rdT bs = some (x, r2)) (h : BL w a bs) (hcap : bs.length ≤ cap) (hbs : bs.length ≤ 70000) (h8 : ∀ z ∈ bs, z < 256) :
    Calls Try.prog 3 #[i64 n, .string s, .slice a bs.length cap] w fun e w' => e = .returned (.bool true) ∧ Below w.heap.size w w' := by
  have HA := hid h
  have H8 := hid h8
  have HW := hid (Below.refl w.heap.size w)
  have HAB : Hid (bs ≠ [] → ∀ b, a = some b → b.block < w.heap.size) := fun hne b hb => by
    rcases h with e | ⟨b', o', e, hc⟩
    · exact absurd e hne
    · rw [e] at hb; cases hb
      exact cell_lt' (a := ⟨b', o' + 0, none⟩) (by rw [hc 0 (List.length_pos_iff.2 hne)]; simp)
  have HQ := hid hq
  have HT := hid hx
  have HTL := hid (rdT_less h8 hx)
  clear h h8 hq hx
  have hs2 : ¬ 66000 < (s.size : Int) := by omega
  have hb2 : ¬ 70000 < (bs.length : Int) := by omega
  have hs3 : ¬ (s.size : Int) ≤ 65536 := by omega
  have hneg : n < 0 ∨ ¬ n < 0 := by omega
  rcases hneg with hneg | hneg
  · go_enter Try.func3, Try.ntmps3
    go_wp2_with (first
      | (go_at_call 9; refine (uint_bad n _ hn).mono ?_; rintro e w0 ⟨rfl, hw0⟩; have hw9 := hw0.symm; subst hw9)
      | (go_at_call 10; refine (text_bad s _ hs.1).mono ?_; rintro e w0 ⟨rfl, hw0⟩; have hw9 := hw0.symm; subst hw9)
      | (go_at_call 14; refine (lentB_any a cap bs _ hbs HA.out).mono ?_; rintro e w5 ⟨rfl, hl, hb⟩; have HLT := hid hl.lt; replace HA := hid (HA.out.below hb); replace HW := hid (below_on HW.out hb); have HL := hid hl; clear hl hb)
      | (go_at_call 15; refine (readUint_bad _ _ bs _ HL.out.bl (by omega) (by omega) H8.out HQ.out).mono ?_; rintro e w6 ⟨rfl, hb⟩; replace HA := hid (HA.out.below hb); replace HW := hid (below_on HW.out hb); replace HL := hid (HL.out.below hb); clear hb)
      | (go_at_call 16; have HS7 := hid HW.out.size; have HLB2 := hid HL.out.lt; refine (readText_ok _ _ bs _ HL.out.bl (by omega) (by omega) H8.out HT.out).mono ?_; rintro e w7 ⟨t7, x7, hlst, _, rfl, ho, hb⟩; replace HA := hid (HA.out.below hb); replace HW := hid (below_on HW.out hb); replace HL := hid (HL.out.below hb); have HM := hid ho; have HLS := hid hlst; clear ho hb hlst)
      | (go_at_call 17; refine (rReadUint_any a cap bs _ HA.out hcap (by omega) H8.out).mono ?_; rintro e w8 ⟨hb, he⟩; rw [HQ.out] at he; simp only at he; subst he; replace HA := hid (HA.out.below hb); replace HW := hid (below_on HW.out hb); replace HL := hid (HL.out.below hb); replace HM := hid (HM.out.below hb); clear hb)
      | (go_at_call 18; refine (rReadText_any a cap bs _ HA.out hcap (by omega) H8.out).mono ?_; rintro e w9 ⟨hb, he⟩; rw [HT.out] at he; obtain ⟨t9, x9, he, hlst, ho⟩ := he; subst he; replace HA := hid (HA.out.below hb); replace HW := hid (below_on HW.out hb); replace HL := hid (HL.out.below hb); replace HM := hid (HM.out.below hb); have HM2 := hid ho; have ht : t9 = t7 := lst_inj (hlst.trans HLS.out.symm); subst ht; clear ho hb hlst)
      | (go_at_call 11; with_reducible refine (sameB_true HM.out.sl HM2.out HTL.out.2.1).mono ?_; rintro e w0 ⟨rfl, hw0⟩; have hw10 := hw0.symm; subst hw10)
      | (go_at_call 11; with_reducible refine (sameB_true (SL.nil _) (SL.nil _) nil_lt).mono ?_; rintro e w0 ⟨rfl, hw0⟩; have hw10 := hw0.symm; subst hw10)
      | (go_at_call 19; with_reducible refine (over_out HM.out HTL.out.2.1 (by have := HTL.out.1; omega)).mono ?_; rintro e w12 ⟨rfl, ho⟩; replace HA := hid (HA.out.onlyAt ho (fun hne b hb h => by have := HAB.out hne b hb; have := HS7.out; have := h.2; omega)); replace HL := hid (HL.out.only ho (fun h => by have := HLB2.out; have := h.2; omega)); replace HW := hid (below_tr HW.out (ho.below HW.out.size (fun i h => by have := HS7.out; have := h.2; omega))); clear ho HM)
      | (go_at_call 19; with_reducible refine (over2_nil _).mono ?_; rintro e w0 ⟨rfl, hw0⟩; have hw9 := hw0.symm; subst hw9)
      | (go_at_call 20; refine (keptB_any _ a cap bs _ hbs HL.out HA.out).mono ?_; rintro e w13 ⟨rfl, hb⟩; replace HW := hid (below_on HW.out hb); clear hb))
    go_ret
    exact ⟨rfl, HW.out⟩
  · have hn4 : ¬ n ≤ 1099511627776 := by omega
    go_enter Try.func3, Try.ntmps3
    go_wp2_with (first
      | (go_at_call 9; refine (uint_bad n _ hn).mono ?_; rintro e w0 ⟨rfl, hw0⟩; have hw9 := hw0.symm; subst hw9)
      | (go_at_call 10; refine (text_bad s _ hs.1).mono ?_; rintro e w0 ⟨rfl, hw0⟩; have hw9 := hw0.symm; subst hw9)
      | (go_at_call 14; refine (lentB_any a cap bs _ hbs HA.out).mono ?_; rintro e w5 ⟨rfl, hl, hb⟩; have HLT := hid hl.lt; replace HA := hid (HA.out.below hb); replace HW := hid (below_on HW.out hb); have HL := hid hl; clear hl hb)
      | (go_at_call 15; refine (readUint_bad _ _ bs _ HL.out.bl (by omega) (by omega) H8.out HQ.out).mono ?_; rintro e w6 ⟨rfl, hb⟩; replace HA := hid (HA.out.below hb); replace HW := hid (below_on HW.out hb); replace HL := hid (HL.out.below hb); clear hb)
      | (go_at_call 16; have HS7 := hid HW.out.size; have HLB2 := hid HL.out.lt; refine (readText_ok _ _ bs _ HL.out.bl (by omega) (by omega) H8.out HT.out).mono ?_; rintro e w7 ⟨t7, x7, hlst, _, rfl, ho, hb⟩; replace HA := hid (HA.out.below hb); replace HW := hid (below_on HW.out hb); replace HL := hid (HL.out.below hb); have HM := hid ho; have HLS := hid hlst; clear ho hb hlst)
      | (go_at_call 17; refine (rReadUint_any a cap bs _ HA.out hcap (by omega) H8.out).mono ?_; rintro e w8 ⟨hb, he⟩; rw [HQ.out] at he; simp only at he; subst he; replace HA := hid (HA.out.below hb); replace HW := hid (below_on HW.out hb); replace HL := hid (HL.out.below hb); replace HM := hid (HM.out.below hb); clear hb)
      | (go_at_call 18; refine (rReadText_any a cap bs _ HA.out hcap (by omega) H8.out).mono ?_; rintro e w9 ⟨hb, he⟩; rw [HT.out] at he; obtain ⟨t9, x9, he, hlst, ho⟩ := he; subst he; replace HA := hid (HA.out.below hb); replace HW := hid (below_on HW.out hb); replace HL := hid (HL.out.below hb); replace HM := hid (HM.out.below hb); have HM2 := hid ho; have ht : t9 = t7 := lst_inj (hlst.trans HLS.out.symm); subst ht; clear ho hb hlst)
      | (go_at_call 11; with_reducible refine (sameB_true HM.out.sl HM2.out HTL.out.2.1).mono ?_; rintro e w0 ⟨rfl, hw0⟩; have hw10 := hw0.symm; subst hw10)
      | (go_at_call 11; with_reducible refine (sameB_true (SL.nil _) (SL.nil _) nil_lt).mono ?_; rintro e w0 ⟨rfl, hw0⟩; have hw10 := hw0.symm; subst hw10)
      | (go_at_call 19; with_reducible refine (over_out HM.out HTL.out.2.1 (by have := HTL.out.1; omega)).mono ?_; rintro e w12 ⟨rfl, ho⟩; replace HA := hid (HA.out.onlyAt ho (fun hne b hb h => by have := HAB.out hne b hb; have := HS7.out; have := h.2; omega)); replace HL := hid (HL.out.only ho (fun h => by have := HLB2.out; have := h.2; omega)); replace HW := hid (below_tr HW.out (ho.below HW.out.size (fun i h => by have := HS7.out; have := h.2; omega))); clear ho HM)
      | (go_at_call 19; with_reducible refine (over2_nil _).mono ?_; rintro e w0 ⟨rfl, hw0⟩; have hw9 := hw0.symm; subst hw9)
      | (go_at_call 20; refine (keptB_any _ a cap bs _ hbs HL.out HA.out).mono ?_; rintro e w13 ⟨rfl, hb⟩; replace HW := hid (below_on HW.out hb); clear hb))
    go_ret
    exact ⟨rfl, HW.out⟩
set_option maxRecDepth 100000 in
set_option maxHeartbeats 2000000 in
theorem num0000 (n : Int) (hn : n < 0 ∨ 1099511627776 < n) (hs : 65536 < s.size ∧ s.size ≤ 66000) (hq : rdU bs = none) (hx : rdT bs = none) (h : BL w a bs) (hcap : bs.length ≤ cap) (hbs : bs.length ≤ 70000) (h8 : ∀ z ∈ bs, z < 256) :
    Calls Try.prog 3 #[i64 n, .string s, .slice a bs.length cap] w fun e w' => e = .returned (.bool true) ∧ Below w.heap.size w w' := by
  have HA := hid h
  have H8 := hid h8
  have HW := hid (Below.refl w.heap.size w)
  have HAB : Hid (bs ≠ [] → ∀ b, a = some b → b.block < w.heap.size) := fun hne b hb => by
    rcases h with e | ⟨b', o', e, hc⟩
    · exact absurd e hne
    · rw [e] at hb; cases hb
      exact cell_lt' (a := ⟨b', o' + 0, none⟩) (by rw [hc 0 (List.length_pos_iff.2 hne)]; simp)
  have HQ := hid hq
  have HT := hid hx
  clear h h8 hq hx
  have hs2 : ¬ 66000 < (s.size : Int) := by omega
  have hb2 : ¬ 70000 < (bs.length : Int) := by omega
  have hs3 : ¬ (s.size : Int) ≤ 65536 := by omega
  have hneg : n < 0 ∨ ¬ n < 0 := by omega
  rcases hneg with hneg | hneg
  · go_enter Try.func3, Try.ntmps3
    go_wp2_with (first
      | (go_at_call 9; refine (uint_bad n _ hn).mono ?_; rintro e w0 ⟨rfl, hw0⟩; have hw9 := hw0.symm; subst hw9)
      | (go_at_call 10; refine (text_bad s _ hs.1).mono ?_; rintro e w0 ⟨rfl, hw0⟩; have hw9 := hw0.symm; subst hw9)
      | (go_at_call 14; refine (lentB_any a cap bs _ hbs HA.out).mono ?_; rintro e w5 ⟨rfl, hl, hb⟩; have HLT := hid hl.lt; replace HA := hid (HA.out.below hb); replace HW := hid (below_on HW.out hb); have HL := hid hl; clear hl hb)
      | (go_at_call 15; refine (readUint_bad _ _ bs _ HL.out.bl (by omega) (by omega) H8.out HQ.out).mono ?_; rintro e w6 ⟨rfl, hb⟩; replace HA := hid (HA.out.below hb); replace HW := hid (below_on HW.out hb); replace HL := hid (HL.out.below hb); clear hb)
      | (go_at_call 16; refine (readText_bad _ _ bs _ HL.out.bl (by omega) (by omega) H8.out HT.out).mono ?_; rintro e w7 ⟨rfl, hb⟩; replace HA := hid (HA.out.below hb); replace HW := hid (below_on HW.out hb); replace HL := hid (HL.out.below hb); clear hb)
      | (go_at_call 17; refine (rReadUint_any a cap bs _ HA.out hcap (by omega) H8.out).mono ?_; rintro e w8 ⟨hb, he⟩; rw [HQ.out] at he; simp only at he; subst he; replace HA := hid (HA.out.below hb); replace HW := hid (below_on HW.out hb); replace HL := hid (HL.out.below hb); clear hb)
      | (go_at_call 18; refine (rReadText_any a cap bs _ HA.out hcap (by omega) H8.out).mono ?_; rintro e w9 ⟨hb, he⟩; rw [HT.out] at he; simp only at he; subst he; replace HA := hid (HA.out.below hb); replace HW := hid (below_on HW.out hb); replace HL := hid (HL.out.below hb); clear hb)
      | (go_at_call 11; with_reducible refine (sameB_true (SL.nil _) (SL.nil _) nil_lt).mono ?_; rintro e w0 ⟨rfl, hw0⟩; have hw10 := hw0.symm; subst hw10)
      | (go_at_call 19; with_reducible refine (over2_nil _).mono ?_; rintro e w0 ⟨rfl, hw0⟩; have hw9 := hw0.symm; subst hw9)
      | (go_at_call 20; refine (keptB_any _ a cap bs _ hbs HL.out HA.out).mono ?_; rintro e w13 ⟨rfl, hb⟩; replace HW := hid (below_on HW.out hb); clear hb))
    go_ret
    exact ⟨rfl, HW.out⟩
  · have hn4 : ¬ n ≤ 1099511627776 := by omega
    go_enter Try.func3, Try.ntmps3
    go_wp2_with (first
      | (go_at_call 9; refine (uint_bad n _ hn).mono ?_; rintro e w0 ⟨rfl, hw0⟩; have hw9 := hw0.symm; subst hw9)
      | (go_at_call 10; refine (text_bad s _ hs.1).mono ?_; rintro e w0 ⟨rfl, hw0⟩; have hw9 := hw0.symm; subst hw9)
      | (go_at_call 14; refine (lentB_any a cap bs _ hbs HA.out).mono ?_; rintro e w5 ⟨rfl, hl, hb⟩; have HLT := hid hl.lt; replace HA := hid (HA.out.below hb); replace HW := hid (below_on HW.out hb); have HL := hid hl; clear hl hb)
      | (go_at_call 15; refine (readUint_bad _ _ bs _ HL.out.bl (by omega) (by omega) H8.out HQ.out).mono ?_; rintro e w6 ⟨rfl, hb⟩; replace HA := hid (HA.out.below hb); replace HW := hid (below_on HW.out hb); replace HL := hid (HL.out.below hb); clear hb)
      | (go_at_call 16; refine (readText_bad _ _ bs _ HL.out.bl (by omega) (by omega) H8.out HT.out).mono ?_; rintro e w7 ⟨rfl, hb⟩; replace HA := hid (HA.out.below hb); replace HW := hid (below_on HW.out hb); replace HL := hid (HL.out.below hb); clear hb)
      | (go_at_call 17; refine (rReadUint_any a cap bs _ HA.out hcap (by omega) H8.out).mono ?_; rintro e w8 ⟨hb, he⟩; rw [HQ.out] at he; simp only at he; subst he; replace HA := hid (HA.out.below hb); replace HW := hid (below_on HW.out hb); replace HL := hid (HL.out.below hb); clear hb)
      | (go_at_call 18; refine (rReadText_any a cap bs _ HA.out hcap (by omega) H8.out).mono ?_; rintro e w9 ⟨hb, he⟩; rw [HT.out] at he; simp only at he; subst he; replace HA := hid (HA.out.below hb); replace HW := hid (below_on HW.out hb); replace HL := hid (HL.out.below hb); clear hb)
      | (go_at_call 11; with_reducible refine (sameB_true (SL.nil _) (SL.nil _) nil_lt).mono ?_; rintro e w0 ⟨rfl, hw0⟩; have hw10 := hw0.symm; subst hw10)
      | (go_at_call 19; with_reducible refine (over2_nil _).mono ?_; rintro e w0 ⟨rfl, hw0⟩; have hw9 := hw0.symm; subst hw9)
      | (go_at_call 20; refine (keptB_any _ a cap bs _ hbs HL.out HA.out).mono ?_; rintro e w13 ⟨rfl, hb⟩; replace HW := hid (below_on HW.out hb); clear hb))
    go_ret
    exact ⟨rfl, HW.out⟩
end
end Go.Proofs.Ytepkpkbgmchioaa

/- RecordNumbers, whatever comes in. -/
namespace Go.Proofs.Ytepkpkbgmchioaa
open Go Go.RowKit

set_option maxRecDepth 100000 in
theorem num_big1 (n : Int) (s : ByteArray) (a : Option Addr) (len cap : Nat) (w : World) (hs : 66000 < s.size) :
    Calls Try.prog 3 #[i64 n, .string s, .slice a len cap] w fun e w' => e = .returned (.bool true) ∧ Below w.heap.size w w' := by
  have hs' : 66000 < (s.size : Int) := by omega
  go_enter Try.func3, Try.ntmps3
  go_wp2_with fail
  go_ret
  exact ⟨rfl, Below.refl _ _⟩
set_option maxRecDepth 100000 in
theorem num_big2 (n : Int) (s : ByteArray) (a : Option Addr) (len cap : Nat) (w : World) (hs : s.size ≤ 66000) (hl : 70000 < len) :
    Calls Try.prog 3 #[i64 n, .string s, .slice a len cap] w fun e w' => e = .returned (.bool true) ∧ Below w.heap.size w w' := by
  have hs' : ¬ 66000 < (s.size : Int) := by omega
  have hl' : 70000 < (len : Int) := by omega
  go_enter Try.func3, Try.ntmps3
  go_wp2_with fail
  go_ret
  exact ⟨rfl, Below.refl _ _⟩
theorem numbers_all (n : Int) (s : ByteArray) (a : Option Addr) (len cap : Nat) (w : World) (h : IsB w a len cap) :
    Calls Try.prog 3 #[i64 n, .string s, .slice a len cap] w fun e w' => e = .returned (.bool true) ∧ Below w.heap.size w w' := by
  obtain ⟨bs, rfl, hcap, hbl, h8, _⟩ := h
  by_cases hs : 66000 < s.size
  · exact num_big1 n s a _ cap w hs
  by_cases hl : 70000 < bs.length
  · exact num_big2 n s a _ cap w (by omega) hl
  have hbs : bs.length ≤ 70000 := by omega
  by_cases hn : 0 ≤ n ∧ n ≤ 1099511627776
  · obtain ⟨k, rfl⟩ := Int.eq_ofNat_of_zero_le hn.1
    have hk : k ≤ 1099511627776 := by omega
    by_cases ht : s.size ≤ 65536 <;> cases hq : rdU bs <;> cases hx : rdT bs
    · exact num1100 s a cap bs w k hk ht hq hx hbl hcap hbs h8
    · exact num1101 s a cap bs w k hk ht hq _ _ hx hbl hcap hbs h8
    · exact num1110 s a cap bs w k hk ht _ _ hq hx hbl hcap hbs h8
    · exact num1111 s a cap bs w k hk ht _ _ hq _ _ hx hbl hcap hbs h8
    · exact num1000 s a cap bs w k hk (by omega) hq hx hbl hcap hbs h8
    · exact num1001 s a cap bs w k hk (by omega) hq _ _ hx hbl hcap hbs h8
    · exact num1010 s a cap bs w k hk (by omega) _ _ hq hx hbl hcap hbs h8
    · exact num1011 s a cap bs w k hk (by omega) _ _ hq _ _ hx hbl hcap hbs h8
  · have hk : n < 0 ∨ 1099511627776 < n := by omega
    by_cases ht : s.size ≤ 65536 <;> cases hq : rdU bs <;> cases hx : rdT bs
    · exact num0100 s a cap bs w n hk ht hq hx hbl hcap hbs h8
    · exact num0101 s a cap bs w n hk ht hq _ _ hx hbl hcap hbs h8
    · exact num0110 s a cap bs w n hk ht _ _ hq hx hbl hcap hbs h8
    · exact num0111 s a cap bs w n hk ht _ _ hq _ _ hx hbl hcap hbs h8
    · exact num0000 s a cap bs w n hk (by omega) hq hx hbl hcap hbs h8
    · exact num0001 s a cap bs w n hk (by omega) hq _ _ hx hbl hcap hbs h8
    · exact num0010 s a cap bs w n hk (by omega) _ _ hq hx hbl hcap hbs h8
    · exact num0011 s a cap bs w n hk (by omega) _ _ hq _ _ hx hbl hcap hbs h8
#print axioms numbers_all
end Go.Proofs.Ytepkpkbgmchioaa
