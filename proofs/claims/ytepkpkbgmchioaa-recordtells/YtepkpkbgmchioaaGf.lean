/- Texts laid into one: the remark ahead of each part says what is proved there. -/
import Derived.Test.YtepkpkbgmchioaaGb
import Derived.ChangeArms
import Derived.ChangeSlices
import Derived.OpenShut
/- Bytes that came in. -/
namespace Go.Proofs.Ytepkpkbgmchioaa
open Go Go.RowKit

theorem plain_at (a : Addr) (w : World) (h : w.cell? a ≠ none) : ∃ b o, a = ⟨b, o, none⟩ := by
  obtain ⟨b, o, sp⟩ := a
  cases sp with
  | none => exact ⟨b, o, rfl⟩
  | some s =>
    exfalso; apply h
    unfold World.cell?
    split <;> simp
theorem bounds8 {k : Int} (h : (Lit.int .u8 k).wf = true) : 0 ≤ k ∧ k ≤ 255 := by
  simp [Lit.wf, IntKind.min, IntKind.max, IntKind.signed, IntKind.bits] at h; omega
theorem wf64 {k : Int} (h : (Lit.int .i64 k).wf = true) : -9223372036854775808 ≤ k ∧ k ≤ 9223372036854775807 := by
  simp [Lit.wf, IntKind.min, IntKind.max, IntKind.signed, IntKind.bits] at h; omega
/-- What is told of bytes that came in. -/
def IsB (w : World) (a : Option Addr) (len cap : Nat) : Prop := ∃ bs : List Nat, bs.length = len ∧ len ≤ cap ∧ BL w a bs ∧ (∀ x ∈ bs, x < 256) ∧ (a = none → cap = 0)
theorem bytes_open {H : Type} {enc : TypeId × Value → H} {w : World} {held : Bool} {fuel : Nat} {a : Option Addr} {len cap : Nat} {x : DataW H × List MemPlace}
    (h : DataW.trod enc Try.prog w 0 (fun _ => true) held fuel 22 (Value.slice a len cap).cells.toList = some x) : IsB w a len cap := by
  rcases Go.ChangeShapes.open_ints Try.underlying22 Try.underlying5 (by kernel_rfl) h with ⟨hcs, _⟩ | ⟨ad, l, c, zs, hcs, _, hl, hm, hz, _, hcell, hwz⟩
  · simp [Value.cells] at hcs
    obtain ⟨rfl, rfl, rfl⟩ := hcs
    exact ⟨[], rfl, Nat.le_refl _, Or.inl rfl, by simp, fun _ => rfl⟩
  · simp [Value.cells] at hcs
    obtain ⟨rfl, rfl, rfl⟩ := hcs
    have hz' : zs.length = cap := by simpa using hz
    have hbd : ∀ i, i < len → 0 ≤ zs.getD i 0 ∧ zs.getD i 0 ≤ 255 := fun i hi => by
      have hlt : i < zs.length := by omega
      have e : zs.getD i 0 = zs[i] := by simp [List.getD, hlt]
      rw [e]; exact bounds8 (hwz _ (List.getElem_mem hlt))
    refine ⟨(List.range len).map fun i => (zs.getD i 0).toNat, by simp, hl, ?_, fun y hy => ?_, fun e => by cases e⟩
    · by_cases h0 : len = 0
      · subst h0; exact Or.inl rfl
      · obtain ⟨b, o, rfl⟩ := plain_at ad w (by have := hcell 0 (by omega); rw [add_zero'] at this; rw [this]; simp)
        refine Or.inr ⟨b, o, rfl, fun i hi => ?_⟩
        have hi' : i < len := by simpa using hi
        have hc := hcell i (by omega)
        rw [add_none] at hc
        rw [hc]
        have e1 : ((List.range len).map fun i => (zs.getD i 0).toNat).getD i 0 = (zs.getD i 0).toNat := by simp [List.getD, hi']
        rw [e1]; unfold u8; rw [Int.toNat_of_nonneg (hbd i hi').1]
    · obtain ⟨i, hi, rfl⟩ := List.mem_map.1 hy
      have := hbd i (by simpa using hi)
      omega
#print axioms bytes_open
end Go.Proofs.Ytepkpkbgmchioaa

/- The walk of RecordNumbers, some cases. (Written by tools/gen_Vj.py.) -/
namespace Go.Proofs.Ytepkpkbgmchioaa
open Go Go.RowKit
section
variable (s : ByteArray) (a : Option Addr) (cap : Nat) (bs : List Nat) (w : World)
set_option maxRecDepth 100000 in
set_option maxHeartbeats 2000000 in
theorem num1111 (n : Nat) (hn : n ≤ 1099511627776) (hs : s.size ≤ 65536) (m : Nat) (r : List Nat) (hq : rdU bs = some (m, r)) (x r2 : List Nat) (hx : rdT bs = some (x, r2)) (h : BL w a bs) (hcap : bs.length ≤ cap) (hbs : bs.length ≤ 70000) (h8 : ∀ z ∈ bs, z < 256) :
    Calls Try.prog 3 #[i64 n, .string s, .slice a bs.length cap] w fun e w' => e = .returned (.bool true) ∧ Below w.heap.size w w' := by
  have HA := hid h
  have H8 := hid h8
  have HW := hid (Below.refl w.heap.size w)
  have HAB : Hid (bs ≠ [] → ∀ b, a = some b → b.block < w.heap.size) := fun hne b hb => by
    rcases h with e | ⟨b', o', e, hc⟩
    · exact absurd e hne
    · rw [e] at hb; cases hb
      exact cell_lt' (a := ⟨b', o' + 0, none⟩) (by rw [hc 0 (List.length_pos_iff.2 hne)]; simp)
  have HQ := hid hq
  have HT := hid hx
  have HQL := hid (rdU_less h8 hq)
  have HTL := hid (rdT_less h8 hx)
  clear h h8 hq hx
  have hs2 : ¬ 66000 < (s.size : Int) := by omega
  have hb2 : ¬ 70000 < (bs.length : Int) := by omega
  have hs3 : (s.size : Int) ≤ 65536 := by omega
  have hn3 : (n : Int) ≤ 1099511627776 := by omega
  go_enter Try.func3, Try.ntmps3
  go_wp2_with (first
    | (go_at_call 9; refine (uint_ok n _ hn).mono ?_; rintro e w1 ⟨x1, rfl, ho, hb⟩; replace HA := hid (HA.out.below hb); replace HW := hid (below_on HW.out hb); have HX := hid ho.sl; clear ho hb)
    | (go_at_call 10; refine (text_ok s _ hs).mono ?_; rintro e w2 ⟨x2, rfl, ho, hb⟩; replace HA := hid (HA.out.below hb); replace HW := hid (below_on HW.out hb); replace HX := hid (HX.out.below hb); have HY := hid ho.sl; clear ho hb)
    | (go_at_call 12; refine (rUint_any n _ hn).mono ?_; rintro e w3 ⟨x3, rfl, ho, hb⟩; replace HA := hid (HA.out.below hb); replace HW := hid (below_on HW.out hb); replace HX := hid (HX.out.below hb); replace HY := hid (HY.out.below hb); have HX2 := hid ho.sl; clear ho hb)
    | (go_at_call 11; with_reducible refine (sameB_true HX.out HX2.out (nb_byte _)).mono ?_; rintro e w0 ⟨rfl, hw0⟩; have hw9 := hw0.symm; subst hw9)
    | (go_at_call 13; refine (rText_any s _ hs).mono ?_; rintro e w4 ⟨x4, rfl, ho, hb⟩; replace HA := hid (HA.out.below hb); replace HW := hid (below_on HW.out hb); replace HX := hid (HX.out.below hb); replace HY := hid (HY.out.below hb); replace HX2 := hid (HX2.out.below hb); have HY2 := hid ho.sl; clear ho hb)
    | (go_at_call 11; with_reducible refine (sameB_true HY.out HY2.out (tb_lt s)).mono ?_; rintro e w0 ⟨rfl, hw0⟩; have hw9 := hw0.symm; subst hw9)
    | (go_at_call 14; refine (lentB_any a cap bs _ hbs HA.out).mono ?_; rintro e w5 ⟨rfl, hl, hb⟩; have HLT := hid hl.lt; replace HA := hid (HA.out.below hb); replace HW := hid (below_on HW.out hb); have HL := hid hl; clear hl hb)
    | (go_at_call 15; have HS6 := hid HW.out.size; have HLB := hid HL.out.lt; refine (readUint_ok _ _ bs _ HL.out.bl (by omega) (by omega) H8.out HQ.out).mono ?_; rintro e w6 ⟨x6, rfl, ho, hb⟩; replace HA := hid (HA.out.below hb); replace HW := hid (below_on HW.out hb); replace HL := hid (HL.out.below hb); have HR := hid ho;  clear ho hb)
    | (go_at_call 16; have HD := hid (fun b hb => (HR.out.blk b hb).2); have HS7 := hid HW.out.size; have HLB2 := hid HL.out.lt; refine (readText_ok _ _ bs _ HL.out.bl (by omega) (by omega) H8.out HT.out).mono ?_; rintro e w7 ⟨t7, x7, hlst, _, rfl, ho, hb⟩; replace HA := hid (HA.out.below hb); replace HW := hid (below_on HW.out hb); replace HL := hid (HL.out.below hb); replace HR := hid (HR.out.below hb); have HM := hid ho; have HLS := hid hlst; clear ho hb hlst)
    | (go_at_call 17; refine (rReadUint_any a cap bs _ HA.out hcap (by omega) H8.out).mono ?_; rintro e w8 ⟨hb, he⟩; rw [HQ.out] at he; obtain ⟨x8, he, ho⟩ := he; subst he; replace HA := hid (HA.out.below hb); replace HW := hid (below_on HW.out hb); replace HL := hid (HL.out.below hb); replace HR := hid (HR.out.below hb); replace HM := hid (HM.out.below hb); have HR2 := hid ho; clear ho hb)
    | (go_at_call 18; refine (rReadText_any a cap bs _ HA.out hcap (by omega) H8.out).mono ?_; rintro e w9 ⟨hb, he⟩; rw [HT.out] at he; obtain ⟨t9, x9, he, hlst, ho⟩ := he; subst he; replace HA := hid (HA.out.below hb); replace HW := hid (below_on HW.out hb); replace HL := hid (HL.out.below hb); replace HR := hid (HR.out.below hb); replace HM := hid (HM.out.below hb); replace HR2 := hid (HR2.out.below hb); have HM2 := hid ho; have ht : t9 = t7 := lst_inj (hlst.trans HLS.out.symm); subst ht; clear ho hb hlst)
    | (go_at_call 11; with_reducible refine (sameB_true HR.out.sl HR2.out HQL.out.2.1).mono ?_; rintro e w0 ⟨rfl, hw0⟩; have hw10 := hw0.symm; subst hw10)
    | (go_at_call 11; with_reducible refine (sameB_true HM.out.sl HM2.out HTL.out.2.1).mono ?_; rintro e w0 ⟨rfl, hw0⟩; have hw10 := hw0.symm; subst hw10)
    | (go_at_call 19; with_reducible refine (over_out HR.out HQL.out.2.1 (by have := HQL.out.1; omega)).mono ?_; rintro e w11 ⟨rfl, ho⟩; replace HA := hid (HA.out.onlyAt ho (fun hne b hb h => by have := HAB.out hne b hb; have := HS6.out; have := h.2; omega)); replace HL := hid (HL.out.only ho (fun h => by have := HLB.out; have := h.2; omega)); replace HM := hid (HM.out.only ho (fun b hb h => by have := HD.out b h.1; have := (HM.out.blk b hb).1; omega)); replace HW := hid (below_tr HW.out (ho.below HW.out.size (fun i h => by have := HS6.out; have := h.2; omega))); clear ho HR)
    | (go_at_call 19; with_reducible refine (over_out HM.out HTL.out.2.1 (by have := HTL.out.1; omega)).mono ?_; rintro e w12 ⟨rfl, ho⟩; replace HA := hid (HA.out.onlyAt ho (fun hne b hb h => by have := HAB.out hne b hb; have := HS7.out; have := h.2; omega)); replace HL := hid (HL.out.only ho (fun h => by have := HLB2.out; have := h.2; omega)); replace HW := hid (below_tr HW.out (ho.below HW.out.size (fun i h => by have := HS7.out; have := h.2; omega))); clear ho HM)
    | (go_at_call 20; refine (keptB_any _ a cap bs _ hbs HL.out HA.out).mono ?_; rintro e w13 ⟨rfl, hb⟩; replace HW := hid (below_on HW.out hb); clear hb))
  go_ret
  exact ⟨rfl, HW.out⟩
set_option maxRecDepth 100000 in
set_option maxHeartbeats 2000000 in
theorem num1110 (n : Nat) (hn : n ≤ 1099511627776) (hs : s.size ≤ 65536) (m : Nat) (r : List Nat) (hq : rdU bs = some (m, r)) (hx : rdT bs = none) (h : BL w a bs) (hcap : bs.length ≤ cap) (hbs : bs.length ≤ 70000) (h8 : ∀ z ∈ bs, z < 256) :
    Calls Try.prog 3 #[i64 n, .string s, .slice a bs.length cap] w fun e w' => e = .returned (.bool true) ∧ Below w.heap.size w w' := by
  have HA := hid h
  have H8 := hid h8
  have HW := hid (Below.refl w.heap.size w)
  have HAB : Hid (bs ≠ [] → ∀ b, a = some b → b.block < w.heap.size) := fun hne b hb => by
    rcases h with e | ⟨b', o', e, hc⟩
    · exact absurd e hne
    · rw [e] at hb; cases hb
      exact cell_lt' (a := ⟨b', o' + 0, none⟩) (by rw [hc 0 (List.length_pos_iff.2 hne)]; simp)
  have HQ := hid hq
  have HT := hid hx
  have HQL := hid (rdU_less h8 hq)
  clear h h8 hq hx
  have hs2 : ¬ 66000 < (s.size : Int) := by omega
  have hb2 : ¬ 70000 < (bs.length : Int) := by omega
  have hs3 : (s.size : Int) ≤ 65536 := by omega
  have hn3 : (n : Int) ≤ 1099511627776 := by omega
  go_enter Try.func3, Try.ntmps3
  go_wp2_with (first
    | (go_at_call 9; refine (uint_ok n _ hn).mono ?_; rintro e w1 ⟨x1, rfl, ho, hb⟩; replace HA := hid (HA.out.below hb); replace HW := hid (below_on HW.out hb); have HX := hid ho.sl; clear ho hb)
    | (go_at_call 10; refine (text_ok s _ hs).mono ?_; rintro e w2 ⟨x2, rfl, ho, hb⟩; replace HA := hid (HA.out.below hb); replace HW := hid (below_on HW.out hb); replace HX := hid (HX.out.below hb); have HY := hid ho.sl; clear ho hb)
    | (go_at_call 12; refine (rUint_any n _ hn).mono ?_; rintro e w3 ⟨x3, rfl, ho, hb⟩; replace HA := hid (HA.out.below hb); replace HW := hid (below_on HW.out hb); replace HX := hid (HX.out.below hb); replace HY := hid (HY.out.below hb); have HX2 := hid ho.sl; clear ho hb)
    | (go_at_call 11; with_reducible refine (sameB_true HX.out HX2.out (nb_byte _)).mono ?_; rintro e w0 ⟨rfl, hw0⟩; have hw9 := hw0.symm; subst hw9)
    | (go_at_call 13; refine (rText_any s _ hs).mono ?_; rintro e w4 ⟨x4, rfl, ho, hb⟩; replace HA := hid (HA.out.below hb); replace HW := hid (below_on HW.out hb); replace HX := hid (HX.out.below hb); replace HY := hid (HY.out.below hb); replace HX2 := hid (HX2.out.below hb); have HY2 := hid ho.sl; clear ho hb)
    | (go_at_call 11; with_reducible refine (sameB_true HY.out HY2.out (tb_lt s)).mono ?_; rintro e w0 ⟨rfl, hw0⟩; have hw9 := hw0.symm; subst hw9)
    | (go_at_call 14; refine (lentB_any a cap bs _ hbs HA.out).mono ?_; rintro e w5 ⟨rfl, hl, hb⟩; have HLT := hid hl.lt; replace HA := hid (HA.out.below hb); replace HW := hid (below_on HW.out hb); have HL := hid hl; clear hl hb)
    | (go_at_call 15; have HS6 := hid HW.out.size; have HLB := hid HL.out.lt; refine (readUint_ok _ _ bs _ HL.out.bl (by omega) (by omega) H8.out HQ.out).mono ?_; rintro e w6 ⟨x6, rfl, ho, hb⟩; replace HA := hid (HA.out.below hb); replace HW := hid (below_on HW.out hb); replace HL := hid (HL.out.below hb); have HR := hid ho;  clear ho hb)
    | (go_at_call 16; refine (readText_bad _ _ bs _ HL.out.bl (by omega) (by omega) H8.out HT.out).mono ?_; rintro e w7 ⟨rfl, hb⟩; replace HA := hid (HA.out.below hb); replace HW := hid (below_on HW.out hb); replace HL := hid (HL.out.below hb); replace HR := hid (HR.out.below hb); clear hb)
    | (go_at_call 17; refine (rReadUint_any a cap bs _ HA.out hcap (by omega) H8.out).mono ?_; rintro e w8 ⟨hb, he⟩; rw [HQ.out] at he; obtain ⟨x8, he, ho⟩ := he; subst he; replace HA := hid (HA.out.below hb); replace HW := hid (below_on HW.out hb); replace HL := hid (HL.out.below hb); replace HR := hid (HR.out.below hb); have HR2 := hid ho; clear ho hb)
    | (go_at_call 18; refine (rReadText_any a cap bs _ HA.out hcap (by omega) H8.out).mono ?_; rintro e w9 ⟨hb, he⟩; rw [HT.out] at he; simp only at he; subst he; replace HA := hid (HA.out.below hb); replace HW := hid (below_on HW.out hb); replace HL := hid (HL.out.below hb); replace HR := hid (HR.out.below hb); replace HR2 := hid (HR2.out.below hb); clear hb)
    | (go_at_call 11; with_reducible refine (sameB_true HR.out.sl HR2.out HQL.out.2.1).mono ?_; rintro e w0 ⟨rfl, hw0⟩; have hw10 := hw0.symm; subst hw10)
    | (go_at_call 11; with_reducible refine (sameB_true (SL.nil _) (SL.nil _) nil_lt).mono ?_; rintro e w0 ⟨rfl, hw0⟩; have hw10 := hw0.symm; subst hw10)
    | (go_at_call 19; with_reducible refine (over_out HR.out HQL.out.2.1 (by have := HQL.out.1; omega)).mono ?_; rintro e w11 ⟨rfl, ho⟩; replace HA := hid (HA.out.onlyAt ho (fun hne b hb h => by have := HAB.out hne b hb; have := HS6.out; have := h.2; omega)); replace HL := hid (HL.out.only ho (fun h => by have := HLB.out; have := h.2; omega)); replace HW := hid (below_tr HW.out (ho.below HW.out.size (fun i h => by have := HS6.out; have := h.2; omega))); clear ho HR)
    | (go_at_call 19; with_reducible refine (over2_nil _).mono ?_; rintro e w0 ⟨rfl, hw0⟩; have hw9 := hw0.symm; subst hw9)
    | (go_at_call 20; refine (keptB_any _ a cap bs _ hbs HL.out HA.out).mono ?_; rintro e w13 ⟨rfl, hb⟩; replace HW := hid (below_on HW.out hb); clear hb))
  go_ret
  exact ⟨rfl, HW.out⟩
set_option maxRecDepth 100000 in
set_option maxHeartbeats 2000000 in
theorem num1101 (n : Nat) (hn : n ≤ 1099511627776) (hs : s.size ≤ 65536) (hq : rdU bs = none) (x r2 : List Nat) (hx : rdT bs = some (x, r2)) (h : BL w a bs) (hcap : bs.length ≤ cap) (hbs : bs.length ≤ 70000) (h8 : ∀ z ∈ bs, z < 256) :
    Calls Try.prog 3 #[i64 n, .string s, .slice a bs.length cap] w fun e w' => e = .returned (.bool true) ∧ Below w.heap.size w w' := by
  have HA := hid h
  have H8 := hid h8
  have HW := hid (Below.refl w.heap.size w)
  have HAB : Hid (bs ≠ [] → ∀ b, a = some b → b.block < w.heap.size) := fun hne b hb => by
    rcases h with e | ⟨b', o', e, hc⟩
    · exact absurd e hne
    · rw [e] at hb; cases hb
      exact cell_lt' (a := ⟨b', o' + 0, none⟩) (by rw [hc 0 (List.length_pos_iff.2 hne)]; simp)
  have HQ := hid hq
  have HT := hid hx
  have HTL := hid (rdT_less h8 hx)
  clear h h8 hq hx
  have hs2 : ¬ 66000 < (s.size : Int) := by omega
  have hb2 : ¬ 70000 < (bs.length : Int) := by omega
  have hs3 : (s.size : Int) ≤ 65536 := by omega
  have hn3 : (n : Int) ≤ 1099511627776 := by omega
  go_enter Try.func3, Try.ntmps3
  go_wp2_with (first
    | (go_at_call 9; refine (uint_ok n _ hn).mono ?_; rintro e w1 ⟨x1, rfl, ho, hb⟩; replace HA := hid (HA.out.below hb); replace HW := hid (below_on HW.out hb); have HX := hid ho.sl; clear ho hb)
    | (go_at_call 10; refine (text_ok s _ hs).mono ?_; rintro e w2 ⟨x2, rfl, ho, hb⟩; replace HA := hid (HA.out.below hb); replace HW := hid (below_on HW.out hb); replace HX := hid (HX.out.below hb); have HY := hid ho.sl; clear ho hb)
    | (go_at_call 12; refine (rUint_any n _ hn).mono ?_; rintro e w3 ⟨x3, rfl, ho, hb⟩; replace HA := hid (HA.out.below hb); replace HW := hid (below_on HW.out hb); replace HX := hid (HX.out.below hb); replace HY := hid (HY.out.below hb); have HX2 := hid ho.sl; clear ho hb)
    | (go_at_call 11; with_reducible refine (sameB_true HX.out HX2.out (nb_byte _)).mono ?_; rintro e w0 ⟨rfl, hw0⟩; have hw9 := hw0.symm; subst hw9)
    | (go_at_call 13; refine (rText_any s _ hs).mono ?_; rintro e w4 ⟨x4, rfl, ho, hb⟩; replace HA := hid (HA.out.below hb); replace HW := hid (below_on HW.out hb); replace HX := hid (HX.out.below hb); replace HY := hid (HY.out.below hb); replace HX2 := hid (HX2.out.below hb); have HY2 := hid ho.sl; clear ho hb)
    | (go_at_call 11; with_reducible refine (sameB_true HY.out HY2.out (tb_lt s)).mono ?_; rintro e w0 ⟨rfl, hw0⟩; have hw9 := hw0.symm; subst hw9)
    | (go_at_call 14; refine (lentB_any a cap bs _ hbs HA.out).mono ?_; rintro e w5 ⟨rfl, hl, hb⟩; have HLT := hid hl.lt; replace HA := hid (HA.out.below hb); replace HW := hid (below_on HW.out hb); have HL := hid hl; clear hl hb)
    | (go_at_call 15; refine (readUint_bad _ _ bs _ HL.out.bl (by omega) (by omega) H8.out HQ.out).mono ?_; rintro e w6 ⟨rfl, hb⟩; replace HA := hid (HA.out.below hb); replace HW := hid (below_on HW.out hb); replace HL := hid (HL.out.below hb); clear hb)
    | (go_at_call 16; have HS7 := hid HW.out.size; have HLB2 := hid HL.out.lt; refine (readText_ok _ _ bs _ HL.out.bl (by omega) (by omega) H8.out HT.out).mono ?_; rintro e w7 ⟨t7, x7, hlst, _, rfl, ho, hb⟩; replace HA := hid (HA.out.below hb); replace HW := hid (below_on HW.out hb); replace HL := hid (HL.out.below hb); have HM := hid ho; have HLS := hid hlst; clear ho hb hlst)
    | (go_at_call 17; refine (rReadUint_any a cap bs _ HA.out hcap (by omega) H8.out).mono ?_; rintro e w8 ⟨hb, he⟩; rw [HQ.out] at he; simp only at he; subst he; replace HA := hid (HA.out.below hb); replace HW := hid (below_on HW.out hb); replace HL := hid (HL.out.below hb); replace HM := hid (HM.out.below hb); clear hb)
    | (go_at_call 18; refine (rReadText_any a cap bs _ HA.out hcap (by omega) H8.out).mono ?_; rintro e w9 ⟨hb, he⟩; rw [HT.out] at he; obtain ⟨t9, x9, he, hlst, ho⟩ := he; subst he; replace HA := hid (HA.out.below hb); replace HW := hid (below_on HW.out hb); replace HL := hid (HL.out.below hb); replace HM := hid (HM.out.below hb); have HM2 := hid ho; have ht : t9 = t7 := lst_inj (hlst.trans HLS.out.symm); subst ht; clear ho hb hlst)
    | (go_at_call 11; with_reducible refine (sameB_true HM.out.sl HM2.out HTL.out.2.1).mono ?_; rintro e w0 ⟨rfl, hw0⟩; have hw10 := hw0.symm; subst hw10)
    | (go_at_call 11; with_reducible refine (sameB_true (SL.nil _) (SL.nil _) nil_lt).mono ?_; rintro e w0 ⟨rfl, hw0⟩; have hw10 := hw0.symm; subst hw10)
    | (go_at_call 19; with_reducible refine (over_out HM.out HTL.out.2.1 (by have := HTL.out.1; omega)).mono ?_; rintro e w12 ⟨rfl, ho⟩; replace HA := hid (HA.out.onlyAt ho (fun hne b hb h => by have := HAB.out hne b hb; have := HS7.out; have := h.2; omega)); replace HL := hid (HL.out.only ho (fun h => by have := HLB2.out; have := h.2; omega)); replace HW := hid (below_tr HW.out (ho.below HW.out.size (fun i h => by have := HS7.out; have := h.2; omega))); clear ho HM)
    | (go_at_call 19; with_reducible refine (over2_nil _).mono ?_; rintro e w0 ⟨rfl, hw0⟩; have hw9 := hw0.symm; subst hw9)
    | (go_at_call 20; refine (keptB_any _ a cap bs _ hbs HL.out HA.out).mono ?_; rintro e w13 ⟨rfl, hb⟩; replace HW := hid (below_on HW.out hb); clear hb))
  go_ret
  exact ⟨rfl, HW.out⟩
set_option maxRecDepth 100000 in
set_option maxHeartbeats 2000000 in
theorem num1100 (n : Nat) (hn : n ≤ 1099511627776) (hs : s.size ≤ 65536) (hq : rdU bs = none) (hx : rdT bs = none) (h : BL w a bs) (hcap : bs.length ≤ cap) (hbs : bs.length ≤ 70000) (h8 : ∀ z ∈ bs, z < 256) :
    Calls Try.prog 3 #[i64 n, .string s, .slice a bs.length cap] w fun e w' => e = .returned (.bool true) ∧ Below w.heap.size w w' := by
  have HA := hid h
  have H8 := hid h8
  have HW := hid (Below.refl w.heap.size w)
  have HAB : Hid (bs ≠ [] → ∀ b, a = some b → b.block < w.heap.size) := fun hne b hb => by
    rcases h with e | ⟨b', o', e, hc⟩
    · exact absurd e hne
    · rw [e] at hb; cases hb
      exact cell_lt' (a := ⟨b', o' + 0, none⟩) (by rw [hc 0 (List.length_pos_iff.2 hne)]; simp)
  have HQ := hid hq
  have HT := hid hx
  clear h h8 hq hx
  have hs2 : ¬ 66000 < (s.size : Int) := by omega
  have hb2 : ¬ 70000 < (bs.length : Int) := by omega
  have hs3 : (s.size : Int) ≤ 65536 := by omega
  have hn3 : (n : Int) ≤ 1099511627776 := by omega
  go_enter Try.func3, Try.ntmps3
  go_wp2_with (first
    | (go_at_call 9; refine (uint_ok n _ hn).mono ?_; rintro e w1 ⟨x1, rfl, ho, hb⟩; replace HA := hid (HA.out.below hb); replace HW := hid (below_on HW.out hb); have HX := hid ho.sl; clear ho hb)
    | (go_at_call 10; refine (text_ok s _ hs).mono ?_; rintro e w2 ⟨x2, rfl, ho, hb⟩; replace HA := hid (HA.out.below hb); replace HW := hid (below_on HW.out hb); replace HX := hid (HX.out.below hb); have HY := hid ho.sl; clear ho hb)
    | (go_at_call 12; refine (rUint_any n _ hn).mono ?_; rintro e w3 ⟨x3, rfl, ho, hb⟩; replace HA := hid (HA.out.below hb); replace HW := hid (below_on HW.out hb); replace HX := hid (HX.out.below hb); replace HY := hid (HY.out.below hb); have HX2 := hid ho.sl; clear ho hb)
    | (go_at_call 11; with_reducible refine (sameB_true HX.out HX2.out (nb_byte _)).mono ?_; rintro e w0 ⟨rfl, hw0⟩; have hw9 := hw0.symm; subst hw9)
    | (go_at_call 13; refine (rText_any s _ hs).mono ?_; rintro e w4 ⟨x4, rfl, ho, hb⟩; replace HA := hid (HA.out.below hb); replace HW := hid (below_on HW.out hb); replace HX := hid (HX.out.below hb); replace HY := hid (HY.out.below hb); replace HX2 := hid (HX2.out.below hb); have HY2 := hid ho.sl; clear ho hb)
    | (go_at_call 11; with_reducible refine (sameB_true HY.out HY2.out (tb_lt s)).mono ?_; rintro e w0 ⟨rfl, hw0⟩; have hw9 := hw0.symm; subst hw9)
    | (go_at_call 14; refine (lentB_any a cap bs _ hbs HA.out).mono ?_; rintro e w5 ⟨rfl, hl, hb⟩; have HLT := hid hl.lt; replace HA := hid (HA.out.below hb); replace HW := hid (below_on HW.out hb); have HL := hid hl; clear hl hb)
    | (go_at_call 15; refine (readUint_bad _ _ bs _ HL.out.bl (by omega) (by omega) H8.out HQ.out).mono ?_; rintro e w6 ⟨rfl, hb⟩; replace HA := hid (HA.out.below hb); replace HW := hid (below_on HW.out hb); replace HL := hid (HL.out.below hb); clear hb)
    | (go_at_call 16; refine (readText_bad _ _ bs _ HL.out.bl (by omega) (by omega) H8.out HT.out).mono ?_; rintro e w7 ⟨rfl, hb⟩; replace HA := hid (HA.out.below hb); replace HW := hid (below_on HW.out hb); replace HL := hid (HL.out.below hb); clear hb)
    | (go_at_call 17; refine (rReadUint_any a cap bs _ HA.out hcap (by omega) H8.out).mono ?_; rintro e w8 ⟨hb, he⟩; rw [HQ.out] at he; simp only at he; subst he; replace HA := hid (HA.out.below hb); replace HW := hid (below_on HW.out hb); replace HL := hid (HL.out.below hb); clear hb)
    | (go_at_call 18; refine (rReadText_any a cap bs _ HA.out hcap (by omega) H8.out).mono ?_; rintro e w9 ⟨hb, he⟩; rw [HT.out] at he; simp only at he; subst he; replace HA := hid (HA.out.below hb); replace HW := hid (below_on HW.out hb); replace HL := hid (HL.out.below hb); clear hb)
    | (go_at_call 11; with_reducible refine (sameB_true (SL.nil _) (SL.nil _) nil_lt).mono ?_; rintro e w0 ⟨rfl, hw0⟩; have hw10 := hw0.symm; subst hw10)
    | (go_at_call 19; with_reducible refine (over2_nil _).mono ?_; rintro e w0 ⟨rfl, hw0⟩; have hw9 := hw0.symm; subst hw9)
    | (go_at_call 20; refine (keptB_any _ a cap bs _ hbs HL.out HA.out).mono ?_; rintro e w13 ⟨rfl, hb⟩; replace HW := hid (below_on HW.out hb); clear hb))
  go_ret
  exact ⟨rfl, HW.out⟩
end
end Go.Proofs.Ytepkpkbgmchioaa

/- The walk of RecordNumbers, some cases. (Written by tools/gen_Vj.py.) -/
namespace Go.Proofs.Ytepkpkbgmchioaa
open Go Go.RowKit
section
variable (s : ByteArray) (a : Option Addr) (cap : Nat) (bs : List Nat) (w : World)
set_option maxRecDepth 100000 in
set_option maxHeartbeats 2000000 in
theorem num1011 (n : Nat) (hn : n ≤ 1099511627776) (hs : 65536 < s.size ∧ s.size ≤ 66000) (m : Nat) (r : List Nat) (hq : rdU bs = some (m, r)) (x r2 : List Nat) (hx : rdT bs = some (x, r2)) (h : BL w a bs) (hcap : bs.length ≤ cap) (hbs : bs.length ≤ 70000) (h8 : ∀ z ∈ bs, z < 256) :
    Calls Try.prog 3 #[i64 n, .string s, .slice a bs.length cap] w fun e w' => e = .returned (.bool true) ∧ Below w.heap.size w w' := by
  have HA := hid h
  have H8 := hid h8
  have HW := hid (Below.refl w.heap.size w)
  have HAB : Hid (bs ≠ [] → ∀ b, a = some b → b.block < w.heap.size) := fun hne b hb => by
    rcases h with e | ⟨b', o', e, hc⟩
    · exact absurd e hne
    · rw [e] at hb; cases hb
      exact cell_lt' (a := ⟨b', o' + 0, none⟩) (by rw [hc 0 (List.length_pos_iff.2 hne)]; simp)
  have HQ := hid hq
  have HT := hid hx
  have HQL := hid (rdU_less h8 hq)
  have HTL := hid (rdT_less h8 hx)
  clear h h8 hq hx
  have hs2 : ¬ 66000 < (s.size : Int) := by omega
  have hb2 : ¬ 70000 < (bs.length : Int) := by omega
  have hs3 : ¬ (s.size : Int) ≤ 65536 := by omega
  have hn3 : (n : Int) ≤ 1099511627776 := by omega
  go_enter Try.func3, Try.ntmps3
  go_wp2_with (first
    | (go_at_call 9; refine (uint_ok n _ hn).mono ?_; rintro e w1 ⟨x1, rfl, ho, hb⟩; replace HA := hid (HA.out.below hb); replace HW := hid (below_on HW.out hb); have HX := hid ho.sl; clear ho hb)
    | (go_at_call 10; refine (text_bad s _ hs.1).mono ?_; rintro e w0 ⟨rfl, hw0⟩; have hw9 := hw0.symm; subst hw9)
    | (go_at_call 12; refine (rUint_any n _ hn).mono ?_; rintro e w3 ⟨x3, rfl, ho, hb⟩; replace HA := hid (HA.out.below hb); replace HW := hid (below_on HW.out hb); replace HX := hid (HX.out.below hb); have HX2 := hid ho.sl; clear ho hb)
    | (go_at_call 11; with_reducible refine (sameB_true HX.out HX2.out (nb_byte _)).mono ?_; rintro e w0 ⟨rfl, hw0⟩; have hw9 := hw0.symm; subst hw9)
    | (go_at_call 14; refine (lentB_any a cap bs _ hbs HA.out).mono ?_; rintro e w5 ⟨rfl, hl, hb⟩; have HLT := hid hl.lt; replace HA := hid (HA.out.below hb); replace HW := hid (below_on HW.out hb); have HL := hid hl; clear hl hb)
    | (go_at_call 15; have HS6 := hid HW.out.size; have HLB := hid HL.out.lt; refine (readUint_ok _ _ bs _ HL.out.bl (by omega) (by omega) H8.out HQ.out).mono ?_; rintro e w6 ⟨x6, rfl, ho, hb⟩; replace HA := hid (HA.out.below hb); replace HW := hid (below_on HW.out hb); replace HL := hid (HL.out.below hb); have HR := hid ho;  clear ho hb)
    | (go_at_call 16; have HD := hid (fun b hb => (HR.out.blk b hb).2); have HS7 := hid HW.out.size; have HLB2 := hid HL.out.lt; refine (readText_ok _ _ bs _ HL.out.bl (by omega) (by omega) H8.out HT.out).mono ?_; rintro e w7 ⟨t7, x7, hlst, _, rfl, ho, hb⟩; replace HA := hid (HA.out.below hb); replace HW := hid (below_on HW.out hb); replace HL := hid (HL.out.below hb); replace HR := hid (HR.out.below hb); have HM := hid ho; have HLS := hid hlst; clear ho hb hlst)
    | (go_at_call 17; refine (rReadUint_any a cap bs _ HA.out hcap (by omega) H8.out).mono ?_; rintro e w8 ⟨hb, he⟩; rw [HQ.out] at he; obtain ⟨x8, he, ho⟩ := he; subst he; replace HA := hid (HA.out.below hb); replace HW := hid (below_on HW.out hb); replace HL := hid (HL.out.below hb); replace HR := hid (HR.out.below hb); replace HM := hid (HM.out.below hb); have HR2 := hid ho; clear ho hb)
    | (go_at_call 18; refine (rReadText_any a cap bs _ HA.out hcap (by omega) H8.out).mono ?_; rintro e w9 ⟨hb, he⟩; rw [HT.out] at he; obtain ⟨t9, x9, he, hlst, ho⟩ := he; subst he; replace HA := hid (HA.out.below hb); replace HW := hid (below_on HW.out hb); replace HL := hid (HL.out.below hb); replace HR := hid (HR.out.below hb); replace HM := hid (HM.out.below hb); replace HR2 := hid (HR2.out.below hb); have HM2 := hid ho; have ht : t9 = t7 := lst_inj (hlst.trans HLS.out.symm); subst ht; clear ho hb hlst)
    | (go_at_call 11; with_reducible refine (sameB_true HR.out.sl HR2.out HQL.out.2.1).mono ?_; rintro e w0 ⟨rfl, hw0⟩; have hw10 := hw0.symm; subst hw10)
    | (go_at_call 11; with_reducible refine (sameB_true HM.out.sl HM2.out HTL.out.2.1).mono ?_; rintro e w0 ⟨rfl, hw0⟩; have hw10 := hw0.symm; subst hw10)
    | (go_at_call 19; with_reducible refine (over_out HR.out HQL.out.2.1 (by have := HQL.out.1; omega)).mono ?_; rintro e w11 ⟨rfl, ho⟩; replace HA := hid (HA.out.onlyAt ho (fun hne b hb h => by have := HAB.out hne b hb; have := HS6.out; have := h.2; omega)); replace HL := hid (HL.out.only ho (fun h => by have := HLB.out; have := h.2; omega)); replace HM := hid (HM.out.only ho (fun b hb h => by have := HD.out b h.1; have := (HM.out.blk b hb).1; omega)); replace HW := hid (below_tr HW.out (ho.below HW.out.size (fun i h => by have := HS6.out; have := h.2; omega))); clear ho HR)
    | (go_at_call 19; with_reducible refine (over_out HM.out HTL.out.2.1 (by have := HTL.out.1; omega)).mono ?_; rintro e w12 ⟨rfl, ho⟩; replace HA := hid (HA.out.onlyAt ho (fun hne b hb h => by have := HAB.out hne b hb; have := HS7.out; have := h.2; omega)); replace HL := hid (HL.out.only ho (fun h => by have := HLB2.out; have := h.2; omega)); replace HW := hid (below_tr HW.out (ho.below HW.out.size (fun i h => by have := HS7.out; have := h.2; omega))); clear ho HM)
    | (go_at_call 20; refine (keptB_any _ a cap bs _ hbs HL.out HA.out).mono ?_; rintro e w13 ⟨rfl, hb⟩; replace HW := hid (below_on HW.out hb); clear hb))
  go_ret
  exact ⟨rfl, HW.out⟩
set_option maxRecDepth 100000 in
set_option maxHeartbeats 2000000 in
theorem num1010 (n : Nat) (hn : n ≤ 1099511627776) (hs : 65536 < s.size ∧ s.size ≤ 66000) (m : Nat) (r : List Nat) (hq : rdU bs = some (m, r)) (hx : rdT bs = none) (h : BL w a bs) (hcap : bs.length ≤ cap) (hbs : bs.length ≤ 70000) (h8 : ∀ z ∈ bs, z < 256) :
    Calls Try.prog 3 #[i64 n, .string s, .slice a bs.length cap] w fun e w' => e = .returned (.bool true) ∧ Below w.heap.size w w' := by
  have HA := hid h
  have H8 := hid h8
  have HW := hid (Below.refl w.heap.size w)
  have HAB : Hid (bs ≠ [] → ∀ b, a = some b → b.block < w.heap.size) := fun hne b hb => by
    rcases h with e | ⟨b', o', e, hc⟩
    · exact absurd e hne
    · rw [e] at hb; cases hb
      exact cell_lt' (a := ⟨b', o' + 0, none⟩) (by rw [hc 0 (List.length_pos_iff.2 hne)]; simp)
  have HQ := hid hq
  have HT := hid hx
  have HQL := hid (rdU_less h8 hq)
  clear h h8 hq hx
  have hs2 : ¬ 66000 < (s.size : Int) := by omega
  have hb2 : ¬ 70000 < (bs.length : Int) := by omega
  have hs3 : ¬ (s.size : Int) ≤ 65536 := by omega
  have hn3 : (n : Int) ≤ 1099511627776 := by omega
  go_enter Try.func3, Try.ntmps3
  go_wp2_with (first
    | (go_at_call 9; refine (uint_ok n _ hn).mono ?_; rintro e w1 ⟨x1, rfl, ho, hb⟩; replace HA := hid (HA.out.below hb); replace HW := hid (below_on HW.out hb); have HX := hid ho.sl; clear ho hb)
    | (go_at_call 10; refine (text_bad s _ hs.1).mono ?_; rintro e w0 ⟨rfl, hw0⟩; have hw9 := hw0.symm; subst hw9)
    | (go_at_call 12; refine (rUint_any n _ hn).mono ?_; rintro e w3 ⟨x3, rfl, ho, hb⟩; replace HA := hid (HA.out.below hb); replace HW := hid (below_on HW.out hb); replace HX := hid (HX.out.below hb); have HX2 := hid ho.sl; clear ho hb)
    | (go_at_call 11; with_reducible refine (sameB_true HX.out HX2.out (nb_byte _)).mono ?_; rintro e w0 ⟨rfl, hw0⟩; have hw9 := hw0.symm; subst hw9)
    | (go_at_call 14; refine (lentB_any a cap bs _ hbs HA.out).mono ?_; rintro e w5 ⟨rfl, hl, hb⟩; have HLT := hid hl.lt; replace HA := hid (HA.out.below hb); replace HW := hid (below_on HW.out hb); have HL := hid hl; clear hl hb)
    | (go_at_call 15; have HS6 := hid HW.out.size; have HLB := hid HL.out.lt; refine (readUint_ok _ _ bs _ HL.out.bl (by omega) (by omega) H8.out HQ.out).mono ?_; rintro e w6 ⟨x6, rfl, ho, hb⟩; replace HA := hid (HA.out.below hb); replace HW := hid (below_on HW.out hb); replace HL := hid (HL.out.below hb); have HR := hid ho;  clear ho hb)
    | (go_at_call 16; refine (readText_bad _ _ bs _ HL.out.bl (by omega) (by omega) H8.out HT.out).mono ?_; rintro e w7 ⟨rfl, hb⟩; replace HA := hid (HA.out.below hb); replace HW := hid (below_on HW.out hb); replace HL := hid (HL.out.below hb); replace HR := hid (HR.out.below hb); clear hb)
    | (go_at_call 17; refine (rReadUint_any a cap bs _ HA.out hcap (by omega) H8.out).mono ?_; rintro e w8 ⟨hb, he⟩; rw [HQ.out] at he; obtain ⟨x8, he, ho⟩ := he; subst he; replace HA := hid (HA.out.below hb); replace HW := hid (below_on HW.out hb); replace HL := hid (HL.out.below hb); replace HR := hid (HR.out.below hb); have HR2 := hid ho; clear ho hb)
    | (go_at_call 18; refine (rReadText_any a cap bs _ HA.out hcap (by omega) H8.out).mono ?_; rintro e w9 ⟨hb, he⟩; rw [HT.out] at he; simp only at he; subst he; replace HA := hid (HA.out.below hb); replace HW := hid (below_on HW.out hb); replace HL := hid (HL.out.below hb); replace HR := hid (HR.out.below hb); replace HR2 := hid (HR2.out.below hb); clear hb)
    | (go_at_call 11; with_reducible refine (sameB_true HR.out.sl HR2.out HQL.out.2.1).mono ?_; rintro e w0 ⟨rfl, hw0⟩; have hw10 := hw0.symm; subst hw10)
    | (go_at_call 11; with_reducible refine (sameB_true (SL.nil _) (SL.nil _) nil_lt).mono ?_; rintro e w0 ⟨rfl, hw0⟩; have hw10 := hw0.symm; subst hw10)
    | (go_at_call 19; with_reducible refine (over_out HR.out HQL.out.2.1 (by have := HQL.out.1; omega)).mono ?_; rintro e w11 ⟨rfl, ho⟩; replace HA := hid (HA.out.onlyAt ho (fun hne b hb h => by have := HAB.out hne b hb; have := HS6.out; have := h.2; omega)); replace HL := hid (HL.out.only ho (fun h => by have := HLB.out; have := h.2; omega)); replace HW := hid (below_tr HW.out (ho.below HW.out.size (fun i h => by have := HS6.out; have := h.2; omega))); clear ho HR)
    | (go_at_call 19; with_reducible refine (over2_nil _).mono ?_; rintro e w0 ⟨rfl, hw0⟩; have hw9 := hw0.symm; subst hw9)
    | (go_at_call 20; refine (keptB_any _ a cap bs _ hbs HL.out HA.out).mono ?_; rintro e w13 ⟨rfl, hb⟩; replace HW := hid (below_on HW.out hb); clear hb))
  go_ret
  exact ⟨rfl, HW.out⟩
set_option maxRecDepth 100000 in
set_option maxHeartbeats 2000000 in
theorem num1001 (n : Nat) (hn : n ≤ 1099511627776) (hs : 65536 < s.size ∧ s.size ≤ 66000) (hq : rdU bs = none) (x r2 : List Nat) (hx : rdT bs = some (x, r2)) (h : BL w a bs) (hcap : bs.length ≤ cap) (hbs : bs.length ≤ 70000) (h8 : ∀ z ∈ bs, z < 256) :
    Calls Try.prog 3 #[i64 n, .string s, .slice a bs.length cap] w fun e w' => e = .returned (.bool true) ∧ Below w.heap.size w w' := by
  have HA := hid h
  have H8 := hid h8
  have HW := hid (Below.refl w.heap.size w)
  have HAB : Hid (bs ≠ [] → ∀ b, a = some b → b.block < w.heap.size) := fun hne b hb => by
    rcases h with e | ⟨b', o', e, hc⟩
    · exact absurd e hne
    · rw [e] at hb; cases hb
      exact cell_lt' (a := ⟨b', o' + 0, none⟩) (by rw [hc 0 (List.length_pos_iff.2 hne)]; simp)
  have HQ := hid hq
  have HT := hid hx
  have HTL := hid (rdT_less h8 hx)
  clear h h8 hq hx
  have hs2 : ¬ 66000 < (s.size : Int) := by omega
  have hb2 : ¬ 70000 < (bs.length : Int) := by omega
  have hs3 : ¬ (s.size : Int) ≤ 65536 := by omega
  have hn3 : (n : Int) ≤ 1099511627776 := by omega
  go_enter Try.func3, Try.ntmps3
  go_wp2_with (first
    | (go_at_call 9; refine (uint_ok n _ hn).mono ?_; rintro e w1 ⟨x1, rfl, ho, hb⟩; replace HA := hid (HA.out.below hb); replace HW := hid (below_on HW.out hb); have HX := hid ho.sl; clear ho hb)
    | (go_at_call 10; refine (text_bad s _ hs.1).mono ?_; rintro e w0 ⟨rfl, hw0⟩; have hw9 := hw0.symm; subst hw9)
    | (go_at_call 12; refine (rUint_any n _ hn).mono ?_; rintro e w3 ⟨x3, rfl, ho, hb⟩; replace HA := hid (HA.out.below hb); replace HW := hid (below_on HW.out hb); replace HX := hid (HX.out.below hb); have HX2 := hid ho.sl; clear ho hb)
    | (go_at_call 11; with_reducible refine (sameB_true HX.out HX2.out (nb_byte _)).mono ?_; rintro e w0 ⟨rfl, hw0⟩; have hw9 := hw0.symm; subst hw9)
    | (go_at_call 14; refine (lentB_any a cap bs _ hbs HA.out).mono ?_; rintro e w5 ⟨rfl, hl, hb⟩; have HLT := hid hl.lt; replace HA := hid (HA.out.below hb); replace HW := hid (below_on HW.out hb); have HL := hid hl; clear hl hb)
    | (go_at_call 15; refine (readUint_bad _ _ bs _ HL.out.bl (by omega) (by omega) H8.out HQ.out).mono ?_; rintro e w6 ⟨rfl, hb⟩; replace HA := hid (HA.out.below hb); replace HW := hid (below_on HW.out hb); replace HL := hid (HL.out.below hb); clear hb)
    | (go_at_call 16; have HS7 := hid HW.out.size; have HLB2 := hid HL.out.lt; refine (readText_ok _ _ bs _ HL.out.bl (by omega) (by omega) H8.out HT.out).mono ?_; rintro e w7 ⟨t7, x7, hlst, _, rfl, ho, hb⟩; replace HA := hid (HA.out.below hb); replace HW := hid (below_on HW.out hb); replace HL := hid (HL.out.below hb); have HM := hid ho; have HLS := hid hlst; clear ho hb hlst)
    | (go_at_call 17; refine (rReadUint_any a cap bs _ HA.out hcap (by omega) H8.out).mono ?_; rintro e w8 ⟨hb, he⟩; rw [HQ.out] at he; simp only at he; subst he; replace HA := hid (HA.out.below hb); replace HW := hid (below_on HW.out hb); replace HL := hid (HL.out.below hb); replace HM := hid (HM.out.below hb); clear hb)
    | (go_at_call 18; refine (rReadText_any a cap bs _ HA.out hcap (by omega) H8.out).mono ?_; rintro e w9 ⟨hb, he⟩; rw [HT.out] at he; obtain ⟨t9, x9, he, hlst, ho⟩ := he; subst he; replace HA := hid (HA.out.below hb); replace HW := hid (below_on HW.out hb); replace HL := hid (HL.out.below hb); replace HM := hid (HM.out.below hb); have HM2 := hid ho; have ht : t9 = t7 := lst_inj (hlst.trans HLS.out.symm); subst ht; clear ho hb hlst)
    | (go_at_call 11; with_reducible refine (sameB_true HM.out.sl HM2.out HTL.out.2.1).mono ?_; rintro e w0 ⟨rfl, hw0⟩; have hw10 := hw0.symm; subst hw10)
    | (go_at_call 11; with_reducible refine (sameB_true (SL.nil _) (SL.nil _) nil_lt).mono ?_; rintro e w0 ⟨rfl, hw0⟩; have hw10 := hw0.symm; subst hw10)
    | (go_at_call 19; with_reducible refine (over_out HM.out HTL.out.2.1 (by have := HTL.out.1; omega)).mono ?_; rintro e w12 ⟨rfl, ho⟩; replace HA := hid (HA.out.onlyAt ho (fun hne b hb h => by have := HAB.out hne b hb; have := HS7.out; have := h.2; omega)); replace HL := hid (HL.out.only ho (fun h => by have := HLB2.out; have := h.2; omega)); replace HW := hid (below_tr HW.out (ho.below HW.out.size (fun i h => by have := HS7.out; have := h.2; omega))); clear ho HM)
    | (go_at_call 19; with_reducible refine (over2_nil _).mono ?_; rintro e w0 ⟨rfl, hw0⟩; have hw9 := hw0.symm; subst hw9)
    | (go_at_call 20; refine (keptB_any _ a cap bs _ hbs HL.out HA.out).mono ?_; rintro e w13 ⟨rfl, hb⟩; replace HW := hid (below_on HW.out hb); clear hb))
  go_ret
  exact ⟨rfl, HW.out⟩
set_option maxRecDepth 100000 in
set_option maxHeartbeats 2000000 in
theorem num1000 (n : Nat) (hn : n ≤ 1099511627776) (hs : 65536 < s.size ∧ s.size ≤ 66000) (hq : rdU bs = none) (hx : rdT bs = none) (h : BL w a bs) (hcap : bs.length ≤ cap) (hbs : bs.length ≤ 70000) (h8 : ∀ z ∈ bs, z < 256) :
    Calls Try.prog 3 #[i64 n, .string s, .slice a bs.length cap] w fun e w' => e = .returned (.bool true) ∧ Below w.heap.size w w' := by
  have HA := hid h
  have H8 := hid h8
  have HW := hid (Below.refl w.heap.size w)
  have HAB : Hid (bs ≠ [] → ∀ b, a = some b → b.block < w.heap.size) := fun hne b hb => by
    rcases h with e | ⟨b', o', e, hc⟩
    · exact absurd e hne
    · rw [e] at hb; cases hb
      exact cell_lt' (a := ⟨b', o' + 0, none⟩) (by rw [hc 0 (List.length_pos_iff.2 hne)]; simp)
  have HQ := hid hq
  have HT := hid hx
  clear h h8 hq hx
  have hs2 : ¬ 66000 < (s.size : Int) := by omega
  have hb2 : ¬ 70000 < (bs.length : Int) := by omega
  have hs3 : ¬ (s.size : Int) ≤ 65536 := by omega
  have hn3 : (n : Int) ≤ 1099511627776 := by omega
  go_enter Try.func3, Try.ntmps3
  go_wp2_with (first
    | (go_at_call 9; refine (uint_ok n _ hn).mono ?_; rintro e w1 ⟨x1, rfl, ho, hb⟩; replace HA := hid (HA.out.below hb); replace HW := hid (below_on HW.out hb); have HX := hid ho.sl; clear ho hb)
    | (go_at_call 10; refine (text_bad s _ hs.1).mono ?_; rintro e w0 ⟨rfl, hw0⟩; have hw9 := hw0.symm; subst hw9)
    | (go_at_call 12; refine (rUint_any n _ hn).mono ?_; rintro e w3 ⟨x3, rfl, ho, hb⟩; replace HA := hid (HA.out.below hb); replace HW := hid (below_on HW.out hb); replace HX := hid (HX.out.below hb); have HX2 := hid ho.sl; clear ho hb)
    | (go_at_call 11; with_reducible refine (sameB_true HX.out HX2.out (nb_byte _)).mono ?_; rintro e w0 ⟨rfl, hw0⟩; have hw9 := hw0.symm; subst hw9)
    | (go_at_call 14; refine (lentB_any a cap bs _ hbs HA.out).mono ?_; rintro e w5 ⟨rfl, hl, hb⟩; have HLT := hid hl.lt; replace HA := hid (HA.out.below hb); replace HW := hid (below_on HW.out hb); have HL := hid hl; clear hl hb)
    | (go_at_call 15; refine (readUint_bad _ _ bs _ HL.out.bl (by omega) (by omega) H8.out HQ.out).mono ?_; rintro e w6 ⟨rfl, hb⟩; replace HA := hid (HA.out.below hb); replace HW := hid (below_on HW.out hb); replace HL := hid (HL.out.below hb); clear hb)
    | (go_at_call 16; refine (readText_bad _ _ bs _ HL.out.bl (by omega) (by omega) H8.out HT.out).mono ?_; rintro e w7 ⟨rfl, hb⟩; replace HA := hid (HA.out.below hb); replace HW := hid (below_on HW.out hb); replace HL := hid (HL.out.below hb); clear hb)
    | (go_at_call 17; refine (rReadUint_any a cap bs _ HA.out hcap (by omega) H8.out).mono ?_; rintro e w8 ⟨hb, he⟩; rw [HQ.out] at he; simp only at he; subst he; replace HA := hid (HA.out.below hb); replace HW := hid (below_on HW.out hb); replace HL := hid (HL.out.below hb); clear hb)
    | (go_at_call 18; refine (rReadText_any a cap bs _ HA.out hcap (by omega) H8.out).mono ?_; rintro e w9 ⟨hb, he⟩; rw [HT.out] at he; simp only at he; subst he; replace HA := hid (HA.out.below hb); replace HW := hid (below_on HW.out hb); replace HL := hid (HL.out.below hb); clear hb)
    | (go_at_call 11; with_reducible refine (sameB_true (SL.nil _) (SL.nil _) nil_lt).mono ?_; rintro e w0 ⟨rfl, hw0⟩; have hw10 := hw0.symm; subst hw10)
    | (go_at_call 19; with_reducible refine (over2_nil _).mono ?_; rintro e w0 ⟨rfl, hw0⟩; have hw9 := hw0.symm; subst hw9)
    | (go_at_call 20; refine (keptB_any _ a cap bs _ hbs HL.out HA.out).mono ?_; rintro e w13 ⟨rfl, hb⟩; replace HW := hid (below_on HW.out hb); clear hb))
  go_ret
  exact ⟨rfl, HW.out⟩
end
end Go.Proofs.Ytepkpkbgmchioaa
