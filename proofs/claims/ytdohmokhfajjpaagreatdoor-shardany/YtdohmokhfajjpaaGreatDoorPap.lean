/- Texts laid into one, cut to what is needed: the remark ahead of each part says what is proved there. -/
import Derived.Test.YtdohmokhfajjpaaGreatDoorPao
/- Contracts of number and text of the reader of package record; of readerOf, told, ReadUint and ReadText. -/
namespace Go.Proofs.YtdohmokhfajjpaaGreatDoor
open Go Go.RowKit

theorem ofInt_i64n (a : Nat) (h : a < 9223372036854775808) : (BitVec.ofInt 64 (a : Int)).toNat = a := by
 rw [BitVec.toNat_ofInt]; omega
theorem i64_or_nat (a b : Nat) (ha : a < 9223372036854775808) (hb : b < 9223372036854775808) : bits .or .i64 (a : Int) (b : Int) = ((a ||| b : Nat) : Int) := by
 have hx : a ||| b < 2 ^ 63 := Nat.or_lt_two_pow (by omega) (by omega)
 show IntKind.i64.wrap ((BitVec.ofInt 64 (a : Int) ||| BitVec.ofInt 64 (b : Int)).toNat : Int) = _
 rw [BitVec.toNat_or, ofInt_i64n a ha, ofInt_i64n b hb]
 rw [IntKind.wrap_i64]
 omega
theorem or_add (a x i : Nat) (ha : a < 2 ^ i) : a ||| (2 ^ i * x) = a + 2 ^ i * x := by
 rw [Nat.or_comm, ← Nat.two_pow_add_eq_or_of_lt ha]; omega
/-- What the first i bytes, each with more behind it, make of the number. -/
def Acc (L : List Nat) (i acc : Nat) (L' : List Nat) : Prop := acc < 128 ^ i ∧ rdG 6 L = match rdG (6 - i) L' with
 | some (m, r) => if 0 < i ∧ m = 0 then none else some (acc + 128 ^ i * m, r)
 | none => none
theorem Acc.start (L : List Nat) : Acc L 0 0 L := by
 refine ⟨by simp, ?_⟩
 show rdG 6 L = _
 cases h : rdG 6 L with
 | none => simp
 | some p => obtain ⟨m, r⟩ := p; simp
theorem Acc.more {L : List Nat} {i acc c : Nat} {r : List Nat} (h : Acc L i acc (c :: r)) (hi : i < 6) (hc : 128 ≤ c) (hc2 : c < 256) : Acc L (i + 1) (acc + 128 ^ i * (c % 128)) r := by
 obtain ⟨h1, h2⟩ := h
 have hp : 0 < 128 ^ i := Nat.pow_pos (by omega)
 refine ⟨?_, ?_⟩
 ·rw [Nat.pow_succ]
  have : 128 ^ i * (c % 128) ≤ 128 ^ i * 127 := Nat.mul_le_mul_left _ (by omega)
  omega
 ·rw [h2, show 6 - i = (6 - (i + 1)) + 1 by omega]
  conv => lhs; unfold rdG
  rw [if_neg (by omega)]
  cases hr : rdG (6 - (i + 1)) r with
  | none => rfl
  | some p =>
   obtain ⟨m, t⟩ := p
   by_cases hm : m = 0
   ·simp [hm]
   ·have h3 : ¬ (c % 128 + 128 * m = 0) := by omega
    simp only [hm, if_false, and_false, h3, Nat.pow_succ]
    congr 2
    rw [Nat.mul_add, Nat.add_assoc, Nat.mul_assoc]
theorem Acc.last {L : List Nat} {i acc c : Nat} {r : List Nat} (h : Acc L i acc (c :: r)) (hi : i < 6) (hc : c < 128) : rdG 6 L = if 0 < i ∧ c = 0 then none else some (acc + 128 ^ i * c, r) := by
 rw [h.2, show 6 - i = (6 - (i + 1)) + 1 by omega]
 unfold rdG
 rw [if_pos hc]
theorem Acc.short {L : List Nat} {i acc : Nat} (h : Acc L i acc []) (hi : i < 6) : rdG 6 L = none := by
 rw [h.2, show 6 - i = (6 - (i + 1)) + 1 by omega]; rfl
theorem Acc.long {L : List Nat} {acc : Nat} {r : List Nat} (h : Acc L 6 acc r) : rdG 6 L = none := by rw [h.2]; rfl
theorem rdU_none {L : List Nat} (h : rdG 6 L = none) : rdU L = none := by unfold rdU; rw [h]
theorem rdU_at {L : List Nat} {n : Nat} {r : List Nat} (h : rdG 6 L = some (n, r)) : rdU L = if n ≤ 1099511627776 then some (n, r) else none := by unfold rdU; rw [h]
def NumS (w : World) (p : Nat) (s : Option (List Nat)) (e : Ending) (w' : World) : Prop :=
 ∃ v : Int, e = .returned (i64 v) ∧ Rd w' p ((s.bind rdU).map (·.2)) ∧ Only (fun b => b = p) w w' ∧ ∀ n r, s.bind rdU = some (n, r) → v = n
set_option maxRecDepth 100000 in
theorem number_gone (w : World) (p : Nat) (h : Rd w p none) : Calls Tryz.prog 112 #[ptr p] w (NumS w p none) := by
 have H := hid h
 have hone := one_any w p none h
 clear h
 go_enter Tryz.func112, Tryz.ntmps112
 go_wp2
 refine wp_loop_rounds 1 ?_
 rw [rounds_succ]
 go_wp2_with (first
  | (go_at_call 116; refine hone.mono ?_; rintro e w1 ⟨rfl, hr, ho⟩; simp only [oneV, oneR, u8] at *; have HR := hid hr; have HO := hid ho; clear hr ho)
  | (go_at_call 117; refine (need_gone _ p _ HR.out).mono ?_; rintro e w2 ⟨rfl, hw2⟩; have hw3 := hw2.symm; subst hw3))
 go_ret
 exact ⟨_, rfl, HR.out, HO.out, fun n r h => by cases h⟩
set_option maxRecDepth 100000 in
set_option maxHeartbeats 4000000 in
theorem number_some (w : World) (p : Nat) (L : List Nat) (h : Rd w p (some L)) : Calls Tryz.prog 112 #[ptr p] w (NumS w p (some L)) := by
 have H := hid h
 clear h
 go_enter Tryz.func112, Tryz.ntmps112
 go_wp2
 go_loopw [3, 4] (fun nv sv wr => ∃ (i acc : Nat) (L' : List Nat), i ≤ 6 ∧ nv = i64 acc ∧ sv = i64 ((7 * i : Nat) : Int) ∧ Acc L i acc L' ∧ Rd wr p (some L') ∧ Only (fun b => b = p) w wr) (fun _ sv _ => (49 - intOf sv).toNat)
 case atStart => exact ⟨0, 0, L, by omega, rfl, rfl, Acc.start L, H.out, Only.refl _ _⟩
 case round =>
  obtain ⟨i, acc, L', hi, rfl, rfl, ha, hr, ho⟩ := hrel
  have HA := hid ha
  have HO := hid ho
  have HR := hid hr
  have hb := hid (show ∀ x ∈ L', x < 256 from by obtain ⟨_, _, _, _, _, _, h5, _, h7⟩ := hr; rcases h5 with h | h <;> cases h; exact h7)
  clear ha ho H
  have hi6 : i = 0 ∨ i = 1 ∨ i = 2 ∨ i = 3 ∨ i = 4 ∨ i = 5 ∨ i = 6 := by omega
  rcases hi6 with rfl | rfl | rfl | rfl | rfl | rfl | rfl
  ·match L', HA, HR, hb, hr with
   | [], HA, HR, hb, hr =>
    have hone : Calls Tryz.prog 116 #[ptr p] wr (ReS wr p none (.int .u8 0)) := one_any wr p (some []) hr
    have HU := hid (rdU_none (HA.out.short (by omega)))
    have hacc : acc < 1 := HA.out.1
    clear hr hb HR HA
    have hor0 : bits BinOp.or IntKind.i64 (acc : Int) 0 = (acc : Int) := by
     have h1 := i64_or_nat acc 0 (by omega) (by omega)
     simpa using h1
    go_wp2_with (first
     | (go_at_call 116; refine hone.mono ?_; rintro e w1 ⟨rfl, hr1, ho1⟩; have HR1 := hid hr1; have HO1 := hid ho1; clear hr1 ho1)
     | (go_at_call 117; refine (need_gone _ p _ HR1.out).mono ?_; rintro e w2 ⟨rfl, hw2⟩; have hw3 := hw2.symm; subst hw3))
    go_ret
    refine ⟨_, rfl, ?_, HO.out.trans HO1.out, fun n r h => ?_⟩
    ·rw [show (some L).bind rdU = none from HU.out]; exact HR1.out
    ·rw [show (some L).bind rdU = none from HU.out] at h; cases h
   | c :: r, HA, HR, hb, hr =>
    have hc2 : c < 256 := hb.out c List.mem_cons_self
    have hacc : acc < 1 := HA.out.1
    have hone : Calls Tryz.prog 116 #[ptr p] wr (ReS wr p (some r) (.int .u8 (c : Int))) := one_any wr p (some (c :: r)) hr
    have hor : bits BinOp.or IntKind.i64 (acc : Int) ((c : Int) % 128) = ((acc + 1 * (c % 128) : Nat) : Int) := by
     have h1 := i64_or_nat acc (1 * (c % 128)) (by omega) (by omega)
     have h2 := or_add acc (c % 128) 0 hacc
     simp only [Nat.reducePow] at h2
     rw [h2] at h1
     rw [← h1]; congr 1; omega
    clear hr hb HR
    by_cases hc : c < 128
    ·have hc' : (c : Int) % 128 = (c : Int) := by omega
     have hcn : c % 128 = c := by omega
     have HU := hid (HA.out.last (by omega) hc)
     rw [hc', hcn] at hor
     simp only [Nat.reducePow] at HU
     generalize hN : acc + 1 * c = N at hor HU
     clear hN hacc HA
     by_cases hz : c = 0
     ·subst hz
      have hor0 : bits BinOp.or IntKind.i64 (acc : Int) 0 = (N : Int) := by simpa using hor
      clear hor
      have HUS := hid (rdU_at (L := L) (n := N) (r := r) (by rw [HU.out]; simp))
      clear HU
      by_cases hbig : (N : Int) ≤ 1099511627776
      ·have HUN : Hid (rdU L = some (N, r)) := hid (by rw [HUS.out, if_pos (by omega)])
       go_wp2_with (first
        | (go_at_call 116; refine hone.mono ?_; rintro e w1 ⟨rfl, hr1, ho1⟩; have HR1 := hid hr1; have HO1 := hid ho1; clear hr1 ho1)
        | (go_at_call 117; refine (need_any _ p _ _ HR1.out).mono ?_; rintro e w2 ⟨rfl, hr2, ho2⟩; have HR2 := hid hr2; have HO2 := hid ho2; clear hr2 ho2))
       go_ret
       refine ⟨_, rfl, ?_, HO.out.trans (HO1.out.trans HO2.out), fun n r h => ?_⟩
       ·rw [show (some L).bind rdU = some (N, r) from HUN.out]; simpa using HR2.out
       ·rw [show (some L).bind rdU = some (N, _) from HUN.out] at h; cases h; rfl
      ·have HUN : Hid (rdU L = none) := hid (by rw [HUS.out, if_neg (by omega)])
       go_wp2_with (first
        | (go_at_call 116; refine hone.mono ?_; rintro e w1 ⟨rfl, hr1, ho1⟩; have HR1 := hid hr1; have HO1 := hid ho1; clear hr1 ho1)
        | (go_at_call 117; refine (need_any _ p _ _ HR1.out).mono ?_; rintro e w2 ⟨rfl, hr2, ho2⟩; have HR2 := hid hr2; have HO2 := hid ho2; clear hr2 ho2))
       go_ret
       refine ⟨_, rfl, ?_, HO.out.trans (HO1.out.trans HO2.out), fun n r h => ?_⟩
       ·rw [show (some L).bind rdU = none from HUN.out]; simpa using HR2.out
       ·rw [show (some L).bind rdU = none from HUN.out] at h; cases h
     ·have hpos : 0 < c := by omega
      have HUS := hid (rdU_at (L := L) (n := N) (r := r) (by rw [HU.out]; simp))
      clear HU
      by_cases hbig : (N : Int) ≤ 1099511627776
      ·have HUN : Hid (rdU L = some (N, r)) := hid (by rw [HUS.out, if_pos (by omega)])
       go_wp2_with (first
        | (go_at_call 116; refine hone.mono ?_; rintro e w1 ⟨rfl, hr1, ho1⟩; have HR1 := hid hr1; have HO1 := hid ho1; clear hr1 ho1)
        | (go_at_call 117; refine (need_any _ p _ _ HR1.out).mono ?_; rintro e w2 ⟨rfl, hr2, ho2⟩; have HR2 := hid hr2; have HO2 := hid ho2; clear hr2 ho2))
       go_ret
       refine ⟨_, rfl, ?_, HO.out.trans (HO1.out.trans HO2.out), fun n r h => ?_⟩
       ·rw [show (some L).bind rdU = some (N, r) from HUN.out]; simpa using HR2.out
       ·rw [show (some L).bind rdU = some (N, _) from HUN.out] at h; cases h; rfl
      ·have HUN : Hid (rdU L = none) := hid (by rw [HUS.out, if_neg (by omega)])
       go_wp2_with (first
        | (go_at_call 116; refine hone.mono ?_; rintro e w1 ⟨rfl, hr1, ho1⟩; have HR1 := hid hr1; have HO1 := hid ho1; clear hr1 ho1)
        | (go_at_call 117; refine (need_any _ p _ _ HR1.out).mono ?_; rintro e w2 ⟨rfl, hr2, ho2⟩; have HR2 := hid hr2; have HO2 := hid ho2; clear hr2 ho2))
       go_ret
       refine ⟨_, rfl, ?_, HO.out.trans (HO1.out.trans HO2.out), fun n r h => ?_⟩
       ·rw [show (some L).bind rdU = none from HUN.out]; simpa using HR2.out
       ·rw [show (some L).bind rdU = none from HUN.out] at h; cases h
    ·have HM := hid (HA.out.more (by omega) (by omega) hc2)
     simp only [Nat.reducePow] at HM
     generalize hN : acc + 1 * (c % 128) = N at hor HM
     clear hN hacc HA
     go_wp2_with (go_at_call 116; refine hone.mono ?_; rintro e w1 ⟨rfl, hr1, ho1⟩; have HR1 := hid hr1; have HO1 := hid ho1; clear hr1 ho1)
     exact ⟨⟨1, N, r, by omega, rfl, rfl, HM.out, HR1.out, HO.out.trans HO1.out⟩, by simp [intOf]⟩
  ·match L', HA, HR, hb, hr with
   | [], HA, HR, hb, hr =>
    have hone : Calls Tryz.prog 116 #[ptr p] wr (ReS wr p none (.int .u8 0)) := one_any wr p (some []) hr
    have HU := hid (rdU_none (HA.out.short (by omega)))
    have hacc : acc < 128 := HA.out.1
    clear hr hb HR HA
    have hor0 : bits BinOp.or IntKind.i64 (acc : Int) 0 = (acc : Int) := by
     have h1 := i64_or_nat acc 0 (by omega) (by omega)
     simpa using h1
    go_wp2_with (first
     | (go_at_call 116; refine hone.mono ?_; rintro e w1 ⟨rfl, hr1, ho1⟩; have HR1 := hid hr1; have HO1 := hid ho1; clear hr1 ho1)
     | (go_at_call 117; refine (need_gone _ p _ HR1.out).mono ?_; rintro e w2 ⟨rfl, hw2⟩; have hw3 := hw2.symm; subst hw3))
    go_ret
    refine ⟨_, rfl, ?_, HO.out.trans HO1.out, fun n r h => ?_⟩
    ·rw [show (some L).bind rdU = none from HU.out]; exact HR1.out
    ·rw [show (some L).bind rdU = none from HU.out] at h; cases h
   | c :: r, HA, HR, hb, hr =>
    have hc2 : c < 256 := hb.out c List.mem_cons_self
    have hacc : acc < 128 := HA.out.1
    have hone : Calls Tryz.prog 116 #[ptr p] wr (ReS wr p (some r) (.int .u8 (c : Int))) := one_any wr p (some (c :: r)) hr
    have hor : bits BinOp.or IntKind.i64 (acc : Int) ((c : Int) % 128 * 128) = ((acc + 128 * (c % 128) : Nat) : Int) := by
     have h1 := i64_or_nat acc (128 * (c % 128)) (by omega) (by omega)
     have h2 := or_add acc (c % 128) 7 hacc
     simp only [Nat.reducePow] at h2
     rw [h2] at h1
     rw [← h1]; congr 1; omega
    clear hr hb HR
    by_cases hc : c < 128
    ·have hc' : (c : Int) % 128 = (c : Int) := by omega
     have hcn : c % 128 = c := by omega
     have HU := hid (HA.out.last (by omega) hc)
     rw [hc', hcn] at hor
     simp only [Nat.reducePow] at HU
     generalize hN : acc + 128 * c = N at hor HU
     clear hN hacc HA
     by_cases hz : c = 0
     ·have HUN : Hid (rdU L = none) := hid (rdU_none (by rw [HU.out]; simp [hz]))
      clear HU
      subst hz
      have hor0 : bits BinOp.or IntKind.i64 (acc : Int) 0 = (N : Int) := by simpa using hor
      clear hor
      by_cases hbig : (N : Int) ≤ 1099511627776
      ·skip
       go_wp2_with (first
        | (go_at_call 116; refine hone.mono ?_; rintro e w1 ⟨rfl, hr1, ho1⟩; have HR1 := hid hr1; have HO1 := hid ho1; clear hr1 ho1)
        | (go_at_call 117; refine (need_any _ p _ _ HR1.out).mono ?_; rintro e w2 ⟨rfl, hr2, ho2⟩; have HR2 := hid hr2; have HO2 := hid ho2; clear hr2 ho2))
       go_ret
       refine ⟨_, rfl, ?_, HO.out.trans (HO1.out.trans HO2.out), fun n r h => ?_⟩
       ·rw [show (some L).bind rdU = none from HUN.out]; simpa using HR2.out
       ·rw [show (some L).bind rdU = none from HUN.out] at h; cases h
      ·skip
       go_wp2_with (first
        | (go_at_call 116; refine hone.mono ?_; rintro e w1 ⟨rfl, hr1, ho1⟩; have HR1 := hid hr1; have HO1 := hid ho1; clear hr1 ho1)
        | (go_at_call 117; refine (need_any _ p _ _ HR1.out).mono ?_; rintro e w2 ⟨rfl, hr2, ho2⟩; have HR2 := hid hr2; have HO2 := hid ho2; clear hr2 ho2))
       go_ret
       refine ⟨_, rfl, ?_, HO.out.trans (HO1.out.trans HO2.out), fun n r h => ?_⟩
       ·rw [show (some L).bind rdU = none from HUN.out]; simpa using HR2.out
       ·rw [show (some L).bind rdU = none from HUN.out] at h; cases h
     ·have hpos : 0 < c := by omega
      have HUS := hid (rdU_at (L := L) (n := N) (r := r) (by rw [HU.out]; simp [hz]))
      clear HU
      by_cases hbig : (N : Int) ≤ 1099511627776
      ·have HUN : Hid (rdU L = some (N, r)) := hid (by rw [HUS.out, if_pos (by omega)])
       go_wp2_with (first
        | (go_at_call 116; refine hone.mono ?_; rintro e w1 ⟨rfl, hr1, ho1⟩; have HR1 := hid hr1; have HO1 := hid ho1; clear hr1 ho1)
        | (go_at_call 117; refine (need_any _ p _ _ HR1.out).mono ?_; rintro e w2 ⟨rfl, hr2, ho2⟩; have HR2 := hid hr2; have HO2 := hid ho2; clear hr2 ho2))
       go_ret
       refine ⟨_, rfl, ?_, HO.out.trans (HO1.out.trans HO2.out), fun n r h => ?_⟩
       ·rw [show (some L).bind rdU = some (N, r) from HUN.out]; simpa using HR2.out
       ·rw [show (some L).bind rdU = some (N, _) from HUN.out] at h; cases h; rfl
      ·have HUN : Hid (rdU L = none) := hid (by rw [HUS.out, if_neg (by omega)])
       go_wp2_with (first
        | (go_at_call 116; refine hone.mono ?_; rintro e w1 ⟨rfl, hr1, ho1⟩; have HR1 := hid hr1; have HO1 := hid ho1; clear hr1 ho1)
        | (go_at_call 117; refine (need_any _ p _ _ HR1.out).mono ?_; rintro e w2 ⟨rfl, hr2, ho2⟩; have HR2 := hid hr2; have HO2 := hid ho2; clear hr2 ho2))
       go_ret
       refine ⟨_, rfl, ?_, HO.out.trans (HO1.out.trans HO2.out), fun n r h => ?_⟩
       ·rw [show (some L).bind rdU = none from HUN.out]; simpa using HR2.out
       ·rw [show (some L).bind rdU = none from HUN.out] at h; cases h
    ·have HM := hid (HA.out.more (by omega) (by omega) hc2)
     simp only [Nat.reducePow] at HM
     generalize hN : acc + 128 * (c % 128) = N at hor HM
     clear hN hacc HA
     go_wp2_with (go_at_call 116; refine hone.mono ?_; rintro e w1 ⟨rfl, hr1, ho1⟩; have HR1 := hid hr1; have HO1 := hid ho1; clear hr1 ho1)
     exact ⟨⟨2, N, r, by omega, rfl, rfl, HM.out, HR1.out, HO.out.trans HO1.out⟩, by simp [intOf]⟩
  ·match L', HA, HR, hb, hr with
   | [], HA, HR, hb, hr =>
    have hone : Calls Tryz.prog 116 #[ptr p] wr (ReS wr p none (.int .u8 0)) := one_any wr p (some []) hr
    have HU := hid (rdU_none (HA.out.short (by omega)))
    have hacc : acc < 16384 := HA.out.1
    clear hr hb HR HA
    have hor0 : bits BinOp.or IntKind.i64 (acc : Int) 0 = (acc : Int) := by
     have h1 := i64_or_nat acc 0 (by omega) (by omega)
     simpa using h1
    go_wp2_with (first
     | (go_at_call 116; refine hone.mono ?_; rintro e w1 ⟨rfl, hr1, ho1⟩; have HR1 := hid hr1; have HO1 := hid ho1; clear hr1 ho1)
     | (go_at_call 117; refine (need_gone _ p _ HR1.out).mono ?_; rintro e w2 ⟨rfl, hw2⟩; have hw3 := hw2.symm; subst hw3))
    go_ret
    refine ⟨_, rfl, ?_, HO.out.trans HO1.out, fun n r h => ?_⟩
    ·rw [show (some L).bind rdU = none from HU.out]; exact HR1.out
    ·rw [show (some L).bind rdU = none from HU.out] at h; cases h
   | c :: r, HA, HR, hb, hr =>
    have hc2 : c < 256 := hb.out c List.mem_cons_self
    have hacc : acc < 16384 := HA.out.1
    have hone : Calls Tryz.prog 116 #[ptr p] wr (ReS wr p (some r) (.int .u8 (c : Int))) := one_any wr p (some (c :: r)) hr
    have hor : bits BinOp.or IntKind.i64 (acc : Int) ((c : Int) % 128 * 16384) = ((acc + 16384 * (c % 128) : Nat) : Int) := by
     have h1 := i64_or_nat acc (16384 * (c % 128)) (by omega) (by omega)
     have h2 := or_add acc (c % 128) 14 hacc
     simp only [Nat.reducePow] at h2
     rw [h2] at h1
     rw [← h1]; congr 1; omega
    clear hr hb HR
    by_cases hc : c < 128
    ·have hc' : (c : Int) % 128 = (c : Int) := by omega
     have hcn : c % 128 = c := by omega
     have HU := hid (HA.out.last (by omega) hc)
     rw [hc', hcn] at hor
     simp only [Nat.reducePow] at HU
     generalize hN : acc + 16384 * c = N at hor HU
     clear hN hacc HA
     by_cases hz : c = 0
     ·have HUN : Hid (rdU L = none) := hid (rdU_none (by rw [HU.out]; simp [hz]))
      clear HU
      subst hz
      have hor0 : bits BinOp.or IntKind.i64 (acc : Int) 0 = (N : Int) := by simpa using hor
      clear hor
      by_cases hbig : (N : Int) ≤ 1099511627776
      ·skip
       go_wp2_with (first
        | (go_at_call 116; refine hone.mono ?_; rintro e w1 ⟨rfl, hr1, ho1⟩; have HR1 := hid hr1; have HO1 := hid ho1; clear hr1 ho1)
        | (go_at_call 117; refine (need_any _ p _ _ HR1.out).mono ?_; rintro e w2 ⟨rfl, hr2, ho2⟩; have HR2 := hid hr2; have HO2 := hid ho2; clear hr2 ho2))
       go_ret
       refine ⟨_, rfl, ?_, HO.out.trans (HO1.out.trans HO2.out), fun n r h => ?_⟩
       ·rw [show (some L).bind rdU = none from HUN.out]; simpa using HR2.out
       ·rw [show (some L).bind rdU = none from HUN.out] at h; cases h
      ·skip
       go_wp2_with (first
        | (go_at_call 116; refine hone.mono ?_; rintro e w1 ⟨rfl, hr1, ho1⟩; have HR1 := hid hr1; have HO1 := hid ho1; clear hr1 ho1)
        | (go_at_call 117; refine (need_any _ p _ _ HR1.out).mono ?_; rintro e w2 ⟨rfl, hr2, ho2⟩; have HR2 := hid hr2; have HO2 := hid ho2; clear hr2 ho2))
       go_ret
       refine ⟨_, rfl, ?_, HO.out.trans (HO1.out.trans HO2.out), fun n r h => ?_⟩
       ·rw [show (some L).bind rdU = none from HUN.out]; simpa using HR2.out
       ·rw [show (some L).bind rdU = none from HUN.out] at h; cases h
     ·have hpos : 0 < c := by omega
      have HUS := hid (rdU_at (L := L) (n := N) (r := r) (by rw [HU.out]; simp [hz]))
      clear HU
      by_cases hbig : (N : Int) ≤ 1099511627776
      ·have HUN : Hid (rdU L = some (N, r)) := hid (by rw [HUS.out, if_pos (by omega)])
       go_wp2_with (first
        | (go_at_call 116; refine hone.mono ?_; rintro e w1 ⟨rfl, hr1, ho1⟩; have HR1 := hid hr1; have HO1 := hid ho1; clear hr1 ho1)
        | (go_at_call 117; refine (need_any _ p _ _ HR1.out).mono ?_; rintro e w2 ⟨rfl, hr2, ho2⟩; have HR2 := hid hr2; have HO2 := hid ho2; clear hr2 ho2))
       go_ret
       refine ⟨_, rfl, ?_, HO.out.trans (HO1.out.trans HO2.out), fun n r h => ?_⟩
       ·rw [show (some L).bind rdU = some (N, r) from HUN.out]; simpa using HR2.out
       ·rw [show (some L).bind rdU = some (N, _) from HUN.out] at h; cases h; rfl
      ·have HUN : Hid (rdU L = none) := hid (by rw [HUS.out, if_neg (by omega)])
       go_wp2_with (first
        | (go_at_call 116; refine hone.mono ?_; rintro e w1 ⟨rfl, hr1, ho1⟩; have HR1 := hid hr1; have HO1 := hid ho1; clear hr1 ho1)
        | (go_at_call 117; refine (need_any _ p _ _ HR1.out).mono ?_; rintro e w2 ⟨rfl, hr2, ho2⟩; have HR2 := hid hr2; have HO2 := hid ho2; clear hr2 ho2))
       go_ret
       refine ⟨_, rfl, ?_, HO.out.trans (HO1.out.trans HO2.out), fun n r h => ?_⟩
       ·rw [show (some L).bind rdU = none from HUN.out]; simpa using HR2.out
       ·rw [show (some L).bind rdU = none from HUN.out] at h; cases h
    ·have HM := hid (HA.out.more (by omega) (by omega) hc2)
     simp only [Nat.reducePow] at HM
     generalize hN : acc + 16384 * (c % 128) = N at hor HM
     clear hN hacc HA
     go_wp2_with (go_at_call 116; refine hone.mono ?_; rintro e w1 ⟨rfl, hr1, ho1⟩; have HR1 := hid hr1; have HO1 := hid ho1; clear hr1 ho1)
     exact ⟨⟨3, N, r, by omega, rfl, rfl, HM.out, HR1.out, HO.out.trans HO1.out⟩, by simp [intOf]⟩
  ·match L', HA, HR, hb, hr with
   | [], HA, HR, hb, hr =>
    have hone : Calls Tryz.prog 116 #[ptr p] wr (ReS wr p none (.int .u8 0)) := one_any wr p (some []) hr
    have HU := hid (rdU_none (HA.out.short (by omega)))
    have hacc : acc < 2097152 := HA.out.1
    clear hr hb HR HA
    have hor0 : bits BinOp.or IntKind.i64 (acc : Int) 0 = (acc : Int) := by
     have h1 := i64_or_nat acc 0 (by omega) (by omega)
     simpa using h1
    go_wp2_with (first
     | (go_at_call 116; refine hone.mono ?_; rintro e w1 ⟨rfl, hr1, ho1⟩; have HR1 := hid hr1; have HO1 := hid ho1; clear hr1 ho1)
     | (go_at_call 117; refine (need_gone _ p _ HR1.out).mono ?_; rintro e w2 ⟨rfl, hw2⟩; have hw3 := hw2.symm; subst hw3))
    go_ret
    refine ⟨_, rfl, ?_, HO.out.trans HO1.out, fun n r h => ?_⟩
    ·rw [show (some L).bind rdU = none from HU.out]; exact HR1.out
    ·rw [show (some L).bind rdU = none from HU.out] at h; cases h
   | c :: r, HA, HR, hb, hr =>
    have hc2 : c < 256 := hb.out c List.mem_cons_self
    have hacc : acc < 2097152 := HA.out.1
    have hone : Calls Tryz.prog 116 #[ptr p] wr (ReS wr p (some r) (.int .u8 (c : Int))) := one_any wr p (some (c :: r)) hr
    have hor : bits BinOp.or IntKind.i64 (acc : Int) ((c : Int) % 128 * 2097152) = ((acc + 2097152 * (c % 128) : Nat) : Int) := by
     have h1 := i64_or_nat acc (2097152 * (c % 128)) (by omega) (by omega)
     have h2 := or_add acc (c % 128) 21 hacc
     simp only [Nat.reducePow] at h2
     rw [h2] at h1
     rw [← h1]; congr 1; omega
    clear hr hb HR
    by_cases hc : c < 128
    ·have hc' : (c : Int) % 128 = (c : Int) := by omega
     have hcn : c % 128 = c := by omega
     have HU := hid (HA.out.last (by omega) hc)
     rw [hc', hcn] at hor
     simp only [Nat.reducePow] at HU
     generalize hN : acc + 2097152 * c = N at hor HU
     clear hN hacc HA
     by_cases hz : c = 0
     ·have HUN : Hid (rdU L = none) := hid (rdU_none (by rw [HU.out]; simp [hz]))
      clear HU
      subst hz
      have hor0 : bits BinOp.or IntKind.i64 (acc : Int) 0 = (N : Int) := by simpa using hor
      clear hor
      by_cases hbig : (N : Int) ≤ 1099511627776
      ·skip
       go_wp2_with (first
        | (go_at_call 116; refine hone.mono ?_; rintro e w1 ⟨rfl, hr1, ho1⟩; have HR1 := hid hr1; have HO1 := hid ho1; clear hr1 ho1)
        | (go_at_call 117; refine (need_any _ p _ _ HR1.out).mono ?_; rintro e w2 ⟨rfl, hr2, ho2⟩; have HR2 := hid hr2; have HO2 := hid ho2; clear hr2 ho2))
       go_ret
       refine ⟨_, rfl, ?_, HO.out.trans (HO1.out.trans HO2.out), fun n r h => ?_⟩
       ·rw [show (some L).bind rdU = none from HUN.out]; simpa using HR2.out
       ·rw [show (some L).bind rdU = none from HUN.out] at h; cases h
      ·skip
       go_wp2_with (first
        | (go_at_call 116; refine hone.mono ?_; rintro e w1 ⟨rfl, hr1, ho1⟩; have HR1 := hid hr1; have HO1 := hid ho1; clear hr1 ho1)
        | (go_at_call 117; refine (need_any _ p _ _ HR1.out).mono ?_; rintro e w2 ⟨rfl, hr2, ho2⟩; have HR2 := hid hr2; have HO2 := hid ho2; clear hr2 ho2))
       go_ret
       refine ⟨_, rfl, ?_, HO.out.trans (HO1.out.trans HO2.out), fun n r h => ?_⟩
       ·rw [show (some L).bind rdU = none from HUN.out]; simpa using HR2.out
       ·rw [show (some L).bind rdU = none from HUN.out] at h; cases h
     ·have hpos : 0 < c := by omega
      have HUS := hid (rdU_at (L := L) (n := N) (r := r) (by rw [HU.out]; simp [hz]))
      clear HU
      by_cases hbig : (N : Int) ≤ 1099511627776
      ·have HUN : Hid (rdU L = some (N, r)) := hid (by rw [HUS.out, if_pos (by omega)])
       go_wp2_with (first
        | (go_at_call 116; refine hone.mono ?_; rintro e w1 ⟨rfl, hr1, ho1⟩; have HR1 := hid hr1; have HO1 := hid ho1; clear hr1 ho1)
        | (go_at_call 117; refine (need_any _ p _ _ HR1.out).mono ?_; rintro e w2 ⟨rfl, hr2, ho2⟩; have HR2 := hid hr2; have HO2 := hid ho2; clear hr2 ho2))
       go_ret
       refine ⟨_, rfl, ?_, HO.out.trans (HO1.out.trans HO2.out), fun n r h => ?_⟩
       ·rw [show (some L).bind rdU = some (N, r) from HUN.out]; simpa using HR2.out
       ·rw [show (some L).bind rdU = some (N, _) from HUN.out] at h; cases h; rfl
      ·have HUN : Hid (rdU L = none) := hid (by rw [HUS.out, if_neg (by omega)])
       go_wp2_with (first
        | (go_at_call 116; refine hone.mono ?_; rintro e w1 ⟨rfl, hr1, ho1⟩; have HR1 := hid hr1; have HO1 := hid ho1; clear hr1 ho1)
        | (go_at_call 117; refine (need_any _ p _ _ HR1.out).mono ?_; rintro e w2 ⟨rfl, hr2, ho2⟩; have HR2 := hid hr2; have HO2 := hid ho2; clear hr2 ho2))
       go_ret
       refine ⟨_, rfl, ?_, HO.out.trans (HO1.out.trans HO2.out), fun n r h => ?_⟩
       ·rw [show (some L).bind rdU = none from HUN.out]; simpa using HR2.out
       ·rw [show (some L).bind rdU = none from HUN.out] at h; cases h
    ·have HM := hid (HA.out.more (by omega) (by omega) hc2)
     simp only [Nat.reducePow] at HM
     generalize hN : acc + 2097152 * (c % 128) = N at hor HM
     clear hN hacc HA
     go_wp2_with (go_at_call 116; refine hone.mono ?_; rintro e w1 ⟨rfl, hr1, ho1⟩; have HR1 := hid hr1; have HO1 := hid ho1; clear hr1 ho1)
     exact ⟨⟨4, N, r, by omega, rfl, rfl, HM.out, HR1.out, HO.out.trans HO1.out⟩, by simp [intOf]⟩
  ·match L', HA, HR, hb, hr with
   | [], HA, HR, hb, hr =>
    have hone : Calls Tryz.prog 116 #[ptr p] wr (ReS wr p none (.int .u8 0)) := one_any wr p (some []) hr
    have HU := hid (rdU_none (HA.out.short (by omega)))
    have hacc : acc < 268435456 := HA.out.1
    clear hr hb HR HA
    have hor0 : bits BinOp.or IntKind.i64 (acc : Int) 0 = (acc : Int) := by
     have h1 := i64_or_nat acc 0 (by omega) (by omega)
     simpa using h1
    go_wp2_with (first
     | (go_at_call 116; refine hone.mono ?_; rintro e w1 ⟨rfl, hr1, ho1⟩; have HR1 := hid hr1; have HO1 := hid ho1; clear hr1 ho1)
     | (go_at_call 117; refine (need_gone _ p _ HR1.out).mono ?_; rintro e w2 ⟨rfl, hw2⟩; have hw3 := hw2.symm; subst hw3))
    go_ret
    refine ⟨_, rfl, ?_, HO.out.trans HO1.out, fun n r h => ?_⟩
    ·rw [show (some L).bind rdU = none from HU.out]; exact HR1.out
    ·rw [show (some L).bind rdU = none from HU.out] at h; cases h
   | c :: r, HA, HR, hb, hr =>
    have hc2 : c < 256 := hb.out c List.mem_cons_self
    have hacc : acc < 268435456 := HA.out.1
    have hone : Calls Tryz.prog 116 #[ptr p] wr (ReS wr p (some r) (.int .u8 (c : Int))) := one_any wr p (some (c :: r)) hr
    have hor : bits BinOp.or IntKind.i64 (acc : Int) ((c : Int) % 128 * 268435456) = ((acc + 268435456 * (c % 128) : Nat) : Int) := by
     have h1 := i64_or_nat acc (268435456 * (c % 128)) (by omega) (by omega)
     have h2 := or_add acc (c % 128) 28 hacc
     simp only [Nat.reducePow] at h2
     rw [h2] at h1
     rw [← h1]; congr 1; omega
    clear hr hb HR
    by_cases hc : c < 128
    ·have hc' : (c : Int) % 128 = (c : Int) := by omega
     have hcn : c % 128 = c := by omega
     have HU := hid (HA.out.last (by omega) hc)
     rw [hc', hcn] at hor
     simp only [Nat.reducePow] at HU
     generalize hN : acc + 268435456 * c = N at hor HU
     clear hN hacc HA
     by_cases hz : c = 0
     ·have HUN : Hid (rdU L = none) := hid (rdU_none (by rw [HU.out]; simp [hz]))
      clear HU
      subst hz
      have hor0 : bits BinOp.or IntKind.i64 (acc : Int) 0 = (N : Int) := by simpa using hor
      clear hor
      by_cases hbig : (N : Int) ≤ 1099511627776
      ·skip
       go_wp2_with (first
        | (go_at_call 116; refine hone.mono ?_; rintro e w1 ⟨rfl, hr1, ho1⟩; have HR1 := hid hr1; have HO1 := hid ho1; clear hr1 ho1)
        | (go_at_call 117; refine (need_any _ p _ _ HR1.out).mono ?_; rintro e w2 ⟨rfl, hr2, ho2⟩; have HR2 := hid hr2; have HO2 := hid ho2; clear hr2 ho2))
       go_ret
       refine ⟨_, rfl, ?_, HO.out.trans (HO1.out.trans HO2.out), fun n r h => ?_⟩
       ·rw [show (some L).bind rdU = none from HUN.out]; simpa using HR2.out
       ·rw [show (some L).bind rdU = none from HUN.out] at h; cases h
      ·skip
       go_wp2_with (first
        | (go_at_call 116; refine hone.mono ?_; rintro e w1 ⟨rfl, hr1, ho1⟩; have HR1 := hid hr1; have HO1 := hid ho1; clear hr1 ho1)
        | (go_at_call 117; refine (need_any _ p _ _ HR1.out).mono ?_; rintro e w2 ⟨rfl, hr2, ho2⟩; have HR2 := hid hr2; have HO2 := hid ho2; clear hr2 ho2))
       go_ret
       refine ⟨_, rfl, ?_, HO.out.trans (HO1.out.trans HO2.out), fun n r h => ?_⟩
       ·rw [show (some L).bind rdU = none from HUN.out]; simpa using HR2.out
       ·rw [show (some L).bind rdU = none from HUN.out] at h; cases h
     ·have hpos : 0 < c := by omega
      have HUS := hid (rdU_at (L := L) (n := N) (r := r) (by rw [HU.out]; simp [hz]))
      clear HU
      by_cases hbig : (N : Int) ≤ 1099511627776
      ·have HUN : Hid (rdU L = some (N, r)) := hid (by rw [HUS.out, if_pos (by omega)])
       go_wp2_with (first
        | (go_at_call 116; refine hone.mono ?_; rintro e w1 ⟨rfl, hr1, ho1⟩; have HR1 := hid hr1; have HO1 := hid ho1; clear hr1 ho1)
        | (go_at_call 117; refine (need_any _ p _ _ HR1.out).mono ?_; rintro e w2 ⟨rfl, hr2, ho2⟩; have HR2 := hid hr2; have HO2 := hid ho2; clear hr2 ho2))
       go_ret
       refine ⟨_, rfl, ?_, HO.out.trans (HO1.out.trans HO2.out), fun n r h => ?_⟩
       ·rw [show (some L).bind rdU = some (N, r) from HUN.out]; simpa using HR2.out
       ·rw [show (some L).bind rdU = some (N, _) from HUN.out] at h; cases h; rfl
      ·have HUN : Hid (rdU L = none) := hid (by rw [HUS.out, if_neg (by omega)])
       go_wp2_with (first
        | (go_at_call 116; refine hone.mono ?_; rintro e w1 ⟨rfl, hr1, ho1⟩; have HR1 := hid hr1; have HO1 := hid ho1; clear hr1 ho1)
        | (go_at_call 117; refine (need_any _ p _ _ HR1.out).mono ?_; rintro e w2 ⟨rfl, hr2, ho2⟩; have HR2 := hid hr2; have HO2 := hid ho2; clear hr2 ho2))
       go_ret
       refine ⟨_, rfl, ?_, HO.out.trans (HO1.out.trans HO2.out), fun n r h => ?_⟩
       ·rw [show (some L).bind rdU = none from HUN.out]; simpa using HR2.out
       ·rw [show (some L).bind rdU = none from HUN.out] at h; cases h
    ·have HM := hid (HA.out.more (by omega) (by omega) hc2)
     simp only [Nat.reducePow] at HM
     generalize hN : acc + 268435456 * (c % 128) = N at hor HM
     clear hN hacc HA
     go_wp2_with (go_at_call 116; refine hone.mono ?_; rintro e w1 ⟨rfl, hr1, ho1⟩; have HR1 := hid hr1; have HO1 := hid ho1; clear hr1 ho1)
     exact ⟨⟨5, N, r, by omega, rfl, rfl, HM.out, HR1.out, HO.out.trans HO1.out⟩, by simp [intOf]⟩
  ·match L', HA, HR, hb, hr with
   | [], HA, HR, hb, hr =>
    have hone : Calls Tryz.prog 116 #[ptr p] wr (ReS wr p none (.int .u8 0)) := one_any wr p (some []) hr
    have HU := hid (rdU_none (HA.out.short (by omega)))
    have hacc : acc < 34359738368 := HA.out.1
    clear hr hb HR HA
    have hor0 : bits BinOp.or IntKind.i64 (acc : Int) 0 = (acc : Int) := by
     have h1 := i64_or_nat acc 0 (by omega) (by omega)
     simpa using h1
    go_wp2_with (first
     | (go_at_call 116; refine hone.mono ?_; rintro e w1 ⟨rfl, hr1, ho1⟩; have HR1 := hid hr1; have HO1 := hid ho1; clear hr1 ho1)
     | (go_at_call 117; refine (need_gone _ p _ HR1.out).mono ?_; rintro e w2 ⟨rfl, hw2⟩; have hw3 := hw2.symm; subst hw3))
    go_ret
    refine ⟨_, rfl, ?_, HO.out.trans HO1.out, fun n r h => ?_⟩
    ·rw [show (some L).bind rdU = none from HU.out]; exact HR1.out
    ·rw [show (some L).bind rdU = none from HU.out] at h; cases h
   | c :: r, HA, HR, hb, hr =>
    have hc2 : c < 256 := hb.out c List.mem_cons_self
    have hacc : acc < 34359738368 := HA.out.1
    have hone : Calls Tryz.prog 116 #[ptr p] wr (ReS wr p (some r) (.int .u8 (c : Int))) := one_any wr p (some (c :: r)) hr
    have hor : bits BinOp.or IntKind.i64 (acc : Int) ((c : Int) % 128 * 34359738368) = ((acc + 34359738368 * (c % 128) : Nat) : Int) := by
     have h1 := i64_or_nat acc (34359738368 * (c % 128)) (by omega) (by omega)
     have h2 := or_add acc (c % 128) 35 hacc
     simp only [Nat.reducePow] at h2
     rw [h2] at h1
     rw [← h1]; congr 1; omega
    clear hr hb HR
    by_cases hc : c < 128
    ·have hc' : (c : Int) % 128 = (c : Int) := by omega
     have hcn : c % 128 = c := by omega
     have HU := hid (HA.out.last (by omega) hc)
     rw [hc', hcn] at hor
     simp only [Nat.reducePow] at HU
     generalize hN : acc + 34359738368 * c = N at hor HU
     clear hN hacc HA
     by_cases hz : c = 0
     ·have HUN : Hid (rdU L = none) := hid (rdU_none (by rw [HU.out]; simp [hz]))
      clear HU
      subst hz
      have hor0 : bits BinOp.or IntKind.i64 (acc : Int) 0 = (N : Int) := by simpa using hor
      clear hor
      by_cases hbig : (N : Int) ≤ 1099511627776
      ·skip
       go_wp2_with (first
        | (go_at_call 116; refine hone.mono ?_; rintro e w1 ⟨rfl, hr1, ho1⟩; have HR1 := hid hr1; have HO1 := hid ho1; clear hr1 ho1)
        | (go_at_call 117; refine (need_any _ p _ _ HR1.out).mono ?_; rintro e w2 ⟨rfl, hr2, ho2⟩; have HR2 := hid hr2; have HO2 := hid ho2; clear hr2 ho2))
       go_ret
       refine ⟨_, rfl, ?_, HO.out.trans (HO1.out.trans HO2.out), fun n r h => ?_⟩
       ·rw [show (some L).bind rdU = none from HUN.out]; simpa using HR2.out
       ·rw [show (some L).bind rdU = none from HUN.out] at h; cases h
      ·skip
       go_wp2_with (first
        | (go_at_call 116; refine hone.mono ?_; rintro e w1 ⟨rfl, hr1, ho1⟩; have HR1 := hid hr1; have HO1 := hid ho1; clear hr1 ho1)
        | (go_at_call 117; refine (need_any _ p _ _ HR1.out).mono ?_; rintro e w2 ⟨rfl, hr2, ho2⟩; have HR2 := hid hr2; have HO2 := hid ho2; clear hr2 ho2))
       go_ret
       refine ⟨_, rfl, ?_, HO.out.trans (HO1.out.trans HO2.out), fun n r h => ?_⟩
       ·rw [show (some L).bind rdU = none from HUN.out]; simpa using HR2.out
       ·rw [show (some L).bind rdU = none from HUN.out] at h; cases h
     ·have hpos : 0 < c := by omega
      have HUS := hid (rdU_at (L := L) (n := N) (r := r) (by rw [HU.out]; simp [hz]))
      clear HU
      by_cases hbig : (N : Int) ≤ 1099511627776
      ·have HUN : Hid (rdU L = some (N, r)) := hid (by rw [HUS.out, if_pos (by omega)])
       go_wp2_with (first
        | (go_at_call 116; refine hone.mono ?_; rintro e w1 ⟨rfl, hr1, ho1⟩; have HR1 := hid hr1; have HO1 := hid ho1; clear hr1 ho1)
        | (go_at_call 117; refine (need_any _ p _ _ HR1.out).mono ?_; rintro e w2 ⟨rfl, hr2, ho2⟩; have HR2 := hid hr2; have HO2 := hid ho2; clear hr2 ho2))
       go_ret
       refine ⟨_, rfl, ?_, HO.out.trans (HO1.out.trans HO2.out), fun n r h => ?_⟩
       ·rw [show (some L).bind rdU = some (N, r) from HUN.out]; simpa using HR2.out
       ·rw [show (some L).bind rdU = some (N, _) from HUN.out] at h; cases h; rfl
      ·have HUN : Hid (rdU L = none) := hid (by rw [HUS.out, if_neg (by omega)])
       go_wp2_with (first
        | (go_at_call 116; refine hone.mono ?_; rintro e w1 ⟨rfl, hr1, ho1⟩; have HR1 := hid hr1; have HO1 := hid ho1; clear hr1 ho1)
        | (go_at_call 117; refine (need_any _ p _ _ HR1.out).mono ?_; rintro e w2 ⟨rfl, hr2, ho2⟩; have HR2 := hid hr2; have HO2 := hid ho2; clear hr2 ho2))
       go_ret
       refine ⟨_, rfl, ?_, HO.out.trans (HO1.out.trans HO2.out), fun n r h => ?_⟩
       ·rw [show (some L).bind rdU = none from HUN.out]; simpa using HR2.out
       ·rw [show (some L).bind rdU = none from HUN.out] at h; cases h
    ·have HM := hid (HA.out.more (by omega) (by omega) hc2)
     simp only [Nat.reducePow] at HM
     generalize hN : acc + 34359738368 * (c % 128) = N at hor HM
     clear hN hacc HA
     go_wp2_with (go_at_call 116; refine hone.mono ?_; rintro e w1 ⟨rfl, hr1, ho1⟩; have HR1 := hid hr1; have HO1 := hid ho1; clear hr1 ho1)
     exact ⟨⟨6, N, r, by omega, rfl, rfl, HM.out, HR1.out, HO.out.trans HO1.out⟩, by simp [intOf]⟩
  ·have HU := hid (rdU_none HA.out.long)
   clear hr hb HA
   go_wp2_with (go_at_call 117; refine (need_any _ p _ _ HR.out).mono ?_; rintro e w2 ⟨rfl, hr2, ho2⟩; have HR2 := hid hr2; have HO2 := hid ho2; clear hr2 ho2)
   go_ret
   refine ⟨_, rfl, ?_, HO.out.trans HO2.out, fun n r h => ?_⟩
   ·rw [show (some L).bind rdU = none from HU.out]; simpa using HR2.out
   ·rw [show (some L).bind rdU = none from HU.out] at h; cases h
/- behind number_some -/
end Go.Proofs.YtdohmokhfajjpaaGreatDoor
