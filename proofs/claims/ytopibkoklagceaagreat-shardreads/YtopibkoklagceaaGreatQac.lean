/- Texts laid into one, cut to what is needed: the remark ahead of each part says what is proved there. -/
import Derived.Test.YtopibkoklagceaaGreatQab
import Derived.Lib.ConvBytes
/- Which texts may be IDs, tags, data names, by the program and by the document. (Written by tools/gen_Vk.py.) -/
namespace Go.Proofs.YtopibkoklagceaaGreat
open Go Go.RowKit

theorem toBytes (s : ByteArray) (w : World) : ∃ c w1, (convert 9 22 (.string s)).run Tryz.prog w = .ok (.slice (some ⟨w.heap.size, 0, none⟩) s.size c) w1 ∧ Below w.heap.size w w1 ∧ BL w1 (some ⟨w.heap.size, 0, none⟩) (lst s) ∧ s.size ≤ c := by
 refine ⟨_, _, Lib.run_convert_string_bytes (P := Tryz.prog) w 9 22 5 s Tryz.underlying9 Tryz.underlying22 Tryz.underlying5, ⟨rfl, rfl, rfl, by rw [Lib.bytesWorld_size]; omega, fun k hk => Lib.bytesWorld_at_old w 5 s k hk⟩, Or.inr ⟨_, 0, rfl, fun i hi => ?_⟩, by have := grownCap_ge w s.size 0 5; omega⟩
 rw [lst_len] at hi
 rw [Nat.zero_add, Lib.bytesWorld_cell w 5 s i hi]
 have h2 : i < s.data.toList.length := by rw [Array.length_toList]; exact hi
 unfold lst u8
 rw [List.getD_eq_getElem?_getD, List.getD_eq_getElem?_getD, List.getElem?_map, List.getElem?_eq_getElem h2]
 rfl
theorem getD_all {l : List Nat} {f : Nat → Bool} : l.all f = true ↔ ∀ i, i < l.length → f (l.getD i 0) = true := by
 rw [List.all_eq_true]
 constructor
 ·intro h i hi
  rw [List.getD_eq_getElem?_getD, List.getElem?_eq_getElem hi]
  exact h _ (List.getElem_mem hi)
 ·intro h x hx
  obtain ⟨i, hi, rfl⟩ := List.mem_iff_getElem.1 hx
  have := h i hi
  rwa [List.getD_eq_getElem?_getD, List.getElem?_eq_getElem hi] at this
theorem all_not {l : List Nat} {last : Nat} {dash : Bool} {k : Nat} (hk : k < l.length) (h : isOf last dash (l.getD k 0) = false) : l.all (isOf last dash) = false := by
 cases e : l.all (isOf last dash)
 ·rfl
 ·have := getD_all.1 e k hk; rw [h] at this; cases this
theorem okOf_not {l : List Nat} {least most last : Nat} {dash : Bool} {k : Nat} (hk : k < l.length) (h : isOf last dash (l.getD k 0) = false) : okOf l least most last dash = false := by
 unfold okOf; rw [all_not hk h]; rfl
theorem lst_getD (s : ByteArray) (i : Nat) : (lst s).getD i 0 < 256 := by
 by_cases hi : i < (lst s).length
 ·rw [List.getD_eq_getElem?_getD, List.getElem?_eq_getElem hi]; exact lst_lt s _ (List.getElem_mem hi)
 ·rw [List.getD_eq_getElem?_getD, List.getElem?_eq_none (by omega)]; decide
set_option maxRecDepth 100000 in
set_option maxHeartbeats 2000000 in
theorem allOf_any (s : ByteArray) (last : Nat) (dash : Bool) (w : World) (hs : s.size ≤ 1000000) : Calls Tryz.prog 104 #[.string s, .int .u8 (last : Int), .bool dash] w fun e w' => e = .returned (.bool ((lst s).all (isOf last dash))) ∧ Below w.heap.size w w' := by
 obtain ⟨cc, w1, hconv, hb, hbl, _⟩ := toBytes s w
 have HB := hid hb
 have HBL := hid hbl
 have HZ := hid (lst_len s)
 clear hb hbl
 go_enter Tryz.func104, Tryz.ntmps104
 go_wp2
 clear hconv
 go_loopw [14] (fun v wr => ∃ k : Nat, k ≤ s.size ∧ v = .int .i64 (k : Int) ∧ w1 = wr ∧ ∀ i, i < k → isOf last dash ((lst s).getD i 0) = true) (fun v _ => (s.size - intOf v).toNat)
 case atStart => exact ⟨0, by omega, rfl, rfl, fun i hi => by omega⟩
 case round =>
  obtain ⟨k, hk, rfl, hw, hok⟩ := hrel
  have HOK := hid hok
  subst hw
  clear hok
  by_cases hlt0 : k < s.size
  ·have hlt : k < (lst s).length := by rw [lst_len]; exact hlt0
   have hlt' : (k : Int) < (s.size : Int) := by omega
   have hcell : w1.cell? ⟨w.heap.size, k, none⟩ = some (.int .u8 (((lst s).getD k 0 : Nat) : Int)) := by
    rcases HBL.out with h | ⟨b, o, e, h⟩
    ·rw [h] at hlt; simp at hlt
    ·cases e; have := h k hlt; rwa [Nat.zero_add] at this
   have hc8 := lst_getD s k
   generalize hc : (lst s).getD k 0 = c at hcell hc8
   have HC := hid hc
   clear hc
   by_cases hd : 48 ≤ c ∧ c ≤ 57
   ·have hok : isOf last dash c = true := by simp [isOf, dgt, hd]
    obtain ⟨hd1, hd2⟩ := hd
    go_wp2
    go_roundw
    case rel => exact ⟨k + 1, by omega, by go_num, by trivial, fun i hi => (by
      by_cases e : i = k
      ·rw [e, HC.out]; exact hok
      ·exact HOK.out i (by omega))⟩
    case measure => simp [intOf]; omega
   by_cases hl : 97 ≤ c ∧ c ≤ last
   ·have hok : isOf last dash c = true := by simp [isOf, hl]
    obtain ⟨hl1, hl2⟩ := hl
    have h5 : ¬ (c : Int) ≤ 57 := by omega
    go_wp2
    go_roundw
    case rel => exact ⟨k + 1, by omega, by go_num, by trivial, fun i hi => (by
      by_cases e : i = k
      ·rw [e, HC.out]; exact hok
      ·exact HOK.out i (by omega))⟩
    case measure => simp [intOf]; omega
   have h3 : c < 48 ∨ (57 < c ∧ c < 97) ∨ (97 ≤ c ∧ last < c) := by omega
   cases dash with
   | false =>
    have hok : isOf last false c = false := by simp [isOf, dgt]; omega
    rcases h3 with h3 | ⟨h3, h4⟩ | ⟨h3, h4⟩
    ·clear hd hl
     go_wp2
     go_ret
     exact ⟨by rw [all_not (last := last) hlt (by rw [HC.out]; exact hok)]; rfl, HB.out⟩
    ·have h5 : ¬ (c : Int) ≤ 57 := by omega
     clear hd hl
     go_wp2
     go_ret
     exact ⟨by rw [all_not (last := last) hlt (by rw [HC.out]; exact hok)]; rfl, HB.out⟩
    ·have h5 : ¬ (c : Int) ≤ 57 := by omega
     have h6 : ¬ (c : Int) ≤ (last : Int) := by omega
     clear hd hl
     go_wp2
     go_ret
     exact ⟨by rw [all_not (last := last) hlt (by rw [HC.out]; exact hok)]; rfl, HB.out⟩
   | true =>
    by_cases h45 : c = 45
    ·have hok : isOf last true c = true := by simp [isOf, h45]
     subst h45
     clear hd hl h3
     go_wp2
     go_roundw
     case rel => exact ⟨k + 1, by omega, by go_num, by trivial, fun i hi => (by
       by_cases e : i = k
       ·rw [e, HC.out]; exact hok
       ·exact HOK.out i (by omega))⟩
     case measure => simp [intOf]; omega
    ·have hok : isOf last true c = false := by simp [isOf, dgt]; omega
     have h45' : ((c : Int) == 45) = false := by simp; omega
     rcases h3 with h3 | ⟨h3, h4⟩ | ⟨h3, h4⟩
     ·clear hd hl
      go_wp2
      go_ret
      exact ⟨by rw [all_not (last := last) hlt (by rw [HC.out]; exact hok)]; rfl, HB.out⟩
     ·have h5 : ¬ (c : Int) ≤ 57 := by omega
      clear hd hl
      go_wp2
      go_ret
      exact ⟨by rw [all_not (last := last) hlt (by rw [HC.out]; exact hok)]; rfl, HB.out⟩
     ·have h5 : ¬ (c : Int) ≤ 57 := by omega
      have h6 : ¬ (c : Int) ≤ (last : Int) := by omega
      clear hd hl
      go_wp2
      go_ret
      exact ⟨by rw [all_not (last := last) hlt (by rw [HC.out]; exact hok)]; rfl, HB.out⟩
  ·have hlt' : ¬ (k : Int) < (s.size : Int) := by omega
   have e : Hid ((lst s).all (isOf last dash) = true) := getD_all.2 fun i hi => HOK.out i (by rw [lst_len] at hi; omega)
   go_wp2
   go_ret
   exact ⟨by rw [e.out]; rfl, HB.out⟩
theorem from_any (n a b : Int) (w : World) : Calls Tryz.prog 84 #[i64 n, i64 a, i64 b] w fun e w' => e = .returned (.bool (inR n a b)) ∧ w' = w := by
 by_cases h1 : a ≤ n
 ·by_cases h2 : n ≤ b
  ·have e : inR n a b = true := inR_iff.2 ⟨h1, h2⟩
   rw [e]
   go_enter Tryz.func84, Tryz.ntmps84
   go_wp2
   go_ret
   simp
  ·have e : inR n a b = false := by simp [inR, h2]
   rw [e]
   go_enter Tryz.func84, Tryz.ntmps84
   go_wp2
   go_ret
   simp
 ·have e : inR n a b = false := by simp [inR, h1]
  rw [e]
  go_enter Tryz.func84, Tryz.ntmps84
  go_wp2
  go_ret
  simp
theorem idx_lst (s : ByteArray) (i : Nat) (hi : i < s.size) (w : World) : (Instr.index 9 (.string s) (.int .i64 (i : Int))).run Tryz.prog w = .ok (.int .u8 (((lst s).getD i 0 : Nat) : Int)) w := by
 rw [run_index_string w 9 s .i64 (i : Int) under9, dif_pos ⟨by omega, by omega⟩]
 congr 3
 have h2 : i < s.data.toList.length := by rw [Array.length_toList]; exact hi
 unfold lst
 rw [List.getD_eq_getElem?_getD, List.getElem?_map, List.getElem?_eq_getElem h2]
 simp [ByteArray.getElem_eq_getElem_data]
theorem okOf_all {l : List Nat} {least most last : Nat} {dash : Bool} (h : l.all (isOf last dash) = true) : okOf l least most last dash = inR (l.length : Int) (least : Int) (most : Int) := by
 unfold okOf inR; rw [h]
 simp only [Bool.true_and]
 congr 1 <;> simp
set_option maxRecDepth 100000 in
set_option maxHeartbeats 2000000 in
theorem of_any (s : ByteArray) (least most last : Nat) (dash : Bool) (w : World) (hs : s.size ≤ 1000000) : Calls Tryz.prog 58 #[.string s, i64 least, i64 most, .int .u8 (last : Int), .bool dash] w fun e w' => e = .returned (.bool (okOf (lst s) least most last dash)) ∧ w' = w := by
 have HX := hid (idx_lst s)
 have HZ := hid (lst_len s)
 go_enter Tryz.func58, Tryz.ntmps58
 go_wp2
 go_loopw [11] (fun v wr => ∃ k : Nat, k ≤ s.size ∧ v = .int .i64 (k : Int) ∧ w = wr ∧ ∀ i, i < k → isOf last dash ((lst s).getD i 0) = true) (fun v _ => (s.size - intOf v).toNat)
 case atStart => exact ⟨0, by omega, rfl, rfl, fun i hi => by omega⟩
 case round =>
  obtain ⟨k, hk, rfl, hw, hok⟩ := hrel
  have HOK := hid hok
  subst hw
  clear hok
  by_cases hlt0 : k < s.size
  ·have hlt : k < (lst s).length := by rw [lst_len]; exact hlt0
   have hlt' : (k : Int) < (s.size : Int) := by omega
   have hx := HX.out k hlt0
   have hc8 := lst_getD s k
   generalize hc : (lst s).getD k 0 = c at hx hc8
   have HC := hid hc
   clear hc
   by_cases hd : 48 ≤ c ∧ c ≤ 57
   ·have hok : isOf last dash c = true := by simp [isOf, dgt, hd]
    obtain ⟨hd1, hd2⟩ := hd
    go_wp2
    go_roundw
    case rel => exact ⟨k + 1, by omega, by go_num, by trivial, fun i hi => (by
      by_cases e : i = k
      ·rw [e, HC.out]; exact hok
      ·exact HOK.out i (by omega))⟩
    case measure => simp [intOf]; omega
   by_cases hl : 97 ≤ c ∧ c ≤ last
   ·have hok : isOf last dash c = true := by simp [isOf, hl]
    obtain ⟨hl1, hl2⟩ := hl
    have h5 : ¬ (c : Int) ≤ 57 := by omega
    go_wp2
    go_roundw
    case rel => exact ⟨k + 1, by omega, by go_num, by trivial, fun i hi => (by
      by_cases e : i = k
      ·rw [e, HC.out]; exact hok
      ·exact HOK.out i (by omega))⟩
    case measure => simp [intOf]; omega
   have h3 : c < 48 ∨ (57 < c ∧ c < 97) ∨ (97 ≤ c ∧ last < c) := by omega
   cases dash with
   | false =>
    have hok : isOf last false c = false := by simp [isOf, dgt]; omega
    rcases h3 with h3 | ⟨h3, h4⟩ | ⟨h3, h4⟩
    ·clear hd hl
     go_wp2
     go_ret
     exact ⟨by rw [okOf_not (least := least) (most := most) (last := last) hlt (by rw [HC.out]; exact hok)]; rfl, by trivial⟩
    ·have h5 : ¬ (c : Int) ≤ 57 := by omega
     clear hd hl
     go_wp2
     go_ret
     exact ⟨by rw [okOf_not (least := least) (most := most) (last := last) hlt (by rw [HC.out]; exact hok)]; rfl, by trivial⟩
    ·have h5 : ¬ (c : Int) ≤ 57 := by omega
     have h6 : ¬ (c : Int) ≤ (last : Int) := by omega
     clear hd hl
     go_wp2
     go_ret
     exact ⟨by rw [okOf_not (least := least) (most := most) (last := last) hlt (by rw [HC.out]; exact hok)]; rfl, by trivial⟩
   | true =>
    by_cases h45 : c = 45
    ·have hok : isOf last true c = true := by simp [isOf, h45]
     subst h45
     clear hd hl h3
     go_wp2
     go_roundw
     case rel => exact ⟨k + 1, by omega, by go_num, by trivial, fun i hi => (by
       by_cases e : i = k
       ·rw [e, HC.out]; exact hok
       ·exact HOK.out i (by omega))⟩
     case measure => simp [intOf]; omega
    ·have hok : isOf last true c = false := by simp [isOf, dgt]; omega
     have h45' : ((c : Int) == 45) = false := by simp; omega
     rcases h3 with h3 | ⟨h3, h4⟩ | ⟨h3, h4⟩
     ·clear hd hl
      go_wp2
      go_ret
      exact ⟨by rw [okOf_not (least := least) (most := most) (last := last) hlt (by rw [HC.out]; exact hok)]; rfl, by trivial⟩
     ·have h5 : ¬ (c : Int) ≤ 57 := by omega
      clear hd hl
      go_wp2
      go_ret
      exact ⟨by rw [okOf_not (least := least) (most := most) (last := last) hlt (by rw [HC.out]; exact hok)]; rfl, by trivial⟩
     ·have h5 : ¬ (c : Int) ≤ 57 := by omega
      have h6 : ¬ (c : Int) ≤ (last : Int) := by omega
      clear hd hl
      go_wp2
      go_ret
      exact ⟨by rw [okOf_not (least := least) (most := most) (last := last) hlt (by rw [HC.out]; exact hok)]; rfl, by trivial⟩
  ·have hlt' : ¬ (k : Int) < (s.size : Int) := by omega
   have HE := hid (okOf_all (least := least) (most := most) (getD_all.2 fun i hi => HOK.out i (by rw [lst_len] at hi; omega)) : okOf (lst s) least most last dash = _)
   go_wp2_with (go_at_call 84; refine (from_any _ _ _ _).mono ?_; rintro e w' ⟨rfl, hw'⟩; have hw2 := hw'.symm; subst hw2)
   go_ret
   exact ⟨by rw [HE.out, HZ.out]; rfl, by trivial⟩
theorem okOf_in (l : List Nat) (least most last : Nat) (dash : Bool) : okOf l least most last dash = (inR (l.length : Int) (least : Int) (most : Int) && l.all (isOf last dash)) := by
 cases h : l.all (isOf last dash)
 ·unfold okOf; rw [h]; simp
 ·rw [okOf_all h]; simp
theorem isID_any (s : ByteArray) (w : World) (hs : s.size ≤ 1000000) : Calls Tryz.prog 80 #[.string s] w fun e w' => e = .returned (.bool (okId (lst s))) ∧ Below w.heap.size w w' := by
 have hal := allOf_any s 122 false w hs
 have hle : okId (lst s) = (inR (s.size : Int) 1 32 && (lst s).all (isOf 122 false)) := by unfold okId; rw [okOf_in, lst_len]; rfl
 rw [hle]
 clear hle
 generalize (lst s).all (isOf 122 false) = bb at *
 cases hin : inR (s.size : Int) 1 32
 ·go_enter Tryz.func80, Tryz.ntmps80
  go_wp2_with (go_at_call 81; refine (between_any _ _ _ _).mono ?_; rintro e w' ⟨rfl, hw'⟩; rw [hin]; have hw2 := hw'.symm; subst hw2)
  go_ret
  exact ⟨rfl, Below.refl _ _⟩
 ·go_enter Tryz.func80, Tryz.ntmps80
  go_wp2_with (first
   | (go_at_call 81; refine (between_any _ _ _ _).mono ?_; rintro e w' ⟨rfl, hw'⟩; rw [hin]; have hw2 := hw'.symm; subst hw2)
   | (go_at_call 104; refine hal.mono ?_; rintro e w1 ⟨rfl, hb⟩))
  go_ret
  exact ⟨by simp, hb⟩
theorem isTag_any (s : ByteArray) (w : World) (hs : s.size ≤ 1000000) : Calls Tryz.prog 106 #[.string s] w fun e w' => e = .returned (.bool (okTag (lst s))) ∧ Below w.heap.size w w' := by
 have hal := allOf_any s 102 true w hs
 have hle : okTag (lst s) = (inR (s.size : Int) 1 40 && (lst s).all (isOf 102 true)) := by unfold okTag; rw [okOf_in, lst_len]; rfl
 rw [hle]
 clear hle
 generalize (lst s).all (isOf 102 true) = bb at *
 cases hin : inR (s.size : Int) 1 40
 ·go_enter Tryz.func106, Tryz.ntmps106
  go_wp2_with (go_at_call 81; refine (between_any _ _ _ _).mono ?_; rintro e w' ⟨rfl, hw'⟩; rw [hin]; have hw2 := hw'.symm; subst hw2)
  go_ret
  exact ⟨rfl, Below.refl _ _⟩
 ·go_enter Tryz.func106, Tryz.ntmps106
  go_wp2_with (first
   | (go_at_call 81; refine (between_any _ _ _ _).mono ?_; rintro e w' ⟨rfl, hw'⟩; rw [hin]; have hw2 := hw'.symm; subst hw2)
   | (go_at_call 104; refine hal.mono ?_; rintro e w1 ⟨rfl, hb⟩))
  go_ret
  exact ⟨by simp, hb⟩
theorem isDataName_any (s : ByteArray) (w : World) (hs : s.size ≤ 1000000) : Calls Tryz.prog 107 #[.string s] w fun e w' => e = .returned (.bool (okData (lst s))) ∧ Below w.heap.size w w' := by
 have hal := allOf_any s 102 false w hs
 have hle : okData (lst s) = (inR (s.size : Int) 32 32 && (lst s).all (isOf 102 false)) := by unfold okData; rw [okOf_in, lst_len]; rfl
 rw [hle]
 clear hle
 generalize (lst s).all (isOf 102 false) = bb at *
 by_cases hin : (s.size : Int) = 32
 ·have hi : inR (s.size : Int) 32 32 = true := inR_iff.2 (by omega)
  rw [hi]
  have hin' : ((s.size : Int) == 32) = true := by simpa using hin
  go_enter Tryz.func107, Tryz.ntmps107
  go_wp2_with (go_at_call 104; refine hal.mono ?_; rintro e w1 ⟨rfl, hb⟩)
  go_ret
  exact ⟨by simp, hb⟩
 ·have hi : inR (s.size : Int) 32 32 = false := by simp [inR]; omega
  rw [hi]
  have hin' : ((s.size : Int) == 32) = false := by simpa using hin
  go_enter Tryz.func107, Tryz.ntmps107
  go_wp2_with fail
  go_ret
  exact ⟨rfl, Below.refl _ _⟩
theorem rID_any (s : ByteArray) (w : World) (hs : s.size ≤ 1000000) : Calls Tryz.prog 87 #[.string s] w fun e w' => e = .returned (.bool (okId (lst s))) ∧ w' = w := by
 have hal := of_any s 1 32 122 false w hs
 unfold okId
 generalize okOf (lst s) 1 32 122 false = bb at *
 go_enter Tryz.func87, Tryz.ntmps87
 go_wp2_with (go_at_call 58; refine hal.mono ?_; rintro e w1 ⟨rfl, hw'⟩; have hw2 := hw'.symm; subst hw2)
 go_ret
 exact ⟨rfl, by trivial⟩
theorem rTag_any (s : ByteArray) (w : World) (hs : s.size ≤ 1000000) : Calls Tryz.prog 88 #[.string s] w fun e w' => e = .returned (.bool (okTag (lst s))) ∧ w' = w := by
 have hal := of_any s 1 40 102 true w hs
 unfold okTag
 generalize okOf (lst s) 1 40 102 true = bb at *
 go_enter Tryz.func88, Tryz.ntmps88
 go_wp2_with (go_at_call 58; refine hal.mono ?_; rintro e w1 ⟨rfl, hw'⟩; have hw2 := hw'.symm; subst hw2)
 go_ret
 exact ⟨rfl, by trivial⟩
theorem rData_any (s : ByteArray) (w : World) (hs : s.size ≤ 1000000) : Calls Tryz.prog 32 #[.string s] w fun e w' => e = .returned (.bool (okData (lst s))) ∧ w' = w := by
 have hal := of_any s 32 32 102 false w hs
 unfold okData
 generalize okOf (lst s) 32 32 102 false = bb at *
 go_enter Tryz.func32, Tryz.ntmps32
 go_wp2_with (go_at_call 58; refine hal.mono ?_; rintro e w1 ⟨rfl, hw'⟩; have hw2 := hw'.symm; subst hw2)
 go_ret
 exact ⟨rfl, by trivial⟩
end Go.Proofs.YtopibkoklagceaaGreat

/- Records and their parts in memory. Contracts of slices.Equal over parts. -/

namespace Go.Proofs.YtopibkoklagceaaGreat
open Go Go.RowKit

theorem run_loadVar_at (w : World) (g off : Nat) (ty : TypeId) (cs : Array Value) (d : TypeDesc) (hc : ∀ j v, cs[j]? = some v → w.cell? ⟨g, off + j, none⟩ = some v)
  (hu : Tryz.prog.underlying ty = some d) (hd : (match d with | .struct _ | .array _ _ => true | _ => false) = true) (hi : (Tryz.prog.info? ty).map (·.size) = some cs.size) :
  (loadVar ty ⟨g, off, none⟩).run Tryz.prog w = .ok (.agg cs) w := by
 have hl : (loadCells ⟨g, off, none⟩ cs.toList.length).run Tryz.prog w = .ok cs.toList.toArray w :=
  run_loadCells_list (P := Tryz.prog) w ⟨g, off, none⟩ cs.toList (fun j v hv => by
   rw [add_none]; exact hc j v (by simpa using hv))
 cases hq : Tryz.prog.info? ty with
 | none => simp [hq] at hi
 | some i =>
  have hs : i.size = cs.size := by simpa [hq] using hi
  have hagg : (isAgg ty).run Tryz.prog w = .ok true w := by
   unfold isAgg
   rw [Sem.run_bind, run_underlying hu w]
   cases d <;> simp_all
  simp only [Array.length_toList, Array.toArray_toList] at hl
  simp [loadVar, Sem.run_bind, hagg, sizeOf, typeInfo, hq, hs, hl]
theorem wpList_load_at {ops : Array Oper} {rest : List Oper} {o : Oper} {a : Act} {w : World} {Q : Exit → Act → World → Prop} (ty : TypeId) (x : Operand) (ho : o.op = .load ty x) (hw : Region.wanted o (yielded ops a.tmps) = true)
  (g off : Nat) (hx : a.eval x = .pointer (some ⟨g, off, none⟩)) (cs : Array Value) (d : TypeDesc) (hc : ∀ j v, cs[j]? = some v → w.cell? ⟨g, off + j, none⟩ = some v)
  (hu : Tryz.prog.underlying ty = some d) (hd : (match d with | .struct _ | .array _ _ => true | _ => false) = true) (hi : (Tryz.prog.info? ty).map (·.size) = some cs.size)
  (h : wpList Tryz.prog ops Q rest (a.put o.dst (.agg cs)) w) : wpList Tryz.prog ops Q (o :: rest) a w := by
 refine BigFrame.wpList_want hw fun K hK => ?_
 unfold Oper.wp execOp
 simp only [ho, hx, Instr.loadAt, Instr.sureAddr, Sem.run_bind, Sem.run_pure, Result.andThen_ok, run_loadVar_at w g off ty cs d hc hu hd hi]
 exact hK _ _ h
/-- Parts of a version. -/
abbrev Ps := List (Int × Int)
def PCells (w : World) (b o : Nat) (ps : Ps) : Prop := ∀ i, i < ps.length → w.cell? ⟨b, o + i * 2, none⟩ = some (i64 (ps.getD i (0, 0)).1) ∧ w.cell? ⟨b, o + i * 2 + 1, none⟩ = some (i64 (ps.getD i (0, 0)).2)
def PL (w : World) (v : Value) (ps : Ps) : Prop := ∃ po c, v = .slice po ps.length c ∧ ps.length ≤ c ∧ ps.length ≤ 100000 ∧ (ps = [] ∨ ∃ b o, po = some ⟨b, o, none⟩ ∧ PCells w b o ps)
theorem PL.keep {w w' : World} {v : Value} {ps : Ps} (h : PL w v ps) (hk : ∀ a, w.cell? a ≠ none → w'.cell? a = w.cell? a) : PL w' v ps := by
 obtain ⟨po, c, h1, h2, h3, h⟩ := h
 refine ⟨po, c, h1, h2, h3, ?_⟩
 rcases h with h | ⟨b, o, hp, h⟩
 ·exact Or.inl h
 ·exact Or.inr ⟨b, o, hp, fun i hi => ⟨(hk _ (by rw [(h i hi).1]; simp)).trans (h i hi).1, (hk _ (by rw [(h i hi).2]; simp)).trans (h i hi).2⟩⟩
theorem PL.below {w w' : World} {v : Value} {ps : Ps} (h : PL w v ps) (hb : Below w.heap.size w w') : PL w' v ps :=
 h.keep fun a ha => World.cell?_of_block (hb.block a.block (cell_lt' ha))
set_option maxRecDepth 100000 in
set_option maxHeartbeats 1000000 in
theorem equal_any (u v : Value) (ps qs : Ps) (w : World) (hu : PL w u ps) (hv : PL w v qs) : Calls Tryz.prog 105 #[u, v] w fun e w' => e = .returned (.bool (decide (ps = qs))) ∧ Below w.heap.size w w' := by
 obtain ⟨p, c, rfl, hc, hl, hp⟩ := hu
 obtain ⟨q, d, rfl, hd, hl2, hq⟩ := hv
 by_cases hlen : ps.length = qs.length
 ·have hlen' : (ps.length : Int) = (qs.length : Int) := by omega
  have HP := hid hp
  have HQ := hid hq
  have HE := hid hlen
  rw [← hlen] at hl2 hd ⊢
  clear hp hq hlen'
  go_enter Tryz.func105, Tryz.ntmps105
  go_wp2
  go_loopw [13] (fun v wr => ∃ k : Nat, k ≤ ps.length ∧ v = .int .i64 (k : Int) ∧ Below w.heap.size w wr ∧ ∀ i, i < k → ps.getD i (0, 0) = qs.getD i (0, 0)) (fun v _ => (ps.length - intOf v).toNat)
  case atStart => exact ⟨0, by omega, rfl, Below.refl _ _, fun i hi => by omega⟩
  case round =>
   obtain ⟨k, hk, rfl, hw, hok⟩ := hrel
   have HOK := hid hok
   have HW := hid hw
   clear hok hw
   by_cases hlt : k < ps.length
   ·have hlt' : (k : Int) < (ps.length : Int) := by omega
    have hx : ∃ b o, p = some ⟨b, o, none⟩ ∧ wr.cell? ⟨b, o + k * 2, none⟩ = some (i64 (ps.getD k (0, 0)).1) ∧ wr.cell? ⟨b, o + k * 2 + 1, none⟩ = some (i64 (ps.getD k (0, 0)).2) := by
     rcases HP.out with h | ⟨b, o, h, hc⟩
     ·rw [h] at hlt; simp at hlt
     ·obtain ⟨h1, h2⟩ := hc k hlt
      exact ⟨b, o, h, (World.cell?_of_block (HW.out.block b (cell_lt' (a := ⟨b, o + k * 2, none⟩) (by rw [h1]; simp)))).trans h1, (World.cell?_of_block (HW.out.block b (cell_lt' (a := ⟨b, o + k * 2, none⟩) (by rw [h1]; simp)))).trans h2⟩
    have hy : ∃ b o, q = some ⟨b, o, none⟩ ∧ wr.cell? ⟨b, o + k * 2, none⟩ = some (i64 (qs.getD k (0, 0)).1) ∧ wr.cell? ⟨b, o + k * 2 + 1, none⟩ = some (i64 (qs.getD k (0, 0)).2) := by
     rcases HQ.out with h | ⟨b, o, h, hc⟩
     ·have := HE.out; rw [h] at this; simp at this; subst this; simp at hlt
     ·obtain ⟨h1, h2⟩ := hc k (by have := HE.out; omega)
      exact ⟨b, o, h, (World.cell?_of_block (HW.out.block b (cell_lt' (a := ⟨b, o + k * 2, none⟩) (by rw [h1]; simp)))).trans h1, (World.cell?_of_block (HW.out.block b (cell_lt' (a := ⟨b, o + k * 2, none⟩) (by rw [h1]; simp)))).trans h2⟩
    obtain ⟨b, o, rfl, x1, x2⟩ := hx
    obtain ⟨b', o', rfl, y1, y2⟩ := hy
    by_cases hX : (ps.getD k (0, 0)).1 = (qs.getD k (0, 0)).1
    ·by_cases hY : (ps.getD k (0, 0)).2 = (qs.getD k (0, 0)).2
     ·have HXY : Hid (ps.getD k (0, 0) = qs.getD k (0, 0)) := Prod.ext hX hY
      rw [← hX] at y1
      rw [← hY] at y2
      clear hX hY
      generalize (ps.getD k (0, 0)).1 = X1 at *
      generalize (ps.getD k (0, 0)).2 = X2 at *
      go_wp2
      go_region
      go_wp2
      exact ⟨⟨k + 1, by omega, by simp, HW.out.drew, fun i hi => (by
       by_cases e : i = k
       ·rw [e]; exact HXY.out
       ·exact HOK.out i (by omega))⟩, by simp [intOf]; omega⟩
     ·have e : Hid (decide (ps = qs) = false) := decide_eq_false fun e => hY (by rw [e])
      rw [← hX] at y1
      clear hX
      generalize (ps.getD k (0, 0)).1 = X1 at *
      generalize (ps.getD k (0, 0)).2 = X2 at *
      generalize (qs.getD k (0, 0)).2 = Y2 at *
      go_wp2
      go_region
      go_wp2
      go_ret
      exact ⟨by rw [e.out]; rfl, HW.out.drew⟩
    ·have e : Hid (decide (ps = qs) = false) := decide_eq_false fun e => hX (by rw [e])
     generalize (ps.getD k (0, 0)).1 = X1 at *
     generalize (ps.getD k (0, 0)).2 = X2 at *
     generalize (qs.getD k (0, 0)).1 = Y1 at *
     generalize (qs.getD k (0, 0)).2 = Y2 at *
     go_wp2
     go_region
     go_wp2
     go_ret
     exact ⟨by rw [e.out]; rfl, HW.out.drew⟩
   ·have hlt' : ¬ (k : Int) < (ps.length : Int) := by omega
    have e : Hid (decide (ps = qs) = true) := decide_eq_true (List.ext_getElem HE.out fun i h1 h2 => by
     have := HOK.out i (by omega)
     simpa [List.getD, h1, h2] using this)
    go_wp2
    go_ret
    exact ⟨by rw [e.out]; rfl, HW.out⟩
 ·have hlen' : ((ps.length : Int) == (qs.length : Int)) = false := by simp; omega
  have e : decide (ps = qs) = false := decide_eq_false fun e => hlen (by rw [e])
  rw [e]
  go_enter Tryz.func105, Tryz.ntmps105
  go_wp2
  go_ret
  exact ⟨rfl, Below.refl _ _⟩
end Go.Proofs.YtopibkoklagceaaGreat

/- Records in memory. -/
namespace Go.Proofs.YtopibkoklagceaaGreat
open Go Go.RowKit

/-- A record as a value: texts, numbers, and the slice that leads to its parts. -/
structure Rv where
 id : ByteArray
 time : Int
 mark : Bool
 size : Int
 etag : ByteArray
 k : Int
 m : Int
 data : ByteArray
 sum : List Nat
 pv : Value
 up : ByteArray
def sumC (x : List Nat) : Array Value := (x.map u8).toArray
def Rv.cs (r : Rv) : Array Value := #[.string r.id, i64 r.time, .bool r.mark, i64 r.size, .string r.etag, i64 r.k, i64 r.m, .string r.data] ++ (sumC r.sum ++ #[r.pv, .string r.up])
def Rv.rc (r : Rv) (ps : Ps) : Rc := ⟨lst r.id, r.time, r.mark, r.size, lst r.etag, r.k, r.m, lst r.data, r.sum, ps, lst r.up⟩
structure Rv.ok (r : Rv) : Prop where
 sl : r.sum.length = 32
 s8 : ∀ x ∈ r.sum, x < 256
 i : r.id.size ≤ 100000
 e : r.etag.size ≤ 100000
 d : r.data.size ≤ 100000
 u : r.up.size ≤ 100000
theorem sumC_size (x : List Nat) : (sumC x).size = x.length := by simp [sumC]
theorem sumC_get {x : List Nat} {j : Nat} (h : j < x.length) : (sumC x)[j]? = some (u8 (x.getD j 0)) := by simp [sumC, h, List.getD]
section
variable {r : Rv} (h : r.ok)
include h
theorem Rv.ok.size : r.cs.size = 42 := by simp [Rv.cs, sumC_size, h.sl]
theorem Rv.ok.sum {j : Nat} (hj : j < 32) : r.cs[8 + j]? = some (u8 (r.sum.getD j 0)) := by
 unfold Rv.cs
 rw [Array.getElem?_append_right (by simp), Array.getElem?_append_left (by rw [sumC_size, h.sl]; simp; omega)]
 rw [show 8 + j - #[Value.string r.id, i64 r.time, .bool r.mark, i64 r.size, .string r.etag, i64 r.k, i64 r.m, .string r.data].size = j by simp]
 exact sumC_get (by rw [h.sl]; exact hj)
theorem Rv.ok.pv : r.cs[40]? = some r.pv := by
 unfold Rv.cs
 rw [Array.getElem?_append_right (by simp), Array.getElem?_append_right (by rw [sumC_size, h.sl]; simp), sumC_size, h.sl]
 rfl
theorem Rv.ok.up : r.cs[41]? = some (.string r.up) := by
 unfold Rv.cs
 rw [Array.getElem?_append_right (by simp), Array.getElem?_append_right (by rw [sumC_size, h.sl]; simp), sumC_size, h.sl]
 rfl
end
theorem Rv.get8 (r : Rv) (j : Nat) (hj : j < 8) : r.cs[j]? = #[Value.string r.id, i64 r.time, .bool r.mark, i64 r.size, .string r.etag, i64 r.k, i64 r.m, .string r.data][j]? := by
 unfold Rv.cs; rw [Array.getElem?_append_left (by simpa using hj)]
/-- What the cells of a record's block are. -/
structure RBox (w : World) (g : Nat) (r : Rv) : Prop where
 at_ : CAt w g r.cs 40
 c0 : w.cell? ⟨g, 0, none⟩ = some (.string r.id)
 c1 : w.cell? ⟨g, 1, none⟩ = some (i64 r.time)
 c2 : w.cell? ⟨g, 2, none⟩ = some (.bool r.mark)
 c3 : w.cell? ⟨g, 3, none⟩ = some (i64 r.size)
 c4 : w.cell? ⟨g, 4, none⟩ = some (.string r.etag)
 c5 : w.cell? ⟨g, 5, none⟩ = some (i64 r.k)
 c6 : w.cell? ⟨g, 6, none⟩ = some (i64 r.m)
 c7 : w.cell? ⟨g, 7, none⟩ = some (.string r.data)
 cs : ∀ j v, (sumC r.sum)[j]? = some v → w.cell? ⟨g, 8 + j, none⟩ = some v
 c40 : w.cell? ⟨g, 40, none⟩ = some r.pv
 c41 : w.cell? ⟨g, 41, none⟩ = some (.string r.up)
 free : ∀ i, w.frozen? ⟨g, i, none⟩ = false
theorem RBox.mk' {w : World} {g : Nat} {r : Rv} (h : r.ok) (hc : CAt w g r.cs 40) : RBox w g r where
 at_ := hc
 c0 := by rw [hc.cell, r.get8 0 (by omega)]; rfl
 c1 := by rw [hc.cell, r.get8 1 (by omega)]; rfl
 c2 := by rw [hc.cell, r.get8 2 (by omega)]; rfl
 c3 := by rw [hc.cell, r.get8 3 (by omega)]; rfl
 c4 := by rw [hc.cell, r.get8 4 (by omega)]; rfl
 c5 := by rw [hc.cell, r.get8 5 (by omega)]; rfl
 c6 := by rw [hc.cell, r.get8 6 (by omega)]; rfl
 c7 := by rw [hc.cell, r.get8 7 (by omega)]; rfl
 cs := fun j v hv => by
  have hj : j < 32 := by
   rcases Nat.lt_or_ge j 32 with q | q
   ·exact q
   ·rw [Array.getElem?_eq_none (by rw [sumC_size, h.sl]; exact q)] at hv; cases hv
  rw [hc.cell, h.sum hj, ← hv, sumC_get (by rw [h.sl]; exact hj)]
 c40 := by rw [hc.cell, h.pv]
 c41 := by rw [hc.cell, h.up]
 free := fun i => hc.free i
theorem RBox.below {w w' : World} {g : Nat} {r : Rv} (h : RBox w g r) (ho : r.ok) (hb : Below w.heap.size w w') : RBox w' g r := RBox.mk' ho (h.at_.below hb)
theorem sizeR : (Tryz.prog.info? 40).map (·.size) = some 42 := by kernel_rfl
theorem sizeD : (Tryz.prog.info? 37).map (·.size) = some 32 := by kernel_rfl
theorem wpList_boxR {ops : Array Oper} {rest : List Oper} {o : Oper} {a : Act} {w : World} {Q : Exit → Act → World → Prop} (hg : o.guard = none) (x : Operand) (ho : o.op = .box 40 x) (cs : Array Value) (hx : a.eval x = .agg cs)
  (h : ∀ w1 g, CAt w1 g cs 40 → Below w.heap.size w w1 → w.heap.size ≤ g → wpList Tryz.prog ops Q rest (a.put o.dst (ptr g)) w1) : wpList Tryz.prog ops Q (o :: rest) a w := by
 refine wpList_plain hg fun K hK => ?_
 unfold Oper.wp execOp
 simp only [ho, Instr.box, newVar, newRow, hx, Value.cells, Sem.run_bind]
 simp
 exact hK _ _ (h _ _ (CAt.made _ _ _) (below_al _ _) (Nat.le_refl _))
/-- Digests are the same, if their bytes are. -/
theorem part5 {x : List Nat} {i : Nat} (hi : i < x.length) (w : World) : (part 5 (sumC x) (i * 1)).run Tryz.prog w = .ok (u8 (x.getD i 0)) w := by
 have h5 : (isAgg 5).run Tryz.prog w = .ok false w := by kernel_rfl
 unfold part
 rw [Sem.run_bind, h5]
 simp only [Result.andThen_ok, Bool.false_eq_true, if_false, Nat.mul_one, sumC_get hi]
 rfl
set_option maxRecDepth 100000 in
theorem eqSum_in {x y : List Nat} (hx : x.length = 32) (hy : y.length = 32) (d : Nat) (he : ∀ (a b : Nat) (w : World), (Op.equalIn d 5 (u8 a) (u8 b)).run Tryz.prog w = .ok (a == b) w) (w : World) :
  (Op.equalIn (d + 1) 37 (.agg (sumC x)) (.agg (sumC y))).run Tryz.prog w = .ok (decide (x = y)) w := by
 have hu : Tryz.prog.underlying 37 = some (.array 32 5) := by kernel_rfl
 have hs : (sizeOf 5).run Tryz.prog w = .ok 1 w := by kernel_rfl
 simp only [Op.equalIn, Sem.run_bind, run_underlying hu, Result.andThen_ok, hs]
 rw [Std.Legacy.Range.forIn_eq_forIn_range']
 have hloop : ∀ (n s : Nat), s + n ≤ 32 → (forIn (m := Sem) (List.range' s n) ((none : Option Bool), ()) fun i (_ : Option Bool × Unit) => do
       let a ← part 5 (sumC x) (i * 1)
       let b ← part 5 (sumC y) (i * 1)
       let r ← Op.equalIn d 5 a b
       if (!r) = true then pure (ForInStep.done (some false, ())) else pure (ForInStep.yield (none, ()))).run Tryz.prog w =
   .ok (if (List.range' s n).all (fun i => x.getD i 0 == y.getD i 0) = true then (none, ()) else (some false, ())) w := fun n => by
  induction n with
  | zero => intro s _; simp
  | succ n ih =>
   intro s hs
   rw [List.range'_succ, List.forIn_cons, List.all_cons]
   simp only [Sem.run_bind, part5 (x := x) (i := s) (by omega), part5 (x := y) (i := s) (by omega), Result.andThen_ok, he]
   cases e : (x.getD s 0 == y.getD s 0)
   ·simp only [Bool.not_false, if_true, Sem.run_pure, Result.andThen_ok, Bool.false_and, Bool.false_eq_true, if_false]
   ·simp only [Bool.not_true, Bool.false_eq_true, if_false, Sem.run_pure, Result.andThen_ok, Bool.true_and]
    exact ih (s + 1) (by omega)
 have h32 := hloop 32 0 (by omega)
 simp only [Std.Legacy.Range.size, Nat.sub_zero, Nat.add_one_sub_one, Nat.div_one]
 rw [h32]
 have hall : (List.range' 0 32).all (fun i => x.getD i 0 == y.getD i 0) = decide (x = y) := by
  rw [Bool.eq_iff_iff, List.all_eq_true, decide_eq_true_eq]
  constructor
  ·intro h
   refine List.ext_getElem (by omega) fun i h1 h2 => ?_
   have := h i (by simp; omega)
   simpa [List.getD, h1, h2] using this
  ·intro h i _; rw [h]; simp
 rw [hall]
 cases decide (x = y) <;> simp
set_option maxRecDepth 100000 in
theorem eqSum {x y : List Nat} (hx : x.length = 32) (hy : y.length = 32) (w : World) : (binOp .eql 37 (.agg (sumC x)) (.agg (sumC y))).run Tryz.prog w = .ok (.bool (decide (x = y))) w := by
 rw [run_eql_struct, eqSum_in hx hy 9999 (fun a b w => by
  have := run_equalIn_int (P := Tryz.prog) w 9998 5 .u8 .u8 (a : Int) (b : Int) Tryz.underlying5
  unfold u8
  rw [this]
  congr 1
  rw [Bool.eq_iff_iff]; simp; omega) w]
 rfl
end Go.Proofs.YtopibkoklagceaaGreat

/- Which parts may be: contracts of partsMake of package record and of the document's parts. -/
namespace Go.Proofs.YtopibkoklagceaaGreat
open Go Go.RowKit

def mkP : Int → Int → Ps → Bool
 | _, left, [] => decide (left = 0)
 | last, left, p :: r => inR p.1 (last + 1) 10000 && (inR p.2 0 left && mkP p.1 (left - p.2) r)
theorem okPs_sum : ∀ {last : Int} {ps : Ps}, okPs last ps = true → 0 ≤ sumPs ps ∧ sumPs ps ≤ 65536 * ps.length
 | _, [], _ => by simp [sumPs]
 | last, p :: r, h => by
  simp [okPs, inR] at h
  have := okPs_sum h.2
  unfold sumPs at this ⊢
  simp only [List.map_cons, List.sum_cons, List.length_cons]
  omega
theorem mkP_eq : ∀ (ps : Ps) (last left : Int), 0 ≤ left → left ≤ 65536 → mkP last left ps = (okPs last ps && decide (sumPs ps = left))
 | [], last, left, h0, h1 => by simp [mkP, okPs, sumPs, eq_comm]
 | p :: r, last, left, h0, h1 => by
  have hs : sumPs (p :: r) = p.2 + sumPs r := by simp [sumPs]
  by_cases hb : 0 ≤ p.2 ∧ p.2 ≤ left
  ·have ih := mkP_eq r p.1 (left - p.2) (by omega) (by omega)
   have e1 : inR p.2 0 left = true := inR_iff.2 hb
   have e2 : inR p.2 0 65536 = true := inR_iff.2 (by omega)
   have e3 : decide (sumPs r = left - p.2) = decide (sumPs (p :: r) = left) := by rw [hs]; congr 1; rw [eq_iff_iff]; omega
   have e4 : inR p.1 (last + 1) 10000 = (decide (last < p.1) && decide (p.1 ≤ 10000)) := by unfold inR; congr 1
   unfold mkP okPs
   rw [e1, e2, ih, e3, e4]
   simp only [Bool.true_and, Bool.and_true, Bool.and_assoc]
  ·have e1 : inR p.2 0 left = false := by unfold inR; simp; omega
   have e5 : (okPs last (p :: r) && decide (sumPs (p :: r) = left)) = false := by
    cases h : okPs last (p :: r)
    ·rfl
    ·have h2 := h
     simp [okPs, inR] at h2
     have := okPs_sum h2.2
     simp only [Bool.true_and]
     exact decide_eq_false (by rw [hs]; omega)
   rw [e5]; unfold mkP; rw [e1]; simp
theorem okParts_mk {ps : Ps} {size : Int} (h0 : 0 ≤ size) (h1 : size ≤ 65536) (hne : ps ≠ []) (hl : ps.length ≤ 32) : okParts ps size = mkP 0 size ps := by
 rw [mkP_eq ps 0 size h0 h1]
 unfold okParts
 have : ps.isEmpty = false := by cases ps <;> simp_all
 simp [hl, this]
theorem PL.at {w : World} {po : Option Addr} {n c : Nat} {ps : Ps} (h : PL w (.slice po n c) ps) {k : Nat} (hk : k < ps.length) : ∃ b o, po = some ⟨b, o, none⟩ ∧ w.cell? ⟨b, o + k * 2, none⟩ = some (i64 (ps.getD k (0, 0)).1) ∧ w.cell? ⟨b, o + k * 2 + 1, none⟩ = some (i64 (ps.getD k (0, 0)).2) := by
 obtain ⟨po', c', e, _, _, h⟩ := h
 cases e
 rcases h with h | ⟨b, o, hp, h⟩
 ·subst h; simp at hk
 ·exact ⟨b, o, hp, h k hk⟩
theorem drop_consP {ps : Ps} {i : Nat} (h : i < ps.length) : ps.drop i = ps.getD i (0, 0) :: ps.drop (i + 1) := by
 rw [List.drop_eq_getElem_cons h]; simp [List.getD, h]
theorem mkB {w w1 : World} (h : Below w.heap.size w w1) {o : Obj} : Below w.heap.size w (w1.alloc o) := h.alloc h.size _
set_option maxRecDepth 100000 in
set_option maxHeartbeats 1000000 in
theorem partsMake_any (v : Value) (ps : Ps) (size : Int) (w : World) (hv : PL w v ps) (h0 : 0 ≤ size) (h1 : size ≤ 65536) : Calls Tryz.prog 108 #[v, i64 size] w fun e w' => e = .returned (.bool (okParts ps size)) ∧ Below w.heap.size w w' := by
 have HV := hid hv
 obtain ⟨po, c, rfl, hc, hl, _⟩ := hv
 by_cases hne : ps = []
 ·subst hne
  go_enter Tryz.func108, Tryz.ntmps108
  go_wp2
  go_ret
  exact ⟨by simp [okParts, okPs], Below.refl _ _⟩
 have hpos : 0 < ps.length := List.length_pos_iff.2 hne
 have hz : ((ps.length : Int) == 0) = false := by simp; omega
 by_cases hbig : 32 < ps.length
 ·have hbig' : 32 < (ps.length : Int) := by omega
  have e : Hid (okParts ps size = false) := by unfold okParts Hid; simp; omega
  go_enter Tryz.func108, Tryz.ntmps108
  go_wp2
  go_ret
  exact ⟨by rw [e.out]; rfl, Below.refl _ _⟩
 have hsm : ¬ 32 < (ps.length : Int) := by omega
 have HE := hid (okParts_mk h0 h1 hne (by omega))
 clear hz
 have hz : ¬ (ps.length : Int) = 0 := by omega
 generalize okParts ps size = R at *
 go_enter Tryz.func108, Tryz.ntmps108
 go_wp2
 go_loopw [5, 6, 18] (fun lv fv iv wr => ∃ (k : Nat) (last left : Int), k ≤ ps.length ∧ lv = i64 last ∧ fv = i64 left ∧ iv = i64 k ∧ 0 ≤ last ∧ last ≤ 10000 ∧ 0 ≤ left ∧ left ≤ 65536 ∧ R = mkP last left (ps.drop k) ∧ Below w.heap.size w wr) (fun _ _ iv _ => (ps.length - intOf iv).toNat)
 case atStart => exact ⟨0, 0, size, by omega, rfl, rfl, rfl, by omega, by omega, h0, h1, HE.out, Below.refl _ _⟩
 case round =>
  clear HE hz hsm
  obtain ⟨k, last, left, hk, rfl, rfl, rfl, hl0, hl1, hf0, hf1, hR, hw⟩ := hrel
  have HW := hid hw
  by_cases hlt : k < ps.length
  ·have hlt' : (k : Int) < (ps.length : Int) := by omega
   rw [drop_consP hlt, mkP] at hR
   obtain ⟨b, o, hpo, x1, x2⟩ := (HV.out.below hw).at hlt
   subst hpo
   have HR := hid hR
   clear hR hw
   generalize hX1 : (ps.getD k (0, 0)).1 = X1 at *
   generalize hX2 : (ps.getD k (0, 0)).2 = X2 at *
   clear hX1 hX2
   cases i1 : inR X1 (last + 1) 10000
   ·rw [i1] at HR
    go_wp2_with (go_at_call 81; refine (between_any _ _ _ _).mono ?_; rintro e w' ⟨rfl, hw'⟩; rw [i1]; have hw2 := hw'.symm; subst hw2)
    go_ret
    exact ⟨by rw [HR.out]; rfl, mkB HW.out⟩
   ·rw [i1] at HR
    have hr1 := inR_iff.1 i1
    cases i2 : inR X2 0 left
    ·rw [i2] at HR
     go_wp2_with (go_at_call 81; refine (between_any _ _ _ _).mono ?_; rintro e w' ⟨rfl, hw'⟩; first | rw [i1] | rw [i2]; have hw2 := hw'.symm; subst hw2)
     go_ret
     exact ⟨by rw [HR.out]; rfl, mkB HW.out⟩
    ·rw [i2] at HR
     have hr2 := inR_iff.1 i2
     go_wp2_with (go_at_call 81; refine (between_any _ _ _ _).mono ?_; rintro e w' ⟨rfl, hw'⟩; first | rw [i1] | rw [i2]; have hw2 := hw'.symm; subst hw2)
     go_region
     go_wp2
     exact ⟨⟨k + 1, X1, left - X2, by omega, rfl, rfl, by simp, by omega, by omega, by omega, by omega, by rw [HR.out]; rfl, (mkB HW.out).drew⟩, by simp [intOf]; omega⟩
  ·have hlt' : ¬ (k : Int) < (ps.length : Int) := by omega
   rw [List.drop_eq_nil_of_le (by omega), mkP] at hR
   have HR := hid hR
   clear hR hw
   go_wp2
   go_ret
   exact ⟨by rw [HR.out]; rfl, HW.out⟩
end Go.Proofs.YtopibkoklagceaaGreat
