/- Which texts may be IDs, tags, data names, by the program and by the document. (Written by tools/gen_Vk.py.) -/
import Derived.Test.YtepkpkbgmchioaaVi
import Derived.Lib.ConvBytes
namespace Go.Proofs.Ytepkpkbgmchioaa
open Go Go.RowKit

theorem toBytes (s : ByteArray) (w : World) : ∃ c w1, (convert 9 22 (.string s)).run Try.prog w = .ok (.slice (some ⟨w.heap.size, 0, none⟩) s.size c) w1 ∧ Below w.heap.size w w1 ∧ BL w1 (some ⟨w.heap.size, 0, none⟩) (lst s) ∧ s.size ≤ c := by
  refine ⟨_, _, Lib.run_convert_string_bytes (P := Try.prog) w 9 22 5 s Try.underlying9 Try.underlying22 Try.underlying5, ⟨rfl, rfl, rfl, by rw [Lib.bytesWorld_size]; omega, fun k hk => Lib.bytesWorld_at_old w 5 s k hk⟩, Or.inr ⟨_, 0, rfl, fun i hi => ?_⟩, by have := grownCap_ge w s.size 0 5; omega⟩
  rw [lst_len] at hi
  rw [Nat.zero_add, Lib.bytesWorld_cell w 5 s i hi]
  have h2 : i < s.data.toList.length := by rw [Array.length_toList]; exact hi
  unfold lst u8
  rw [List.getD_eq_getElem?_getD, List.getD_eq_getElem?_getD, List.getElem?_map, List.getElem?_eq_getElem h2]
  rfl
theorem getD_all {l : List Nat} {f : Nat → Bool} : l.all f = true ↔ ∀ i, i < l.length → f (l.getD i 0) = true := by
  rw [List.all_eq_true]
  constructor
  · intro h i hi
    rw [List.getD_eq_getElem?_getD, List.getElem?_eq_getElem hi]
    exact h _ (List.getElem_mem hi)
  · intro h x hx
    obtain ⟨i, hi, rfl⟩ := List.mem_iff_getElem.1 hx
    have := h i hi
    rwa [List.getD_eq_getElem?_getD, List.getElem?_eq_getElem hi] at this
theorem all_not {l : List Nat} {last : Nat} {dash : Bool} {k : Nat} (hk : k < l.length) (h : isOf last dash (l.getD k 0) = false) : l.all (isOf last dash) = false := by
  cases e : l.all (isOf last dash)
  · rfl
  · have := getD_all.1 e k hk; rw [h] at this; cases this
theorem okOf_not {l : List Nat} {least most last : Nat} {dash : Bool} {k : Nat} (hk : k < l.length) (h : isOf last dash (l.getD k 0) = false) : okOf l least most last dash = false := by
  unfold okOf; rw [all_not hk h]; rfl
theorem lst_getD (s : ByteArray) (i : Nat) : (lst s).getD i 0 < 256 := by
  by_cases hi : i < (lst s).length
  · rw [List.getD_eq_getElem?_getD, List.getElem?_eq_getElem hi]; exact lst_lt s _ (List.getElem_mem hi)
  · rw [List.getD_eq_getElem?_getD, List.getElem?_eq_none (by omega)]; decide
set_option maxRecDepth 100000 in
set_option maxHeartbeats 2000000 in
theorem allOf_any (s : ByteArray) (last : Nat) (dash : Bool) (w : World) (hs : s.size ≤ 1000000) : Calls Try.prog 61 #[.string s, .int .u8 (last : Int), .bool dash] w fun e w' => e = .returned (.bool ((lst s).all (isOf last dash))) ∧ Below w.heap.size w w' := by
  obtain ⟨cc, w1, hconv, hb, hbl, _⟩ := toBytes s w
  have HB := hid hb
  have HBL := hid hbl
  have HZ := hid (lst_len s)
  clear hb hbl
  go_enter Try.func61, Try.ntmps61
  go_wp2
  clear hconv
  go_loopw [14] (fun v wr => ∃ k : Nat, k ≤ s.size ∧ v = .int .i64 (k : Int) ∧ w1 = wr ∧ ∀ i, i < k → isOf last dash ((lst s).getD i 0) = true) (fun v _ => (s.size - intOf v).toNat)
  case atStart => exact ⟨0, by omega, rfl, rfl, fun i hi => by omega⟩
  case round =>
    obtain ⟨k, hk, rfl, hw, hok⟩ := hrel
    have HOK := hid hok
    subst hw
    clear hok
    by_cases hlt0 : k < s.size
    · have hlt : k < (lst s).length := by rw [lst_len]; exact hlt0
      have hlt' : (k : Int) < (s.size : Int) := by omega
      have hcell : w1.cell? ⟨w.heap.size, k, none⟩ = some (.int .u8 (((lst s).getD k 0 : Nat) : Int)) := by
        rcases HBL.out with h | ⟨b, o, e, h⟩
        · rw [h] at hlt; simp at hlt
        · cases e; have := h k hlt; rwa [Nat.zero_add] at this
      have hc8 := lst_getD s k
      generalize hc : (lst s).getD k 0 = c at hcell hc8
      have HC := hid hc
      clear hc
      by_cases hd : 48 ≤ c ∧ c ≤ 57
      · have hok : isOf last dash c = true := by simp [isOf, dgt, hd]
        obtain ⟨hd1, hd2⟩ := hd
        go_wp2
        go_roundw
        case rel => exact ⟨k + 1, by omega, by go_num, by trivial, fun i hi => (by
            by_cases e : i = k
            · rw [e, HC.out]; exact hok
            · exact HOK.out i (by omega))⟩
        case measure => simp [intOf]; omega
      by_cases hl : 97 ≤ c ∧ c ≤ last
      · have hok : isOf last dash c = true := by simp [isOf, hl]
        obtain ⟨hl1, hl2⟩ := hl
        have h5 : ¬ (c : Int) ≤ 57 := by omega
        go_wp2
        go_roundw
        case rel => exact ⟨k + 1, by omega, by go_num, by trivial, fun i hi => (by
            by_cases e : i = k
            · rw [e, HC.out]; exact hok
            · exact HOK.out i (by omega))⟩
        case measure => simp [intOf]; omega
      have h3 : c < 48 ∨ (57 < c ∧ c < 97) ∨ (97 ≤ c ∧ last < c) := by omega
      cases dash with
      | false =>
        have hok : isOf last false c = false := by simp [isOf, dgt]; omega
        rcases h3 with h3 | ⟨h3, h4⟩ | ⟨h3, h4⟩
        · clear hd hl
          go_wp2
          go_ret
          exact ⟨by rw [all_not (last := last) hlt (by rw [HC.out]; exact hok)]; rfl, HB.out⟩
        · have h5 : ¬ (c : Int) ≤ 57 := by omega
          clear hd hl
          go_wp2
          go_ret
          exact ⟨by rw [all_not (last := last) hlt (by rw [HC.out]; exact hok)]; rfl, HB.out⟩
        · have h5 : ¬ (c : Int) ≤ 57 := by omega
          have h6 : ¬ (c : Int) ≤ (last : Int) := by omega
          clear hd hl
          go_wp2
          go_ret
          exact ⟨by rw [all_not (last := last) hlt (by rw [HC.out]; exact hok)]; rfl, HB.out⟩
      | true =>
        by_cases h45 : c = 45
        · have hok : isOf last true c = true := by simp [isOf, h45]
          subst h45
          clear hd hl h3
          go_wp2
          go_roundw
          case rel => exact ⟨k + 1, by omega, by go_num, by trivial, fun i hi => (by
              by_cases e : i = k
              · rw [e, HC.out]; exact hok
              · exact HOK.out i (by omega))⟩
          case measure => simp [intOf]; omega
        · have hok : isOf last true c = false := by simp [isOf, dgt]; omega
          have h45' : ((c : Int) == 45) = false := by simp; omega
          rcases h3 with h3 | ⟨h3, h4⟩ | ⟨h3, h4⟩
          · clear hd hl
            go_wp2
            go_ret
            exact ⟨by rw [all_not (last := last) hlt (by rw [HC.out]; exact hok)]; rfl, HB.out⟩
          · have h5 : ¬ (c : Int) ≤ 57 := by omega
            clear hd hl
            go_wp2
            go_ret
            exact ⟨by rw [all_not (last := last) hlt (by rw [HC.out]; exact hok)]; rfl, HB.out⟩
          · have h5 : ¬ (c : Int) ≤ 57 := by omega
            have h6 : ¬ (c : Int) ≤ (last : Int) := by omega
            clear hd hl
            go_wp2
            go_ret
            exact ⟨by rw [all_not (last := last) hlt (by rw [HC.out]; exact hok)]; rfl, HB.out⟩
    · have hlt' : ¬ (k : Int) < (s.size : Int) := by omega
      have e : Hid ((lst s).all (isOf last dash) = true) := getD_all.2 fun i hi => HOK.out i (by rw [lst_len] at hi; omega)
      go_wp2
      go_ret
      exact ⟨by rw [e.out]; rfl, HB.out⟩
theorem from_any (n a b : Int) (w : World) : Calls Try.prog 48 #[i64 n, i64 a, i64 b] w fun e w' => e = .returned (.bool (inR n a b)) ∧ w' = w := by
  by_cases h1 : a ≤ n
  · by_cases h2 : n ≤ b
    · have e : inR n a b = true := inR_iff.2 ⟨h1, h2⟩
      rw [e]
      go_enter Try.func48, Try.ntmps48
      go_wp2
      go_ret
      simp
    · have e : inR n a b = false := by simp [inR, h2]
      rw [e]
      go_enter Try.func48, Try.ntmps48
      go_wp2
      go_ret
      simp
  · have e : inR n a b = false := by simp [inR, h1]
    rw [e]
    go_enter Try.func48, Try.ntmps48
    go_wp2
    go_ret
    simp
theorem idx_lst (s : ByteArray) (i : Nat) (hi : i < s.size) (w : World) : (Instr.index 9 (.string s) (.int .i64 (i : Int))).run Try.prog w = .ok (.int .u8 (((lst s).getD i 0 : Nat) : Int)) w := by
  rw [run_index_string w 9 s .i64 (i : Int) under9, dif_pos ⟨by omega, by omega⟩]
  congr 3
  have h2 : i < s.data.toList.length := by rw [Array.length_toList]; exact hi
  unfold lst
  rw [List.getD_eq_getElem?_getD, List.getElem?_map, List.getElem?_eq_getElem h2]
  simp [ByteArray.getElem_eq_getElem_data]
theorem okOf_all {l : List Nat} {least most last : Nat} {dash : Bool} (h : l.all (isOf last dash) = true) : okOf l least most last dash = inR (l.length : Int) (least : Int) (most : Int) := by
  unfold okOf inR; rw [h]
  simp only [Bool.true_and]
  congr 1 <;> simp
set_option maxRecDepth 100000 in
set_option maxHeartbeats 2000000 in
theorem of_any (s : ByteArray) (least most last : Nat) (dash : Bool) (w : World) (hs : s.size ≤ 1000000) : Calls Try.prog 65 #[.string s, i64 least, i64 most, .int .u8 (last : Int), .bool dash] w fun e w' => e = .returned (.bool (okOf (lst s) least most last dash)) ∧ w' = w := by
  have HX := hid (idx_lst s)
  have HZ := hid (lst_len s)
  go_enter Try.func65, Try.ntmps65
  go_wp2
  go_loopw [11] (fun v wr => ∃ k : Nat, k ≤ s.size ∧ v = .int .i64 (k : Int) ∧ w = wr ∧ ∀ i, i < k → isOf last dash ((lst s).getD i 0) = true) (fun v _ => (s.size - intOf v).toNat)
  case atStart => exact ⟨0, by omega, rfl, rfl, fun i hi => by omega⟩
  case round =>
    obtain ⟨k, hk, rfl, hw, hok⟩ := hrel
    have HOK := hid hok
    subst hw
    clear hok
    by_cases hlt0 : k < s.size
    · have hlt : k < (lst s).length := by rw [lst_len]; exact hlt0
      have hlt' : (k : Int) < (s.size : Int) := by omega
      have hx := HX.out k hlt0
      have hc8 := lst_getD s k
      generalize hc : (lst s).getD k 0 = c at hx hc8
      have HC := hid hc
      clear hc
      by_cases hd : 48 ≤ c ∧ c ≤ 57
      · have hok : isOf last dash c = true := by simp [isOf, dgt, hd]
        obtain ⟨hd1, hd2⟩ := hd
        go_wp2
        go_roundw
        case rel => exact ⟨k + 1, by omega, by go_num, by trivial, fun i hi => (by
            by_cases e : i = k
            · rw [e, HC.out]; exact hok
            · exact HOK.out i (by omega))⟩
        case measure => simp [intOf]; omega
      by_cases hl : 97 ≤ c ∧ c ≤ last
      · have hok : isOf last dash c = true := by simp [isOf, hl]
        obtain ⟨hl1, hl2⟩ := hl
        have h5 : ¬ (c : Int) ≤ 57 := by omega
        go_wp2
        go_roundw
        case rel => exact ⟨k + 1, by omega, by go_num, by trivial, fun i hi => (by
            by_cases e : i = k
            · rw [e, HC.out]; exact hok
            · exact HOK.out i (by omega))⟩
        case measure => simp [intOf]; omega
      have h3 : c < 48 ∨ (57 < c ∧ c < 97) ∨ (97 ≤ c ∧ last < c) := by omega
      cases dash with
      | false =>
        have hok : isOf last false c = false := by simp [isOf, dgt]; omega
        rcases h3 with h3 | ⟨h3, h4⟩ | ⟨h3, h4⟩
        · clear hd hl
          go_wp2
          go_ret
          exact ⟨by rw [okOf_not (least := least) (most := most) (last := last) hlt (by rw [HC.out]; exact hok)]; rfl, by trivial⟩
        · have h5 : ¬ (c : Int) ≤ 57 := by omega
          clear hd hl
          go_wp2
          go_ret
          exact ⟨by rw [okOf_not (least := least) (most := most) (last := last) hlt (by rw [HC.out]; exact hok)]; rfl, by trivial⟩
        · have h5 : ¬ (c : Int) ≤ 57 := by omega
          have h6 : ¬ (c : Int) ≤ (last : Int) := by omega
          clear hd hl
          go_wp2
          go_ret
          exact ⟨by rw [okOf_not (least := least) (most := most) (last := last) hlt (by rw [HC.out]; exact hok)]; rfl, by trivial⟩
      | true =>
        by_cases h45 : c = 45
        · have hok : isOf last true c = true := by simp [isOf, h45]
          subst h45
          clear hd hl h3
          go_wp2
          go_roundw
          case rel => exact ⟨k + 1, by omega, by go_num, by trivial, fun i hi => (by
              by_cases e : i = k
              · rw [e, HC.out]; exact hok
              · exact HOK.out i (by omega))⟩
          case measure => simp [intOf]; omega
        · have hok : isOf last true c = false := by simp [isOf, dgt]; omega
          have h45' : ((c : Int) == 45) = false := by simp; omega
          rcases h3 with h3 | ⟨h3, h4⟩ | ⟨h3, h4⟩
          · clear hd hl
            go_wp2
            go_ret
            exact ⟨by rw [okOf_not (least := least) (most := most) (last := last) hlt (by rw [HC.out]; exact hok)]; rfl, by trivial⟩
          · have h5 : ¬ (c : Int) ≤ 57 := by omega
            clear hd hl
            go_wp2
            go_ret
            exact ⟨by rw [okOf_not (least := least) (most := most) (last := last) hlt (by rw [HC.out]; exact hok)]; rfl, by trivial⟩
          · have h5 : ¬ (c : Int) ≤ 57 := by omega
            have h6 : ¬ (c : Int) ≤ (last : Int) := by omega
            clear hd hl
            go_wp2
            go_ret
            exact ⟨by rw [okOf_not (least := least) (most := most) (last := last) hlt (by rw [HC.out]; exact hok)]; rfl, by trivial⟩
    · have hlt' : ¬ (k : Int) < (s.size : Int) := by omega
      have HE := hid (okOf_all (least := least) (most := most) (getD_all.2 fun i hi => HOK.out i (by rw [lst_len] at hi; omega)) : okOf (lst s) least most last dash = _)
      go_wp2_with (go_at_call 48; refine (from_any _ _ _ _).mono ?_; rintro e w' ⟨rfl, hw'⟩; have hw2 := hw'.symm; subst hw2)
      go_ret
      exact ⟨by rw [HE.out, HZ.out]; rfl, by trivial⟩
theorem okOf_in (l : List Nat) (least most last : Nat) (dash : Bool) : okOf l least most last dash = (inR (l.length : Int) (least : Int) (most : Int) && l.all (isOf last dash)) := by
  cases h : l.all (isOf last dash)
  · unfold okOf; rw [h]; simp
  · rw [okOf_all h]; simp
theorem isID_any (s : ByteArray) (w : World) (hs : s.size ≤ 1000000) : Calls Try.prog 44 #[.string s] w fun e w' => e = .returned (.bool (okId (lst s))) ∧ Below w.heap.size w w' := by
  have hal := allOf_any s 122 false w hs
  have hle : okId (lst s) = (inR (s.size : Int) 1 32 && (lst s).all (isOf 122 false)) := by unfold okId; rw [okOf_in, lst_len]; rfl
  rw [hle]
  clear hle
  generalize (lst s).all (isOf 122 false) = bb at *
  cases hin : inR (s.size : Int) 1 32
  · go_enter Try.func44, Try.ntmps44
    go_wp2_with (go_at_call 35; refine (between_any _ _ _ _).mono ?_; rintro e w' ⟨rfl, hw'⟩; rw [hin]; have hw2 := hw'.symm; subst hw2)
    go_ret
    exact ⟨rfl, Below.refl _ _⟩
  · go_enter Try.func44, Try.ntmps44
    go_wp2_with (first
      | (go_at_call 35; refine (between_any _ _ _ _).mono ?_; rintro e w' ⟨rfl, hw'⟩; rw [hin]; have hw2 := hw'.symm; subst hw2)
      | (go_at_call 61; refine hal.mono ?_; rintro e w1 ⟨rfl, hb⟩))
    go_ret
    exact ⟨by simp, hb⟩
theorem isTag_any (s : ByteArray) (w : World) (hs : s.size ≤ 1000000) : Calls Try.prog 62 #[.string s] w fun e w' => e = .returned (.bool (okTag (lst s))) ∧ Below w.heap.size w w' := by
  have hal := allOf_any s 102 true w hs
  have hle : okTag (lst s) = (inR (s.size : Int) 1 40 && (lst s).all (isOf 102 true)) := by unfold okTag; rw [okOf_in, lst_len]; rfl
  rw [hle]
  clear hle
  generalize (lst s).all (isOf 102 true) = bb at *
  cases hin : inR (s.size : Int) 1 40
  · go_enter Try.func62, Try.ntmps62
    go_wp2_with (go_at_call 35; refine (between_any _ _ _ _).mono ?_; rintro e w' ⟨rfl, hw'⟩; rw [hin]; have hw2 := hw'.symm; subst hw2)
    go_ret
    exact ⟨rfl, Below.refl _ _⟩
  · go_enter Try.func62, Try.ntmps62
    go_wp2_with (first
      | (go_at_call 35; refine (between_any _ _ _ _).mono ?_; rintro e w' ⟨rfl, hw'⟩; rw [hin]; have hw2 := hw'.symm; subst hw2)
      | (go_at_call 61; refine hal.mono ?_; rintro e w1 ⟨rfl, hb⟩))
    go_ret
    exact ⟨by simp, hb⟩
theorem isDataName_any (s : ByteArray) (w : World) (hs : s.size ≤ 1000000) : Calls Try.prog 63 #[.string s] w fun e w' => e = .returned (.bool (okData (lst s))) ∧ Below w.heap.size w w' := by
  have hal := allOf_any s 102 false w hs
  have hle : okData (lst s) = (inR (s.size : Int) 32 32 && (lst s).all (isOf 102 false)) := by unfold okData; rw [okOf_in, lst_len]; rfl
  rw [hle]
  clear hle
  generalize (lst s).all (isOf 102 false) = bb at *
  by_cases hin : (s.size : Int) = 32
  · have hi : inR (s.size : Int) 32 32 = true := inR_iff.2 (by omega)
    rw [hi]
    have hin' : ((s.size : Int) == 32) = true := by simpa using hin
    go_enter Try.func63, Try.ntmps63
    go_wp2_with (go_at_call 61; refine hal.mono ?_; rintro e w1 ⟨rfl, hb⟩)
    go_ret
    exact ⟨by simp, hb⟩
  · have hi : inR (s.size : Int) 32 32 = false := by simp [inR]; omega
    rw [hi]
    have hin' : ((s.size : Int) == 32) = false := by simpa using hin
    go_enter Try.func63, Try.ntmps63
    go_wp2_with fail
    go_ret
    exact ⟨rfl, Below.refl _ _⟩
theorem rID_any (s : ByteArray) (w : World) (hs : s.size ≤ 1000000) : Calls Try.prog 47 #[.string s] w fun e w' => e = .returned (.bool (okId (lst s))) ∧ w' = w := by
  have hal := of_any s 1 32 122 false w hs
  unfold okId
  generalize okOf (lst s) 1 32 122 false = bb at *
  go_enter Try.func47, Try.ntmps47
  go_wp2_with (go_at_call 65; refine hal.mono ?_; rintro e w1 ⟨rfl, hw'⟩; have hw2 := hw'.symm; subst hw2)
  go_ret
  exact ⟨rfl, by trivial⟩
theorem rTag_any (s : ByteArray) (w : World) (hs : s.size ≤ 1000000) : Calls Try.prog 49 #[.string s] w fun e w' => e = .returned (.bool (okTag (lst s))) ∧ w' = w := by
  have hal := of_any s 1 40 102 true w hs
  unfold okTag
  generalize okOf (lst s) 1 40 102 true = bb at *
  go_enter Try.func49, Try.ntmps49
  go_wp2_with (go_at_call 65; refine hal.mono ?_; rintro e w1 ⟨rfl, hw'⟩; have hw2 := hw'.symm; subst hw2)
  go_ret
  exact ⟨rfl, by trivial⟩
theorem rData_any (s : ByteArray) (w : World) (hs : s.size ≤ 1000000) : Calls Try.prog 50 #[.string s] w fun e w' => e = .returned (.bool (okData (lst s))) ∧ w' = w := by
  have hal := of_any s 32 32 102 false w hs
  unfold okData
  generalize okOf (lst s) 32 32 102 false = bb at *
  go_enter Try.func50, Try.ntmps50
  go_wp2_with (go_at_call 65; refine hal.mono ?_; rintro e w1 ⟨rfl, hw'⟩; have hw2 := hw'.symm; subst hw2)
  go_ret
  exact ⟨rfl, by trivial⟩
#print axioms isDataName_any
#print axioms rData_any
end Go.Proofs.Ytepkpkbgmchioaa
