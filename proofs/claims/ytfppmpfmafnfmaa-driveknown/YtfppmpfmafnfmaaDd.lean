/- Contracts of Name and answers of package drive. -/
import Derived.Test.YtfppmpfmafnfmaaDc
namespace Go.Proofs.Ytfppmpfmafnfmaa
open Go Go.RowKit

def okB (c : UInt8) : Bool := decide (33 ≤ c.toNat) && decide (c.toNat ≤ 126)
theorem getD_in {α : Type} (s : List α) (i : Nat) (z : α) (hi : i < s.length) : s.getD i z = s[i] := by simp [List.getD, hi]
theorem okNm_iff (s : Nm) : okNm s = true ↔ (1 ≤ s.length ∧ s.length ≤ 512 ∧ ∀ i, i < s.length → okB (s.getD i 0) = true) := by
  unfold okNm
  simp only [Bool.and_eq_true, decide_eq_true_eq, List.all_eq_true]
  constructor
  · rintro ⟨h1, h2, h3⟩
    refine ⟨h1, h2, fun i hi => ?_⟩
    have := h3 (s.getD i 0) (by rw [getD_in _ _ _ hi]; exact List.getElem_mem hi)
    unfold okB; rw [Bool.and_eq_true, decide_eq_true_eq, decide_eq_true_eq]; exact this
  · rintro ⟨h1, h2, h3⟩
    refine ⟨h1, h2, fun x hx => ?_⟩
    obtain ⟨i, hi, rfl⟩ := List.mem_iff_getElem.1 hx
    have := h3 i hi
    rw [getD_in _ _ _ hi] at this
    simpa [okB] using this
theorem idx_sv (s : Nm) (i : Nat) (hi : i < s.length) (w : World) : (Instr.index 9 (sv s) (.int .i64 (i : Int))).run Try.prog w = .ok (.int .u8 ((s.getD i 0).toNat : Int)) w := by
  have hz : (⟨s.toArray⟩ : ByteArray).size = s.length := by simp [ByteArray.size]
  rw [run_index_string w 9 ⟨s.toArray⟩ .i64 (i : Int) under9, dif_pos ⟨by omega, by omega⟩]
  congr 3
  simp [ByteArray.getElem_eq_getElem_data, hi]
theorem okB_lo {c : UInt8} (h : (c.toNat : Int) < 33) : okB c = false := by unfold okB; simp; omega
theorem okB_hi {c : UInt8} (h : 126 < (c.toNat : Int)) : okB c = false := by unfold okB; simp; omega
theorem okB_in {c : UInt8} (h : ¬ (c.toNat : Int) < 33) (h2 : ¬ 126 < (c.toNat : Int)) : okB c = true := by unfold okB; simp; omega
theorem okNm_not {s : Nm} {k : Nat} (hk : k < s.length) (h : okB (s.getD k 0) = false) : okNm s = false := by
  cases e : okNm s
  · rfl
  · have := ((okNm_iff s).1 e).2.2 k hk; rw [h] at this; cases this
set_option maxRecDepth 100000 in
theorem name_any (s : Nm) (w : World) (hl : s.length ≤ maxLen) : Calls Try.prog 18 #[sv s] w fun e w' => e = .returned (.bool (okNm s)) ∧ w' = w := by
  have hz : (⟨s.toArray⟩ : ByteArray).size = s.length := by simp [ByteArray.size]
  have hml : maxLen = 9223372036854775807 := rfl
  rw [hml] at hl
  have HX := hid (idx_sv s)
  unfold sv at HX ⊢
  generalize (⟨s.toArray⟩ : ByteArray) = bs at hz HX ⊢
  by_cases h1 : s.length < 1
  · have e : okNm s = false := by unfold okNm; simp; omega
    rw [e]
    go_enter Try.func18, Try.ntmps18
    go_wp2
    go_ret
    first | exact ⟨rfl, rfl⟩ | simp [e]
  by_cases h2 : 512 < s.length
  · have e : okNm s = false := by unfold okNm; simp; omega
    rw [e]
    go_enter Try.func18, Try.ntmps18
    go_wp2
    go_ret
    first | exact ⟨rfl, rfl⟩ | simp [e]
  go_enter Try.func18, Try.ntmps18
  go_wp2
  go_loopw [14] (fun v wr => ∃ k : Nat, k ≤ s.length ∧ v = .int .i64 (k : Int) ∧ wr = w ∧ ∀ i, i < k → okB (s.getD i 0) = true) (fun v _ => (s.length - intOf v).toNat)
  case atStart => exact ⟨0, by omega, rfl, rfl, fun i hi => by omega⟩
  case round =>
    obtain ⟨k, hk, rfl, hw, hok⟩ := hrel
    have HOK := hid hok
    subst hw
    clear hok
    by_cases hlt : k < s.length
    · have hx := HX.out k hlt
      generalize hc : s.getD k 0 = c at hx
      have HC := hid hc
      clear hc
      have hlt' : (k : Int) < (s.length : Int) := by omega
      by_cases hlo : (c.toNat : Int) < 33
      · go_wp2
        go_ret
        rw [okNm_not hlt (by rw [HC.out]; exact okB_lo hlo)]; simp
      by_cases hhi : 126 < (c.toNat : Int)
      · go_wp2
        go_ret
        rw [okNm_not hlt (by rw [HC.out]; exact okB_hi hhi)]; simp
      go_wp2
      go_roundw
      case rel =>
        refine ⟨k + 1, by omega, by go_num, by trivial, fun i hi => ?_⟩
        by_cases e : i = k
        · rw [e, HC.out]; exact okB_in hlo hhi
        · exact HOK.out i (by omega)
      case measure => simp [intOf]; omega
    · have hlt' : ¬ (k : Int) < (s.length : Int) := by omega
      have e : okNm s = true := (okNm_iff s).2 ⟨by omega, by omega, fun i hi => HOK.out i (by omega)⟩
      go_wp2
      go_ret
      exact ⟨by first | rfl | (rw [e]; rfl), by first | rfl | trivial⟩
/-- A list of texts lies at block b. -/
def TxtAt (w : World) (v : Value) (ns : List Nm) : Prop := (ns = [] ∧ v = .slice none 0 0) ∨ ∃ b c, v = .slice (some ⟨b, 0, none⟩) ns.length c ∧ ∀ i, i < ns.length → w.cell? ⟨b, i, none⟩ = some (sv (ns.getD i []))
theorem ans_all {d : Pd} {f : Fs} {ns : List Nm} (h1 : d.isOut f = false) (h2 : d.offl = false) (h3 : ∀ i, i < ns.length → okNm (ns.getD i []) = true) : d.ans f ns = 0 := by
  unfold Pd.ans
  rw [h1, h2]
  have : ns.all okNm = true := List.all_eq_true.2 fun x hx => by
    obtain ⟨i, hi, rfl⟩ := List.mem_iff_getElem.1 hx
    have := h3 i hi; rwa [getD_in _ _ _ hi] at this
  simp [this]
theorem ans_bad {d : Pd} {f : Fs} {ns : List Nm} (h1 : d.isOut f = false) (h2 : d.offl = false) {k : Nat} (hk : k < ns.length) (h3 : okNm (ns.getD k []) = false) : d.ans f ns = 13 := by
  unfold Pd.ans
  rw [h1, h2]
  have : ns.all okNm = false := by
    rw [List.all_eq_false]; exact ⟨ns.getD k [], by rw [getD_in _ _ _ hk]; exact List.getElem_mem hk, by rw [h3]; simp⟩
  simp [this]
set_option maxRecDepth 100000 in
theorem answers_any {w : World} {S : Nat → Prop} {p m : Nat} {fu : Option Nat} {d : Pd} {L : List (Nm × Ent)} (h : DrC w S p m fu d L) {f : Fs} (hf : FuAt w S fu f) (v : Value) (ns : List Nm) (hv : TxtAt w v ns) (hn : ns.length ≤ 1000) (hl : ∀ x ∈ ns, x.length ≤ maxLen) :
    Calls Try.prog 60 #[ptr p, v] w fun e w' => e = .returned (.int .i64 (d.ans f ns : Int)) ∧ w' = w := by
  have c5 : w.cell? ⟨p, 5, none⟩ = some (.bool d.offl) := h.c.cell 5
  have hmade := made_any h
  have hout := isOut_any h hf
  cases ho : d.isOut f
  · cases hof : d.offl
    · rw [ho] at hout
      rw [hof] at c5
      rcases hv with ⟨rfl, rfl⟩ | ⟨b, c, rfl, hb⟩
      · have e : d.ans f [] = 0 := ans_all ho hof (by simp)
        rw [e]
        go_enter Try.func60, Try.ntmps60
        go_wp2_with (first
          | (go_at_call 40; refine hmade.mono ?_; rintro e w' ⟨rfl, hw'⟩; have hw2 := hw'.symm; subst hw2)
          | (go_at_call 42; refine hout.mono ?_; rintro e w' ⟨rfl, hw'⟩; have hw2 := hw'.symm; subst hw2))
        refine wp_loop_rounds 1 ?_
        rw [rounds_succ]
        go_wp2
        go_ret
        simp
      · have HB := hid hb
        have HL := hid hl
        clear hb hl
        go_enter Try.func60, Try.ntmps60
        go_wp2_with (first
          | (go_at_call 40; refine hmade.mono ?_; rintro e w' ⟨rfl, hw'⟩; have hw2 := hw'.symm; subst hw2)
          | (go_at_call 42; refine hout.mono ?_; rintro e w' ⟨rfl, hw'⟩; have hw2 := hw'.symm; subst hw2))
        go_loopw [21] (fun v wr => ∃ k : Nat, k ≤ ns.length ∧ v = .int .i64 (k : Int) ∧ w = wr ∧ ∀ i, i < k → okNm (ns.getD i []) = true) (fun v _ => (ns.length - intOf v).toNat)
        case atStart => exact ⟨0, by omega, rfl, rfl, fun i hi => by omega⟩
        case round =>
          obtain ⟨k, hk, rfl, hw, hok⟩ := hrel
          have HOK := hid hok
          clear hok
          subst hw
          by_cases hlt : k < ns.length
          · have hx := HB.out k hlt
            have hnm := name_any (ns.getD k []) w (HL.out _ (by rw [getD_in _ _ _ hlt]; exact List.getElem_mem hlt))
            generalize hc : ns.getD k [] = c at hx hnm
            have HC := hid hc
            clear hc
            have hlt' : (k : Int) < (ns.length : Int) := by omega
            cases hb : okNm c
            · rw [hb] at hnm
              go_wp2_with (go_at_call 18; refine hnm.mono ?_; rintro e w' ⟨rfl, hw'⟩; have hw2 := hw'.symm; subst hw2)
              go_ret
              rw [ans_bad ho hof hlt (by rw [HC.out]; exact hb)]; simp
            · rw [hb] at hnm
              go_wp2_with (go_at_call 18; refine hnm.mono ?_; rintro e w' ⟨rfl, hw'⟩; have hw2 := hw'.symm; subst hw2)
              go_roundw
              case rel =>
                refine ⟨k + 1, by omega, by go_num, by trivial, fun i hi => ?_⟩
                by_cases e : i = k
                · rw [e, HC.out]; exact hb
                · exact HOK.out i (by omega)
              case measure => simp [intOf]; omega
          · have hlt' : ¬ (k : Int) < (ns.length : Int) := by omega
            have e : d.ans f ns = 0 := ans_all ho hof fun i hi => HOK.out i (by omega)
            go_wp2
            go_ret
            exact ⟨by first | rfl | (rw [e]; rfl), by first | rfl | trivial⟩
    · have e : d.ans f ns = 12 := by unfold Pd.ans; rw [ho, hof]; rfl
      rw [e]
      rw [ho] at hout
      rw [hof] at c5
      go_enter Try.func60, Try.ntmps60
      go_wp2_with (first
        | (go_at_call 40; refine hmade.mono ?_; rintro e w' ⟨rfl, hw'⟩; have hw2 := hw'.symm; subst hw2)
        | (go_at_call 42; refine hout.mono ?_; rintro e w' ⟨rfl, hw'⟩; have hw2 := hw'.symm; subst hw2))
      go_ret
      simp
  · have e : d.ans f ns = 11 := by unfold Pd.ans; rw [ho]; rfl
    rw [e]
    rw [ho] at hout
    go_enter Try.func60, Try.ntmps60
    go_wp2_with (first
      | (go_at_call 40; refine hmade.mono ?_; rintro e w' ⟨rfl, hw'⟩; have hw2 := hw'.symm; subst hw2)
      | (go_at_call 42; refine hout.mono ?_; rintro e w' ⟨rfl, hw'⟩; have hw2 := hw'.symm; subst hw2))
    go_ret
    simp
theorem answers_nil (v : Value) (w : World) : Calls Try.prog 60 #[.pointer none, v] w fun e w' => e = .returned (.int .i64 1) ∧ w' = w := by
  have hmade := made_nil w
  go_enter Try.func60, Try.ntmps60
  go_wp2_with (go_at_call 40; refine hmade.mono ?_; rintro e w' ⟨rfl, hw'⟩; have hw2 := hw'.symm; subst hw2)
  go_ret
  simp
theorem answers_bare {w : World} {p : Nat} (c0 : w.cell? ⟨p, 0, none⟩ = some (.pointer none)) (v : Value) : Calls Try.prog 60 #[ptr p, v] w fun e w' => e = .returned (.int .i64 1) ∧ w' = w := by
  have hmade := made_bare c0
  go_enter Try.func60, Try.ntmps60
  go_wp2_with (go_at_call 40; refine hmade.mono ?_; rintro e w' ⟨rfl, hw'⟩; have hw2 := hw'.symm; subst hw2)
  go_ret
  simp
#print axioms answers_any
end Go.Proofs.Ytfppmpfmafnfmaa
