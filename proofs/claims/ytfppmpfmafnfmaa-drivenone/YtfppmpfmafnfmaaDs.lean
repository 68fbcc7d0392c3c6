/- Contract of Name of the document's own answer; the walk of DriveNames. -/
import Derived.Test.YtfppmpfmafnfmaaDr
namespace Go.Proofs.Ytfppmpfmafnfmaa
open Go Go.RowKit

set_option maxRecDepth 100000 in
theorem rname_any (s : Nm) (w : World) (hl : s.length ≤ maxLen) : Calls Try.prog 19 #[sv s] w fun e w' => e = .returned (.bool (okNm s)) ∧ w' = w := by
  have hz : (⟨s.toArray⟩ : ByteArray).size = s.length := by simp [ByteArray.size]
  have hml : maxLen = 9223372036854775807 := rfl
  rw [hml] at hl
  have HX := hid (idx_sv s)
  unfold sv at HX ⊢
  generalize (⟨s.toArray⟩ : ByteArray) = bs at hz HX ⊢
  go_enter Try.func19, Try.ntmps19
  go_wp2
  go_loopw [3] (fun v wr => ∃ k : Nat, k ≤ s.length ∧ v = .int .i64 (k : Int) ∧ wr = w ∧ ∀ i, i < k → okB (s.getD i 0) = true) (fun v _ => (s.length - intOf v).toNat)
  case atStart => exact ⟨0, by omega, rfl, rfl, fun i hi => by omega⟩
  case round =>
    obtain ⟨k, hk, rfl, hw, hok⟩ := hrel
    have HOK := hid hok
    subst hw
    clear hok
    by_cases hlt : k < s.length
    · have hx := HX.out k hlt
      generalize hc : s.getD k 0 = c at hx
      have HC := hid hc
      clear hc
      have hlt' : (k : Int) < (s.length : Int) := by omega
      by_cases hlo : (c.toNat : Int) < 33
      · go_wp2
        go_ret
        rw [okNm_not hlt (by rw [HC.out]; exact okB_lo hlo)]; simp
      by_cases hhi : 126 < (c.toNat : Int)
      · go_wp2
        go_ret
        rw [okNm_not hlt (by rw [HC.out]; exact okB_hi hhi)]; simp
      go_wp2
      go_roundw
      case rel =>
        refine ⟨k + 1, by omega, by go_num, by trivial, fun i hi => ?_⟩
        by_cases e : i = k
        · rw [e, HC.out]; exact okB_in hlo hhi
        · exact HOK.out i (by omega)
      case measure => simp [intOf]; omega
    · have hlt' : ¬ (k : Int) < (s.length : Int) := by omega
      have e : okNm s = (decide (1 ≤ (s.length : Int)) && decide ((s.length : Int) ≤ 512)) := by
        rw [Bool.eq_iff_iff, okNm_iff]
        simp only [Bool.and_eq_true, decide_eq_true_eq]
        constructor
        · rintro ⟨h1, h2, _⟩; omega
        · rintro ⟨h1, h2⟩; exact ⟨by omega, by omega, fun i hi => HOK.out i (by omega)⟩
      by_cases h1 : s.length < 1
      · have h1' : ¬ 1 ≤ (s.length : Int) := by omega
        have e2 : okNm s = false := by rw [e]; simp; omega
        clear e
        go_wp2
        go_ret
        exact ⟨by first | rfl | (rw [e2]; rfl), by first | rfl | trivial⟩
      · by_cases h2 : s.length ≤ 512
        · have h1' : 1 ≤ (s.length : Int) := by omega
          have h2' : (s.length : Int) ≤ 512 := by omega
          have e2 : okNm s = true := by rw [e]; simp; omega
          clear e
          go_wp2
          go_ret
          exact ⟨by first | rfl | (rw [e2]; rfl), by first | rfl | trivial⟩
        · have h1' : 1 ≤ (s.length : Int) := by omega
          have h2' : ¬ (s.length : Int) ≤ 512 := by omega
          have e2 : okNm s = false := by rw [e]; simp; omega
          clear e
          go_wp2
          go_ret
          exact ⟨by first | rfl | (rw [e2]; rfl), by first | rfl | trivial⟩
theorem driveNames_walk (s : Nm) (w : World) (hl : s.length ≤ maxLen) : Calls Try.prog 4 #[sv s] w fun e w' => e = .returned (.bool true) ∧ Below w.heap.size w w' := by
  have h1 := name_any s w hl
  have h2 := rname_any s w hl
  have h3 := awake_any w
  generalize okNm s = b at *
  go_enter Try.func4, Try.ntmps4
  go_wp2_with (first
    | (go_at_call 18; refine h1.mono ?_; rintro e w' ⟨rfl, hw'⟩; have hw2 := hw'.symm; subst hw2)
    | (go_at_call 19; refine h2.mono ?_; rintro e w' ⟨rfl, hw'⟩; have hw2 := hw'.symm; subst hw2)
    | (go_at_call 20; refine h3.mono ?_; rintro e w1 ⟨rfl, hb⟩))
  go_ret
  exact ⟨rfl, hb⟩
#print axioms driveNames_walk
end Go.Proofs.Ytfppmpfmafnfmaa
