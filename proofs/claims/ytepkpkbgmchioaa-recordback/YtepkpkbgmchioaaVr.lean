/- Which parts may be: contracts of partsMake of package record and of the document's parts. -/
import Derived.Test.YtepkpkbgmchioaaVm
namespace Go.Proofs.Ytepkpkbgmchioaa
open Go Go.RowKit

def mkP : Int → Int → Ps → Bool
  | _, left, [] => decide (left = 0)
  | last, left, p :: r => inR p.1 (last + 1) 10000 && (inR p.2 0 left && mkP p.1 (left - p.2) r)
theorem okPs_sum : ∀ {last : Int} {ps : Ps}, okPs last ps = true → 0 ≤ sumPs ps ∧ sumPs ps ≤ 65536 * ps.length
  | _, [], _ => by simp [sumPs]
  | last, p :: r, h => by
    simp [okPs, inR] at h
    have := okPs_sum h.2
    unfold sumPs at this ⊢
    simp only [List.map_cons, List.sum_cons, List.length_cons]
    omega
theorem mkP_eq : ∀ (ps : Ps) (last left : Int), 0 ≤ left → left ≤ 65536 → mkP last left ps = (okPs last ps && decide (sumPs ps = left))
  | [], last, left, h0, h1 => by simp [mkP, okPs, sumPs, eq_comm]
  | p :: r, last, left, h0, h1 => by
    have hs : sumPs (p :: r) = p.2 + sumPs r := by simp [sumPs]
    by_cases hb : 0 ≤ p.2 ∧ p.2 ≤ left
    · have ih := mkP_eq r p.1 (left - p.2) (by omega) (by omega)
      have e1 : inR p.2 0 left = true := inR_iff.2 hb
      have e2 : inR p.2 0 65536 = true := inR_iff.2 (by omega)
      have e3 : decide (sumPs r = left - p.2) = decide (sumPs (p :: r) = left) := by rw [hs]; congr 1; rw [eq_iff_iff]; omega
      have e4 : inR p.1 (last + 1) 10000 = (decide (last < p.1) && decide (p.1 ≤ 10000)) := by unfold inR; congr 1
      unfold mkP okPs
      rw [e1, e2, ih, e3, e4]
      simp only [Bool.true_and, Bool.and_true, Bool.and_assoc]
    · have e1 : inR p.2 0 left = false := by unfold inR; simp; omega
      have e5 : (okPs last (p :: r) && decide (sumPs (p :: r) = left)) = false := by
        cases h : okPs last (p :: r)
        · rfl
        · have h2 := h
          simp [okPs, inR] at h2
          have := okPs_sum h2.2
          simp only [Bool.true_and]
          exact decide_eq_false (by rw [hs]; omega)
      rw [e5]; unfold mkP; rw [e1]; simp
theorem okParts_mk {ps : Ps} {size : Int} (h0 : 0 ≤ size) (h1 : size ≤ 65536) (hne : ps ≠ []) (hl : ps.length ≤ 32) : okParts ps size = mkP 0 size ps := by
  rw [mkP_eq ps 0 size h0 h1]
  unfold okParts
  have : ps.isEmpty = false := by cases ps <;> simp_all
  simp [hl, this]
theorem PL.at {w : World} {po : Option Addr} {n c : Nat} {ps : Ps} (h : PL w (.slice po n c) ps) {k : Nat} (hk : k < ps.length) : ∃ b o, po = some ⟨b, o, none⟩ ∧ w.cell? ⟨b, o + k * 2, none⟩ = some (i64 (ps.getD k (0, 0)).1) ∧ w.cell? ⟨b, o + k * 2 + 1, none⟩ = some (i64 (ps.getD k (0, 0)).2) := by
  obtain ⟨po', c', e, _, _, h⟩ := h
  cases e
  rcases h with h | ⟨b, o, hp, h⟩
  · subst h; simp at hk
  · exact ⟨b, o, hp, h k hk⟩
theorem drop_consP {ps : Ps} {i : Nat} (h : i < ps.length) : ps.drop i = ps.getD i (0, 0) :: ps.drop (i + 1) := by
  rw [List.drop_eq_getElem_cons h]; simp [List.getD, h]
theorem mkB {w w1 : World} (h : Below w.heap.size w w1) {o : Obj} : Below w.heap.size w (w1.alloc o) := h.alloc h.size _
set_option maxRecDepth 100000 in
set_option maxHeartbeats 1000000 in
theorem partsMake_any (v : Value) (ps : Ps) (size : Int) (w : World) (hv : PL w v ps) (h0 : 0 ≤ size) (h1 : size ≤ 65536) : Calls Try.prog 64 #[v, i64 size] w fun e w' => e = .returned (.bool (okParts ps size)) ∧ Below w.heap.size w w' := by
  have HV := hid hv
  obtain ⟨po, c, rfl, hc, hl, _⟩ := hv
  by_cases hne : ps = []
  · subst hne
    go_enter Try.func64, Try.ntmps64
    go_wp2
    go_ret
    exact ⟨by simp [okParts, okPs], Below.refl _ _⟩
  have hpos : 0 < ps.length := List.length_pos_iff.2 hne
  have hz : ((ps.length : Int) == 0) = false := by simp; omega
  by_cases hbig : 32 < ps.length
  · have hbig' : 32 < (ps.length : Int) := by omega
    have e : Hid (okParts ps size = false) := by unfold okParts Hid; simp; omega
    go_enter Try.func64, Try.ntmps64
    go_wp2
    go_ret
    exact ⟨by rw [e.out]; rfl, Below.refl _ _⟩
  have hsm : ¬ 32 < (ps.length : Int) := by omega
  have HE := hid (okParts_mk h0 h1 hne (by omega))
  clear hz
  have hz : ¬ (ps.length : Int) = 0 := by omega
  generalize okParts ps size = R at *
  go_enter Try.func64, Try.ntmps64
  go_wp2
  go_loopw [5, 6, 18] (fun lv fv iv wr => ∃ (k : Nat) (last left : Int), k ≤ ps.length ∧ lv = i64 last ∧ fv = i64 left ∧ iv = i64 k ∧ 0 ≤ last ∧ last ≤ 10000 ∧ 0 ≤ left ∧ left ≤ 65536 ∧ R = mkP last left (ps.drop k) ∧ Below w.heap.size w wr) (fun _ _ iv _ => (ps.length - intOf iv).toNat)
  case atStart => exact ⟨0, 0, size, by omega, rfl, rfl, rfl, by omega, by omega, h0, h1, HE.out, Below.refl _ _⟩
  case round =>
    clear HE hz hsm
    obtain ⟨k, last, left, hk, rfl, rfl, rfl, hl0, hl1, hf0, hf1, hR, hw⟩ := hrel
    have HW := hid hw
    by_cases hlt : k < ps.length
    · have hlt' : (k : Int) < (ps.length : Int) := by omega
      rw [drop_consP hlt, mkP] at hR
      obtain ⟨b, o, hpo, x1, x2⟩ := (HV.out.below hw).at hlt
      subst hpo
      have HR := hid hR
      clear hR hw
      generalize hX1 : (ps.getD k (0, 0)).1 = X1 at *
      generalize hX2 : (ps.getD k (0, 0)).2 = X2 at *
      clear hX1 hX2
      cases i1 : inR X1 (last + 1) 10000
      · rw [i1] at HR
        go_wp2_with (go_at_call 35; refine (between_any _ _ _ _).mono ?_; rintro e w' ⟨rfl, hw'⟩; rw [i1]; have hw2 := hw'.symm; subst hw2)
        go_ret
        exact ⟨by rw [HR.out]; rfl, mkB HW.out⟩
      · rw [i1] at HR
        have hr1 := inR_iff.1 i1
        cases i2 : inR X2 0 left
        · rw [i2] at HR
          go_wp2_with (go_at_call 35; refine (between_any _ _ _ _).mono ?_; rintro e w' ⟨rfl, hw'⟩; first | rw [i1] | rw [i2]; have hw2 := hw'.symm; subst hw2)
          go_ret
          exact ⟨by rw [HR.out]; rfl, mkB HW.out⟩
        · rw [i2] at HR
          have hr2 := inR_iff.1 i2
          go_wp2_with (go_at_call 35; refine (between_any _ _ _ _).mono ?_; rintro e w' ⟨rfl, hw'⟩; first | rw [i1] | rw [i2]; have hw2 := hw'.symm; subst hw2)
          go_region
          go_wp2
          exact ⟨⟨k + 1, X1, left - X2, by omega, rfl, rfl, by simp, by omega, by omega, by omega, by omega, by rw [HR.out]; rfl, (mkB HW.out).drew⟩, by simp [intOf]; omega⟩
    · have hlt' : ¬ (k : Int) < (ps.length : Int) := by omega
      rw [List.drop_eq_nil_of_le (by omega), mkP] at hR
      have HR := hid hR
      clear hR hw
      go_wp2
      go_ret
      exact ⟨by rw [HR.out]; rfl, HW.out⟩
end Go.Proofs.Ytepkpkbgmchioaa
