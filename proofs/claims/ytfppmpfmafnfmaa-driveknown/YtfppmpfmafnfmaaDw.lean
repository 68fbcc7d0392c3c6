/- Contracts of Offline, Full and Crash of package drive. -/
import Derived.Test.YtfppmpfmafnfmaaDr
namespace Go.Proofs.Ytfppmpfmafnfmaa
open Go Go.RowKit

section
variable {α : Type}
theorem gget_cons_ne {p : Nm × α} {L : List (Nm × α)} {s : Nm} (h : p.1 ≠ s) : gget (p :: L) s = gget L s := by unfold gget; rw [List.find?_cons_of_neg (by simp [h])]
theorem gget_cons_eq {p : Nm × α} {L : List (Nm × α)} : gget (p :: L) p.1 = some p.2 := by unfold gget; rw [List.find?_cons_of_pos (by simp)]; rfl
theorem gdel_cons_ne {p : Nm × α} {L : List (Nm × α)} {s : Nm} (h : p.1 ≠ s) : gdel (p :: L) s = p :: gdel L s := by unfold gdel; rw [List.filter_cons_of_pos (by simp [h])]
theorem gdel_cons_eq {p : Nm × α} {L : List (Nm × α)} : gdel (p :: L) p.1 = gdel L p.1 := by unfold gdel; rw [List.filter_cons_of_neg (by simp)]
theorem gdel_none {L : List (Nm × α)} {s : Nm} (h : ∀ p ∈ L, p.1 ≠ s) : gdel L s = L := by unfold gdel; rw [List.filter_eq_self]; intro p hp; simp [h p hp]
theorem gput_cons {p : Nm × α} {L : List (Nm × α)} {s : Nm} {a : α} (h : bytesBefore p.1 s = true) : gput (p :: L) s a = p :: gput L s a := by
  have h2 : ¬ bytesBefore s p.1 = true := fun h3 => by have := bb_trans h h3; rw [bb_irrefl] at this; cases this
  unfold gput; rw [gdel_cons_ne (bb_ne h)]; rw [gins, if_neg h2]
theorem gput_first {L : List (Nm × α)} {s : Nm} {a : α} (h : ∀ p ∈ L, bytesBefore s p.1 = true) : gput L s a = (s, a) :: L := by
  unfold gput
  rw [gdel_none fun p hp => (bb_ne (h p hp)).symm]
  cases L with
  | nil => rfl
  | cons y r => rw [gins, if_pos (h y (by simp))]
end
/-- What is left of files where the first i loose ones have been looked at. -/
def crashI : List (Nm × Fi) → List Bool → Nat → List (Nm × Fi)
  | [], _, _ => []
  | (s, (b, false)) :: r, ks, i => (s, (b, false)) :: crashI r ks i
  | (s, (b, true)) :: r, _, 0 => (s, (b, true)) :: r
  | (s, (b, true)) :: r, ks, i + 1 => if ks.headD false then (s, (b, false)) :: crashI r ks.tail i else crashI r ks.tail i
def looseN (F : List (Nm × Fi)) : List Nm := namesOf F fun _ x => x.2
theorem looseN_f (s : Nm) (b : List Nat) (r : List (Nm × Fi)) : looseN ((s, (b, false)) :: r) = looseN r := by simp [looseN, namesOf]
theorem looseN_t (s : Nm) (b : List Nat) (r : List (Nm × Fi)) : looseN ((s, (b, true)) :: r) = s :: looseN r := by simp [looseN, namesOf]
def crOne (F : List (Nm × Fi)) (s : Nm) (k : Bool) : List (Nm × Fi) := if k then gput (gdel F s) s (((gget F s).getD ([], false)).1, false) else gdel F s
theorem crashI_zero : ∀ (F : List (Nm × Fi)) (ks : List Bool), crashI F ks 0 = F
  | [], _ => rfl
  | (s, (b, false)) :: r, ks => by rw [crashI, crashI_zero r ks]
  | (s, (b, true)) :: r, ks => by rw [crashI]
theorem crashI_sub : ∀ (F : List (Nm × Fi)) (ks : List Bool) (i : Nat) (p : Nm × Fi), p ∈ crashI F ks i → ∃ l, (p.1, (p.2.1, l)) ∈ F
  | [], _, _, p, h => by simp [crashI] at h
  | (s, (b, false)) :: r, ks, i, p, h => by
    rw [crashI] at h
    rcases List.mem_cons.1 h with rfl | h
    · exact ⟨false, by simp⟩
    · obtain ⟨l, hl⟩ := crashI_sub r ks i p h; exact ⟨l, by simp [hl]⟩
  | (s, (b, true)) :: r, ks, 0, p, h => by rw [crashI] at h; exact ⟨p.2.2, h⟩
  | (s, (b, true)) :: r, ks, i + 1, p, h => by
    rw [crashI] at h
    split at h
    · rcases List.mem_cons.1 h with rfl | h
      · exact ⟨true, by simp⟩
      · obtain ⟨l, hl⟩ := crashI_sub r _ i p h; exact ⟨l, by simp [hl]⟩
    · obtain ⟨l, hl⟩ := crashI_sub r _ i p h; exact ⟨l, by simp [hl]⟩
theorem crashI_first {F : List (Nm × Fi)} {s : Nm} (h : ∀ p ∈ F, bytesBefore s p.1 = true) (ks : List Bool) (i : Nat) : ∀ p ∈ crashI F ks i, bytesBefore s p.1 = true := fun p hp => by
  obtain ⟨l, hl⟩ := crashI_sub F ks i p hp; exact h (p.1, (p.2.1, l)) hl
theorem srt_crash : ∀ {F : List (Nm × Fi)} (_ : Srt F) (ks : List Bool) (i : Nat), Srt (crashI F ks i)
  | [], _, _, _ => List.Pairwise.nil
  | (s, (b, false)) :: r, h, ks, i => by
    obtain ⟨h1, h2⟩ := List.pairwise_cons.1 h
    rw [crashI]; exact List.pairwise_cons.2 ⟨crashI_first h1 ks i, srt_crash h2 ks i⟩
  | (s, (b, true)) :: r, h, ks, 0 => by rw [crashI]; exact h
  | (s, (b, true)) :: r, h, ks, i + 1 => by
    obtain ⟨h1, h2⟩ := List.pairwise_cons.1 h
    rw [crashI]; split
    · exact List.pairwise_cons.2 ⟨crashI_first h1 _ i, srt_crash h2 _ i⟩
    · exact srt_crash h2 _ i
theorem crOne_cons {p : Nm × Fi} {G : List (Nm × Fi)} {t : Nm} (h : bytesBefore p.1 t = true) (k : Bool) : crOne (p :: G) t k = p :: crOne G t k := by
  unfold crOne
  rw [gget_cons_ne (bb_ne h), gdel_cons_ne (bb_ne h)]
  cases k
  · rfl
  · simp only [if_true]; rw [gput_cons h]
theorem looseN_after {F : List (Nm × Fi)} {s : Nm} (h : ∀ p ∈ F, bytesBefore s p.1 = true) : ∀ t ∈ looseN F, bytesBefore s t = true := by
  intro t ht
  unfold looseN namesOf at ht
  obtain ⟨p, hp, rfl⟩ := List.mem_map.1 ht
  exact h p (List.mem_filter.1 hp).1
theorem crash_step : ∀ {F : List (Nm × Fi)} (_ : Srt F) (ks : List Bool) (i : Nat) (_ : i < (looseN F).length), crashI F ks (i + 1) = crOne (crashI F ks i) ((looseN F).getD i []) (ks.getD i false)
  | [], _, _, _, h => by simp [looseN, namesOf] at h
  | (s, (b, false)) :: r, hs, ks, i, h => by
    obtain ⟨h1, h2⟩ := List.pairwise_cons.1 hs
    rw [looseN_f] at h ⊢
    rw [crashI, crashI, crash_step h2 ks i h]
    rw [crOne_cons (looseN_after h1 _ (by rw [getD_in _ _ _ h]; exact List.getElem_mem h))]
  | (s, (b, true)) :: r, hs, ks, 0, h => by
    obtain ⟨h1, h2⟩ := List.pairwise_cons.1 hs
    rw [looseN_t]
    rw [crashI, crashI, crashI_zero]
    have e1 : gdel ((s, ((b, true) : Fi)) :: r) s = r := by
      have := gdel_cons_eq (p := (s, ((b, true) : Fi))) (L := r)
      rw [this, gdel_none fun p hp => (bb_ne (h1 p hp)).symm]
    have e2 : gget ((s, ((b, true) : Fi)) :: r) s = some (b, true) := gget_cons_eq (p := (s, ((b, true) : Fi)))
    unfold crOne
    simp only [List.getD_cons_zero]
    rw [e1, e2, gput_first h1]
    cases ks <;> rfl
  | (s, (b, true)) :: r, hs, ks, i + 1, h => by
    obtain ⟨h1, h2⟩ := List.pairwise_cons.1 hs
    rw [looseN_t] at h ⊢
    have h' : i < (looseN r).length := by simpa using h
    have ih := crash_step h2 ks.tail i h'
    rw [crashI, crashI, ih]
    have e3 : (s :: looseN r).getD (i + 1) [] = (looseN r).getD i [] := by simp
    have e4 : ks.getD (i + 1) false = ks.tail.getD i false := by cases ks <;> simp
    rw [e3, e4]
    split
    · rw [crOne_cons (p := (s, ((b, false) : Fi))) (looseN_after (s := s) h1 ((looseN r).getD i []) (by rw [getD_in _ _ _ h']; exact List.getElem_mem h'))]
    · rfl
/-- The i-th loose file is there still, and loose, where those ahead of it have been looked at. -/
theorem crash_get : ∀ {F : List (Nm × Fi)} (_ : Srt F) (ks : List Bool) (i : Nat) (_ : i < (looseN F).length), ∃ x, gget (crashI F ks i) ((looseN F).getD i []) = some x
  | [], _, _, _, h => by simp [looseN, namesOf] at h
  | (s, (b, false)) :: r, hs, ks, i, h => by
    obtain ⟨h1, h2⟩ := List.pairwise_cons.1 hs
    rw [looseN_f] at h ⊢
    rw [crashI, gget_cons_ne (bb_ne (looseN_after h1 _ (by rw [getD_in _ _ _ h]; exact List.getElem_mem h)))]
    exact crash_get h2 ks i h
  | (s, (b, true)) :: r, hs, ks, 0, h => by rw [looseN_t, crashI]; exact ⟨_, gget_cons_eq (p := (s, ((b, true) : Fi)))⟩
  | (s, (b, true)) :: r, hs, ks, i + 1, h => by
    obtain ⟨h1, h2⟩ := List.pairwise_cons.1 hs
    rw [looseN_t] at h ⊢
    have h' : i < (looseN r).length := by simpa using h
    have e3 : (s :: looseN r).getD (i + 1) [] = (looseN r).getD i [] := by simp
    rw [e3, crashI]
    split
    · rw [gget_cons_ne (p := (s, ((b, false) : Fi))) (bb_ne (looseN_after (s := s) h1 ((looseN r).getD i []) (by rw [getD_in _ _ _ h']; exact List.getElem_mem h')))]
      exact crash_get h2 _ i h'
    · exact crash_get h2 _ i h'
theorem crash_len : ∀ (F : List (Nm × Fi)) (ks : List Bool) (i : Nat), (crashI F ks i).length ≤ F.length
  | [], _, _ => by simp [crashI]
  | (s, (b, false)) :: r, ks, i => by rw [crashI]; have := crash_len r ks i; simp; omega
  | (s, (b, true)) :: r, ks, 0 => by rw [crashI]; exact Nat.le_refl _
  | (s, (b, true)) :: r, ks, i + 1 => by rw [crashI]; have := crash_len r ks.tail i; split <;> simp <;> omega
def Pd.crash (d : Pd) (ks : List Bool) : Pd := { d with F := crashI d.F ks (looseN d.F).length, out := false }
#print axioms crash_step
end Go.Proofs.Ytfppmpfmafnfmaa
