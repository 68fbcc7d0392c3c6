/- What a crash leaves, file by file; acts and what they leave of a drive. -/
import Derived.Test.YtfppmpfmafnfmaaEc
namespace Go.Proofs.Ytfppmpfmafnfmaa
open Go Go.RowKit

def crashAll (F : List (Nm × Fi)) (ks : List Bool) : List (Nm × Fi) := crashI F ks (looseN F).length
theorem crashAll_f (s : Nm) (b : List Nat) (r : List (Nm × Fi)) (ks : List Bool) : crashAll ((s, (b, false)) :: r) ks = (s, (b, false)) :: crashAll r ks := by unfold crashAll; rw [looseN_f, crashI]
theorem crashAll_t (s : Nm) (b : List Nat) (r : List (Nm × Fi)) (ks : List Bool) : crashAll ((s, (b, true)) :: r) ks = if ks.headD false then (s, (b, false)) :: crashAll r ks.tail else crashAll r ks.tail := by
  unfold crashAll; rw [looseN_t, List.length_cons, crashI]
/-- Which files stay. -/
def thereL : List (Nm × Fi) → List Bool → List Bool
  | [], _ => []
  | (_, (_, false)) :: r, ks => true :: thereL r ks
  | (_, (_, true)) :: r, ks => ks.headD false :: thereL r ks.tail
theorem thereL_len : ∀ (F : List (Nm × Fi)) (ks : List Bool), (thereL F ks).length = F.length
  | [], _ => rfl
  | (s, (b, false)) :: r, ks => by simp [thereL, thereL_len r ks]
  | (s, (b, true)) :: r, ks => by simp [thereL, thereL_len r ks.tail]
def cntL (F : List (Nm × Fi)) (i : Nat) : Nat := (looseN (F.take i)).length
theorem cntL_le (F : List (Nm × Fi)) (i : Nat) : cntL F i ≤ F.length := by
  unfold cntL looseN namesOf; rw [List.length_map]
  exact Nat.le_trans (List.length_filter_le _ _) (by rw [List.length_take]; omega)
def atF (F : List (Nm × Fi)) (i : Nat) : Nm × Fi := F.getD i ([], ([], false))
theorem atF_mem {F : List (Nm × Fi)} {i : Nat} (h : i < F.length) : atF F i ∈ F := by unfold atF; rw [getD_in _ _ _ h]; exact List.getElem_mem h
theorem cntL_succ {F : List (Nm × Fi)} {i : Nat} (h : i < F.length) : cntL F (i + 1) = cntL F i + (if (atF F i).2.2 then 1 else 0) := by
  unfold cntL looseN namesOf atF
  rw [List.take_add_one, List.getElem?_eq_getElem h, getD_in _ _ _ h]
  simp only [Option.toList_some, List.filter_append, List.map_append, List.length_append]
  cases hb : F[i].2.2 <;> simp [hb]
theorem thereL_get : ∀ (F : List (Nm × Fi)) (ks : List Bool) (i : Nat) (_ : i < F.length), (thereL F ks).getD i false = if (atF F i).2.2 then ks.getD (cntL F i) false else true
  | [], _, _, h => by simp at h
  | (s, (b, false)) :: r, ks, 0, _ => by simp [thereL, atF]
  | (s, (b, true)) :: r, ks, 0, _ => by cases ks <;> simp [thereL, atF, cntL, looseN, namesOf]
  | (s, (b, false)) :: r, ks, i + 1, h => by
    have h' : i < r.length := by simpa using h
    have ih := thereL_get r ks i h'
    have e1 : atF ((s, ((b, false) : Fi)) :: r) (i + 1) = atF r i := by simp [atF]
    have e2 : cntL ((s, ((b, false) : Fi)) :: r) (i + 1) = cntL r i := by unfold cntL; rw [List.take_succ_cons, looseN_f]
    rw [e1, e2, ← ih]; simp [thereL]
  | (s, (b, true)) :: r, ks, i + 1, h => by
    have h' : i < r.length := by simpa using h
    have ih := thereL_get r ks.tail i h'
    have e1 : atF ((s, ((b, true) : Fi)) :: r) (i + 1) = atF r i := by simp [atF]
    have e2 : cntL ((s, ((b, true) : Fi)) :: r) (i + 1) = cntL r i + 1 := by unfold cntL; rw [List.take_succ_cons, looseN_t]; rfl
    have e3 : ks.getD (cntL r i + 1) false = ks.tail.getD (cntL r i) false := by cases ks <;> simp
    rw [e1, e2, e3, ← ih]; simp [thereL]
theorem crashAll_first {F : List (Nm × Fi)} {s : Nm} (h : ∀ p ∈ F, bytesBefore s p.1 = true) (ks : List Bool) : ∀ p ∈ crashAll F ks, bytesBefore s p.1 = true := crashI_first h ks _
theorem crashAll_get : ∀ {F : List (Nm × Fi)} (_ : Srt F) (ks : List Bool) (i : Nat) (_ : i < F.length), gget (crashAll F ks) (atF F i).1 = if (thereL F ks).getD i false then some ((atF F i).2.1, false) else none
  | [], _, _, _, h => by simp at h
  | (s, (b, false)) :: r, hs, ks, 0, _ => by rw [crashAll_f]; simp [thereL, atF]; exact gget_cons_eq (p := (s, ((b, false) : Fi)))
  | (s, (b, true)) :: r, hs, ks, 0, _ => by
    obtain ⟨h1, h2⟩ := List.pairwise_cons.1 hs
    rw [crashAll_t]
    simp only [thereL, atF, List.getD_cons_zero]
    split
    · exact gget_cons_eq (p := (s, ((b, false) : Fi)))
    · exact gget_none.2 fun p hp => (bb_ne (crashAll_first (s := s) h1 _ p hp)).symm
  | (s, (b, false)) :: r, hs, ks, i + 1, h => by
    obtain ⟨h1, h2⟩ := List.pairwise_cons.1 hs
    have h' : i < r.length := by simpa using h
    have e1 : atF ((s, ((b, false) : Fi)) :: r) (i + 1) = atF r i := by simp [atF]
    rw [crashAll_f, e1, gget_cons_ne (p := (s, ((b, false) : Fi))) (bb_ne (h1 _ (atF_mem h'))), crashAll_get h2 ks i h']
    simp [thereL]
  | (s, (b, true)) :: r, hs, ks, i + 1, h => by
    obtain ⟨h1, h2⟩ := List.pairwise_cons.1 hs
    have h' : i < r.length := by simpa using h
    have e1 : atF ((s, ((b, true) : Fi)) :: r) (i + 1) = atF r i := by simp [atF]
    have e2 : (thereL ((s, ((b, true) : Fi)) :: r) ks).getD (i + 1) false = (thereL r ks.tail).getD i false := by simp [thereL]
    rw [crashAll_t, e1, e2, ← crashAll_get h2 ks.tail i h']
    split
    · rw [gget_cons_ne (p := (s, ((b, false) : Fi))) (bb_ne (h1 _ (atF_mem h')))]
    · rfl
theorem crashAll_len : ∀ (F : List (Nm × Fi)) (ks : List Bool), (crashAll F ks).length = (thereL F ks).count true
  | [], _ => rfl
  | (s, (b, false)) :: r, ks => by rw [crashAll_f]; simp [thereL, crashAll_len r ks]
  | (s, (b, true)) :: r, ks => by
    rw [crashAll_t]
    have ih := crashAll_len r ks.tail
    rw [thereL, List.count_cons, ← ih]
    cases hk : ks.headD false
    · simp
    · simp
theorem crashAll_loose : ∀ (F : List (Nm × Fi)) (ks : List Bool), looseN (crashAll F ks) = []
  | [], _ => rfl
  | (s, (b, false)) :: r, ks => by rw [crashAll_f, looseN_f]; exact crashAll_loose r ks
  | (s, (b, true)) :: r, ks => by
    rw [crashAll_t]
    split
    · rw [looseN_f]; exact crashAll_loose r ks.tail
    · exact crashAll_loose r ks.tail
def stayN (F : List (Nm × Fi)) (ks : List Bool) (i : Nat) : Nat := ((thereL F ks).take i).count true
theorem stayN_succ {F : List (Nm × Fi)} {ks : List Bool} {i : Nat} (h : i < F.length) : stayN F ks (i + 1) = stayN F ks i + (if (thereL F ks).getD i false then 1 else 0) := by
  unfold stayN
  have hl : i < (thereL F ks).length := by rw [thereL_len]; exact h
  rw [List.take_add_one, List.getElem?_eq_getElem hl, getD_in _ _ _ hl]
  simp only [Option.toList_some, List.count_append]
  cases (thereL F ks)[i] <;> simp
theorem stayN_all (F : List (Nm × Fi)) (ks : List Bool) : stayN F ks F.length = (crashAll F ks).length := by
  unfold stayN; rw [crashAll_len, List.take_of_length_le (by rw [thereL_len]; omega)]
theorem stayN_le (F : List (Nm × Fi)) (ks : List Bool) (i : Nat) : stayN F ks i ≤ F.length := by
  unfold stayN
  refine Nat.le_trans List.count_le_length ?_
  rw [List.length_take, thereL_len]; omega
theorem loose_mem {F : List (Nm × Fi)} (hs : Srt F) {i : Nat} (h : i < F.length) : ((atF F i).1 ∈ looseN F) ↔ (atF F i).2.2 = true := by
  unfold looseN namesOf
  rw [List.mem_map]
  constructor
  · rintro ⟨p, hp, e⟩
    obtain ⟨h1, h2⟩ := List.mem_filter.1 hp
    have := pw_key hs.apart h1 (atF_mem h) e
    rw [← this]; exact h2
  · intro hb
    exact ⟨atF F i, List.mem_filter.2 ⟨atF_mem h, hb⟩, rfl⟩
/-- A drive that answers: neither out nor offline, its files no more than its changes. -/
structure Pd.calm (d : Pd) (n : Nat) : Prop where
  out : d.out = false
  offl : d.offl = false
  len : d.F.length ≤ d.ops
  ops : d.ops ≤ n
theorem chg_calm {d : Pd} {n : Nat} (h : d.calm n) (f : Fs) {F : List (Nm × Fi)} (hF : F.length ≤ d.F.length + 1) : (d.chg f F).2.1.calm (n + 1) := by
  unfold Pd.chg; split
  · exact ⟨h.out, h.offl, by have := h.len; show F.length ≤ d.ops + 1; omega, by have := h.ops; show d.ops + 1 ≤ n + 1; omega⟩
  · exact ⟨h.out, h.offl, h.len, by have := h.ops; show d.ops ≤ n + 1; omega⟩
theorem Pd.calm.more {d : Pd} {n : Nat} (h : d.calm n) : d.calm (n + 1) := ⟨h.out, h.offl, h.len, by have := h.ops; omega⟩
theorem put_len (F : List (Nm × Fi)) (s : Nm) (x : Fi) : (gput F s x).length ≤ F.length + 1 := by rw [len_put]; have := len_del F s; omega
theorem step_calm {d : Pd} {n : Nat} (h : d.calm n) (f : Fs) (x : AV) : (d.step f x).2.1.calm (n + 1) := by
  unfold Pd.step
  split
  · unfold Pd.write; split
    · exact h.more
    · split
      · exact h.more
      · exact chg_calm h f (put_len _ _ _)
  · unfold Pd.sync; split
    · exact h.more
    · split
      · exact h.more
      · exact chg_calm h f (put_len _ _ _)
  · unfold Pd.rename; split
    · exact h.more
    · split
      · exact h.more
      · exact chg_calm h f (Nat.le_trans (put_len _ _ _) (by have := len_del d.F x.A; omega))
  · unfold Pd.delete; split
    · exact h.more
    · split
      · exact h.more
      · exact chg_calm h f (by have := len_del d.F x.A; omega)
theorem ans_calm {d : Pd} {n : Nat} (h : d.calm n) (ns : List Nm) (hn : ∀ s ∈ ns, okNm s = true) : d.ans none ns = 0 := by
  unfold Pd.ans Pd.isOut; rw [h.out, h.offl]; simp [goneF, List.all_eq_true.2 hn]
theorem AW.stepA {w wk : World} {S : Nat → Prop} {p : Nat} {d : Pd} (h : AW w wk S p d) (x : AV) (hx : x.ok wk) (hn : x.bs.length ≤ 140737488355328) (ho : d.ops < 1000000000000) (hl : d.F.length < 1000000000000) :
    Calls Try.prog 35 #[ptr p, .agg x.val] wk fun e w' => e = .returned (.int .i64 ((d.step none x).1 : Int)) ∧ ∃ S2, AW w w' S2 p (d.step none x).2.1 := by
  obtain ⟨m, L, hd⟩ := h.dr
  exact (step_any hd (f := none) trivial x hx hn ho hl).mono fun e w' hD => h.next hD
#print axioms crashAll_get
#print axioms step_calm
end Go.Proofs.Ytfppmpfmafnfmaa
