/- Texts laid into one: the remark ahead of each part says what is proved there. -/
import Derived.Test.YtklchjfkkbpipaaGreatDoorPaa
import Derived.Test.YtklchjfkkbpipaaGreatDoorPab
import Derived.Test.YtklchjfkkbpipaaGreatDoorPac
import Derived.Test.YtklchjfkkbpipaaGreatDoorPad
import Derived.Test.YtklchjfkkbpipaaGreatDoorPae
import Derived.Test.YtklchjfkkbpipaaGreatDoorPaf
import Derived.Test.YtklchjfkkbpipaaGreatDoorPag
import Derived.Test.YtklchjfkkbpipaaGreatDoorPah
import Derived.Test.YtklchjfkkbpipaaGreatDoorPai
import Derived.Test.YtklchjfkkbpipaaGreatDoorPaj
import Derived.Test.YtklchjfkkbpipaaGreatDoorPak
import Derived.Test.YtklchjfkkbpipaaGreatDoorPal
import Derived.Test.YtklchjfkkbpipaaGreatDoorPam
import Derived.Test.YtklchjfkkbpipaaGreatDoorPan
import Derived.Test.YtklchjfkkbpipaaGreatDoorPao
import Derived.Test.YtklchjfkkbpipaaGreatDoorSaa
/- What Commit makes of drives that have no fuse: each by itself; the mathematics of FanAll. -/
namespace Go.Proofs.YtklchjfkkbpipaaGreatDoor
open Go

/-! ### Files by names: what commutes -/
section
variable {α : Type}
theorem gdel_id {L : List (Nm × α)} {s : Nm} (h : gget L s = none) : gdel L s = L := List.filter_eq_self.2 fun p hp => by simpa using gget_none.1 h p hp
theorem gdel_put_same {L : List (Nm × α)} (h : Srt L) (s : Nm) (a : α) : gdel (gput L s a) s = gdel L s := srt_ext ((h.put s a).del s) (h.del s) fun t => by
  rw [gget_del (h.put s a), gget_del h, gget_put h]; split <;> rfl
theorem gdel_put_ne {L : List (Nm × α)} (h : Srt L) {s t : Nm} (hst : s ≠ t) (a : α) : gdel (gput L s a) t = gput (gdel L t) s a := srt_ext ((h.put s a).del t) ((h.del t).put s a) fun u => by
  rw [gget_del (h.put s a), gget_put h, gget_put (h.del t), gget_del h]
  by_cases e1 : u = t
  · subst e1; rw [if_pos rfl, if_neg (Ne.symm hst), if_pos rfl]
  · rw [if_neg e1, if_neg e1]
theorem gput_put_same {L : List (Nm × α)} (h : Srt L) (s : Nm) (a b : α) : gput (gput L s a) s b = gput L s b := by unfold gput; rw [show gdel (gins (s, a) (gdel L s)) s = gdel L s from gdel_put_same h s a]
theorem gput_put_ne {L : List (Nm × α)} (h : Srt L) {s t : Nm} (hst : s ≠ t) (a b : α) : gput (gput L s a) t b = gput (gput L t b) s a := srt_ext ((h.put s a).put t b) ((h.put t b).put s a) fun u => by
  rw [gget_put (h.put s a), gget_put h, gget_put (h.put t b), gget_put h]
  by_cases e1 : u = t
  · subst e1; rw [if_pos rfl, if_neg (Ne.symm hst), if_pos rfl]
  · rw [if_neg e1, if_neg e1]
end
theorem tmp_inj {a b : Nm} (h : tmpN a = tmpN b) : a = b := by unfold tmpN at h; simpa using h
def stF (F : List (Nm × Fi)) (x : Fl) : List (Nm × Fi) := gput F (tmpN x.1) (x.2, false)
def putF (F : List (Nm × Fi)) (x : Fl) : List (Nm × Fi) := gput F x.1 (x.2, false)
theorem stS {F : List (Nm × Fi)} (h : Srt F) (x : Fl) : Srt (stF F x) := h.put _ _
theorem putS {F : List (Nm × Fi)} (h : Srt F) (x : Fl) : Srt (putF F x) := h.put _ _
theorem stF_srt : ∀ (l : List Fl) {F : List (Nm × Fi)}, Srt F → Srt (l.foldl stF F)
  | [], _, h => h
  | x :: r, _, h => stF_srt r (stS h x)
theorem putF_srt : ∀ (l : List Fl) {F : List (Nm × Fi)}, Srt F → Srt (l.foldl putF F)
  | [], _, h => h
  | x :: r, _, h => putF_srt r (putS h x)
theorem stF_del : ∀ (l : List Fl) {F : List (Nm × Fi)} (_ : Srt F) {t : Nm} (_ : ∀ x ∈ l, tmpN x.1 ≠ t), gdel (l.foldl stF F) t = l.foldl stF (gdel F t)
  | [], _, _, _, _ => rfl
  | x :: r, F, h, t, ht => by
    simp only [List.foldl_cons]
    rw [stF_del r (stS h x) (fun y hy => ht y (List.mem_cons_of_mem _ hy))]
    unfold stF
    rw [gdel_put_ne h (ht x (List.mem_cons_self))]
theorem stF_put : ∀ (l : List Fl) {F : List (Nm × Fi)} (_ : Srt F) {t : Nm} (a : Fi) (_ : ∀ x ∈ l, tmpN x.1 ≠ t), gput (l.foldl stF F) t a = l.foldl stF (gput F t a)
  | [], _, _, _, _, _ => rfl
  | x :: r, F, h, t, a, ht => by
    simp only [List.foldl_cons]
    rw [stF_put r (stS h x) a (fun y hy => ht y (List.mem_cons_of_mem _ hy))]
    unfold stF
    rw [gput_put_ne h (ht x (List.mem_cons_self))]
theorem stF_get : ∀ (l : List Fl) {F : List (Nm × Fi)} (_ : Srt F) {t : Nm} (_ : ∀ x ∈ l, tmpN x.1 ≠ t), gget (l.foldl stF F) t = gget F t
  | [], _, _, _, _ => rfl
  | x :: r, F, h, t, ht => by
    simp only [List.foldl_cons]
    rw [stF_get r (stS h x) (fun y hy => ht y (List.mem_cons_of_mem _ hy))]
    unfold stF
    rw [gget_put h, if_neg (Ne.symm (ht x List.mem_cons_self))]
theorem putF_get : ∀ (l : List Fl) {F : List (Nm × Fi)} (_ : Srt F) {t : Nm} (_ : ∀ x ∈ l, x.1 ≠ t), gget (l.foldl putF F) t = gget F t
  | [], _, _, _, _ => rfl
  | x :: r, F, h, t, ht => by
    simp only [List.foldl_cons]
    rw [putF_get r (putS h x) (fun y hy => ht y (List.mem_cons_of_mem _ hy))]
    unfold putF
    rw [gget_put h, if_neg (Ne.symm (ht x List.mem_cons_self))]
theorem putF_in : ∀ (l : List Fl) {F : List (Nm × Fi)} (_ : Srt F) (_ : l.Pairwise fun a b => a.1 ≠ b.1) {x : Fl} (_ : x ∈ l), gget (l.foldl putF F) x.1 = some (x.2, false)
  | y :: r, F, h, hn, x, hx => by
    simp only [List.foldl_cons]
    rw [List.pairwise_cons] at hn
    rcases List.mem_cons.1 hx with e | hx
    · subst e
      rw [putF_get r (putS h x) (fun z hz => Ne.symm (hn.1 z hz))]
      unfold putF
      rw [gget_put h, if_pos rfl]
    · exact putF_in r (putS h y) hn.2 hx
theorem putF_len : ∀ (l : List Fl) (F : List (Nm × Fi)) (_ : l.Pairwise fun a b => a.1 ≠ b.1), (l.foldl putF F).length = (F.filter fun p => !(l.any fun x => x.1 == p.1)).length + l.length
  | [], F, _ => by simp [List.filter_eq_self.2]
  | x :: r, F, hn => by
    rw [List.pairwise_cons] at hn
    simp only [List.foldl_cons]
    rw [putF_len r _ hn.2]
    have hp : (putF F x).Perm ((x.1, (x.2, false)) :: gdel F x.1) := gins_perm _ _
    rw [(hp.filter _).length_eq, List.filter_cons_of_pos (by simp; intro a b hm e; exact hn.1 (a, b) hm e.symm)]
    have : (gdel F x.1).filter (fun p => !(r.any fun y => y.1 == p.1)) = F.filter fun p => !((x :: r).any fun y => y.1 == p.1) := by
      unfold gdel
      rw [List.filter_filter]
      refine List.filter_congr fun p _ => ?_
      simp only [List.any_cons, Bool.not_or]
      rw [show (x.1 == p.1) = (p.1 == x.1) from Bool.eq_iff_iff.2 (by simp; exact eq_comm), Bool.and_comm]
    rw [this]
    simp only [List.length_cons]
    omega
theorem used_del_le {F : List (Nm × Fi)} (h : Srt F) (s : Nm) : usedOf (gdel F s) ≤ usedOf F := by have := used_del h s; omega
theorem used_put_le {F : List (Nm × Fi)} (h : Srt F) (s : Nm) (x : Fi) : usedOf (gput F s x) ≤ usedOf F + x.1.length := by rw [used_put]; have := used_del_le h s; omega

/-! ### One drive -/
/-- May these files be laid on this drive? -/
structure Lay (d : Pd) (l : List Fl) : Prop where
  out : d.out = false
  srt : Srt d.F
  nm : ∀ x ∈ l, okNm x.1 = true ∧ okNm (tmpN x.1) = true
  pw : l.Pairwise fun a b => a.1 ≠ b.1
  nt : ∀ x ∈ l, ∀ y ∈ l, x.1 ≠ tmpN y.1
  no : ∀ x ∈ l, gget d.F (tmpN x.1) = none
  room : usedOf d.F + (l.map fun x => x.2.length).sum ≤ d.size
theorem ans_on0 {d : Pd} (ho : d.out = false) (hf : d.offl = false) {ns : List Nm} (hn : ns.all okNm = true) : d.ans none ns = 0 := by
  unfold Pd.ans Pd.isOut; simp [ho, hf, hn, goneF]
theorem ans_of0 {d : Pd} (ho : d.out = false) (hf : d.offl = true) (ns : List Nm) : d.ans none ns = 12 := by
  unfold Pd.ans Pd.isOut; simp [ho, hf, goneF]
theorem stg_good {d : Pd} (ho : d.out = false) (hf : d.offl = false) (hu : d.full = false) (hs : Srt d.F) (x : Fl) (hn : okNm (tmpN x.1) = true) (hr : usedOf d.F + x.2.length ≤ d.size) :
    stg d none x = (0, { d with F := stF d.F x, ops := d.ops + 1 + 1 }, none) := by
  have hroom : ¬ d.size < usedOf (gdel d.F (tmpN x.1)) + x.2.length := by have := used_del_le hs (tmpN x.1); omega
  have hw : d.write none (tmpN x.1) x.2 = (0, { d with F := gput d.F (tmpN x.1) (x.2, true), ops := d.ops + 1 }, none) := by
    unfold Pd.write
    rw [ans_on0 ho hf (by simp [hn])]
    simp [hu, hroom, Pd.chg, letsF, burn]
  unfold stg
  rw [hw]
  dsimp only
  rw [if_pos rfl]
  unfold Pd.sync
  rw [ans_on0 (by exact ho) (by exact hf) (by simp [hn])]
  simp only [ne_eq, not_true, if_false]
  rw [gget_put hs, if_pos rfl]
  simp only [Pd.chg, letsF, burn, if_true]
  rw [gput_put_same hs]
  rfl
theorem stgL_good : ∀ (l : List Fl) (d : Pd) (_ : d.out = false) (_ : d.offl = false) (_ : d.full = false) (_ : Srt d.F) (_ : ∀ x ∈ l, okNm (tmpN x.1) = true) (_ : usedOf d.F + (l.map fun x => x.2.length).sum ≤ d.size),
    forL stg l d none = (0, { d with F := l.foldl stF d.F, ops := d.ops + 2 * l.length }, none)
  | [], d, _, _, _, _, _, _ => rfl
  | x :: r, d, ho, hf, hu, hs, hn, hr => by
    simp only [List.map_cons, List.sum_cons] at hr
    have h1 := stg_good ho hf hu hs x (hn x List.mem_cons_self) (by omega)
    have hu2 : usedOf (stF d.F x) ≤ usedOf d.F + x.2.length := used_put_le hs _ (x.2, false)
    unfold forL
    rw [h1]
    dsimp only
    rw [if_pos rfl, stgL_good r { d with F := stF d.F x, ops := d.ops + 1 + 1 } ho hf hu (stS hs x) (fun y hy => hn y (List.mem_cons_of_mem _ hy)) (by show usedOf (stF d.F x) + _ ≤ d.size; omega)]
    simp only [List.foldl_cons, List.length_cons, Prod.mk.injEq, true_and, and_true, Pd.mk.injEq]
    omega
/-- A drive that cannot be written. -/
theorem stgL_bad {d : Pd} (ho : d.out = false) (hb : d.offl = true ∨ d.full = true) {l : List Fl} (hl : l ≠ []) (hn : ∀ x ∈ l, okNm (tmpN x.1) = true) : ∃ e, forL stg l d none = (e, d, none) ∧ e ≠ 0 ∧ e ≠ 11 := by
  obtain ⟨x, r, rfl⟩ := List.exists_cons_of_ne_nil hl
  have hw : ∃ e, d.write none (tmpN x.1) x.2 = (e, d, none) ∧ e ≠ 0 ∧ e ≠ 11 := by
    unfold Pd.write
    cases hof : d.offl with
    | true => rw [ans_of0 ho hof]; exact ⟨12, rfl, by decide, by decide⟩
    | false =>
      rw [ans_on0 ho hof (by simp [hn x List.mem_cons_self])]
      have hfl : d.full = true := by simpa [hof] using hb
      exact ⟨8, by simp [hfl], by decide, by decide⟩
  obtain ⟨e, h1, h2, h3⟩ := hw
  refine ⟨e, ?_, h2, h3⟩
  have hs : stg d none x = (e, d, none) := by unfold stg; rw [h1]; dsimp only; rw [if_neg h2]
  unfold forL
  rw [hs]
  dsimp only
  rw [if_neg h2]
theorem fin_one {d : Pd} (ho : d.out = false) (hf : d.offl = false) {x : Fl} (hn : okNm x.1 = true) (ht : okNm (tmpN x.1) = true) {y : Fi} (hg : gget d.F (tmpN x.1) = some y) : fin d none x = (0, { d with F := gput (gdel d.F (tmpN x.1)) x.1 y, ops := d.ops + 1 }, none) := by
  unfold fin Pd.rename
  rw [ans_on0 ho hf (by simp [hn, ht])]
  simp only [ne_eq, not_true, if_false]
  rw [hg]
  rfl
theorem finL_good : ∀ (l : List Fl) (d : Pd) (F : List (Nm × Fi)) (_ : d.F = l.foldl stF F) (_ : d.out = false) (_ : d.offl = false) (_ : Srt F) (_ : ∀ x ∈ l, okNm x.1 = true ∧ okNm (tmpN x.1) = true) (_ : l.Pairwise fun a b => a.1 ≠ b.1) (_ : ∀ x ∈ l, ∀ y ∈ l, x.1 ≠ tmpN y.1) (_ : ∀ x ∈ l, gget F (tmpN x.1) = none),
    forL fin l d none = (0, { d with F := l.foldl putF F, ops := d.ops + l.length }, none)
  | [], d, F, hd, _, _, _, _, _, _, _ => by simp only [List.foldl_nil] at hd ⊢; unfold forL; rw [← hd]; rfl
  | x :: r, d, F, hd, ho, hf, hs, hn, hp, ht, h0 => by
    rw [List.pairwise_cons] at hp
    have hne : ∀ y ∈ r, tmpN y.1 ≠ tmpN x.1 := fun y hy e => hp.1 y hy (tmp_inj e).symm
    have hne2 : ∀ y ∈ r, tmpN y.1 ≠ x.1 := fun y hy e => ht x List.mem_cons_self y (List.mem_cons_of_mem _ hy) e.symm
    simp only [List.foldl_cons] at hd ⊢
    have hg : gget d.F (tmpN x.1) = some (x.2, false) := by
      rw [hd, stF_get r (stS hs x) hne]
      unfold stF
      rw [gget_put hs, if_pos rfl]
    have h1 := fin_one ho hf (hn x List.mem_cons_self).1 (hn x List.mem_cons_self).2 hg
    have hF : gput (gdel d.F (tmpN x.1)) x.1 (x.2, false) = r.foldl stF (putF F x) := by
      rw [hd, stF_del r (stS hs x) hne]
      have : gdel (stF F x) (tmpN x.1) = F := by unfold stF; rw [gdel_put_same hs, gdel_id (h0 x List.mem_cons_self)]
      rw [this, stF_put r hs _ hne2]
      rfl
    unfold forL
    rw [h1]
    dsimp only
    rw [if_pos rfl, finL_good r { d with F := gput (gdel d.F (tmpN x.1)) x.1 (x.2, false), ops := d.ops + 1 } (putF F x) hF ho hf (putS hs x) (fun y hy => hn y (List.mem_cons_of_mem _ hy)) hp.2 (fun y hy z hz => ht y (List.mem_cons_of_mem _ hy) z (List.mem_cons_of_mem _ hz)) (fun y hy => by
      unfold putF
      rw [gget_put hs, if_neg (hne2 y hy)]
      exact h0 y (List.mem_cons_of_mem _ hy))]
    simp only [List.length_cons, Prod.mk.injEq, true_and, and_true, Pd.mk.injEq]
    omega
def delP (l : List Nm) (d : Pd) : Pd := l.foldl (fun d s => (d.delete none s).2.1) d
theorem delete_calm {d : Pd} (ho : d.out = false) (s : Nm) : (d.delete none s).1 ≠ 11 ∧ (d.delete none s).2.2 = none ∧ (d.delete none s).2.1.out = false := by
  unfold Pd.delete Pd.ans Pd.isOut
  cases hof : d.offl <;> cases hk : okNm s <;> simp [ho, goneF, hk]
  split <;> simp [Pd.chg, letsF, burn, ho]
theorem delL_calm : ∀ (l : List Nm) (d : Pd) (n : Nat) (_ : d.out = false), (∃ n', delL l d none n = (false, n', delP l d, none)) ∧ (delP l d).out = false
  | [], d, n, ho => ⟨⟨n, rfl⟩, ho⟩
  | s :: r, d, n, ho => by
    obtain ⟨h1, h2, h3⟩ := delete_calm ho s
    unfold delL
    rw [if_neg h1, h2]
    exact delL_calm r _ _ h3
/-- What was staged goes again. -/
theorem delP_good : ∀ (l : List Fl) (d : Pd) (F : List (Nm × Fi)) (_ : d.F = l.foldl stF F) (_ : d.out = false) (_ : d.offl = false) (_ : Srt F) (_ : ∀ x ∈ l, okNm (tmpN x.1) = true) (_ : l.Pairwise fun a b => a.1 ≠ b.1) (_ : ∀ x ∈ l, gget F (tmpN x.1) = none),
    delP (l.map fun x => tmpN x.1) d = { d with F := F, ops := d.ops + l.length }
  | [], d, F, hd, _, _, _, _, _, _ => by simp only [List.foldl_nil] at hd; unfold delP; rw [← hd]; rfl
  | x :: r, d, F, hd, ho, hf, hs, hn, hp, h0 => by
    rw [List.pairwise_cons] at hp
    have hne : ∀ y ∈ r, tmpN y.1 ≠ tmpN x.1 := fun y hy e => hp.1 y hy (tmp_inj e).symm
    simp only [List.foldl_cons] at hd
    have hg : gget d.F (tmpN x.1) = some (x.2, false) := by
      rw [hd, stF_get r (stS hs x) hne]
      unfold stF
      rw [gget_put hs, if_pos rfl]
    have hF : gdel d.F (tmpN x.1) = r.foldl stF F := by
      rw [hd, stF_del r (stS hs x) hne]
      have : gdel (stF F x) (tmpN x.1) = F := by unfold stF; rw [gdel_put_same hs, gdel_id (h0 x List.mem_cons_self)]
      rw [this]
    have h1 : (d.delete none (tmpN x.1)).2.1 = { d with F := r.foldl stF F, ops := d.ops + 1 } := by
      unfold Pd.delete
      rw [ans_on0 ho hf (by simp [hn x List.mem_cons_self])]
      simp only [ne_eq, not_true, if_false]
      rw [hg, hF]
      rfl
    have ih := delP_good r { d with F := r.foldl stF F, ops := d.ops + 1 } F rfl ho hf hs (fun y hy => hn y (List.mem_cons_of_mem _ hy)) hp.2 (fun y hy => h0 y (List.mem_cons_of_mem _ hy))
    unfold delP at ih ⊢
    simp only [List.map_cons, List.foldl_cons]
    rw [h1, ih]
    simp only [List.length_cons, Pd.mk.injEq, true_and, and_true]
    omega
theorem delP_bad : ∀ (l : List Fl) (d : Pd) (_ : d.out = false) (_ : ∀ x ∈ l, gget d.F (tmpN x.1) = none), delP (l.map fun x => tmpN x.1) d = d
  | [], _, _, _ => rfl
  | x :: r, d, ho, h0 => by
    have h1 : (d.delete none (tmpN x.1)).2.1 = d := by
      unfold Pd.delete
      split
      · rfl
      · rw [h0 x List.mem_cons_self]
    have ih := delP_bad r d ho (fun y hy => h0 y (List.mem_cons_of_mem _ hy))
    unfold delP at ih ⊢
    simp only [List.map_cons, List.foldl_cons]
    rw [h1, ih]

/-! ### All drives -/
def Calm (op : Op3) : Prop := ∀ (d : Pd) (x : Fl), d.out = false → (op d none x).1 ≠ 11 ∧ (op d none x).2.2 = none ∧ (op d none x).2.1.out = false
theorem write_calm {d : Pd} (ho : d.out = false) (s : Nm) (b : List Nat) : (d.write none s b).1 ≠ 11 ∧ (d.write none s b).2.2 = none ∧ (d.write none s b).2.1.out = false := by
  unfold Pd.write Pd.ans Pd.isOut
  cases hof : d.offl <;> cases hk : okNm s <;> simp [ho, goneF, hk]
  split <;> simp [Pd.chg, letsF, burn, ho]
theorem sync_calm {d : Pd} (ho : d.out = false) (s : Nm) : (d.sync none s).1 ≠ 11 ∧ (d.sync none s).2.2 = none ∧ (d.sync none s).2.1.out = false := by
  unfold Pd.sync Pd.ans Pd.isOut
  cases hof : d.offl <;> cases hk : okNm s <;> simp [ho, goneF, hk]
  split <;> simp [Pd.chg, letsF, burn, ho]
theorem rename_calm {d : Pd} (ho : d.out = false) (s t : Nm) : (d.rename none s t).1 ≠ 11 ∧ (d.rename none s t).2.2 = none ∧ (d.rename none s t).2.1.out = false := by
  unfold Pd.rename Pd.ans Pd.isOut
  cases hof : d.offl <;> cases hk : okNm s <;> cases hk2 : okNm t <;> simp [ho, goneF, hk, hk2]
  split <;> simp [Pd.chg, letsF, burn, ho]
theorem stg_calm : Calm stg := fun d x ho => by
  obtain ⟨h1, h2, h3⟩ := write_calm ho (tmpN x.1) x.2
  unfold stg
  split
  · rw [h2]; exact sync_calm h3 _
  · exact ⟨h1, h2, h3⟩
theorem fin_calm : Calm fin := fun _ _ ho => rename_calm ho _ _
theorem forL_calm {op : Op3} (hop : Calm op) : ∀ (l : List Fl) (d : Pd) (_ : d.out = false), (forL op l d none).1 ≠ 11 ∧ (forL op l d none).2.2 = none ∧ (forL op l d none).2.1.out = false
  | [], d, ho => ⟨by simp [forL], rfl, ho⟩
  | x :: r, d, ho => by
    obtain ⟨h1, h2, h3⟩ := hop d x ho
    unfold forL
    split
    · rw [h2]; exact forL_calm hop r _ h3
    · exact ⟨h1, h2, h3⟩
theorem forD_calm {op : Op3} (hop : Calm op) (fl : Nat → List Fl) : ∀ (n i : Nat) (wl : Nat → Bool) (d : Nat → Pd) (_ : ∀ j, i ≤ j → j < i + n → (d j).out = false),
    ∃ wl' d', forD op fl n i wl ⟨d, none⟩ = (false, wl', ⟨d', none⟩) ∧ (∀ j, i ≤ j → j < i + n → wl' j = (wl j && decide ((forL op (fl j) (d j) none).1 = 0)) ∧ d' j = (if wl j = true then (forL op (fl j) (d j) none).2.1 else d j)) ∧ ∀ j, j < i → wl' j = wl j ∧ d' j = d j
  | 0, _, wl, d, _ => ⟨wl, d, rfl, fun j h1 h2 => by omega, fun _ _ => ⟨rfl, rfl⟩⟩
  | n + 1, i, wl, d, ho => by
    have hi := ho i (Nat.le_refl _) (by omega)
    obtain ⟨h1, h2, h3⟩ := forL_calm hop (fl i) (d i) hi
    unfold forD
    cases hw : wl i with
    | true =>
      simp only [if_true]
      rw [if_neg h1, h2]
      have ho2 : ∀ j, i + 1 ≤ j → j < i + 1 + n → ((upd d i (forL op (fl i) (d i) none).2.1) j).out = false := fun j hj hj2 => by rw [upd_ne _ _ (by omega)]; exact ho j (by omega) (by omega)
      obtain ⟨wl', d', e, g1, g2⟩ := forD_calm hop fl n (i + 1) (if (forL op (fl i) (d i) none).1 = 0 then wl else upd wl i false) _ ho2
      have hwn : ∀ j, j ≠ i → (if (forL op (fl i) (d i) none).1 = 0 then wl else upd wl i false) j = wl j := fun j hj => by
        split
        · rfl
        · exact upd_ne _ _ hj
      have hwi : (if (forL op (fl i) (d i) none).1 = 0 then wl else upd wl i false) i = decide ((forL op (fl i) (d i) none).1 = 0) := by
        by_cases h0 : (forL op (fl i) (d i) none).1 = 0
        · rw [if_pos h0, hw]; simp [h0]
        · rw [if_neg h0, upd_same]; simp [h0]
      refine ⟨wl', d', e, fun j hj1 hj2 => ?_, fun j hj => ?_⟩
      · by_cases e : j = i
        · subst e
          obtain ⟨q1, q2⟩ := g2 j (by omega)
          rw [q1, q2, hwi, upd_same, hw]
          exact ⟨by simp, by simp⟩
        · obtain ⟨q1, q2⟩ := g1 j (by omega) (by omega)
          rw [hwn j e, upd_ne _ _ e] at q1 q2
          exact ⟨q1, q2⟩
      · obtain ⟨q1, q2⟩ := g2 j (by omega)
        rw [hwn j (by omega)] at q1
        rw [upd_ne _ _ (by omega)] at q2
        exact ⟨q1, q2⟩
    | false =>
      rw [if_neg (by simp)]
      obtain ⟨wl', d', e, g1, g2⟩ := forD_calm hop fl n (i + 1) wl d (fun j hj hj2 => ho j (by omega) (by omega))
      refine ⟨wl', d', e, fun j hj1 hj2 => ?_, fun j hj => g2 j (by omega)⟩
      by_cases e : j = i
      · subst e
        obtain ⟨q1, q2⟩ := g2 j (by omega)
        rw [q1, q2, hw]
        exact ⟨by simp, by simp⟩
      · exact g1 j (by omega) (by omega)
theorem delD_calm (fl : Nat → List Fl) (meant : Nat → Bool) : ∀ (m i n : Nat) (d : Nat → Pd) (_ : ∀ j, i ≤ j → j < i + m → (d j).out = false),
    ∃ n' d', delD (unsN fl meant) m i n ⟨d, none⟩ = (false, n', ⟨d', none⟩) ∧ (∀ j, i ≤ j → j < i + m → d' j = (if meant j = true then delP ((fl j).map fun x => tmpN x.1) (d j) else d j)) ∧ ∀ j, j < i → d' j = d j
  | 0, _, n, d, _ => ⟨n, d, rfl, fun j h1 h2 => by omega, fun _ _ => rfl⟩
  | m + 1, i, n, d, ho => by
    obtain ⟨⟨n1, h1⟩, h2⟩ := delL_calm (unsN fl meant i (d i) none).2 (d i) n (ho i (Nat.le_refl _) (by omega))
    unfold delD
    dsimp only at *
    rw [if_neg (show ¬ (unsN fl meant i (d i) none).1 = 11 by simp [unsN]), h1]
    simp only [Bool.false_eq_true, if_false]
    obtain ⟨n2, d', h3, g1, g2⟩ := delD_calm fl meant m (i + 1) n1 (upd d i (delP (unsN fl meant i (d i) none).2 (d i))) (fun j hj hj2 => by rw [upd_ne _ _ (by omega)]; exact ho j (by omega) (by omega))
    refine ⟨n2, d', h3, fun j hj1 hj2 => ?_, fun j hj => by rw [g2 j (by omega), upd_ne _ _ (by omega)]⟩
    by_cases e : j = i
    · subst e
      rw [g2 j (by omega), upd_same]
      by_cases hm : meant j = true
      · rw [if_pos hm]; simp [unsN, hm]
      · rw [if_neg hm]; simp [unsN, hm, delP]
    · rw [g1 j (by omega) (by omega), upd_ne _ _ e]
/-- Can it be written, or is there nothing to be? -/
def canW (d : Pd) (l : List Fl) : Bool := l.isEmpty || (!d.offl && !d.full)
theorem cntW_congr {a b : Nat → Bool} : ∀ (k : Nat) (_ : ∀ i, i < k → a i = b i), cntW a k = cntW b k
  | 0, _ => rfl
  | k + 1, h => by unfold cntW; rw [cntW_congr k (fun i hi => h i (by omega)), h k (by omega)]
/-- What a drive is left with: its flags as they were. -/
def Flg (d d' : Pd) : Prop := d'.offl = d.offl ∧ d'.full = d.full ∧ d'.out = d.out ∧ d'.size = d.size
theorem com_calm (fl : Nat → List Fl) (k : Nat) (need : Int) (d : Nat → Pd) (hL : ∀ i, i < k → Lay (d i) (fl i)) :
    ∃ wl d', com fl k need ⟨d, none⟩ = ((if (cntW (fun i => canW (d i) (fl i)) k : Int) < need then 10 else 0), wl, ⟨d', none⟩) ∧ ∀ i, i < k → Flg (d i) (d' i) ∧ (d' i).F = (if ¬ (cntW (fun i => canW (d i) (fl i)) k : Int) < need ∧ canW (d i) (fl i) = true then (fl i).foldl putF (d i).F else (d i).F) ∧
      (¬ (cntW (fun i => canW (d i) (fl i)) k : Int) < need → wl i = canW (d i) (fl i)) := by
  have hout : ∀ j, 0 ≤ j → j < 0 + k → (d j).out = false := fun j _ hj => (hL j (by omega)).out
  -- staged
  have hS : ∀ i, i < k → (canW (d i) (fl i) = true ∧ ∃ o, forL stg (fl i) (d i) none = (0, ⟨(d i).size, o, (d i).offl, (d i).full, (d i).out, (fl i).foldl stF (d i).F⟩, none)) ∨ (canW (d i) (fl i) = false ∧ ∃ e, forL stg (fl i) (d i) none = (e, d i, none) ∧ e ≠ 0) := fun i hi => by
    have h := hL i hi
    by_cases he : fl i = []
    · exact .inl ⟨by simp [canW, he], (d i).ops, by rw [he]; rfl⟩
    · by_cases hb : (d i).offl = true ∨ (d i).full = true
      · obtain ⟨e, h1, h2, _⟩ := stgL_bad h.out hb he (fun x hx => (h.nm x hx).2)
        refine .inr ⟨?_, e, h1, h2⟩
        have : (fl i).isEmpty = false := by simpa using he
        unfold canW; rw [this]
        rcases hb with hb | hb <;> simp [hb]
      · have h1 : (d i).offl = false := by cases q : (d i).offl <;> simp_all
        have h2 : (d i).full = false := by cases q : (d i).full <;> simp_all
        exact .inl ⟨by simp [canW, h1, h2], _, stgL_good _ _ h.out h1 h2 h.srt (fun x hx => (h.nm x hx).2) h.room⟩
  obtain ⟨w1, d1, hs1, hp1, -⟩ := forD_calm stg_calm fl k 0 (fun _ => true) d hout
  have hd1i : ∀ i, i < k → d1 i = (forL stg (fl i) (d i) none).2.1 := fun i hi => by have := (hp1 i (Nat.zero_le _) (by omega)).2; rwa [if_pos rfl] at this
  have hw1i : ∀ i, i < k → w1 i = canW (d i) (fl i) := fun i hi => by
    rw [(hp1 i (Nat.zero_le _) (by omega)).1]
    rcases hS i hi with ⟨h1, o, h2⟩ | ⟨h1, e, h2, h3⟩
    · rw [h1, h2]; rfl
    · rw [h1, h2]; simp [h3]
  have hc : cntW w1 k = cntW (fun i => canW (d i) (fl i)) k := cntW_congr k hw1i
  generalize hcw : cntW (fun i => canW (d i) (fl i)) k = cw at *
  have ho1 : ∀ j, 0 ≤ j → j < 0 + k → (d1 j).out = false := fun j _ hj => by rw [hd1i j (by omega)]; exact (forL_calm stg_calm _ _ (hout j (Nat.zero_le _) hj)).2.2
  unfold com
  rw [hs1]
  dsimp only
  rw [if_neg (by simp), hc]
  by_cases hq : (cw : Int) < need
  · rw [if_pos hq, if_pos hq]
    obtain ⟨n', d', hdd, hp, -⟩ := delD_calm fl (fun _ => true) k 0 0 d1 ho1
    rw [hdd]
    refine ⟨_, _, rfl, fun i hi => ?_⟩
    rw [hp i (Nat.zero_le _) (by omega), if_pos rfl, if_neg (fun h => h.1 hq)]
    have h := hL i hi
    have key : delP ((fl i).map fun x => tmpN x.1) (d1 i) = { d i with ops := (delP ((fl i).map fun x => tmpN x.1) (d1 i)).ops } := by
      rcases hS i hi with ⟨h1, o, h2⟩ | ⟨h1, e, h2, h3⟩
      · by_cases he : fl i = []
        · rw [hd1i i hi, h2, he]; rfl
        · have hof : (d i).offl = false := by
            have : (fl i).isEmpty = false := by simpa using he
            unfold canW at h1; rw [this] at h1; simp at h1; exact h1.1
          rw [hd1i i hi, h2, delP_good (fl i) ⟨(d i).size, o, (d i).offl, (d i).full, (d i).out, (fl i).foldl stF (d i).F⟩ (d i).F rfl h.out hof h.srt (fun x hx => (h.nm x hx).2) h.pw h.no]
      · rw [hd1i i hi, h2, delP_bad (fl i) (d i) h.out h.no]
    rw [key]
    exact ⟨⟨rfl, rfl, rfl, rfl⟩, rfl, fun hn => absurd hq hn⟩
  · rw [if_neg hq, if_neg hq]
    obtain ⟨w2, d2, hf1, hp2, -⟩ := forD_calm fin_calm fl k 0 w1 d1 ho1
    rw [hf1]
    dsimp only
    rw [if_neg (by simp)]
    have hF : ∀ i, i < k → canW (d i) (fl i) = true → ∃ o, forL fin (fl i) (d1 i) none = (0, ⟨(d i).size, o, (d i).offl, (d i).full, (d i).out, (fl i).foldl putF (d i).F⟩, none) := fun i hi hg => by
      have h := hL i hi
      rcases hS i hi with ⟨h1, o, h2⟩ | ⟨h1, e, h2, h3⟩
      · by_cases he : fl i = []
        · rw [hd1i i hi, h2, he]; exact ⟨o, rfl⟩
        · have hof : (d i).offl = false := by
            have : (fl i).isEmpty = false := by simpa using he
            unfold canW at h1; rw [this] at h1; simp at h1; exact h1.1
          rw [hd1i i hi, h2, finL_good (fl i) ⟨(d i).size, o, (d i).offl, (d i).full, (d i).out, (fl i).foldl stF (d i).F⟩ (d i).F rfl h.out hof h.srt h.nm h.pw h.nt h.no]
          exact ⟨_, rfl⟩
      · rw [h1] at hg; cases hg
    have hw2i : ∀ i, i < k → w2 i = canW (d i) (fl i) := fun i hi => by
      rw [(hp2 i (Nat.zero_le _) (by omega)).1, hw1i i hi]
      cases hg : canW (d i) (fl i) with
      | false => rfl
      | true => obtain ⟨o, h1⟩ := hF i hi hg; rw [h1]; rfl
    have hd2i : ∀ i, i < k → d2 i = if canW (d i) (fl i) = true then (forL fin (fl i) (d1 i) none).2.1 else d1 i := fun i hi => by
      rw [(hp2 i (Nat.zero_le _) (by omega)).2, hw1i i hi]
    have ho2 : ∀ j, 0 ≤ j → j < 0 + k → (d2 j).out = false := fun j h0 hj => by
      rw [hd2i j (by omega)]; split
      · exact (forL_calm fin_calm _ _ (ho1 j h0 hj)).2.2
      · exact ho1 j h0 hj
    obtain ⟨n', d', hdd, hp, -⟩ := delD_calm fl (fun i => !w2 i) k 0 0 d2 ho2
    rw [hdd]
    refine ⟨_, _, rfl, fun i hi => ?_⟩
    rw [hp i (Nat.zero_le _) (by omega), hw2i i hi]
    have h := hL i hi
    cases hg : canW (d i) (fl i) with
    | true =>
      rw [if_neg (by simp), hd2i i hi, if_pos hg, if_pos ⟨hq, rfl⟩]
      obtain ⟨o, h1⟩ := hF i hi hg
      rw [h1]
      exact ⟨⟨rfl, rfl, rfl, rfl⟩, rfl, fun _ => rfl⟩
    | false =>
      rw [if_pos (by simp), hd2i i hi, if_neg (by rw [hg]; simp), if_neg (fun q => absurd q.2 (by simp))]
      rcases hS i hi with ⟨h1, o, h2⟩ | ⟨h1, e, h2, h3⟩
      · rw [h1] at hg; cases hg
      · rw [hd1i i hi, h2, delP_bad (fl i) (d i) h.out h.no]
        exact ⟨⟨rfl, rfl, rfl, rfl⟩, rfl, fun _ => rfl⟩
end Go.Proofs.YtklchjfkkbpipaaGreatDoor

/- Files of the statements (three, some of them): as they came in; large, list. -/
namespace Go.Proofs.YtklchjfkkbpipaaGreatDoor
open Go Go.RowKit Go.Shelf

/-- Bytes that came in. -/
structure BV where
  po : Option Addr
  c : Nat
  bs : List Nat
abbrev BV.v (x : BV) : Value := .slice x.po x.bs.length x.c
structure BV.ok (w : World) (x : BV) : Prop where
  b8 : ∀ y ∈ x.bs, y < 256
  bt : BAt w x.po x.bs
structure FilV where
  a : BV
  b : BV
  c : BV
  has : Int
abbrev FilV.val (x : FilV) : Array Value := #[x.a.v, x.b.v, x.c.v, .int .i64 x.has]
structure FilV.ok (w : World) (x : FilV) : Prop where
  a : x.a.ok w
  b : x.b.ok w
  c : x.c.ok w
abbrev bitI (x y : Int) : Int := bits .and .i64 x y
def FilV.lg (x : FilV) : Bool := decide (300 < x.a.bs.length) || (decide (300 < x.b.bs.length) || decide (300 < x.c.bs.length))
def BV.fl (x : BV) (s : Nm) : FlV := ⟨s, x.po, x.c, x.bs⟩
def FilV.fls (x : FilV) : List FlV := (if bitI x.has 1 = 1 then [x.a.fl [97]] else []) ++ ((if bitI x.has 2 = 2 then [x.b.fl [98]] else []) ++ (if bitI x.has 4 = 4 then [x.c.fl [99]] else []))
def FilV.fl (x : FilV) : List Fl := x.fls.map FlV.fl
theorem FilV.fls_le (x : FilV) : x.fls.length ≤ 3 := by unfold FilV.fls; split <;> split <;> split <;> simp
theorem large_any (x : FilV) (w : World) : Calls Tryz.prog 22 #[.agg x.val] w fun e w' => e = .returned (.bool x.lg) ∧ Below w.heap.size w w' := by
  obtain ⟨⟨pa, ca, a⟩, ⟨pb, cb, b⟩, ⟨pc, cc, c⟩, has⟩ := x
  unfold FilV.lg
  dsimp only
  by_cases h1 : 300 < a.length
  · have h1' : (300 : Int) < (a.length : Int) := by omega
    rw [show decide (300 < a.length) = true by simpa using h1]
    go_enter Tryz.func22, Tryz.ntmps22
    go_wp2
    go_ret
    exact ⟨rfl, (Below.refl _ _).alloc (Nat.le_refl _) _⟩
  · have h1' : ¬ (300 : Int) < (a.length : Int) := by omega
    rw [show decide (300 < a.length) = false by simpa using h1]
    by_cases h2 : 300 < b.length
    · have h2' : (300 : Int) < (b.length : Int) := by omega
      rw [show decide (300 < b.length) = true by simpa using h2]
      go_enter Tryz.func22, Tryz.ntmps22
      go_wp2
      go_ret
      exact ⟨rfl, (Below.refl _ _).alloc (Nat.le_refl _) _⟩
    · have h2' : ¬ (300 : Int) < (b.length : Int) := by omega
      rw [show decide (300 < b.length) = false by simpa using h2]
      by_cases h3 : 300 < c.length
      · have h3' : (300 : Int) < (c.length : Int) := by omega
        rw [show decide (300 < c.length) = true by simpa using h3]
        go_enter Tryz.func22, Tryz.ntmps22
        go_wp2
        go_ret
        exact ⟨rfl, (Below.refl _ _).alloc (Nat.le_refl _) _⟩
      · have h3' : ¬ (300 : Int) < (c.length : Int) := by omega
        rw [show decide (300 < c.length) = false by simpa using h3]
        go_enter Tryz.func22, Tryz.ntmps22
        go_wp2
        go_ret
        exact ⟨rfl, (Below.refl _ _).alloc (Nat.le_refl _) _⟩
theorem Tryz.infoFl : (Tryz.prog.info? 66).map (fun i => (i.zero, i.size, i.bytes)) = some (some (.agg #[.string ⟨#[]⟩, .slice none 0 0]), 2, 40) := by kernel_rfl
def flat2 (l : List FlV) : List Value := l.flatMap fun y => [sv y.nm, y.bv]
theorem flat2_get : ∀ (l : List FlV) (j : Nat) (_ : j < l.length), (flat2 l)[j * 2]? = some (sv (l.getD j default).nm) ∧ (flat2 l)[j * 2 + 1]? = some (l.getD j default).bv
  | [], j, h => absurd h (Nat.not_lt_zero _)
  | x :: r, 0, _ => ⟨rfl, rfl⟩
  | x :: r, j + 1, h => by
    have := flat2_get r j (by simpa using h)
    have e1 : (j + 1) * 2 = j * 2 + 1 + 1 := by omega
    rw [e1]
    simpa [flat2] using this
theorem own_get2 {w : World} {B n : Nat} {t : TypeId} {v : Value} {xs : List Value} (h : w.ownsRow B t 2 v n xs) (h0 : 0 < n) : ∃ g c, v = .slice (some ⟨g, 0, none⟩) n c ∧ n ≤ c ∧ B ≤ g ∧ ∀ j, j < n * 2 → w.cell? ⟨g, j, none⟩ = xs[j]? := by
  rcases h.2 with ⟨rfl, h0'⟩ | ⟨g, cap, cur, rfl, hB, hg, h1, _, h3, h4⟩
  · omega
  have hc : CAt w g cur t := hg
  refine ⟨g, cap, rfl, h1, hB, fun j hj => ?_⟩
  rw [hc.cell, ← h4, List.getElem?_take, if_pos (by omega)]
  simp
/-- A list of files under way: made since W. -/
structure LiI (W wr : World) (v : Value) (l : List FlV) : Prop where
  ow : wr.ownsRow W.heap.size 66 2 v l.length (flat2 l)
  be : Below W.heap.size W wr
theorem LiI.below {W wr w' : World} {v : Value} {l : List FlV} (h : LiI W wr v l) (hb : Below wr.heap.size wr w') : LiI W w' v l :=
  ⟨ownsRow_keep h.ow fun b hv => hb.block b (own_ge h.ow b hv).2, below_on _ _ h.be hb⟩
theorem LiI.push {W wr : World} {v : Value} {l : List FlV} (h : LiI W wr v l) (hl : l.length ≤ 1000) (x : FlV) (bx : Nat) (cs : Array Value) (t : TypeId) (hx : CAt wr bx cs t) (hv : v.ownBlock ≠ some bx) :
    ∃ v' w', (Builtin.append_ #[63, 63] 63 #[v, .slice (some ⟨wr.heap.size, 0, none⟩) 1 1]).run Tryz.prog (wr.alloc (.cells #[sv x.nm, x.bv] 66)) = .ok v' w' ∧ LiI W w' v' (l ++ [x]) ∧ CAt w' bx cs t ∧ v'.ownBlock ≠ some bx := by
  obtain ⟨v', w', hr, h1, h2, h3, _⟩ := own_push (T := 63) Tryz.underlying63 Tryz.infoFl rfl (by decide) h.ow #[sv x.nm, x.bv] rfl (by simp [Value.oneCell', sv]) (by omega) (by decide) h.be.size
  refine ⟨v', w', hr, ⟨?_, ?_⟩, hx.keep (h2.block _ hx.lt hv), ?_⟩
  · have : flat2 (l ++ [x]) = flat2 l ++ [sv x.nm, x.bv] := by simp [flat2]
    rw [this, List.length_append]
    exact h1
  · refine ⟨h2.os.trans h.be.os, h2.tape.trans h.be.tape, h2.output.trans h.be.output, Nat.le_trans h.be.size h2.size, fun b hb' => ?_⟩
    exact (h2.block b (Nat.lt_of_lt_of_le hb' h.be.size) (fun hv => by have := (own_ge h.ow b hv).1; omega)).trans (h.be.block b hb')
  · rcases h3 with h3 | ⟨c, h3, hc⟩
    · rw [h3]; exact hv
    · rw [h3]; intro e; cases e; have := hx.lt; omega
/-- What list answers. -/
def ListedAt (W : World) (x : FilV) (e : Ending) (w' : World) : Prop :=
  ∃ r : RowV, e = .returned r.v ∧ r.l = x.fls ∧ Below W.heap.size W w' ∧ ∀ T : Nat → Prop, (∀ b, T b → b < W.heap.size) → (∀ y ∈ x.fls, y.ok W T) → r.ok w' T
theorem LiI.done {W wr : World} {v : Value} {x : FilV} (h : LiI W wr v x.fls) (h0 : x.fls = [] → v = .slice none 0 0) : ListedAt W x (.returned v) wr := by
  by_cases hn : x.fls = []
  · refine ⟨⟨none, 0, []⟩, by rw [h0 hn]; rfl, hn.symm, h.be, fun T hT hy => ⟨.inl rfl, fun y hy => absurd hy (by simp), Nat.le_refl _⟩⟩
  · obtain ⟨g, c, rfl, h1, h2, h3⟩ := own_get2 h.ow (List.length_pos_iff.2 hn)
    refine ⟨⟨some ⟨g, 0, none⟩, c, x.fls⟩, rfl, rfl, h.be, fun T hT hy => ⟨.inr ⟨g, 0, rfl, fun ht => by have := hT g ht; omega, fun j hj => ?_⟩, fun y hy' => (hy y hy').keep (fun b hb _ => h.be.block b hb) (fun _ _ h => h), h1⟩⟩
    obtain ⟨q1, q2⟩ := flat2_get x.fls j hj
    have hj' : j < x.fls.length := hj
    rw [Nat.zero_add, h3 _ (by omega), h3 _ (by omega)]
    exact ⟨q1, q2⟩
set_option maxRecDepth 100000 in
set_option maxHeartbeats 1000000 in
theorem flist2_any (x : FilV) (W : World) : Calls Tryz.prog 23 #[.agg x.val] W (ListedAt W x) := by
  have H0 : Hid (LiI W (W.alloc (.cells x.val 62)) (.slice none 0 0) []) := hid ⟨World.ownsRow_nil _ _ _ _, (Below.refl _ _).alloc (Nat.le_refl _) _⟩
  have HX : Hid (CAt (W.alloc (.cells x.val 62)) W.heap.size x.val 62) := hid (CAt.made _ _ _)
  have HN : Hid ((Value.slice none 0 0).ownBlock ≠ some W.heap.size) := hid (fun e => by cases e)
  have HFIN := hid (fun (v : Value) wr (h : LiI W wr v x.fls) h0 => h.done h0)
  have HP : Hid (∀ (wr : World) (v : Value) (l : List FlV) (y : FlV), LiI W wr v l → l.length ≤ 1000 → CAt wr W.heap.size x.val 62 → v.ownBlock ≠ some W.heap.size → ∃ v' w', (Builtin.append_ #[63, 63] 63 #[v, .slice (some ⟨wr.heap.size, 0, none⟩) 1 1]).run Tryz.prog (wr.alloc (.cells #[sv y.nm, y.bv] 66)) = .ok v' w' ∧ LiI W w' v' (l ++ [y]) ∧ CAt w' W.heap.size x.val 62 ∧ v'.ownBlock ≠ some W.heap.size) := hid (fun wr v l y h hl hx hv => h.push hl y _ _ _ hx hv)
  obtain ⟨⟨pa, ca, a⟩, ⟨pb, cb, b⟩, ⟨pc, cc, c⟩, has⟩ := x
  unfold FilV.fls BV.fl at HFIN
  dsimp only [FilV.val, BV.v] at *
  have sa : sv [97] = .string ⟨#[97]⟩ := rfl
  have sb : sv [98] = .string ⟨#[98]⟩ := rfl
  have sc : sv [99] = .string ⟨#[99]⟩ := rfl
  by_cases g1 : bits .and .i64 has 1 = 1
  · have e1 : (bits .and .i64 has 1 == 1) = true := by rw [g1]; rfl
    obtain ⟨v1, w1, hr, hl, hx, hv⟩ := HP.out _ _ [] ⟨[97], pa, ca, a⟩ H0.out (by simp) HX.out HN.out
    dsimp only [FlV.bv, sv] at hr
    rw [size_al] at hr
    have HR1 := hid hr
    have HL1 := hid hl
    have HX1 := hid hx
    have HV1 := hid hv
    have x11 := hx.cell 1
    have x12 := hx.cell 2
    have x13 := hx.cell 3
    simp at x11 x12 x13
    clear hr hl hx hv
    by_cases g2 : bits .and .i64 has 2 = 2
    · have e2 : (bits .and .i64 has 2 == 2) = true := by rw [g2]; rfl
      obtain ⟨v2, w2, hr, hl, hx, hv⟩ := HP.out _ _ [⟨[97], pa, ca, a⟩] ⟨[98], pb, cb, b⟩ HL1.out (by simp) HX1.out HV1.out
      dsimp only [FlV.bv, sv] at hr
      have HR2 := hid hr
      have HL2 := hid hl
      have HX2 := hid hx
      have HV2 := hid hv
      have x22 := hx.cell 2
      have x23 := hx.cell 3
      simp at x22 x23
      clear hr hl hx hv
      by_cases g3 : bits .and .i64 has 4 = 4
      · have e3 : (bits .and .i64 has 4 == 4) = true := by rw [g3]; rfl
        obtain ⟨v3, w3, hr, hl, hx, hv⟩ := HP.out _ _ [⟨[97], pa, ca, a⟩, ⟨[98], pb, cb, b⟩] ⟨[99], pc, cc, c⟩ HL2.out (by simp) HX2.out HV2.out
        dsimp only [FlV.bv, sv] at hr
        have HR3 := hid hr
        have HL3 := hid hl
        have HX3 := hid hx
        have HV3 := hid hv
        clear hr hl hx hv
        rw [if_pos g1, if_pos g2, if_pos g3] at HFIN
        clear g1 g2 g3
        go_enter Tryz.func23, Tryz.ntmps23
        go_wp2_with (first | (at_builtin; refine wpList_append_run _ _ 63 rfl rfl _ _ v1 rfl rfl HR1.out ?_; clear HR1) | (at_builtin; refine wpList_append_run _ _ 63 rfl rfl _ _ v2 rfl rfl HR2.out ?_; clear HR2) | (at_builtin; refine wpList_append_run _ _ 63 rfl rfl _ _ v3 rfl rfl HR3.out ?_; clear HR3))
        go_ret
        exact HFIN.out _ _ HL3.out (fun e => absurd e (by simp))
      · have e3 : (bits .and .i64 has 4 == 4) = false := by simpa using g3
        rw [if_pos g1, if_pos g2, if_neg g3] at HFIN
        clear g1 g2 g3
        go_enter Tryz.func23, Tryz.ntmps23
        go_wp2_with (first | (at_builtin; refine wpList_append_run _ _ 63 rfl rfl _ _ v1 rfl rfl HR1.out ?_; clear HR1) | (at_builtin; refine wpList_append_run _ _ 63 rfl rfl _ _ v2 rfl rfl HR2.out ?_; clear HR2))
        go_ret
        exact HFIN.out _ _ HL2.out (fun e => absurd e (by simp))
    · have e2 : (bits .and .i64 has 2 == 2) = false := by simpa using g2
      by_cases g3 : bits .and .i64 has 4 = 4
      · have e3 : (bits .and .i64 has 4 == 4) = true := by rw [g3]; rfl
        obtain ⟨v3, w3, hr, hl, hx, hv⟩ := HP.out _ _ [⟨[97], pa, ca, a⟩] ⟨[99], pc, cc, c⟩ HL1.out (by simp) HX1.out HV1.out
        dsimp only [FlV.bv, sv] at hr
        have HR3 := hid hr
        have HL3 := hid hl
        have HX3 := hid hx
        have HV3 := hid hv
        clear hr hl hx hv
        rw [if_pos g1, if_neg g2, if_pos g3] at HFIN
        clear g1 g2 g3
        go_enter Tryz.func23, Tryz.ntmps23
        go_wp2_with (first | (at_builtin; refine wpList_append_run _ _ 63 rfl rfl _ _ v1 rfl rfl HR1.out ?_; clear HR1) | (at_builtin; refine wpList_append_run _ _ 63 rfl rfl _ _ v3 rfl rfl HR3.out ?_; clear HR3))
        go_ret
        exact HFIN.out _ _ HL3.out (fun e => absurd e (by simp))
      · have e3 : (bits .and .i64 has 4 == 4) = false := by simpa using g3
        rw [if_pos g1, if_neg g2, if_neg g3] at HFIN
        clear g1 g2 g3
        go_enter Tryz.func23, Tryz.ntmps23
        go_wp2_with (first | (at_builtin; refine wpList_append_run _ _ 63 rfl rfl _ _ v1 rfl rfl HR1.out ?_; clear HR1))
        go_ret
        exact HFIN.out _ _ HL1.out (fun e => absurd e (by simp))
  · have e1 : (bits .and .i64 has 1 == 1) = false := by simpa using g1
    by_cases g2 : bits .and .i64 has 2 = 2
    · have e2 : (bits .and .i64 has 2 == 2) = true := by rw [g2]; rfl
      obtain ⟨v2, w2, hr, hl, hx, hv⟩ := HP.out _ _ [] ⟨[98], pb, cb, b⟩ H0.out (by simp) HX.out HN.out
      dsimp only [FlV.bv, sv] at hr
      rw [size_al] at hr
      have HR2 := hid hr
      have HL2 := hid hl
      have HX2 := hid hx
      have HV2 := hid hv
      have x22 := hx.cell 2
      have x23 := hx.cell 3
      simp at x22 x23
      clear hr hl hx hv
      by_cases g3 : bits .and .i64 has 4 = 4
      · have e3 : (bits .and .i64 has 4 == 4) = true := by rw [g3]; rfl
        obtain ⟨v3, w3, hr, hl, hx, hv⟩ := HP.out _ _ [⟨[98], pb, cb, b⟩] ⟨[99], pc, cc, c⟩ HL2.out (by simp) HX2.out HV2.out
        dsimp only [FlV.bv, sv] at hr
        have HR3 := hid hr
        have HL3 := hid hl
        have HX3 := hid hx
        have HV3 := hid hv
        clear hr hl hx hv
        rw [if_neg g1, if_pos g2, if_pos g3] at HFIN
        clear g1 g2 g3
        go_enter Tryz.func23, Tryz.ntmps23
        go_wp2_with (first | (at_builtin; refine wpList_append_run _ _ 63 rfl rfl _ _ v2 rfl rfl HR2.out ?_; clear HR2) | (at_builtin; refine wpList_append_run _ _ 63 rfl rfl _ _ v3 rfl rfl HR3.out ?_; clear HR3))
        go_ret
        exact HFIN.out _ _ HL3.out (fun e => absurd e (by simp))
      · have e3 : (bits .and .i64 has 4 == 4) = false := by simpa using g3
        rw [if_neg g1, if_pos g2, if_neg g3] at HFIN
        clear g1 g2 g3
        go_enter Tryz.func23, Tryz.ntmps23
        go_wp2_with (first | (at_builtin; refine wpList_append_run _ _ 63 rfl rfl _ _ v2 rfl rfl HR2.out ?_; clear HR2))
        go_ret
        exact HFIN.out _ _ HL2.out (fun e => absurd e (by simp))
    · have e2 : (bits .and .i64 has 2 == 2) = false := by simpa using g2
      by_cases g3 : bits .and .i64 has 4 = 4
      · have e3 : (bits .and .i64 has 4 == 4) = true := by rw [g3]; rfl
        obtain ⟨v3, w3, hr, hl, hx, hv⟩ := HP.out _ _ [] ⟨[99], pc, cc, c⟩ H0.out (by simp) HX.out HN.out
        dsimp only [FlV.bv, sv] at hr
        rw [size_al] at hr
        have HR3 := hid hr
        have HL3 := hid hl
        have HX3 := hid hx
        have HV3 := hid hv
        clear hr hl hx hv
        rw [if_neg g1, if_neg g2, if_pos g3] at HFIN
        clear g1 g2 g3
        go_enter Tryz.func23, Tryz.ntmps23
        go_wp2_with (first | (at_builtin; refine wpList_append_run _ _ 63 rfl rfl _ _ v3 rfl rfl HR3.out ?_; clear HR3))
        go_ret
        exact HFIN.out _ _ HL3.out (fun e => absurd e (by simp))
      · have e3 : (bits .and .i64 has 4 == 4) = false := by simpa using g3
        rw [if_neg g1, if_neg g2, if_neg g3] at HFIN
        clear g1 g2 g3
        go_enter Tryz.func23, Tryz.ntmps23
        go_wp2
        go_ret
        exact HFIN.out _ _ H0.out (fun _ => rfl)
end Go.Proofs.YtklchjfkkbpipaaGreatDoor
