/- Texts laid into one: the remark ahead of each part says what is proved there. -/
import Derived.Test.YtklchjfkkbpipaaGreatDoorPaa
import Derived.Test.YtklchjfkkbpipaaGreatDoorPab
import Derived.Test.YtklchjfkkbpipaaGreatDoorPac
import Derived.Test.YtklchjfkkbpipaaGreatDoorPad
import Derived.Test.YtklchjfkkbpipaaGreatDoorPae
import Derived.Test.YtklchjfkkbpipaaGreatDoorPaf
import Derived.Test.YtklchjfkkbpipaaGreatDoorPag
import Derived.Test.YtklchjfkkbpipaaGreatDoorPah
import Derived.Test.YtklchjfkkbpipaaGreatDoorPai
import Derived.Test.YtklchjfkkbpipaaGreatDoorPaj
import Derived.Test.YtklchjfkkbpipaaGreatDoorPak
import Derived.Test.YtklchjfkkbpipaaGreatDoorPal
import Derived.Test.YtklchjfkkbpipaaGreatDoorPam
import Derived.Test.YtklchjfkkbpipaaGreatDoorPan
import Derived.Test.YtklchjfkkbpipaaGreatDoorPao
import Derived.Test.YtklchjfkkbpipaaGreatDoorUaa
import Derived.Test.YtklchjfkkbpipaaGreatDoorUab
import Derived.Test.YtklchjfkkbpipaaGreatDoorUae
import Derived.Test.YtklchjfkkbpipaaGreatDoorUad
/- What Commit makes of drives with a fuse, whatever change it stops: the mathematics of FanStops. -/
namespace Go.Proofs.YtklchjfkkbpipaaGreatDoor
open Go

/-! ### Files by names ahead of the fuse -/
/-- All of it is staged. -/
def AllT (F : List (Nm × Fi)) : Prop := ∀ x ∈ F, ∃ s, x.1 = tmpN s
theorem AllT.put {F : List (Nm × Fi)} (h : AllT F) (s : Nm) (a : Fi) : AllT (gput F (tmpN s) a) := fun x hx => by
  rcases mem_put.1 hx with rfl | hx
  · exact ⟨s, rfl⟩
  · exact h x hx.1
theorem AllT.st {F : List (Nm × Fi)} (h : AllT F) : ∀ l : List Fl, AllT (l.foldl stF F) := fun l => by
  induction l generalizing F with
  | nil => exact h
  | cons x r ih => exact ih (h.put _ _)
/-- A drive that answers. -/
structure On (d : Pd) : Prop where
  out : d.out = false
  offl : d.offl = false
  full : d.full = false
  srt : Srt d.F
theorem ans_fz {d : Pd} (ho : On d) (n : Nat) {ns : List Nm} (hn : ns.all okNm = true) : d.ans (some (n, false)) ns = 0 := by
  unfold Pd.ans Pd.isOut; simp [ho.out, ho.offl, hn, goneF]
/-- What one stage comes to. -/
theorem stg_fz {d : Pd} (h : On d) (hA : AllT d.F) (n : Nat) (x : Fl) (hn : okNm (tmpN x.1) = true) (hr : usedOf d.F + x.2.length ≤ d.size) :
    (∃ o n', stg d (some (n, false)) x = (0, ⟨d.size, o, d.offl, d.full, d.out, stF d.F x⟩, some (n', false))) ∨ (∃ o F, stg d (some (n, false)) x = (11, ⟨d.size, o, d.offl, d.full, d.out, F⟩, some (0, true)) ∧ AllT F ∧ Srt F) := by
  have hroom : ¬ d.size < usedOf (gdel d.F (tmpN x.1)) + x.2.length := by have := used_del_le h.srt (tmpN x.1); omega
  match n with
  | 0 =>
    have hw : d.write (some (0, false)) (tmpN x.1) x.2 = (11, d, some (0, true)) := by
      unfold Pd.write
      rw [ans_fz h 0 (by simp [hn])]
      simp [h.full, hroom, Pd.chg, letsF, burn]
    refine .inr ⟨d.ops, d.F, ?_, hA, h.srt⟩
    unfold stg
    rw [hw]
    rfl
  | m + 1 =>
    have hw : d.write (some (m + 1, false)) (tmpN x.1) x.2 = (0, ⟨d.size, d.ops + 1, d.offl, d.full, d.out, gput d.F (tmpN x.1) (x.2, true)⟩, some (m, false)) := by
      unfold Pd.write
      rw [ans_fz h _ (by simp [hn])]
      simp [h.full, hroom, Pd.chg, letsF, burn]
    have h2 : On ⟨d.size, d.ops + 1, d.offl, d.full, d.out, gput d.F (tmpN x.1) (x.2, true)⟩ := ⟨h.out, h.offl, h.full, h.srt.put _ _⟩
    have hg : gget (gput d.F (tmpN x.1) (x.2, true)) (tmpN x.1) = some (x.2, true) := by rw [gget_put h.srt, if_pos rfl]
    unfold stg
    rw [hw]
    dsimp only
    rw [if_pos rfl]
    unfold Pd.sync
    rw [ans_fz h2 m (by simp [hn])]
    simp only [ne_eq, not_true, if_false]
    rw [hg]
    match m with
    | 0 => exact .inr ⟨_, _, rfl, hA.put _ _, h.srt.put _ _⟩
    | m + 1 =>
      refine .inl ⟨d.ops + 1 + 1, m, ?_⟩
      simp only [Pd.chg, letsF, burn, if_true]
      rw [gput_put_same h.srt]
      rfl
theorem stgL_fz : ∀ (l : List Fl) (d : Pd) (_ : On d) (_ : AllT d.F) (n : Nat) (_ : ∀ x ∈ l, okNm (tmpN x.1) = true) (_ : usedOf d.F + (l.map fun x => x.2.length).sum ≤ d.size),
    (∃ o n', forL stg l d (some (n, false)) = (0, ⟨d.size, o, d.offl, d.full, d.out, l.foldl stF d.F⟩, some (n', false))) ∨ (∃ o F, forL stg l d (some (n, false)) = (11, ⟨d.size, o, d.offl, d.full, d.out, F⟩, some (0, true)) ∧ AllT F ∧ Srt F)
  | [], d, _, _, n, _, _ => .inl ⟨d.ops, n, rfl⟩
  | x :: r, d, h, hA, n, hn, hr => by
    simp only [List.map_cons, List.sum_cons] at hr
    unfold forL
    rcases stg_fz h hA n x (hn x List.mem_cons_self) (by omega) with ⟨o, n', h1⟩ | ⟨o, F, h1, h2, h3⟩
    · rw [h1]
      dsimp only
      rw [if_pos rfl]
      have hu2 : usedOf (stF d.F x) ≤ usedOf d.F + x.2.length := used_put_le h.srt _ (x.2, false)
      exact stgL_fz r ⟨d.size, o, d.offl, d.full, d.out, stF d.F x⟩ ⟨h.out, h.offl, h.full, stS h.srt x⟩ (hA.put _ _) n' (fun y hy => hn y (List.mem_cons_of_mem _ hy)) (by show usedOf (stF d.F x) + _ ≤ d.size; omega)
    · rw [h1]
      exact .inr ⟨o, F, rfl, h2, h3⟩
/-- What one finish comes to: the rest of a list is staged still. -/
theorem finL_fz : ∀ (l : List Fl) (d : Pd) (F : List (Nm × Fi)) (_ : d.F = l.foldl stF F) (_ : d.out = false) (_ : d.offl = false) (_ : Srt F) (n : Nat) (_ : ∀ x ∈ l, okNm x.1 = true ∧ okNm (tmpN x.1) = true) (_ : l.Pairwise fun a b => a.1 ≠ b.1) (_ : ∀ x ∈ l, ∀ y ∈ l, x.1 ≠ tmpN y.1) (_ : ∀ x ∈ l, gget F (tmpN x.1) = none),
    (∃ o n', forL fin l d (some (n, false)) = (0, ⟨d.size, o, d.offl, d.full, d.out, l.foldl putF F⟩, some (n', false))) ∨ (∃ o l1 l2, l = l1 ++ l2 ∧ forL fin l d (some (n, false)) = (11, ⟨d.size, o, d.offl, d.full, d.out, l2.foldl stF (l1.foldl putF F)⟩, some (0, true)))
  | [], d, F, hd, _, _, _, n, _, _, _, _ => .inl ⟨d.ops, n, by simp only [List.foldl_nil] at hd ⊢; unfold forL; rw [← hd]⟩
  | x :: r, d, F, hd, ho, hf, hs, n, hn, hp, ht, h0 => by
    have hd0 := hd
    rw [List.pairwise_cons] at hp
    have hne : ∀ y ∈ r, tmpN y.1 ≠ tmpN x.1 := fun y hy e => hp.1 y hy (tmp_inj e).symm
    have hne2 : ∀ y ∈ r, tmpN y.1 ≠ x.1 := fun y hy e => ht x List.mem_cons_self y (List.mem_cons_of_mem _ hy) e.symm
    simp only [List.foldl_cons] at hd
    have hg : gget d.F (tmpN x.1) = some (x.2, false) := by
      rw [hd, stF_get r (stS hs x) hne]
      unfold stF
      rw [gget_put hs, if_pos rfl]
    have ha : d.ans (some (n, false)) [tmpN x.1, x.1] = 0 := by unfold Pd.ans Pd.isOut; simp [ho, hf, (hn x List.mem_cons_self).1, (hn x List.mem_cons_self).2, goneF]
    have hF : gput (gdel d.F (tmpN x.1)) x.1 (x.2, false) = r.foldl stF (putF F x) := by
      rw [hd, stF_del r (stS hs x) hne]
      have : gdel (stF F x) (tmpN x.1) = F := by unfold stF; rw [gdel_put_same hs, gdel_id (h0 x List.mem_cons_self)]
      rw [this, stF_put r hs _ hne2]
      rfl
    match n with
    | 0 =>
      have h1 : fin d (some (0, false)) x = (11, d, some (0, true)) := by
        unfold fin Pd.rename
        rw [ha]
        simp only [ne_eq, not_true, if_false]
        rw [hg]
        rfl
      refine .inr ⟨d.ops, [], x :: r, rfl, ?_⟩
      unfold forL
      rw [h1]
      simp only [List.foldl_nil]
      rw [← hd0]
      rfl
    | m + 1 =>
      have h1 : fin d (some (m + 1, false)) x = (0, ⟨d.size, d.ops + 1, d.offl, d.full, d.out, r.foldl stF (putF F x)⟩, some (m, false)) := by
        unfold fin Pd.rename
        rw [ha]
        simp only [ne_eq, not_true, if_false]
        rw [hg, ← hF]
        rfl
      unfold forL
      rw [h1]
      dsimp only
      rw [if_pos rfl]
      rcases finL_fz r ⟨d.size, d.ops + 1, d.offl, d.full, d.out, r.foldl stF (putF F x)⟩ (putF F x) rfl ho hf (putS hs x) m (fun y hy => hn y (List.mem_cons_of_mem _ hy)) hp.2 (fun y hy z hz => ht y (List.mem_cons_of_mem _ hy) z (List.mem_cons_of_mem _ hz)) (fun y hy => by
        unfold putF
        rw [gget_put hs, if_neg (hne2 y hy)]
        exact h0 y (List.mem_cons_of_mem _ hy)) with ⟨o, n', h2⟩ | ⟨o, l1, l2, h2, h3⟩
      · exact .inl ⟨o, n', h2⟩
      · exact .inr ⟨o, x :: l1, l2, by rw [h2]; rfl, h3⟩

/-! ### All drives -/
/-- A drive as New made it, but for its files and how many changes it counts. -/
def Nw (z : Nat) (d : Pd) : Prop := d.size = z ∧ d.offl = false ∧ d.full = false ∧ d.out = false ∧ Srt d.F
/-- May these files be laid on a new drive? -/
structure Ly (z : Nat) (l : List Fl) : Prop where
  nm : ∀ x ∈ l, okNm x.1 = true ∧ okNm (tmpN x.1) = true
  pw : l.Pairwise fun a b => a.1 ≠ b.1
  nt : ∀ x ∈ l, ∀ y : Nm, x.1 ≠ tmpN y
  room : (l.map fun x => x.2.length).sum ≤ z
theorem forD_stg (z : Nat) (fl : Nat → List Fl) (k : Nat) (hL : ∀ i, i < k → Ly z (fl i)) : ∀ (n i : Nat) (m : Nat) (d : Nat → Pd) (_ : i + n = k) (_ : ∀ j, j < k → Nw z (d j)) (_ : ∀ j, j < i → (d j).F = (fl j).foldl stF []) (_ : ∀ j, i ≤ j → j < k → (d j).F = []),
    (∃ d' m', forD stg fl n i (fun _ => true) ⟨d, some (m, false)⟩ = (false, fun _ => true, ⟨d', some (m', false)⟩) ∧ ∀ j, j < k → Nw z (d' j) ∧ (d' j).F = (fl j).foldl stF []) ∨
      (∃ d' wl, forD stg fl n i (fun _ => true) ⟨d, some (m, false)⟩ = (true, wl, ⟨d', some (0, true)⟩) ∧ ∀ j, j < k → Nw z (d' j) ∧ AllT (d' j).F)
  | 0, i, m, d, he, hN, h1, _ => .inl ⟨d, m, rfl, fun j hj => ⟨hN j hj, h1 j (by omega)⟩⟩
  | n + 1, i, m, d, he, hN, h1, h2 => by
    have hi : i < k := by omega
    obtain ⟨z1, z2, z3, z4, z5⟩ := hN i hi
    have hF := h2 i (Nat.le_refl _) hi
    unfold forD
    simp only [if_true]
    have hA0 : AllT ([] : List (Nm × Fi)) := fun x hx => absurd hx (by simp)
    rcases stgL_fz (fl i) (d i) ⟨z4, z2, z3, z5⟩ (by rw [hF]; exact hA0) m (fun x hx => ((hL i hi).nm x hx).2) (by rw [hF, z1]; simpa [usedOf] using (hL i hi).room) with ⟨o, n', q⟩ | ⟨o, F, q, q2, q3⟩
    · rw [q]
      dsimp only
      rw [if_neg (by decide), if_pos rfl]
      refine forD_stg z fl k hL n (i + 1) n' _ (by omega) (fun j hj => ?_) (fun j hj => ?_) (fun j hj hj2 => ?_)
      · by_cases e : j = i
        · subst e; rw [upd_same]; exact ⟨z1, z2, z3, z4, stF_srt _ z5⟩
        · rw [upd_ne _ _ e]; exact hN j hj
      · by_cases e : j = i
        · subst e; rw [upd_same]; show (fl j).foldl stF (d j).F = _; rw [hF]
        · rw [upd_ne _ _ e]; exact h1 j (by omega)
      · rw [upd_ne _ _ (by omega)]; exact h2 j (by omega) hj2
    · rw [q]
      dsimp only
      rw [if_pos rfl]
      refine .inr ⟨_, _, rfl, fun j hj => ?_⟩
      by_cases e : j = i
      · subst e; rw [upd_same]; exact ⟨⟨z1, z2, z3, z4, q3⟩, q2⟩
      · rw [upd_ne _ _ e]
        refine ⟨hN j hj, ?_⟩
        by_cases hj2 : j < i
        · rw [h1 j hj2]; exact hA0.st _
        · rw [h2 j (by omega) hj]; exact hA0
/-- The first of its files have their names, the others are staged. -/
def Mid2 (l : List Fl) (F : List (Nm × Fi)) : Prop := ∃ l1 l2, l = l1 ++ l2 ∧ F = l2.foldl stF (l1.foldl putF [])
theorem mid_st (l : List Fl) : Mid2 l (l.foldl stF []) := ⟨[], l, rfl, rfl⟩
theorem mid_put (l : List Fl) : Mid2 l (l.foldl putF []) := ⟨l, [], by simp, rfl⟩
theorem srt_nil : Srt ([] : List (Nm × Fi)) := List.Pairwise.nil
theorem Mid2.srt {l : List Fl} {F : List (Nm × Fi)} (h : Mid2 l F) : Srt F := by obtain ⟨l1, l2, _, rfl⟩ := h; exact stF_srt _ (putF_srt _ srt_nil)
theorem forD_fin (z : Nat) (fl : Nat → List Fl) (k : Nat) (hL : ∀ i, i < k → Ly z (fl i)) : ∀ (n i : Nat) (m : Nat) (d : Nat → Pd) (_ : i + n = k) (_ : ∀ j, j < k → Nw z (d j)) (_ : ∀ j, j < i → (d j).F = (fl j).foldl putF []) (_ : ∀ j, i ≤ j → j < k → (d j).F = (fl j).foldl stF []),
    (∃ d' m', forD fin fl n i (fun _ => true) ⟨d, some (m, false)⟩ = (false, fun _ => true, ⟨d', some (m', false)⟩) ∧ ∀ j, j < k → Nw z (d' j) ∧ (d' j).F = (fl j).foldl putF []) ∨
      (∃ d' wl, forD fin fl n i (fun _ => true) ⟨d, some (m, false)⟩ = (true, wl, ⟨d', some (0, true)⟩) ∧ ∀ j, j < k → Nw z (d' j) ∧ Mid2 (fl j) (d' j).F)
  | 0, i, m, d, he, hN, h1, _ => .inl ⟨d, m, rfl, fun j hj => ⟨hN j hj, h1 j (by omega)⟩⟩
  | n + 1, i, m, d, he, hN, h1, h2 => by
    have hi : i < k := by omega
    obtain ⟨z1, z2, z3, z4, z5⟩ := hN i hi
    have hF := h2 i (Nat.le_refl _) hi
    have hl := hL i hi
    unfold forD
    simp only [if_true]
    rcases finL_fz (fl i) (d i) [] hF z4 z2 srt_nil m hl.nm hl.pw (fun x hx y _ => hl.nt x hx y.1) (fun _ _ => rfl) with ⟨o, n', q⟩ | ⟨o, l1, l2, q2, q⟩
    · rw [q]
      dsimp only
      rw [if_neg (by decide), if_pos rfl]
      refine forD_fin z fl k hL n (i + 1) n' _ (by omega) (fun j hj => ?_) (fun j hj => ?_) (fun j hj hj2 => ?_)
      · by_cases e : j = i
        · subst e; rw [upd_same]; exact ⟨z1, z2, z3, z4, putF_srt _ srt_nil⟩
        · rw [upd_ne _ _ e]; exact hN j hj
      · by_cases e : j = i
        · subst e; rw [upd_same]
        · rw [upd_ne _ _ e]; exact h1 j (by omega)
      · rw [upd_ne _ _ (by omega)]; exact h2 j (by omega) hj2
    · rw [q]
      dsimp only
      rw [if_pos rfl]
      refine .inr ⟨_, _, rfl, fun j hj => ?_⟩
      by_cases e : j = i
      · subst e; rw [upd_same]; exact ⟨⟨z1, z2, z3, z4, stF_srt _ (putF_srt _ srt_nil)⟩, l1, l2, q2, rfl⟩
      · rw [upd_ne _ _ e]
        refine ⟨hN j hj, ?_⟩
        by_cases hj2 : j < i
        · rw [h1 j hj2]; exact mid_put _
        · rw [h2 j (by omega) hj]; exact mid_st _
theorem cntW_all : ∀ k, cntW (fun _ => true) k = k
  | 0 => rfl
  | k + 1 => by unfold cntW; rw [cntW_all k]; rfl
theorem delD_none (fl : Nat → List Fl) : ∀ (m i n : Nat) (X : FS), delD (unsN fl fun _ => false) m i n X = (false, n, X)
  | 0, _, _, _ => rfl
  | m + 1, i, n, X => by
    unfold delD
    have e : unsN fl (fun _ => false) i (X.d i) X.f = (0, []) := rfl
    have e2 : delL [] (X.d i) X.f n = (false, n, X.d i, X.f) := rfl
    rw [e]
    dsimp only
    rw [if_neg (by decide), e2]
    dsimp only
    rw [if_neg (by simp), upd_id]
    exact delD_none fl m (i + 1) n X
/-- A fuse stops a Commit of all: either nothing has its name, or all is there, under its name or staged. -/
theorem com_fz (z : Nat) (fl : Nat → List Fl) (k : Nat) (hL : ∀ i, i < k → Ly z (fl i)) (d : Nat → Pd) (m : Nat) (hN : ∀ j, j < k → Nw z (d j)) (h0 : ∀ j, j < k → (d j).F = []) (h8 : ∀ i, i < k → (fl i).length ≤ 8) (hB : ∀ i, i < k → Bnd 100 100 (d i)) :
    ∃ e wl d' f, com fl k (k : Int) ⟨d, some (m, false)⟩ = (e, wl, ⟨d', f⟩) ∧ (∀ j, j < k → Nw z (d' j) ∧ Bnd 1000 1000 (d' j)) ∧ ((e = 11 ∧ ∀ j, j < k → AllT (d' j).F) ∨ (e = 11 ∧ ∀ j, j < k → Mid2 (fl j) (d' j).F) ∨ (e = 0 ∧ ∀ j, j < k → (d' j).F = (fl j).foldl putF [])) := by
  have hB1 := forD_bnd (a := 100) (b := 100) bnd_stg fl k h8 k 0 (fun _ => true) ⟨d, some (m, false)⟩ (by omega) (fun j hj => by simpa using hB j hj)
  unfold com
  rcases forD_stg z fl k hL k 0 m d (by omega) hN (fun j hj => by omega) (fun j _ hj => h0 j hj) with ⟨d1, m1, q, q1⟩ | ⟨d1, wl, q, q1⟩
  · rw [q] at hB1 ⊢
    dsimp only at hB1 ⊢
    rw [if_neg (by simp), cntW_all, if_neg (by omega)]
    have hB2 := forD_bnd (a := 116) (b := 116) bnd_fin fl k h8 k 0 (fun _ => true) ⟨d1, some (m1, false)⟩ (by omega) (fun j hj => by simpa using hB1 j hj)
    rcases forD_fin z fl k hL k 0 m1 d1 (by omega) (fun j hj => (q1 j hj).1) (fun j hj => by omega) (fun j _ hj => (q1 j hj).2) with ⟨d2, m2, r, r1⟩ | ⟨d2, wl, r, r1⟩
    · rw [r] at hB2 ⊢
      dsimp only at hB2 ⊢
      rw [if_neg (by simp)]
      have hd := delD_none fl k 0 0 ⟨d2, some (m2, false)⟩
      simp only [Bool.not_true]
      rw [hd]
      exact ⟨_, _, _, _, rfl, fun j hj => ⟨(r1 j hj).1, (hB2 j hj).mono (by omega) (by omega)⟩, .inr (.inr ⟨rfl, fun j hj => (r1 j hj).2⟩)⟩
    · rw [r] at hB2 ⊢
      exact ⟨_, _, _, _, rfl, fun j hj => ⟨(r1 j hj).1, (hB2 j hj).mono (by omega) (by omega)⟩, .inr (.inl ⟨rfl, fun j hj => (r1 j hj).2⟩)⟩
  · rw [q] at hB1 ⊢
    exact ⟨_, _, _, _, rfl, fun j hj => ⟨(q1 j hj).1, (hB1 j hj).mono (by omega) (by omega)⟩, .inl ⟨rfl, fun j hj => (q1 j hj).2⟩⟩

/-! ### The crash, and Finish -/
/-- Nothing is loose. -/
def Firm (F : List (Nm × Fi)) : Prop := ∀ x ∈ F, x.2.2 = false
theorem Firm.put {F : List (Nm × Fi)} (h : Firm F) (s : Nm) (b : List Nat) : Firm (gput F s (b, false)) := fun x hx => by
  rcases mem_put.1 hx with rfl | hx
  · rfl
  · exact h x hx.1
theorem Mid2.firm {l : List Fl} {F : List (Nm × Fi)} (h : Mid2 l F) : Firm F := by
  obtain ⟨l1, l2, _, rfl⟩ := h
  have h1 : ∀ (l : List Fl) (F : List (Nm × Fi)), Firm F → Firm (l.foldl putF F) := fun l => by
    induction l with
    | nil => exact fun _ h => h
    | cons x r ih => exact fun F h => ih _ (h.put _ _)
  have h2 : ∀ (l : List Fl) (F : List (Nm × Fi)), Firm F → Firm (l.foldl stF F) := fun l => by
    induction l with
    | nil => exact fun _ h => h
    | cons x r ih => exact fun F h => ih _ (h.put _ _)
  exact h2 _ _ (h1 _ _ (fun x hx => absurd hx (by simp)))
theorem Firm.crash {F : List (Nm × Fi)} (h : Firm F) (ks : List Bool) : crashI F ks (looseN F).length = F := by
  have : looseN F = [] := by
    unfold looseN namesOf
    rw [List.filter_eq_nil_iff.2 (fun x hx => by simp [h x hx])]
    rfl
  rw [this]
  exact crashI_zero F ks
theorem AllT.crash {F : List (Nm × Fi)} (h : AllT F) (ks : List Bool) (i : Nat) : AllT (crashI F ks i) := fun x hx => by
  obtain ⟨l, hl⟩ := crashI_sub F ks i x hx
  exact h (x.1, (x.2.1, l)) hl
theorem AllT.none {F : List (Nm × Fi)} (h : AllT F) {s : Nm} (hs : ∀ y, s ≠ tmpN y) : gget F s = none := gget_none.2 fun p hp e => by
  obtain ⟨y, hy⟩ := h p hp
  exact hs y (e.symm.trans hy)
theorem finL_mid (z : Nat) : ∀ (l2 l1 : List Fl) (d : Pd) (_ : Nw z d) (_ : Ly z (l1 ++ l2)) (_ : d.F = l2.foldl stF (l1.foldl putF [])), ∃ o, finL (l2.map (·.1)) d none = (0, ⟨d.size, o, d.offl, d.full, d.out, l2.foldl putF (l1.foldl putF [])⟩, none)
  | [], l1, d, _, _, hd => ⟨d.ops, by simp only [List.foldl_nil] at hd ⊢; show (0, d, none) = _; rw [← hd]⟩
  | x :: r, l1, d, hN, hL, hd => by
    obtain ⟨z1, z2, z3, z4, z5⟩ := hN
    have hx : x ∈ l1 ++ x :: r := by simp
    obtain ⟨k1, k2⟩ := hL.nm x hx
    have hs : Srt (l1.foldl putF []) := putF_srt _ srt_nil
    have hpw := (List.pairwise_append.1 hL.pw).2.1
    rw [List.pairwise_cons] at hpw
    have hne : ∀ y ∈ r, tmpN y.1 ≠ tmpN x.1 := fun y hy e => hpw.1 y hy (tmp_inj e).symm
    have hne2 : ∀ y ∈ r, tmpN y.1 ≠ x.1 := fun y hy e => hL.nt x hx y.1 e.symm
    simp only [List.foldl_cons] at hd
    have hn0 : gget (l1.foldl putF []) (tmpN x.1) = none := by
      rw [putF_get l1 srt_nil (fun y hy => hL.nt y (by simp [hy]) x.1)]
      rfl
    have hg : gget d.F (tmpN x.1) = some (x.2, false) := by
      rw [hd, stF_get r (stS hs x) hne]
      unfold stF
      rw [gget_put hs, if_pos rfl]
    have hF : gput (gdel d.F (tmpN x.1)) x.1 (x.2, false) = r.foldl stF ((l1 ++ [x]).foldl putF []) := by
      rw [hd, stF_del r (stS hs x) hne]
      have : gdel (stF (l1.foldl putF []) x) (tmpN x.1) = l1.foldl putF [] := by unfold stF; rw [gdel_put_same hs, gdel_id hn0]
      rw [this, stF_put r hs _ hne2, List.foldl_append]
      rfl
    have h1 : d.rename none (tmpN x.1) x.1 = (0, ⟨d.size, d.ops + 1, d.offl, d.full, d.out, r.foldl stF ((l1 ++ [x]).foldl putF [])⟩, none) := by
      unfold Pd.rename
      rw [ans_on0 z4 z2 (by simp [k1, k2])]
      simp only [ne_eq, not_true, if_false]
      rw [hg, ← hF]
      rfl
    simp only [List.map_cons]
    rw [finL_go (by rw [h1]; exact .inl rfl), h1]
    obtain ⟨o, h2⟩ := finL_mid z r (l1 ++ [x]) ⟨d.size, d.ops + 1, d.offl, d.full, d.out, r.foldl stF ((l1 ++ [x]).foldl putF [])⟩ ⟨z1, z2, z3, z4, stF_srt _ (putF_srt _ srt_nil)⟩ (by rw [List.append_assoc]; exact hL) rfl
    refine ⟨o, h2.trans ?_⟩
    rw [List.foldl_append]
    rfl
/-- Those that have their names are passed by. -/
theorem finL_past (z : Nat) (l2 : List Fl) : ∀ (l0 l1 : List Fl) (d : Pd) (_ : Nw z d) (_ : Ly z (l0 ++ l1 ++ l2)) (_ : d.F = l2.foldl stF ((l0 ++ l1).foldl putF [])), finL ((l1 ++ l2).map (·.1)) d none = finL (l2.map (·.1)) d none
  | _, [], _, _, _, _ => rfl
  | l0, x :: r, d, hN, hL, hd => by
    have hx : x ∈ l0 ++ (x :: r) ++ l2 := by simp
    obtain ⟨k1, k2⟩ := hL.nm x hx
    obtain ⟨z1, z2, z3, z4, z5⟩ := hN
    have hpw := (List.pairwise_append.1 hL.pw).2.2
    have hg : gget d.F (tmpN x.1) = none := by
      rw [hd, stF_get l2 (putF_srt _ srt_nil) (fun y hy e => hpw x (by simp) y hy (tmp_inj e).symm), putF_get (l0 ++ (x :: r)) srt_nil (fun y hy => hL.nt y (List.mem_append_left _ hy) x.1)]
      rfl
    have h1 : d.rename none (tmpN x.1) x.1 = (6, d, none) := by
      unfold Pd.rename
      rw [ans_on0 z4 z2 (by simp [k1, k2])]
      simp only [ne_eq, not_true, if_false]
      rw [hg]
    simp only [List.cons_append, List.map_cons]
    rw [finL_go (by rw [h1]; exact .inr rfl), h1]
    exact finL_past z l2 (l0 ++ [x]) r d ⟨z1, z2, z3, z4, z5⟩ (by simpa using hL) (by simpa using hd)
theorem finR_mid {z : Nat} {l : List Fl} {d : Pd} (hN : Nw z d) (hL : Ly z l) (h : Mid2 l d.F) (hk : ckN (l.map (·.1)) = 0) : ∃ o, finR (l.map (·.1)) d none = (0, ⟨d.size, o, d.offl, d.full, d.out, l.foldl putF []⟩, none) := by
  obtain ⟨l1, l2, rfl, h2⟩ := h
  obtain ⟨o, h3⟩ := finL_mid z l2 l1 d hN hL h2
  refine ⟨o, ?_⟩
  unfold finR
  rw [if_neg (by omega), finL_past z l2 [] l1 d hN (by simpa using hL) (by simpa using h2), h3, List.foldl_append]
end Go.Proofs.YtklchjfkkbpipaaGreatDoor

/- FanStops: what its walk carries. -/
namespace Go.Proofs.YtklchjfkkbpipaaGreatDoor
open Go Go.RowKit Go.Shelf

theorem ly_fil {x : FilV} (h : x.lg = false) : Ly 5000 x.fl :=
  ⟨fun y hy => ⟨(nm_ok (x.fl_nm hy)).1, (nm_ok (x.fl_nm hy)).2.1⟩, x.fl_pw, fun y hy z e => by
    have h1 := (nm_ok (x.fl_nm hy)).2.2
    have h2 := tmp_long z
    rw [e] at h1; omega, by have := x.fl_sum h; omega⟩
/-- Drives, the list of them, and the files. -/
structure StB (w wr : World) (T : Nat → Prop) (n : Nat) (p : Nat → Nat) (lv : Value) (fv : FsV) (d : Nat → Pd) (f : Fs) (c : Nat) : Prop where
  fa : FA w wr T n p d f c
  ls : LsAt wr T lv n p
  fo : fv.ok wr T
section
variable {w wr w' : World} {T T' : Nat → Prop} {n : Nat} {p : Nat → Nat} {lv : Value} {fv : FsV} {d d' : Nat → Pd} {f f' : Fs} {c c' : Nat}
theorem StB.below (h : StB w wr T n p lv fv d f c) (hb : Below wr.heap.size wr w') : StB w w' T n p lv fv d f c :=
  ⟨h.fa.below hb, h.ls.keep (fun b hb' _ => hb.block b hb') (fun _ _ h => h), h.fo.keep (fun b hb' _ => hb.block b hb') (fun _ _ h => h)⟩
theorem StB.step (h : StB w wr T n p lv fv d f c) (hg : Grows wr T T') (hf : FA w w' T' n p d' f' c') (ho : Only T wr w') : StB w w' T' n p lv fv d' f' c' :=
  ⟨hf, h.ls.keep (fun b hb hn => ho.block b hb hn) (fun b hb ht => (hg.2 b ht).elim id (fun hl => by omega)), h.fo.keep (fun b hb hn => ho.block b hb hn) (fun b hb ht => (hg.2 b ht).elim id (fun hl => by omega))⟩
theorem StB.cells {bl cl gf cf : Nat} {rows : List RowV} (h : StB w wr T n p (.slice (some ⟨bl, 0, none⟩) n cl) ⟨some ⟨gf, 0, none⟩, cf, rows⟩ d f c) (hr : rows.length = n) {j : Nat} (hj : j < n) : wr.cell? ⟨bl, j, none⟩ = some (ptr (p j)) ∧ wr.cell? ⟨gf, j, none⟩ = some (.slice (rows.getD j default).po (rows.getD j default).l.length (rows.getD j default).c) ∧ (rows.getD j default).ok wr T := by
  refine ⟨(ls_nt h.ls rfl).2.2.2 j hj, ?_, h.fo.el (rows.getD j default) (by show rows.getD j default ∈ rows; rw [getD_in _ _ _ (by omega)]; exact List.getElem_mem _)⟩
  rcases h.fo.at_ with h0 | ⟨b, o, e, f2, f3⟩
  · have h0' : rows = [] := h0
    rw [h0'] at hr; simp at hr; omega
  · cases e
    have f4 := f3 j (by show j < rows.length; omega)
    rw [Nat.zero_add] at f4
    exact f4
/-- A name of a file of a row. -/
theorem RowV.ok.cell {po : Option Addr} {cc : Nat} {l : List FlV} (h : RowV.ok wr T ⟨po, cc, l⟩) {k : Nat} (hk : k < l.length) : ∃ b o, po = some ⟨b, o, none⟩ ∧ wr.cell? ⟨b, o + k * 2, none⟩ = some (sv (l.getD k default).nm) := by
  rcases h.at_ with h0 | ⟨b, o, h1, _, h3⟩
  · have h0' : l = [] := h0
    rw [h0'] at hk; exact absurd hk (Nat.not_lt_zero _)
  · exact ⟨b, o, h1, (h3 k hk).1⟩
end
theorem IsKs.kat {w : World} {po : Option Addr} {n c : Nat} {ks : List Bool} (h : IsKs w (.slice po n c) ks) {W : World} {T : Nat → Prop} (hb : Below w.heap.size w W) (hT : ∀ b, T b → w.heap.size ≤ b) : KAt W T po ks := by
  obtain ⟨po', c', e, _, h1⟩ := h
  cases e
  rcases h1 with h1 | ⟨b, o, rfl, _, h1⟩
  · exact .inl h1
  · by_cases h0 : ks = []
    · exact .inl h0
    · have hlt := cell_lt2 (h1 0 (List.length_pos_iff.2 h0))
      exact .inr ⟨b, o, rfl, fun ht => by have := hT b ht; omega, fun i hi => (World.cell?_of_block (a := ⟨b, o + i, none⟩) (hb.block b hlt)).trans (h1 i hi)⟩
/-- A row that is too large is gathered, too: then all is over. -/
theorem GaB.pushB {w wr : World} {T : Nat → Prop} {n : Nat} {p : Nat → Nat} {lv v : Value} {d : Nat → Pd} {rows : List RowV} (h : GaB w wr T n p lv d v rows) (r : RowV) (hn : rows.length ≤ 1000) :
    ∃ v' w', (Builtin.append_ #[31, 31] 31 #[v, .slice (some ⟨wr.heap.size, 0, none⟩) 1 1]).run Tryz.prog (wr.alloc (.cells #[r.v] 63)) = .ok v' w' ∧ Below w.heap.size w w' := by
  obtain ⟨v', w', hrun, h1, h2, h3, _⟩ := own_push (T := 31) Tryz.underlying31 Tryz.infoFr rfl (by decide) h.ow #[r.v] rfl (by simp [Value.oneCell']) (by omega) (by decide) h.fa.be.size
  exact ⟨v', w', hrun, h2.be h.fa.be (fun b hv => (own_ge h.ow b hv).1)⟩
/-- The first j have crashed. -/
def crD (d : Nat → Pd) (ks : List Bool) (j : Nat) : Nat → Pd := fun i => if i < j then (d i).crash ks else d i
theorem crD_zero (d : Nat → Pd) (ks : List Bool) : crD d ks 0 = d := by funext i; simp [crD]
theorem crD_at (d : Nat → Pd) (ks : List Bool) (j : Nat) : crD d ks j j = d j := by unfold crD; rw [if_neg (by omega)]
theorem crD_done (d : Nat → Pd) (ks : List Bool) {j i : Nat} (h : i < j) : crD d ks j i = (d i).crash ks := by unfold crD; rw [if_pos h]
theorem crD_next (d : Nat → Pd) (ks : List Bool) (j : Nat) : upd (crD d ks j) j ((crD d ks j j).crash ks) = crD d ks (j + 1) := by
  funext i
  rw [crD_at]
  unfold upd crD
  by_cases e : i = j
  · subst e; rw [if_pos rfl, if_pos (by omega)]
  · rw [if_neg e]
    by_cases h : i < j
    · rw [if_pos h, if_pos (by omega)]
    · rw [if_neg h, if_neg (by omega)]
theorem StB.crash {w wr : World} {T : Nat → Prop} {n : Nat} {p : Nat → Nat} {lv : Value} {fv : FsV} {d : Nat → Pd} {f : Fs} {j : Nat} (h : StB w wr T n p lv fv d f j) (hj : j < n) (po : Option Addr) (cc : Nat) (ks : List Bool) (hk : KAt wr T po ks) (hkn : ks.length ≤ 1000000000) (hl : (d j).F.length < 1000000000000) :
    Calls Tryz.prog 31 #[ptr (p j), .slice po ks.length cc] wr fun e W' => e = .returned (.int .i64 0) ∧ ∃ T', StB w W' T' n p lv fv (upd d j ((d j).crash ks)) f (j + 1) := by
  refine (h.fa.crash hj po cc ks hk hkn hl).mono ?_
  rintro e W' ⟨rfl, T', hg, hf, ho, _⟩
  exact ⟨rfl, T', h.step hg hf ho⟩
theorem nw_fresh : Nw 5000 (fresh 5000) := ⟨rfl, rfl, rfl, rfl, List.Pairwise.nil⟩
theorem nw_crash {z : Nat} {d : Pd} (h : Nw z d) (ks : List Bool) : Nw z (d.crash ks) := ⟨h.1, h.2.1, h.2.2.1, rfl, srt_crash h.2.2.2.2 ks _⟩
theorem bnd_crash {a b : Nat} {d : Pd} (h : Bnd a b d) (ks : List Bool) : Bnd a b (d.crash ks) := ⟨Nat.le_trans (crash_len _ _ _) h.1, h.2⟩
/-- Reading a name of a drive on which all is staged. -/
theorem read_no {d : Pd} (h : Nw 5000 d) (ha : AllT d.F) {s : Nm} (hs : s = [97] ∨ s = [98] ∨ s = [99]) : d.readE none s = 6 := by
  unfold Pd.readE
  rw [ans_on0 h.2.2.2.1 h.2.1 (by simp [(nm_ok hs).1])]
  simp only [ne_eq, not_true, if_false]
  rw [ha.none (fun y e => by
    have h1 := (nm_ok hs).2.2
    have h2 := tmp_long y
    rw [e] at h1; omega)]
theorem read_yes {d : Pd} (h : Nw 5000 d) {l : List Fl} (hl : Ly 5000 l) (hF : d.F = l.foldl putF []) {x : Fl} (hx : x ∈ l) : d.readE none x.1 = 0 :=
  (readE_one h.2.2.2.1 h.2.1 (hl.nm x hx).1 (by rw [hF]; exact putF_in l srt_nil hl.pw hx)).1
/-- What is left when the call is over: all as the document says, or nothing. -/
structure Aft (l : List FilV) (e : Nat) (ph : Bool) (d : Nat → Pd) : Prop where
  nw : ∀ j, j < l.length → Nw 5000 (d j) ∧ Bnd 1000 1000 (d j)
  pa : ph = false → ∀ j, j < l.length → AllT (d j).F
  pm : ph = true → ∀ j, j < l.length → Mid2 (flF l j) (d j).F
  pc : e = 0 → ∀ j, j < l.length → (d j).F = (flF l j).foldl putF []
theorem Aft.crash {l : List FilV} {e : Nat} {ph : Bool} {d : Nat → Pd} (h : Aft l e ph d) (ks : List Bool) : Aft l e ph (fun j => (d j).crash ks) :=
  ⟨fun j hj => ⟨nw_crash (h.nw j hj).1 ks, bnd_crash (h.nw j hj).2 ks⟩, fun hp j hj => (h.pa hp j hj).crash ks _, fun hp j hj => by
    show Mid2 _ (crashI (d j).F ks _)
    rw [(h.pm hp j hj).firm.crash]
    exact h.pm hp j hj, fun he j hj => by
    show crashI (d j).F ks _ = _
    have hm : Mid2 (flF l j) (d j).F := by rw [h.pc he j hj]; exact mid_put _
    rw [hm.firm.crash, h.pc he j hj]⟩
theorem aft_com {l : List FilV} (hg : ∀ j (h : j < l.length), l[j].lg = false) (m : Nat) : ∃ e wl d' f ph, com (flF l) l.length (l.length : Int) ⟨fun _ => fresh 5000, some (m, false)⟩ = (e, wl, ⟨d', f⟩) ∧ (e = 11 ∨ e = 0) ∧ (e = 0 → ph = true) ∧ Aft l e ph d' := by
  obtain ⟨e, wl, d', f, hc, hN, hp⟩ := com_fz 5000 (flF l) l.length (fun i hi => by rw [flF_in hi]; exact ly_fil (hg i hi)) (fun _ => fresh 5000) m (fun _ _ => nw_fresh) (fun _ _ => rfl) (fun i hi => by rw [flF_in hi]; have := (l[i]).fl_len; omega) (fun _ _ => ⟨Nat.zero_le _, Nat.zero_le _⟩)
  rcases hp with ⟨rfl, h⟩ | ⟨rfl, h⟩ | ⟨rfl, h⟩
  · exact ⟨11, wl, d', f, false, hc, .inl rfl, (fun h => by cases h), hN, fun _ => h, (fun h => by cases h), (fun h => by cases h)⟩
  · exact ⟨11, wl, d', f, true, hc, .inl rfl, (fun h => by cases h), hN, (fun h => by cases h), fun _ => h, (fun h => by cases h)⟩
  · exact ⟨0, wl, d', f, true, hc, .inr rfl, fun _ => rfl, hN, (fun h => by cases h), fun _ j hj => by rw [h j hj]; exact mid_put _, fun _ => h⟩
/-- Behind Finish a drive has just its files. -/
theorem hld_fin {x : FilV} {d : Pd} (h : Nw 5000 d) (o : Nat) : Hld (fresh 5000) ⟨d.size, o, d.offl, d.full, d.out, x.fl.foldl putF []⟩ none none x.fl :=
  hld_of (F := []) rfl rfl rfl h.2.2.2.1 rfl h.2.1 srt_nil (fun y hy => absurd hy (by simp)) (fun y hy => (nm_ok (x.fl_nm hy)).1) x.fl_pw (by simp)
theorem ckN_fil (x : FilV) : ckN (x.fl.map (·.1)) = 0 := by
  unfold ckN
  rw [if_neg (by have := x.fl_len; simp; omega), if_pos]
  rw [List.all_eq_true]
  intro s hs
  obtain ⟨y, hy, rfl⟩ := List.mem_map.1 hs
  exact (nm_ok (x.fl_nm hy)).1
/-- Names gathered, all made since W. -/
structure NaB (W wr : World) (v : Value) (ns : List Nm) : Prop where
  tx : TxtL W.heap.size wr v ns
  be : Below W.heap.size W wr
theorem NaB.push {W wr : World} {v : Value} {ns : List Nm} (h : NaB W wr v ns) (hn : ns.length ≤ 1000) (s : Nm) :
    ∃ v' w', (Builtin.append_ #[32, 32] 32 #[v, .slice (some ⟨wr.heap.size, 0, none⟩) 1 1]).run Tryz.prog (wr.alloc (.cells #[sv s] 9)) = .ok v' w' ∧ NaB W w' v' (ns ++ [s]) := by
  obtain ⟨v', w', hrun, h1, h2, h3, _⟩ := own_push (T := 32) Tryz.underlying32 Tryz.info9 rfl (by decide) h.tx #[sv s] rfl (by simp [Value.oneCell', sv]) (by omega) (by decide) h.be.size
  refine ⟨v', w', hrun, ?_, ⟨h2.os.trans h.be.os, h2.tape.trans h.be.tape, h2.output.trans h.be.output, Nat.le_trans h.be.size h2.size, fun b hb' => (h2.block b (Nat.lt_of_lt_of_le hb' h.be.size) (fun hv => by have := (own_ge h.tx b hv).1; omega)).trans (h.be.block b hb')⟩⟩
  unfold TxtL
  rw [List.map_append, List.length_append]
  exact h1
theorem see_new {w2 : World} {S : Nat → Prop} {q n : Nat} (hd : DrAt w2 S q none (fresh n)) : See w2 q (fresh n) none := by
  obtain ⟨m, L, hd⟩ := hd
  exact ⟨fun _ hb s hs => read_any (hd.below hb) (f := none) trivial s hs, fun _ hb => lnm_any (list_any (hd.below hb) (f := none) trivial [] (by simp [fresh]))⟩
end Go.Proofs.YtklchjfkkbpipaaGreatDoor
