/- Texts laid into one, cut to what is needed: the remark ahead of each part says what is proved there. -/
import Derived.Test.YtelkijiphhoacaaDoorLaa
/- Journals as bytes: mathematics alone. D: the digest, of which nothing is asked but its length. -/
namespace Go.Proofs.YtelkijiphhoacaaDoor

structure Jr where
  seq : Int
  recs : List Rc
  deriving DecidableEq
def okJ (j : Jr) : Bool := inR j.seq 1 1099511627776 && decide (j.recs.length ≤ 64) && j.recs.all okRc && decide ((j.recs.map Rc.id).Nodup)
def rsB (l : List Rc) : List Nat := (l.map rcB).flatten
def jBody (j : Jr) : List Nat := [83, 74, 49] ++ ib j.seq ++ nb j.recs.length ++ rsB j.recs
def jB (D : List Nat → List Nat) (j : Jr) : List Nat := jBody j ++ D (jBody j)
def rdRs : Nat → List Nat → Option (List Rc × List Nat)
  | 0, b => some ([], b)
  | n + 1, b => do
    let (r, b) ← rdR b
    let (l, b) ← rdRs n b
    return (r :: l, b)
def rdMid (b : List Nat) : Option Jr := do
  let (s, b) ← rdU b
  let (n, b) ← rdU b
  if 64 < n then none else
  let (l, b) ← rdRs n b
  if b = [] then some ⟨s, l⟩ else none
/-- The error's number, and the journal. -/
def rdJ (D : List Nat → List Nat) (b : List Nat) : Nat × Option Jr :=
  if b.length < 35 ∨ b.take 3 ≠ [83, 74, 49] then (4, none) else
  if D (b.take (b.length - 32)) ≠ b.drop (b.length - 32) then (14, none) else
  match rdMid ((b.take (b.length - 32)).drop 3) with
  | some j => if okJ j then (0, some j) else (4, none)
  | none => (4, none)
theorem rdRs_rsB : ∀ (l : List Rc) (t : List Nat), l.all okRc = true → rdRs l.length (rsB l ++ t) = some (l, t)
  | [], t, _ => by simp [rdRs, rsB]
  | r :: l, t, h => by
    simp only [List.all_cons, Bool.and_eq_true] at h
    have e : rsB (r :: l) ++ t = rcB r ++ (rsB l ++ t) := by simp [rsB]
    rw [e]
    show rdRs (l.length + 1) _ = _
    unfold rdRs
    rw [rdR_rcB _ h.1]
    simp only [Option.bind_eq_bind, Option.bind_some]
    rw [rdRs_rsB l t h.2]
    rfl
theorem rdRs_some : ∀ {n : Nat} {b c : List Nat} {l : List Rc}, (∀ z ∈ b, z < 256) → rdRs n b = some (l, c) → b = rsB l ++ c ∧ l.length = n ∧ l.all okRc = true
  | 0, b, c, l, _, h => by simp [rdRs] at h; obtain ⟨rfl, rfl⟩ := h; simp [rsB]
  | n + 1, b, c, l, hb, h => by
    unfold rdRs at h
    cases h1 : rdR b with
    | none => rw [h1] at h; cases h
    | some p =>
      obtain ⟨r, b1⟩ := p
      rw [h1] at h
      simp only [Option.bind_eq_bind, Option.bind_some] at h
      obtain ⟨k1, e1⟩ := rdR_some hb h1
      subst e1
      cases h2 : rdRs n b1 with
      | none => rw [h2] at h; cases h
      | some p =>
        obtain ⟨l', b2⟩ := p
        rw [h2] at h
        simp only [Option.bind_some, Option.pure_def, Option.some.injEq, Prod.mk.injEq] at h
        obtain ⟨rfl, rfl⟩ := h
        obtain ⟨e2, k2, k3⟩ := rdRs_some (sub256 hb).2 h2
        exact ⟨by rw [e2]; simp [rsB], by simp [k2], by simp [k1, k3]⟩
theorem okJ_parts {j : Jr} (h : okJ j = true) : 1 ≤ j.seq ∧ j.seq ≤ 1099511627776 ∧ j.recs.length ≤ 64 ∧ j.recs.all okRc = true ∧ (j.recs.map Rc.id).Nodup := by
  simp only [okJ, Bool.and_eq_true, decide_eq_true_eq, inR_iff] at h
  exact ⟨h.1.1.1.1, h.1.1.1.2, h.1.1.2, h.1.2, h.2⟩
theorem rdMid_body {j : Jr} (h : okJ j = true) : rdMid ((jBody j).drop 3) = some j := by
  obtain ⟨h1, h2, h3, h4, _⟩ := okJ_parts h
  have e : (jBody j).drop 3 = ib j.seq ++ (nb j.recs.length ++ (rsB j.recs ++ [])) := by simp [jBody]
  rw [e]
  unfold rdMid ib
  rw [rdU_nb _ (by omega)]
  simp only [Option.bind_eq_bind, Option.bind_some]
  rw [rdU_nb _ (by omega)]
  simp only [Option.bind_some]
  rw [if_neg (by omega), rdRs_rsB _ _ h4]
  simp only [Option.bind_some, if_true]
  rw [ib_toNat (by omega)]
theorem rdMid_some {b : List Nat} {j : Jr} (hb : ∀ z ∈ b, z < 256) (h : rdMid b = some j) : [83, 74, 49] ++ b = jBody j := by
  unfold rdMid at h
  cases h1 : rdU b with
  | none => rw [h1] at h; cases h
  | some p =>
  obtain ⟨s, b1⟩ := p
  rw [h1] at h; simp only [Option.bind_eq_bind, Option.bind_some] at h
  obtain ⟨e1, _⟩ := rdU_some hb h1; subst e1; have hb := (sub256 hb).2
  cases h2 : rdU b1 with
  | none => rw [h2] at h; cases h
  | some p =>
  obtain ⟨n, b2⟩ := p
  rw [h2] at h; simp only [Option.bind_some] at h
  obtain ⟨e2, _⟩ := rdU_some hb h2; subst e2; have hb := (sub256 hb).2
  by_cases hn : 64 < n
  · rw [if_pos hn] at h; cases h
  rw [if_neg hn] at h
  cases h3 : rdRs n b2 with
  | none => rw [h3] at h; cases h
  | some p =>
  obtain ⟨l, b3⟩ := p
  rw [h3] at h; simp only [Option.bind_some] at h
  obtain ⟨e3, k3, _⟩ := rdRs_some hb h3; subst e3
  by_cases h0 : b3 = []
  · rw [if_pos h0] at h
    simp only [Option.some.injEq] at h
    subst h
    subst h0
    subst k3
    simp [jBody, ib]
  · rw [if_neg h0] at h; cases h
theorem body_len (j : Jr) : 5 ≤ (jBody j).length := by
  have h1 := nb_pos j.seq.toNat
  have h2 := nb_pos j.recs.length
  simp only [jBody, ib, List.length_append, List.length_cons, List.length_nil]
  omega
section
variable {D : List Nat → List Nat}
theorem rdJ_jB (hD : ∀ b, (D b).length = 32) {j : Jr} (h : okJ j = true) : rdJ D (jB D j) = (0, some j) := by
  have hl := body_len j
  have hlen : (jB D j).length = (jBody j).length + 32 := by simp [jB, hD]
  have ht : (jB D j).take ((jB D j).length - 32) = jBody j := by rw [hlen, Nat.add_sub_cancel]; exact List.take_left
  have hd : (jB D j).drop ((jB D j).length - 32) = D (jBody j) := by rw [hlen, Nat.add_sub_cancel]; exact List.drop_left
  unfold rdJ
  rw [if_neg (by
    rintro (k | k)
    · omega
    · exact k (by simp [jB, jBody])), ht, hd, if_neg (fun k => k rfl), rdMid_body h]
  simp [h]
theorem rdJ_some {b : List Nat} {j : Jr} (hb : ∀ z ∈ b, z < 256) {e : Nat} (h : rdJ D b = (e, some j)) : e = 0 ∧ okJ j = true ∧ b = jB D j := by
  unfold rdJ at h
  by_cases h1 : b.length < 35 ∨ b.take 3 ≠ [83, 74, 49]
  · rw [if_pos h1] at h; cases h
  rw [if_neg h1] at h
  by_cases h2 : D (b.take (b.length - 32)) ≠ b.drop (b.length - 32)
  · rw [if_pos h2] at h; cases h
  rw [if_neg h2] at h
  have h1a : ¬ b.length < 35 := fun k => h1 (Or.inl k)
  have h1b : b.take 3 = [83, 74, 49] := Classical.byContradiction fun k => h1 (Or.inr k)
  have h2' : D (b.take (b.length - 32)) = b.drop (b.length - 32) := Classical.byContradiction h2
  cases h3 : rdMid ((b.take (b.length - 32)).drop 3) with
  | none => rw [h3] at h; cases h
  | some j' =>
    rw [h3] at h
    by_cases hok : okJ j' = true
    · simp only [hok, if_true, Prod.mk.injEq, Option.some.injEq] at h
      obtain ⟨rfl, rfl⟩ := h
      have hb2 : ∀ z ∈ (b.take (b.length - 32)).drop 3, z < 256 := fun z hz => hb z (List.mem_of_mem_take (List.mem_of_mem_drop hz))
      have e := rdMid_some hb2 h3
      have e2 : jBody j' = b.take (b.length - 32) := by
        rw [← e, ← h1b]
        have : b.take 3 = (b.take (b.length - 32)).take 3 := by rw [List.take_take, Nat.min_eq_left (by omega)]
        rw [this, List.take_append_drop]
      refine ⟨rfl, hok, ?_⟩
      unfold jB
      rw [e2, h2', List.take_append_drop]
    · simp [hok] at h
theorem jB_inj (hD : ∀ b, (D b).length = 32) {a c : Jr} (ha : okJ a = true) (hc : okJ c = true) (h : jB D a = jB D c) : a = c := by
  have h1 := rdJ_jB hD ha
  rw [h, rdJ_jB hD hc] at h1
  simp only [Prod.mk.injEq, Option.some.injEq, true_and] at h1
  exact h1.symm
end
end Go.Proofs.YtelkijiphhoacaaDoor

/- Journals: what is added, removed, found. Mathematics alone. -/
namespace Go.Proofs.YtelkijiphhoacaaDoor

/-- The place of a record. -/
def atI : List Rc → List Nat → Option Nat
  | [], _ => none
  | r :: l, id => if r.id = id then some 0 else (atI l id).map (· + 1)
theorem okJ_mk {s : Int} {l : List Rc} (h1 : 1 ≤ s) (h2 : s ≤ 1099511627776) (h3 : l.length ≤ 64) (h4 : l.all okRc = true) (h5 : (l.map Rc.id).Nodup) : okJ ⟨s, l⟩ = true := by
  simp only [okJ, Bool.and_eq_true, decide_eq_true_eq, inR_iff]
  exact ⟨⟨⟨⟨h1, h2⟩, h3⟩, h4⟩, h5⟩
theorem atI_none : ∀ {l : List Rc} {id : List Nat}, atI l id = none ↔ id ∉ l.map Rc.id
  | [], id => by simp [atI]
  | r :: l, id => by
    by_cases h : r.id = id
    · simp [atI, h]
    · rw [atI, if_neg h, Option.map_eq_none_iff, atI_none, List.map_cons, List.mem_cons]
      exact ⟨fun h1 h2 => h2.elim (fun e => h e.symm) h1, fun h1 h2 => h1 (Or.inr h2)⟩
/-- Where no two have one ID, each is found at its place. -/
theorem atI_at : ∀ {l : List Rc}, (l.map Rc.id).Nodup → ∀ i (h : i < l.length), atI l l[i].id = some i
  | r :: l, hn, 0, _ => by simp [atI]
  | r :: l, hn, i + 1, h => by
    rw [List.map_cons, List.nodup_cons] at hn
    have hi : i < l.length := by simpa using h
    have e : (r :: l)[i + 1].id = l[i].id := rfl
    rw [e, atI, if_neg (fun e2 => hn.1 (by rw [e2]; exact List.mem_map.2 ⟨_, List.getElem_mem hi, rfl⟩)), atI_at hn.2 i hi]
    rfl
/-- .. and only there. -/
theorem nodup_of_at {l : List Rc} (h : ∀ i (hi : i < l.length), atI l l[i].id = some i) : (l.map Rc.id).Nodup := by
  rw [List.nodup_iff_pairwise_ne, List.pairwise_iff_getElem]
  intro i j hi hj hij e
  have hi' : i < l.length := by simpa using hi
  have hj' : j < l.length := by simpa using hj
  have h1 := h i hi'
  have h2 := h j hj'
  have e2 : l[i].id = l[j].id := by simpa using e
  rw [e2, h2] at h1
  cases h1
  omega
end Go.Proofs.YtelkijiphhoacaaDoor

/- Which of the drives' journals counts. Mathematics alone. -/
namespace Go.Proofs.YtelkijiphhoacaaDoor

/-- What a drive answers. -/
structure Cp where
  err : Int
  b : List Nat
section
variable (D : List Nat → List Nat)
/-- The journal that a drive has. -/
def hasJ (c : Cp) : Option Jr := if c.err = 0 then (rdJ D c.b).2 else none
def ansC (c : Cp) : Bool := decide (c.err = 0) || decide (c.err = 6)
/-- How many drives have just these bytes. -/
def votC (l : List Cp) (b : List Nat) : Nat := (l.filter fun c => decide (c.err = 0) && decide (c.b = b)).length
/-- The one that counts among those seen so far. -/
def betC (l : List Cp) (best : Option (Jr × List Nat × Nat)) (c : Cp) : Option (Jr × List Nat × Nat) := match hasJ D c with
  | none => best
  | some j => match best with
    | none => some (j, c.b, votC l c.b)
    | some (j0, b0, n0) => if j0.seq < j.seq ∨ j.seq = j0.seq ∧ n0 < votC l c.b then some (j, c.b, votC l c.b) else some (j0, b0, n0)
def elC (l : List Cp) : Option (Jr × List Nat × Nat) := l.foldl (betC D l) none
/-- 'As good as, or less than'. -/
def leC (x y : Int × Nat) : Prop := x.1 < y.1 ∨ x.1 = y.1 ∧ x.2 ≤ y.2
theorem leC.refl (x : Int × Nat) : leC x x := Or.inr ⟨rfl, Nat.le_refl _⟩
theorem leC.trans {x y z : Int × Nat} (h : leC x y) (k : leC y z) : leC x z := by
  unfold leC at *
  omega
variable {D}
/-- What the best one is, of a list's beginning. -/
theorem bet_inv (l : List Cp) : ∀ (m : List Cp) (o : Option (Jr × List Nat × Nat)), (∀ c ∈ m, c ∈ l) →
    (∀ j b n, o = some (j, b, n) → n = votC l b ∧ ∃ c ∈ l, hasJ D c = some j ∧ c.b = b) →
    (∀ j b n, m.foldl (betC D l) o = some (j, b, n) → n = votC l b ∧ ∃ c ∈ l, hasJ D c = some j ∧ c.b = b) ∧
    (∀ j b n, o = some (j, b, n) → ∃ j' b' n', m.foldl (betC D l) o = some (j', b', n') ∧ leC (j.seq, n) (j'.seq, n')) ∧
    (∀ c ∈ m, ∀ j, hasJ D c = some j → ∃ j' b' n', m.foldl (betC D l) o = some (j', b', n') ∧ leC (j.seq, votC l c.b) (j'.seq, n')) := by
  intro m
  induction m with
  | nil => exact fun o _ ho => ⟨ho, fun j b n e => ⟨j, b, n, e, leC.refl _⟩, fun c hc => by cases hc⟩
  | cons c m ih =>
    intro o hm ho
    have hcl := hm c (by simp)
    have step : (∀ j b n, betC D l o c = some (j, b, n) → n = votC l b ∧ ∃ c ∈ l, hasJ D c = some j ∧ c.b = b) ∧
        (∀ j b n, o = some (j, b, n) → ∃ j' b' n', betC D l o c = some (j', b', n') ∧ leC (j.seq, n) (j'.seq, n')) ∧
        (∀ j, hasJ D c = some j → ∃ j' b' n', betC D l o c = some (j', b', n') ∧ leC (j.seq, votC l c.b) (j'.seq, n')) := by
      unfold betC
      cases hj : hasJ D c with
      | none => exact ⟨ho, fun j b n e => ⟨j, b, n, e, leC.refl _⟩, fun j e => by cases e⟩
      | some j1 =>
        cases o with
        | none => exact ⟨fun j b n e => by cases e; exact ⟨rfl, c, hcl, hj, rfl⟩, fun j b n e => (by cases e), fun j e => by cases e; exact ⟨_, _, _, rfl, leC.refl _⟩⟩
        | some q =>
          obtain ⟨j0, b0, n0⟩ := q
          simp only
          by_cases hb : j0.seq < j1.seq ∨ j1.seq = j0.seq ∧ n0 < votC l c.b
          · rw [if_pos hb]
            exact ⟨fun j b n e => by cases e; exact ⟨rfl, c, hcl, hj, rfl⟩, fun j b n e => by cases e; exact ⟨_, _, _, rfl, by unfold leC; simp only; omega⟩, fun j e => by cases e; exact ⟨_, _, _, rfl, leC.refl _⟩⟩
          · rw [if_neg hb]
            exact ⟨ho, fun j b n e => ⟨j, b, n, e, leC.refl _⟩, fun j e => by cases e; exact ⟨_, _, _, rfl, by unfold leC; simp only; omega⟩⟩
    obtain ⟨s1, s2, s3⟩ := step
    obtain ⟨i1, i2, i3⟩ := ih (betC D l o c) (fun x hx => hm x (by simp [hx])) s1
    refine ⟨i1, fun j b n e => ?_, fun x hx j e => ?_⟩
    · obtain ⟨j', b', n', e1, h1⟩ := s2 j b n e
      obtain ⟨j2, b2, n2, e2, h2⟩ := i2 j' b' n' e1
      exact ⟨j2, b2, n2, e2, h1.trans h2⟩
    · rcases List.mem_cons.1 hx with rfl | hx
      · obtain ⟨j', b', n', e1, h1⟩ := s3 j e
        obtain ⟨j2, b2, n2, e2, h2⟩ := i2 j' b' n' e1
        exact ⟨j2, b2, n2, e2, h1.trans h2⟩
      · exact i3 x hx j e
/-- What counts is had by a drive, and its votes are those that it has. -/
theorem el_mem {l : List Cp} {j : Jr} {b : List Nat} {n : Nat} (h : elC D l = some (j, b, n)) : n = votC l b ∧ ∃ c ∈ l, hasJ D c = some j ∧ c.b = b :=
  (bet_inv l l none (fun _ h => h) (fun _ _ _ e => by cases e)).1 j b n h
/-- No drive has a greater one. -/
theorem el_max {l : List Cp} {c : Cp} (hc : c ∈ l) {j : Jr} (h : hasJ D c = some j) : ∃ j' b' n', elC D l = some (j', b', n') ∧ leC (j.seq, votC l c.b) (j'.seq, n') :=
  (bet_inv l l none (fun _ h => h) (fun _ _ _ e => by cases e)).2.2 c hc j h
theorem el_none {l : List Cp} (h : elC D l = none) : ∀ c ∈ l, hasJ D c = none := fun c hc => by
  cases hj : hasJ D c with
  | none => rfl
  | some j =>
    obtain ⟨_, _, _, e, _⟩ := el_max hc hj
    rw [h] at e; cases e
theorem has_err {c : Cp} {j : Jr} (h : hasJ D c = some j) : c.err = 0 ∧ (rdJ D c.b).2 = some j := by
  unfold hasJ at h
  by_cases e : c.err = 0
  · rw [if_pos e] at h; exact ⟨e, h⟩
  · rw [if_neg e] at h; cases h
theorem vot_pos {l : List Cp} {c : Cp} (hc : c ∈ l) (he : c.err = 0) : 0 < votC l c.b := by
  unfold votC
  rw [List.length_pos_iff]
  intro e
  have : c ∈ l.filter fun x => decide (x.err = 0) && decide (x.b = c.b) := List.mem_filter.2 ⟨hc, by simp [he]⟩
  rw [e] at this
  cases this
end
end Go.Proofs.YtelkijiphhoacaaDoor

/- Which of the drives' journals counts, by the list of those that drives have, as the program goes; and what Elect and Behind tell. Mathematics alone. -/
namespace Go.Proofs.YtelkijiphhoacaaDoor

section
variable (D : List Nat → List Nat)
/-- The journals that drives have, with their bytes. -/
def allC (l : List Cp) : List (Jr × List Nat) := l.filterMap fun c => (hasJ D c).map fun j => (j, c.b)
def mxC (V : List Nat → Nat) (m x : Jr × List Nat) : Jr × List Nat := if m.1.seq < x.1.seq ∨ x.1.seq = m.1.seq ∧ V m.2 < V x.2 then x else m
def cntC (a : List (Jr × List Nat)) (b : List Nat) : Nat := (a.filter fun x => decide (x.2 = b)).length
variable {D}
theorem all_cons_none {c : Cp} {l : List Cp} (h : hasJ D c = none) : allC D (c :: l) = allC D l := by simp [allC, h]
theorem all_cons_some {c : Cp} {l : List Cp} {j : Jr} (h : hasJ D c = some j) : allC D (c :: l) = (j, c.b) :: allC D l := by simp [allC, h]
theorem all_snoc (l : List Cp) (c : Cp) : allC D (l ++ [c]) = allC D l ++ ((hasJ D c).map fun j => (j, c.b)).toList := by
  unfold allC
  rw [List.filterMap_append]
  cases h : hasJ D c <;> simp [h]
theorem all_mem {l : List Cp} {j : Jr} {b : List Nat} (h : (j, b) ∈ allC D l) : ∃ c ∈ l, hasJ D c = some j ∧ c.b = b := by
  obtain ⟨c, hc, e⟩ := List.mem_filterMap.1 h
  cases hj : hasJ D c with
  | none => rw [hj] at e; cases e
  | some j' => rw [hj] at e; cases e; exact ⟨c, hc, hj, rfl⟩
theorem fold_some (l : List Cp) : ∀ (m : List Cp) (a : Jr × List Nat), m.foldl (betC D l) (some (a.1, a.2, votC l a.2)) = some (((allC D m).foldl (mxC (votC l)) a).1, ((allC D m).foldl (mxC (votC l)) a).2, votC l ((allC D m).foldl (mxC (votC l)) a).2)
  | [], a => rfl
  | c :: m, a => by
    rw [List.foldl_cons]
    cases hj : hasJ D c with
    | none =>
      rw [all_cons_none hj, show betC D l (some (a.1, a.2, votC l a.2)) c = some (a.1, a.2, votC l a.2) by unfold betC; rw [hj]]
      exact fold_some l m a
    | some j =>
      rw [all_cons_some hj, List.foldl_cons]
      have e : betC D l (some (a.1, a.2, votC l a.2)) c = some ((mxC (votC l) a (j, c.b)).1, (mxC (votC l) a (j, c.b)).2, votC l (mxC (votC l) a (j, c.b)).2) := by
        unfold betC mxC
        rw [hj]
        simp only
        by_cases hb : a.1.seq < j.seq ∨ j.seq = a.1.seq ∧ votC l a.2 < votC l c.b
        · rw [if_pos hb, if_pos hb]
        · rw [if_neg hb, if_neg hb]
      rw [e]
      exact fold_some l m _
theorem fold_none (l : List Cp) : ∀ m : List Cp, m.foldl (betC D l) none = match allC D m with
    | [] => none
    | x :: r => some ((r.foldl (mxC (votC l)) x).1, (r.foldl (mxC (votC l)) x).2, votC l (r.foldl (mxC (votC l)) x).2)
  | [] => rfl
  | c :: m => by
    rw [List.foldl_cons]
    cases hj : hasJ D c with
    | none =>
      rw [all_cons_none hj, show betC D l none c = none by unfold betC; rw [hj]]
      exact fold_none l m
    | some j =>
      rw [all_cons_some hj, show betC D l none c = some (j, c.b, votC l c.b) by unfold betC; rw [hj]]
      exact fold_some l m (j, c.b)
/-- The one that counts is the first of the greatest among those that drives have. -/
theorem el_all (l : List Cp) : elC D l = match allC D l with
    | [] => none
    | x :: r => some ((r.foldl (mxC (votC l)) x).1, (r.foldl (mxC (votC l)) x).2, votC l (r.foldl (mxC (votC l)) x).2) := fold_none l l
theorem cnt_vot {b : List Nat} {j : Jr} (hb : (rdJ D b).2 = some j) : ∀ l : List Cp, cntC (allC D l) b = votC l b
  | [] => rfl
  | c :: l => by
    have ih := cnt_vot hb l
    unfold cntC votC at *
    cases hj : hasJ D c with
    | none =>
      rw [all_cons_none hj, ih, List.filter_cons]
      have : ¬ (decide (c.err = 0) && decide (c.b = b)) = true := by
        intro h
        simp only [Bool.and_eq_true, decide_eq_true_eq] at h
        unfold hasJ at hj
        rw [if_pos h.1, h.2, hb] at hj
        cases hj
      rw [if_neg this]
    | some j' =>
      have he := (has_err hj).1
      rw [all_cons_some hj, List.filter_cons, List.filter_cons]
      by_cases h : c.b = b
      · rw [if_pos (by simp [h]), if_pos (by simp [he, h]), List.length_cons, List.length_cons, ih]
      · rw [if_neg (by simp [h]), if_neg (by simp [h]), ih]
theorem fold_mem (V : List Nat → Nat) : ∀ (r : List (Jr × List Nat)) (x : Jr × List Nat), r.foldl (mxC V) x ∈ x :: r
  | [], x => by simp
  | y :: r, x => by
    rw [List.foldl_cons]
    have := fold_mem V r (mxC V x y)
    have h2 : mxC V x y = x ∨ mxC V x y = y := by unfold mxC; split <;> simp
    rcases List.mem_cons.1 this with h | h
    · rw [h]; rcases h2 with h2 | h2 <;> rw [h2] <;> simp
    · simp [h]
theorem mx_congr {V U : List Nat → Nat} {a : List (Jr × List Nat)} (h : ∀ y ∈ a, V y.2 = U y.2) : ∀ (r : List (Jr × List Nat)) (x : Jr × List Nat), x ∈ a → (∀ y ∈ r, y ∈ a) → r.foldl (mxC V) x = r.foldl (mxC U) x
  | [], _, _, _ => rfl
  | y :: r, x, hx, hr => by
    have e : mxC V x y = mxC U x y := by unfold mxC; rw [h x hx, h y (hr y (by simp))]
    rw [List.foldl_cons, List.foldl_cons, e]
    refine mx_congr h r _ ?_ (fun z hz => hr z (by simp [hz]))
    have h2 : mxC U x y = x ∨ mxC U x y = y := by unfold mxC; split <;> simp
    rcases h2 with h2 | h2 <;> rw [h2]
    · exact hx
    · exact hr y (by simp)
/-- .. by the counts that the program made. -/
theorem el_cnt {l : List Cp} {x : Jr × List Nat} {r : List (Jr × List Nat)} (h : allC D l = x :: r) : elC D l = some ((r.foldl (mxC (cntC (x :: r))) x).1, (r.foldl (mxC (cntC (x :: r))) x).2, cntC (x :: r) (r.foldl (mxC (cntC (x :: r))) x).2) := by
  have hv : ∀ y ∈ x :: r, cntC (x :: r) y.2 = votC l y.2 := fun y hy => by
    rw [← h] at hy ⊢
    obtain ⟨c, _, hj, hb⟩ := all_mem (j := y.1) (b := y.2) hy
    have := (has_err hj).2
    rw [hb] at this
    exact cnt_vot this l
  rw [el_all, h]
  simp only
  rw [mx_congr (a := x :: r) hv r x (by simp) (fun z hz => by simp [hz]), hv _ (fold_mem _ r x)]
theorem el_nil {l : List Cp} (h : allC D l = []) : elC D l = none := by rw [el_all, h]
end

/-- What Elect tells. -/
structure Ch where
  found : Bool
  j : Jr
  b : List Nat
  has : List Bool
  ans : Nat
  vot : Nat
def chZ : Ch := ⟨false, ⟨0, []⟩, [], [], 0, 0⟩
def ansN (l : List Cp) : Nat := (l.filter ansC).length
def hasC (b : List Nat) (c : Cp) : Bool := decide (c.err = 0) && decide (c.b = b)
def chC (D : List Nat → List Nat) (l : List Cp) : Ch := match elC D l with
  | none => ⟨false, ⟨0, []⟩, [], l.map (fun _ => false), ansN l, 0⟩
  | some (j, b, n) => ⟨true, j, b, l.map (hasC b), ansN l, n⟩
def elE (D : List Nat → List Nat) (l : List Cp) (k : Int) : Nat × Ch :=
  if 16 < l.length ∨ k < 1 ∨ (l.length : Int) < k then (2, chZ) else
  if (ansN l : Int) < k then (10, chZ) else (0, chC D l)
theorem ans_le (l : List Cp) : ansN l ≤ l.length := List.length_filter_le _ _
theorem ans_snoc (l : List Cp) (c : Cp) : ansN (l ++ [c]) = ansN l + (if ansC c then 1 else 0) := by
  unfold ansN
  rw [List.filter_append, List.length_append]
  cases h : ansC c <;> simp [h]
theorem vot_snoc (l : List Cp) (c : Cp) (b : List Nat) : votC (l ++ [c]) b = votC l b + (if hasC b c then 1 else 0) := by
  unfold votC hasC
  rw [List.filter_append, List.length_append]
  cases h : (decide (c.err = 0) && decide (c.b = b)) <;> simp only [List.filter_cons, h] <;> simp
theorem vot_le (l : List Cp) (b : List Nat) : votC l b ≤ l.length := List.length_filter_le _ _
end Go.Proofs.YtelkijiphhoacaaDoor

/- Contracts of what writes numbers and texts: clipped, fresh, appendNumber, appendText, Uint, Text of package record. -/
namespace Go.Proofs.YtelkijiphhoacaaDoor
open Go Go.RowKit

theorem wpList_append_run {P : Program} {w w' : World} {ops : Array Oper} {rest : List Oper} {o : Oper} {a : Act} {Q : Exit → Act → World → Prop} (s x : Operand) (t t2 : TypeId)
    (ho : o.op = .call { callee := .builtin .append, args := #[s, x], argTypes := #[t, t2] }) (hw : Region.wanted o (yielded ops a.tmps) = true)
    (v xv v' : Value) (hs : a.eval s = v) (hx : a.eval x = xv) (hr : (Builtin.append_ #[t, t2] o.type #[v, xv]).run P w = .ok v' w') (h : wpList P ops Q rest (a.put o.dst v') w') : wpList P ops Q (o :: rest) a w := by
  refine BigFrame.wpList_want hw fun K hK => ?_
  unfold Oper.wp execOp
  simp only [ho, resolve, invoke, builtin, Sem.run_bind, Sem.run_pure, Result.andThen_ok, List.map_toArray, List.map_cons, List.map_nil, hs, hx, hr]
  exact hK _ _ h
def BufS (B : Nat) (w : World) (L : List Nat) (e : Ending) (w' : World) : Prop := ∃ v', e = .returned v' ∧ Buf B w' v' L ∧ Below B w w'
theorem nb_le {n : Nat} (h : n ≤ 1099511627776) : (nb n).length ≤ 6 := nb_len 5 n (by omega)
theorem or128 : ∀ x : Fin 256, x.val ||| 128 = x.val % 128 + 128 := by decide +kernel
theorem or_128 (m : Nat) : bits .or .u8 ((m : Int) % 256) 128 = ((m % 128 + 128 : Nat) : Int) := by
  rw [u8_or _ _ (by omega) (by omega) (by omega) (by omega)]
  have h1 : ((m : Int) % 256).toNat = m % 256 := by omega
  have h2 := or128 ⟨m % 256, by omega⟩
  simp only at h2
  have h3 : m % 256 % 128 = m % 128 := by omega
  rw [h1, show (128 : Int).toNat = 128 from rfl, h2, h3]
set_option maxRecDepth 100000 in
set_option maxHeartbeats 400000 in
theorem appNum (B : Nat) (L : List Nat) (v : Value) (n : Nat) (w : World) (hn : n ≤ 1099511627776) (hv : Buf B w v L) (hL : L.length ≤ 1000000) (hB : B ≤ w.heap.size) :
    Calls Tryd.prog 38 #[v, i64 n] w (BufS B w (L ++ nb n)) := by
  have HV := hid hv
  have HN := hid (nb_le hn)
  have HB := hid hB
  clear hv hB
  go_enter Tryd.func38, Tryd.ntmps38
  go_wp2
  go_loopw [0, 1] (fun b i wr => ∃ (m : Nat) (L' : List Nat), m ≤ n ∧ i = i64 m ∧ L' ++ nb m = L ++ nb n ∧ Buf B wr b L' ∧ Below B w wr) (fun b i _ => (intOf i).toNat)
  case atStart => exact ⟨n, L, Nat.le_refl _, rfl, rfl, HV.out, Below.refl _ _⟩
  case round =>
    obtain ⟨m, L', hm, rfl, hl, hb, hw⟩ := hrel
    have HR := hid hb
    have HW := hid hw
    have HE := hid hl
    have hlen := congrArg List.length hl
    rw [List.length_append, List.length_append] at hlen
    have HLN := hid hlen
    have HSZ := hid (show B ≤ wr.heap.size by have := hw.size; have := HB.out; omega)
    clear hb hw hl hlen
    by_cases hlt : (128 : Int) ≤ (m : Int)
    · have hp1 : L'.length + 1 ≤ 2000000 := by have := HLN.out; have := HN.out; omega
      obtain ⟨v', w', hr, hq, hbw⟩ := HR.out.push (m % 128 + 128) hp1 HSZ.out
      have HRUN := hid hr
      clear hr hp1
      have hor := or_128 m
      generalize hc : m % 128 + 128 = c at *
      have HC := hid hc
      clear hc
      go_wp2_with (at_builtin; refine wpList_append_run _ _ 29 29 rfl rfl _ _ _ rfl rfl HRUN.out ?_)
      refine ⟨⟨m / 128, L' ++ [c], by omega, by simp, ?_, hq, below_tr HW.out hbw⟩, by simp [intOf]; omega⟩
      rw [← HE.out, nb_ge (n := m) (by omega), HC.out, List.append_assoc]; rfl
    · have hp1 : L'.length + 1 ≤ 2000000 := by have := HLN.out; have := HN.out; omega
      obtain ⟨v', w', hr, hq, hbw⟩ := HR.out.push m hp1 HSZ.out
      have HRUN := hid hr
      clear hr hp1
      go_wp2_with (at_builtin; refine wpList_append_run _ _ 29 29 rfl rfl _ _ _ rfl rfl HRUN.out ?_)
      go_ret
      have e : nb m = [m] := nb_lt (by omega)
      refine ⟨_, rfl, ?_, below_tr HW.out hbw⟩
      rw [← HE.out, e]; exact hq
/-- Bytes that are told: in new memory, without spare room. -/
def OutB (B : Nat) (w : World) (v : Value) (bs : List Nat) : Prop := (v = .slice none 0 0 ∧ bs = []) ∨ ∃ g, v = .slice (some ⟨g, 0, none⟩) bs.length bs.length ∧ B ≤ g ∧ g < w.heap.size ∧ (∀ i, i < bs.length → w.cell? ⟨g, i, none⟩ = some (u8 (bs.getD i 0))) ∧ ∀ i, w.frozen? ⟨g, i, none⟩ = false
theorem OutB.form {B : Nat} {w : World} {v : Value} {bs : List Nat} (h : OutB B w v bs) : ∃ po, v = .slice po bs.length bs.length ∧ BL w po bs ∧ (po = none → bs.length = 0) := by
  rcases h with ⟨rfl, rfl⟩ | ⟨g, rfl, _, _, h, _⟩
  · exact ⟨none, rfl, Or.inl rfl, fun _ => rfl⟩
  · exact ⟨_, rfl, Or.inr ⟨g, 0, rfl, fun i hi => by rw [Nat.zero_add]; exact h i hi⟩, fun e => by cases e⟩
theorem OutB.below {B : Nat} {w w' : World} {v : Value} {bs : List Nat} (h : OutB B w v bs) (hb : Below w.heap.size w w') : OutB B w' v bs := by
  rcases h with h | ⟨g, h1, h2, h3, h4, h5⟩
  · exact Or.inl h
  · have e := hb.block g h3
    exact Or.inr ⟨g, h1, h2, by have := hb.size; omega, fun i hi => (World.cell?_of_block e).trans (h4 i hi), fun i => by have := h5 i; unfold World.frozen? at this ⊢; rw [e]; exact this⟩
theorem OutB.base {B C : Nat} {w : World} {v : Value} {bs : List Nat} (h : OutB B w v bs) (hC : C ≤ B) : OutB C w v bs := by
  rcases h with h | ⟨g, h1, h2, h3⟩
  · exact Or.inl h
  · exact Or.inr ⟨g, h1, by omega, h3⟩
theorem elem8 (w : World) : (sizeOf (Tryd.prog.elem 29)).run Tryd.prog w = .ok 1 w := by
  have hi : (Tryd.prog.info? (Tryd.prog.elem 29)).map (·.size) = some 1 := by kernel_rfl
  obtain ⟨i, h1, h2⟩ := Option.map_eq_some_iff.1 hi
  simp [sizeOf, typeInfo, h1, h2]
theorem underE8 : Tryd.prog.underlying 29 = some (.slice (Tryd.prog.elem 29)) := by kernel_rfl
theorem run_clip8 (po : Option Addr) (n c : Nat) (h : n ≤ c) (w : World) : (Instr.slice 29 (.slice po n c) none (some (.int .i64 (n : Int))) (some (.int .i64 (n : Int)))).run Tryd.prog w = .ok (.slice po n n) w := by
  rw [run_slice_hm (P := Tryd.prog) w 29 po n c underE8 .i64 .i64 (n : Int) (n : Int) (by omega) (by omega) (by omega), elem8]
  cases po with
  | none => simp [Result.andThen, sliced]
  | some a =>
    by_cases h0 : n = 0
    · simp [Result.andThen, sliced, h0]
    · simp [Result.andThen, sliced, h0, add_zero']
theorem Buf.cap {B : Nat} {w : World} {po : Option Addr} {n c : Nat} {L : List Nat} (h : Buf B w (.slice po n c) L) : n = L.length ∧ n ≤ c := by
  rcases h.2 with ⟨e, h0⟩ | ⟨g, cap, cur, e, _, hg, h1, _, h3, h4⟩
  · cases e; exact ⟨h0.symm, Nat.le_refl _⟩
  · cases e; exact ⟨rfl, h1⟩
theorem Buf.out {B : Nat} {w : World} {po : Option Addr} {n c : Nat} {L : List Nat} (h : Buf B w (.slice po n c) L) : OutB B w (.slice po n n) L := by
  have hbl := h.bl
  have hlt := own_ge h
  rcases h.2 with ⟨e, h0⟩ | ⟨g, cap, cur, e, hB, hg, h1, _, h3, h4⟩
  · cases e; exact Or.inl ⟨rfl, List.eq_nil_of_length_eq_zero h0⟩
  · cases e
    have hc : CAt w g cur 5 := hg
    refine Or.inr ⟨g, rfl, hB, hc.lt, fun i hi => ?_, fun i => hc.free i⟩
    rcases hbl with h | ⟨b, o, e, h⟩
    · subst h; simp at hi
    · cases e; have := h i hi; rwa [Nat.zero_add] at this
theorem clip_any (B : Nat) (v : Value) (L : List Nat) (w : World) (h : Buf B w v L) : Calls Tryd.prog 37 #[v] w fun e w' => (∃ v', e = .returned v' ∧ OutB B w v' L) ∧ w' = w := by
  obtain ⟨po, c, rfl⟩ := h.form
  have hcap := h.cap.2
  have hs := run_clip8 po L.length c hcap
  have H := hid h.out
  clear h
  go_enter Tryd.func37, Tryd.ntmps37
  go_wp2
  go_ret
  exact ⟨⟨_, rfl, H.out⟩, rfl⟩
def OutS (w : World) (bs : List Nat) (e : Ending) (w' : World) : Prop := ∃ v, e = .returned v ∧ OutB w.heap.size w' v bs ∧ Below w.heap.size w w'
def OutE (w : World) (bs : List Nat) (er : Nat) (e : Ending) (w' : World) : Prop := ∃ v, e = .returned (.tuple #[v, i64 er]) ∧ OutB w.heap.size w' v bs ∧ Below w.heap.size w w'
theorem between_any (n a b : Int) (w : World) : Calls Tryd.prog 36 #[i64 n, i64 a, i64 b] w fun e w' => e = .returned (.bool (inR n a b)) ∧ w' = w := by
  by_cases h1 : a ≤ n
  · by_cases h2 : n ≤ b
    · have e : inR n a b = true := inR_iff.2 ⟨h1, h2⟩
      rw [e]
      go_enter Tryd.func36, Tryd.ntmps36
      go_wp2
      go_ret
      simp
    · have e : inR n a b = false := by simp [inR, h2]
      rw [e]
      go_enter Tryd.func36, Tryd.ntmps36
      go_wp2
      go_ret
      simp
  · have e : inR n a b = false := by simp [inR, h1]
    rw [e]
    go_enter Tryd.func36, Tryd.ntmps36
    go_wp2
    go_ret
    simp
theorem uint_ok (n : Nat) (w : World) (hn : n ≤ 1099511627776) : Calls Tryd.prog 21 #[i64 n] w (OutE w (nb n) 0) := by
  go_enter Tryd.func21, Tryd.ntmps21
  go_wp2_with (first
    | (go_at_call 36; refine (between_any _ _ _ _).mono ?_; rintro e w0 ⟨rfl, hw0⟩; rw [show inR (n : Int) 0 1099511627776 = true from inR_iff.2 ⟨by omega, by omega⟩]; have hw2 := hw0.symm; subst hw2)
    | (go_at_call 38; refine (appNum w.heap.size [] _ n w hn (Buf.nil _ _) (by simp) (Nat.le_refl _)).mono ?_; rintro e w1 ⟨v1, rfl, hb1, hw1⟩)
    | (go_at_call 37; refine (clip_any w.heap.size _ (nb n) _ (by simpa using hb1)).mono ?_; rintro e w2 ⟨⟨v2, rfl, ho⟩, rfl⟩))
  go_ret2
  exact ⟨v2, rfl, ho, hw1⟩
theorem fresh_any (po : Option Addr) (c : Nat) (bs : List Nat) (w : World) (h : BL w po bs) (hc : po = none → c = 0) (hn : bs.length ≤ 1000000) : Calls Tryd.prog 83 #[.slice po bs.length c] w (OutS w bs) := by
  obtain ⟨v1, w1, hr, hb1, hg⟩ := (Buf.nil w.heap.size w).app po c bs h hc (by simpa using by omega) (Nat.le_refl _)
  have HRUN := hid hr
  have hw1 : Below w.heap.size w w1 := below_grown (Below.refl _ _) hg (Nat.le_refl _) (by intro b hb; cases hb)
  clear hr
  go_enter Tryd.func83, Tryd.ntmps83
  go_wp2_with (first
    | (at_builtin; refine wpList_append_run _ _ 29 29 rfl rfl _ _ _ rfl rfl HRUN.out ?_)
    | (go_at_call 37; refine (clip_any w.heap.size _ bs _ (by simpa using hb1)).mono ?_; rintro e w2 ⟨⟨v2, rfl, ho⟩, rfl⟩))
  go_ret
  exact ⟨v2, rfl, ho, hw1⟩
end Go.Proofs.YtelkijiphhoacaaDoor

/- Contracts of the reader of package record: need, take, one. -/
namespace Go.Proofs.YtelkijiphhoacaaDoor
open Go Go.RowKit

/-- A reader lies at block p: it has the bytes s still, or (none) a fault. -/
def Rd (w : World) (p : Nat) (s : Option (List Nat)) : Prop := ∃ po L, CAt w p #[.slice po L.length L.length, i64 (if s.isSome then 0 else 4)] 147 ∧ BL w po L ∧ (L ≠ [] → ∀ a, po = some a → a.block < p) ∧ (po = none → L = []) ∧ (s = none ∨ s = some L) ∧ L.length ≤ 100000 ∧ ∀ x ∈ L, x < 256
theorem Rd.lt {w : World} {p : Nat} {s : Option (List Nat)} (h : Rd w p s) : p < w.heap.size := by obtain ⟨_, _, h, _⟩ := h; exact h.lt
theorem Rd.only {w w' : World} {p : Nat} {s : Option (List Nat)} {S : Nat → Prop} (h : Rd w p s) (ho : Only S w w') (hS : ∀ i, S i → p < i) : Rd w' p s := by
  obtain ⟨po, L, h1, h2, h3, h4⟩ := h
  have hp := h1.lt
  exact ⟨po, L, h1.keep (ho.block p hp fun e => by have := hS _ e; omega), h2.onlyAt ho (fun hne a ha e => by have := hS _ e; have := h3 hne a ha; omega), h3, h4⟩
theorem Rd.below {w w' : World} {p : Nat} {s : Option (List Nat)} (h : Rd w p s) (hb : Below w.heap.size w w') : Rd w' p s := h.only (S := fun _ => False) (Only.of_below hb) (fun _ h => h.elim)
def ReS (w : World) (p : Nat) (s : Option (List Nat)) (v : Value) (e : Ending) (w' : World) : Prop := e = .returned v ∧ Rd w' p s ∧ Only (fun b => b = p) w w'
theorem need_any (w : World) (p : Nat) (s : Option (List Nat)) (b : Bool) (h : Rd w p s) : Calls Tryd.prog 86 #[ptr p, .bool b] w (ReS w p (if b then s else none) (.tuple #[])) := by
  have H := hid h
  obtain ⟨po, L, h1, h2, h3, h4, h5, h6⟩ := h
  have HC := hid h1
  have c1 := h1.cell 1
  have z1 := h1.free 1
  simp at c1
  cases b with
  | true =>
    clear h1 h2 h3 h4 h5 h6
    go_enter Tryd.func86, Tryd.ntmps86
    go_wp2
    go_end0
    exact ⟨rfl, H.out, Only.refl _ _⟩
  | false =>
    cases s with
    | none =>
      simp at c1
      clear h1 h2 h3 h4 h5 h6
      go_enter Tryd.func86, Tryd.ntmps86
      go_wp2
      go_end0
      exact ⟨rfl, H.out, Only.refl _ _⟩
    | some K =>
      simp at c1
      have HX : Hid (Rd (w.setCell ⟨p, 1, none⟩ (i64 4)) p none) := by
        refine ⟨po, L, ?_, h2.onlyAt (Only.set (S := fun b => b = p) w ⟨p, 1, none⟩ _ rfl) (fun hne a ha e => by have := h3 hne a ha; omega), h3, h4, Or.inl rfl, h6⟩
        have := h1.set 1 (i64 4)
        simpa using this
      clear h1 h2 h3 h4 h5 h6
      go_enter Tryd.func86, Tryd.ntmps86
      go_wp2
      go_end0
      exact ⟨rfl, HX.out, Only.set _ _ _ rfl⟩
theorem need_true (w : World) (p : Nat) : Calls Tryd.prog 86 #[ptr p, .bool true] w fun e w' => e = .returned (.tuple #[]) ∧ w' = w := by
  go_enter Tryd.func86, Tryd.ntmps86
  go_wp2
  go_end0
  exact ⟨rfl, rfl⟩
theorem need_gone (w : World) (p : Nat) (b : Bool) (h : Rd w p none) : Calls Tryd.prog 86 #[ptr p, .bool b] w fun e w' => e = .returned (.tuple #[]) ∧ w' = w := by
  obtain ⟨po, L, h1, _⟩ := h
  have c1 := h1.cell 1
  simp at c1
  clear h1
  cases b <;>
  · go_enter Tryd.func86, Tryd.ntmps86
    go_wp2
    go_end0
    exact ⟨rfl, rfl⟩
theorem run_from8 (po : Option Addr) (n c l : Nat) (hl : l ≤ n) (hc : n ≤ c) : ∃ p2 : Option Addr, (∀ w : World, (Instr.slice 29 (.slice po n c) (some (.int .i64 (l : Int))) none none).run Tryd.prog w = .ok (.slice p2 (n - l) (c - l)) w) ∧
    (∀ b o, po = some ⟨b, o, none⟩ → l < n → p2 = some ⟨b, o + l, none⟩) ∧ (p2 = none → po = none) ∧ (∀ a, p2 = some a → ∃ a', po = some a' ∧ a.block = a'.block) := by
  have hr : ∀ w, (Instr.slice 29 (.slice po n c) (some (.int .i64 (l : Int))) none none).run Tryd.prog w = .ok (sliced po l n c 1) w := fun w => by
    rw [run_slice_l (P := Tryd.prog) w 29 po n c underE8 .i64 (l : Int) (by omega) (by omega), elem8]
    simp [Result.andThen]
  cases po with
  | none => exact ⟨none, fun w => by rw [hr]; simp [sliced], (fun b o e => by cases e), fun _ => rfl, fun a e => by cases e⟩
  | some a =>
    by_cases e : c = l
    · exact ⟨some a, fun w => by rw [hr]; simp [sliced, e], (fun b o _ q => by omega), (fun e => by cases e), fun a2 e2 => ⟨a, rfl, by cases e2; rfl⟩⟩
    · refine ⟨some (a.add l), fun w => by rw [hr]; simp [sliced, e], (fun b o q _ => by cases q; rw [add_none]), (fun e => by cases e), fun a2 e2 => ⟨a, rfl, by cases e2; unfold Addr.add; split <;> rfl⟩⟩
theorem run_head8 (po : Option Addr) (n c h : Nat) (hh : h ≤ c) (w : World) : (Instr.slice 29 (.slice po n c) none (some (.int .i64 (h : Int))) (some (.int .i64 (h : Int)))).run Tryd.prog w = .ok (.slice po h h) w := by
  rw [run_slice_hm (P := Tryd.prog) w 29 po n c underE8 .i64 .i64 (h : Int) (h : Int) (by omega) (by omega) (by omega), elem8]
  cases po with
  | none => simp [Result.andThen, sliced]
  | some a =>
    by_cases h0 : h = 0
    · simp [Result.andThen, sliced, h0]
    · simp [Result.andThen, sliced, h0, add_zero']
def TakS (w : World) (p n : Nat) (L : List Nat) (e : Ending) (w' : World) : Prop := ∃ po, e = .returned (.slice po n n) ∧ BL w' po (L.take n) ∧ Rd w' p (some (L.drop n)) ∧ Only (fun b => b = p) w w' ∧ (po = none → n = 0)
set_option maxRecDepth 100000 in
theorem take_ok (w : World) (p n : Nat) (L : List Nat) (h : Rd w p (some L)) (hn : n ≤ L.length) : Calls Tryd.prog 88 #[ptr p, i64 n] w (TakS w p n L) := by
  have H := hid h
  obtain ⟨po, L', h1, h2, h3, h4, h5, h6, h7⟩ := h
  have e : L' = L := by rcases h5 with h | h <;> cases h; rfl
  subst e
  have c0 := h1.cell 0
  have c1 := h1.cell 1
  have z0 := h1.free 0
  simp at c0 c1
  obtain ⟨p2, hfrom, hp2, hp3, hp4⟩ := run_from8 po L'.length L'.length n hn (Nat.le_refl _)
  have hhead := run_head8 po L'.length L'.length n hn
  have HX : Hid (Rd (w.setCell ⟨p, 0, none⟩ (.slice p2 (L'.length - n) (L'.length - n))) p (some (L'.drop n))) := by
    refine ⟨p2, L'.drop n, ?_, ?_, fun hne a ha => ?_, fun hn2 => ?_, Or.inr rfl, by rw [List.length_drop]; omega, fun x hx => h7 x (List.mem_of_mem_drop hx)⟩
    · have := h1.set 0 (.slice p2 (L'.length - n) (L'.length - n))
      rw [List.length_drop]; simpa using this
    · rcases Nat.lt_or_ge n L'.length with hlt | hge
      · have h2' := h2.onlyAt (Only.set (S := fun b => b = p) w ⟨p, 0, none⟩ (.slice p2 (L'.length - n) (L'.length - n)) rfl) (fun hne a ha e => by have := h3 hne a ha; omega)
        rcases h2' with h | ⟨b, o, hpo, hc⟩
        · subst h; simp at hlt
        · have hq := hp2 b o hpo hlt
          have hd := BL.drop (Or.inr ⟨b, o, rfl, hc⟩) n
          rw [← hq] at hd
          exact hd
      · exact Or.inl (List.drop_eq_nil_of_le hge)
    · obtain ⟨a', ha', he⟩ := hp4 a ha
      rw [he]; exact h3 (fun e => hne (by rw [e]; simp)) a' ha'
    · rw [h4 (hp3 hn2)]; simp
  have HT := hid ((h2.onlyAt (Only.set (S := fun b => b = p) w ⟨p, 0, none⟩ (.slice p2 (L'.length - n) (L'.length - n)) rfl) (fun hne a ha e => by have := h3 hne a ha; omega)).take n)
  have HPN : Hid (po = none → n = 0) := fun e => by have := h4 e; subst this; simpa using hn
  clear h1 h2 h3 h4 h5 h6 h7 hp2 hp3 hp4
  have hle : (n : Int) ≤ (L'.length : Int) := by omega
  go_enter Tryd.func88, Tryd.ntmps88
  go_wp2_with (go_at_call 86; refine (need_true w p).mono ?_; rintro e w' ⟨rfl, hw'⟩; have hw2 := hw'.symm; subst hw2)
  go_ret
  exact ⟨po, rfl, HT.out, HX.out, Only.set _ _ _ rfl, HPN.out⟩
set_option maxRecDepth 100000 in
theorem take_bad (w : World) (p : Nat) (n : Int) (s : Option (List Nat)) (h : Rd w p s) (hn : ∀ L, s = some L → (L.length : Int) < n) : Calls Tryd.prog 88 #[ptr p, i64 n] w (ReS w p none (.slice none 0 0)) := by
  have H := hid h
  obtain ⟨po, L, h1, h2, h3, h4, h5, h6, h7⟩ := h
  have c0 := h1.cell 0
  simp at c0
  clear h1 h2 h3 h4 h6 h7
  cases s with
  | none =>
    clear h5
    by_cases hle : n ≤ (L.length : Int)
    · go_enter Tryd.func88, Tryd.ntmps88
      go_wp2_with (go_at_call 86; refine (need_gone w p _ H.out).mono ?_; rintro e w' ⟨rfl, hw'⟩; have hw2 := hw'.symm; subst hw2; obtain ⟨po2, L2, k1, _⟩ := H.out; have c1 := k1.cell 1; simp at c1; clear k1)
      go_ret
      exact ⟨rfl, H.out, Only.refl _ _⟩
    · go_enter Tryd.func88, Tryd.ntmps88
      go_wp2_with (go_at_call 86; refine (need_gone w p _ H.out).mono ?_; rintro e w' ⟨rfl, hw'⟩; have hw2 := hw'.symm; subst hw2; obtain ⟨po2, L2, k1, _⟩ := H.out; have c1 := k1.cell 1; simp at c1; clear k1)
      go_ret
      exact ⟨rfl, H.out, Only.refl _ _⟩
  | some K =>
    have e : K = L := by rcases h5 with h | h <;> cases h; rfl
    subst e
    have hgt := hn K rfl
    clear hn h5
    have hle : ¬ n ≤ (K.length : Int) := by omega
    go_enter Tryd.func88, Tryd.ntmps88
    go_wp2_with (go_at_call 86; refine (need_any w p (some K) false H.out).mono ?_; rintro e w' ⟨rfl, hr, ho⟩; have HR := hid hr; have HO := hid ho; obtain ⟨po2, L2, k1, _⟩ := hr; have c1 := k1.cell 1; simp at c1; clear k1 ho)
    go_ret
    exact ⟨rfl, by simpa using HR.out, HO.out⟩
def oneV : Option (List Nat) → Nat | some (c :: _) => c | _ => 0
def oneR : Option (List Nat) → Option (List Nat) | some (_ :: r) => some r | _ => none
theorem one_any (w : World) (p : Nat) (s : Option (List Nat)) (h : Rd w p s) : Calls Tryd.prog 85 #[ptr p] w (ReS w p (oneR s) (u8 (oneV s))) := by
  by_cases hs : ∃ c r, s = some (c :: r)
  · obtain ⟨c, r, rfl⟩ := hs
    have ht := take_ok w p 1 (c :: r) h (by simp)
    clear h
    go_enter Tryd.func85, Tryd.ntmps85
    go_wp2_with (go_at_call 88; refine ht.mono ?_; rintro e w1 ⟨po, rfl, hb, hr, ho, hn⟩; have HR := hid hr; have HO := hid ho; obtain ⟨po2, L2, k1, _⟩ := hr; have c1 := k1.cell 1; simp at c1; clear k1 ho; have hb' : ∃ b o, po = some ⟨b, o, none⟩ ∧ w1.cell? ⟨b, o, none⟩ = some (u8 c) := (by
      rcases hb with h | ⟨b, o, h1, h2⟩
      · simp at h
      · exact ⟨b, o, h1, by have := h2 0 (by simp); simpa using this⟩); obtain ⟨b, o, rfl, hcell⟩ := hb'; clear hb hn)
    go_ret
    exact ⟨rfl, by simpa [oneR] using HR.out, HO.out⟩
  · have e1 : oneV s = 0 := by match s, hs with | none, _ => rfl | some [], _ => rfl | some (c :: r), hs => exact absurd ⟨c, r, rfl⟩ hs
    have e2 : oneR s = none := by match s, hs with | none, _ => rfl | some [], _ => rfl | some (c :: r), hs => exact absurd ⟨c, r, rfl⟩ hs
    have ht := take_bad w p 1 s h (fun L hL => by
      match L, hL with
      | [], _ => simp
      | c :: r, hL => exact absurd ⟨c, r, hL⟩ hs)
    rw [e1, e2]
    clear h
    go_enter Tryd.func85, Tryd.ntmps85
    go_wp2_with (go_at_call 88; refine ht.mono ?_; rintro e w1 ⟨rfl, hr, ho⟩; have HR := hid hr; have HO := hid ho; obtain ⟨po2, L2, k1, _⟩ := hr; have c1 := k1.cell 1; simp at c1; clear k1 ho)
    go_ret
    exact ⟨rfl, HR.out, HO.out⟩
end Go.Proofs.YtelkijiphhoacaaDoor
