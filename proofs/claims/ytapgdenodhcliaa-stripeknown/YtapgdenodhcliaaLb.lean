/- Plain mathematics of sweeping a matrix by exchanges: what the rows tell of each other stays true in either direction; so a matrix all of whose rows were exchanged leads to its inverse, and a row that has no pivot is a sum of multiples of the rows ahead of it. No conditions but bounds. Nothing of the program is imported. -/
import Derived.Test.YtapgdenodhcliaaLa
namespace Go.Proofs.Ytapgdenodhcliaa

/-- One place turned, of any function. -/
def put {α : Type} (f : Nat → α) (k : Nat) (v : α) : Nat → α := fun i => if i = k then v else f i
theorem put_same {α : Type} (f : Nat → α) (k : Nat) (v : α) : put f k v k = v := if_pos rfl
theorem put_other {α : Type} (f : Nat → α) (k : Nat) (v : α) (i : Nat) (h : i ≠ k) : put f k v i = f i := if_neg h

/-- The pivot's row behind the exchange; all rows behind it. -/
def xrow (T : Nat → Nat → K) (i0 j0 : Nat) (j : Nat) : K := (if j = j0 then 1 else T i0 j) * K.iv (T i0 j0)
def xch (T : Nat → Nat → K) (i0 j0 : Nat) : Nat → Nat → K := fun i j => if i = i0 then xrow T i0 j0 j else (if j = j0 then 0 else T i j) + T i j0 * xrow T i0 j0 j

/-- The sum of a row without its place j0. -/
def rest (T : Nat → Nat → K) (j0 m : Nat) (z : Nat → K) (i : Nat) : K := sm (fun j => if j = j0 then 0 else T i j * z j) m
theorem row_split (T : Nat → Nat → K) (j0 m : Nat) (z : Nat → K) (i : Nat) (h : j0 < m) : sm (fun j => T i j * z j) m = T i j0 * z j0 + rest T j0 m z i := sm_split _ j0 m h
theorem xrow_sum (T : Nat → Nat → K) (i0 j0 m : Nat) (z : Nat → K) (u : K) (h : j0 < m) : sm (fun j => xrow T i0 j0 j * put z j0 u j) m = K.iv (T i0 j0) * (u + rest T j0 m z i0) := by
  rw [sm_split _ j0 m h, put_same]
  have e1 : xrow T i0 j0 j0 * u = K.iv (T i0 j0) * u := by unfold xrow; rw [if_pos rfl, kone_mul]
  have e2 : sm (fun j => if j = j0 then 0 else xrow T i0 j0 j * put z j0 u j) m = K.iv (T i0 j0) * rest T j0 m z i0 := by
    unfold rest
    rw [← sm_mul]
    refine sm_congr (fun j _ => ?_)
    by_cases e : j = j0
    · rw [if_pos e, if_pos e, kmul_zero]
    · rw [if_neg e, if_neg e, put_other _ _ _ _ e]
      unfold xrow
      rw [if_neg e, kmul_comm (T i0 j), kmul_assoc]
  rw [e1, e2, kmul_add]
theorem xch_sum (T : Nat → Nat → K) (i0 j0 m i : Nat) (z : Nat → K) (u : K) (h : j0 < m) (hi : i ≠ i0) : sm (fun j => xch T i0 j0 i j * put z j0 u j) m = rest T j0 m z i + T i j0 * (K.iv (T i0 j0) * (u + rest T j0 m z i0)) := by
  rw [← xrow_sum T i0 j0 m z u h, ← sm_mul]
  unfold rest
  rw [← sm_add]
  refine sm_congr (fun j _ => ?_)
  unfold xch
  rw [if_neg hi]
  by_cases e : j = j0
  · rw [if_pos e, if_pos e, kzero_add, kzero_add, kmul_assoc]
  · rw [if_neg e, if_neg e, put_other _ _ _ _ e, kadd_mul, kmul_assoc]

theorem pivot_solve {p c u z s : K} (hc : c * p = 1) : u = p * z + s ↔ z = c * (u + s) := by
  have hp : p * c = 1 := by rw [kmul_comm]; exact hc
  constructor
  · intro h; rw [h, kadd_assoc, kadd_self, kadd_zero, ← kmul_assoc, hc, kone_mul]
  · intro h; rw [h, ← kmul_assoc, hp, kone_mul, kadd_assoc, kadd_self, kadd_zero]

/-- What the rows tell, in either direction. -/
theorem xch_tells (T : Nat → Nat → K) (n m i0 j0 : Nat) (u z : Nat → K) (hi0 : i0 < n) (hj0 : j0 < m) (hp : T i0 j0 ≠ 0) :
    (∀ i, i < n → u i = sm (fun j => T i j * z j) m) ↔ (∀ i, i < n → put u i0 (z j0) i = sm (fun j => xch T i0 j0 i j * put z j0 (u i0) j) m) := by
  have hc := kiv_mul _ hp
  have h0 : put u i0 (z j0) i0 = sm (fun j => xch T i0 j0 i0 j * put z j0 (u i0) j) m ↔ u i0 = sm (fun j => T i0 j * z j) m := by
    have e : sm (fun j => xch T i0 j0 i0 j * put z j0 (u i0) j) m = K.iv (T i0 j0) * (u i0 + rest T j0 m z i0) := by
      rw [← xrow_sum T i0 j0 m z (u i0) hj0]
      exact sm_congr (fun j _ => by unfold xch; rw [if_pos rfl])
    rw [put_same, e, row_split T j0 m z i0 hj0]
    exact (pivot_solve hc).symm
  have hz : ∀ i, i ≠ i0 → z j0 = K.iv (T i0 j0) * (u i0 + rest T j0 m z i0) → (put u i0 (z j0) i = sm (fun j => xch T i0 j0 i j * put z j0 (u i0) j) m ↔ u i = sm (fun j => T i j * z j) m) := by
    intro i hi e
    rw [put_other _ _ _ _ hi, xch_sum T i0 j0 m i z (u i0) hj0 hi, ← e, row_split T j0 m z i hj0, kadd_comm]
  have hz0 : u i0 = sm (fun j => T i0 j * z j) m → z j0 = K.iv (T i0 j0) * (u i0 + rest T j0 m z i0) := by
    intro h; rw [row_split T j0 m z i0 hj0] at h; exact (pivot_solve hc).1 h
  constructor
  · intro h i hi
    by_cases e : i = i0
    · subst e; exact h0.2 (h i hi)
    · exact (hz i e (hz0 (h i0 hi0))).2 (h i hi)
  · intro h i hi
    have h1 := h0.1 (h i0 hi0)
    by_cases e : i = i0
    · subst e; exact h1
    · exact (hz i e (hz0 h1)).1 (h i hi)

/-- The first column from j on, of f that are left, in which row i may be exchanged. -/
def pcol (T : Nat → Nat → K) (Q : Nat → Option Nat) (i : Nat) : Nat → Nat → Option Nat
  | 0, _ => none
  | f + 1, j => if (Q j).isSome = true ∨ T i j = 0 then pcol T Q i f (j + 1) else some j
theorem pcol_some {T : Nat → Nat → K} {Q : Nat → Option Nat} {i : Nat} : ∀ {f j r : Nat}, pcol T Q i f j = some r → j ≤ r ∧ r < j + f ∧ Q r = none ∧ T i r ≠ 0
  | 0, _, _, h => by cases h
  | f + 1, j, r, h => by
    unfold pcol at h
    by_cases e : (Q j).isSome = true ∨ T i j = 0
    · rw [if_pos e] at h
      have := pcol_some h
      exact ⟨by omega, by omega, this.2.2⟩
    · rw [if_neg e] at h
      cases h
      refine ⟨by omega, by omega, ?_, fun q => e (.inr q)⟩
      cases hq : Q j with
      | none => rfl
      | some v => exact absurd (.inl (by rw [hq]; rfl)) e
theorem pcol_none {T : Nat → Nat → K} {Q : Nat → Option Nat} {i : Nat} : ∀ {f j : Nat}, pcol T Q i f j = none → ∀ r, j ≤ r → r < j + f → Q r = none → T i r = 0
  | 0, _, _, r, h1, h2, _ => by omega
  | f + 1, j, h, r, h1, h2, hq => by
    unfold pcol at h
    by_cases e : (Q j).isSome = true ∨ T i j = 0
    · rw [if_pos e] at h
      by_cases q : r = j
      · subst q
        rcases e with e | e
        · rw [hq] at e; cases e
        · exact e
      · exact pcol_none h r (by omega) (by omega) hq
    · rw [if_neg e] at h; cases h

/-- How far a sweep has come: the numbers, each row's pivot, each column's row, the pivots one by one. -/
structure Sw where
  T : Nat → Nat → K
  P : Nat → Option Nat
  Q : Nat → Option Nat
  l : List Nat
def swStep (m : Nat) (s : Sw) (i : Nat) : Sw := match pcol s.T s.Q i m 0 with
  | none => s
  | some j => ⟨xch s.T i j, put s.P i (some j), put s.Q j (some i), s.l ++ [j]⟩
def sw (A : Nat → Nat → K) (m : Nat) : Nat → Sw
  | 0 => ⟨A, fun _ => none, fun _ => none, []⟩
  | i + 1 => swStep m (sw A m i) i
theorem sw_none {A : Nat → Nat → K} {m i : Nat} (h : pcol (sw A m i).T (sw A m i).Q i m 0 = none) : sw A m (i + 1) = sw A m i := by
  show swStep m (sw A m i) i = _; unfold swStep; rw [h]
theorem sw_some {A : Nat → Nat → K} {m i j : Nat} (h : pcol (sw A m i).T (sw A m i).Q i m 0 = some j) :
    sw A m (i + 1) = ⟨xch (sw A m i).T i j, put (sw A m i).P i (some j), put (sw A m i).Q j (some i), (sw A m i).l ++ [j]⟩ := by
  show swStep m (sw A m i) i = _; unfold swStep; rw [h]

def uOf (P : Nat → Option Nat) (x y : Nat → K) (i : Nat) : K := match P i with | some j => x j | none => y i
def zOf (Q : Nat → Option Nat) (x y : Nat → K) (j : Nat) : K := match Q j with | some i => y i | none => x j
theorem uOf_some {P : Nat → Option Nat} {x y : Nat → K} {i j : Nat} (h : P i = some j) : uOf P x y i = x j := by unfold uOf; rw [h]
theorem uOf_none {P : Nat → Option Nat} {x y : Nat → K} {i : Nat} (h : P i = none) : uOf P x y i = y i := by unfold uOf; rw [h]
theorem zOf_some {Q : Nat → Option Nat} {x y : Nat → K} {j i : Nat} (h : Q j = some i) : zOf Q x y j = y i := by unfold zOf; rw [h]
theorem zOf_none {Q : Nat → Option Nat} {x y : Nat → K} {j : Nat} (h : Q j = none) : zOf Q x y j = x j := by unfold zOf; rw [h]

/-- What is known of a sweep that has come to row k of n. -/
structure SwInv (A : Nat → Nat → K) (n m k : Nat) (s : Sw) : Prop where
  tells : ∀ x y : Nat → K, (∀ i, i < n → y i = sm (fun j => A i j * x j) m) ↔ (∀ i, i < n → uOf s.P x y i = sm (fun j => s.T i j * zOf s.Q x y j) m)
  later : ∀ i, k ≤ i → s.P i = none
  pq : ∀ i j, s.P i = some j → s.Q j = some i ∧ j < m
  qp : ∀ i j, s.Q j = some i → s.P i = some j ∧ i < k
  zero : ∀ i, i < k → s.P i = none → ∀ j, j < m → s.Q j = none → s.T i j = 0
  len : s.l.length ≤ k
  list : s.l.length = k → ∀ i, i < k → s.P i = s.l[i]?

theorem sw_inv (A : Nat → Nat → K) (n m : Nat) : ∀ k, k ≤ n → SwInv A n m k (sw A m k)
  | 0, _ => ⟨fun x y => by show _ ↔ (∀ i, i < n → y i = sm (fun j => A i j * x j) m); exact Iff.rfl, fun _ _ => rfl, (fun _ _ h => by cases h), (fun _ _ h => by cases h), fun i hi => absurd hi (by omega), Nat.le_refl _, fun _ i hi => absurd hi (by omega)⟩
  | k + 1, hk => by
    have ih := sw_inv A n m k (by omega)
    cases hp : pcol (sw A m k).T (sw A m k).Q k m 0 with
    | none =>
      rw [sw_none hp]
      refine ⟨ih.tells, fun i hi => ih.later i (by omega), ih.pq, fun i j h => ⟨(ih.qp i j h).1, by have := (ih.qp i j h).2; omega⟩, fun i hi hP j hj hQ => ?_, by have := ih.len; omega, fun h => ?_⟩
      · by_cases e : i = k
        · subst e; exact pcol_none hp j (by omega) (by omega) hQ
        · exact ih.zero i (by omega) hP j hj hQ
      · have := ih.len; omega
    | some c =>
      rw [sw_some hp]
      obtain ⟨_, hc, hQ, hT⟩ := pcol_some hp
      have hPk := ih.later k (Nat.le_refl _)
      refine ⟨fun x y => ?_, fun i hi => ?_, fun i j h => ?_, fun i j h => ?_, fun i hi hP j hj hQ' => ?_, ?_, fun h i hi => ?_⟩
      · rw [ih.tells x y, xch_tells (sw A m k).T n m k c _ _ (by omega) (by omega) hT]
        have e1 : ∀ i, uOf (put (sw A m k).P k (some c)) x y i = put (uOf (sw A m k).P x y) k (zOf (sw A m k).Q x y c) i := fun i => by
          by_cases e : i = k
          · subst e; rw [put_same, zOf_none hQ]; exact uOf_some (put_same _ _ _)
          · rw [put_other _ _ _ _ e]; unfold uOf; rw [put_other _ _ _ _ e]
        have e2 : ∀ j, zOf (put (sw A m k).Q c (some k)) x y j = put (zOf (sw A m k).Q x y) c (uOf (sw A m k).P x y k) j := fun j => by
          by_cases e : j = c
          · subst e; rw [put_same, uOf_none hPk]; exact zOf_some (put_same _ _ _)
          · rw [put_other _ _ _ _ e]; unfold zOf; rw [put_other _ _ _ _ e]
        constructor
        · intro h i hi
          rw [e1 i, h i hi]
          exact sm_congr (fun j _ => by rw [e2 j])
        · intro h i hi
          rw [← e1 i, h i hi]
          exact sm_congr (fun j _ => by rw [e2 j])
      · show put (sw A m k).P k (some c) i = none
        rw [put_other _ _ _ _ (by omega)]; exact ih.later i (by omega)
      · show put (sw A m k).Q c (some k) j = some i ∧ j < m
        have h' : put (sw A m k).P k (some c) i = some j := h
        by_cases e : i = k
        · subst e; rw [put_same] at h'; cases h'; exact ⟨put_same _ _ _, by omega⟩
        · rw [put_other _ _ _ _ e] at h'
          have q := ih.pq i j h'
          have : j ≠ c := fun e2 => by rw [e2, hQ] at q; cases q.1
          rw [put_other _ _ _ _ this]; exact q
      · show put (sw A m k).P k (some c) i = some j ∧ i < k + 1
        have h' : put (sw A m k).Q c (some k) j = some i := h
        by_cases e : j = c
        · subst e; rw [put_same] at h'; cases h'; exact ⟨put_same _ _ _, by omega⟩
        · rw [put_other _ _ _ _ e] at h'
          have q := ih.qp i j h'
          rw [put_other _ _ _ _ (by omega)]; exact ⟨q.1, by omega⟩
      · have hP' : put (sw A m k).P k (some c) i = none := hP
        have hQ'' : put (sw A m k).Q c (some k) j = none := hQ'
        have e : i ≠ k := fun e => by subst e; rw [put_same] at hP'; cases hP'
        have e2 : j ≠ c := fun e => by subst e; rw [put_same] at hQ''; cases hQ''
        rw [put_other _ _ _ _ e] at hP'
        rw [put_other _ _ _ _ e2] at hQ''
        show xch (sw A m k).T k c i j = 0
        unfold xch
        rw [if_neg e, if_neg e2, ih.zero i (by omega) hP' j hj hQ'', ih.zero i (by omega) hP' c (by omega) hQ, kzero_mul, kzero_add]
      · show ((sw A m k).l ++ [c]).length ≤ k + 1
        have := ih.len
        simp; omega
      · have h' : (sw A m k).l.length = k := by have h2 : ((sw A m k).l ++ [c]).length = k + 1 := h; simp at h2; exact h2
        show put (sw A m k).P k (some c) i = ((sw A m k).l ++ [c])[i]?
        by_cases e : i = k
        · subst e; rw [put_same, List.getElem?_append_right (by omega), h']; simp
        · rw [put_other _ _ _ _ e, List.getElem?_append_left (by omega)]; exact ih.list h' i (by omega)

/-- The pivots, as a function. -/
def piv (s : Sw) (i : Nat) : Nat := (s.l[i]?).getD 0
/-- The inverse that is read out of a sweep all of whose rows have a pivot. -/
def IsOrd (s : Sw) (n : Nat) (Bm : Nat → Nat → K) : Prop := ∀ i, i < n → ∀ k, k < n → Bm (piv s i) k = s.T i (piv s k)
theorem full_P {A : Nat → Nat → K} {n m : Nat} (h : (sw A m n).l.length = n) (i : Nat) (hi : i < n) : (sw A m n).P i = some (piv (sw A m n) i) := by
  have := (sw_inv A n m n (Nat.le_refl _)).list h i hi
  rw [this]; unfold piv; rw [List.getElem?_eq_getElem (by omega)]; rfl
theorem full_lt {A : Nat → Nat → K} {n m : Nat} (h : (sw A m n).l.length = n) (i : Nat) (hi : i < n) : piv (sw A m n) i < m :=
  ((sw_inv A n m n (Nat.le_refl _)).pq _ _ (full_P h i hi)).2
theorem full_inj {A : Nat → Nat → K} {n m : Nat} (h : (sw A m n).l.length = n) (i j : Nat) (hi : i < n) (hj : j < n) (e : piv (sw A m n) i = piv (sw A m n) j) : i = j := by
  have inv := sw_inv A n m n (Nat.le_refl _)
  have h1 := (inv.pq _ _ (full_P h i hi)).1
  have h2 := (inv.pq _ _ (full_P h j hj)).1
  rw [e, h2] at h1
  cases h1; rfl
theorem full_tells {A : Nat → Nat → K} {n : Nat} (h : (sw A n n).l.length = n) {Bm : Nat → Nat → K} (hB : IsOrd (sw A n n) n Bm) (x y : Nat → K) :
    (∀ i, i < n → y i = sm (fun j => A i j * x j) n) ↔ (∀ i, i < n → x i = sm (fun k => Bm i k * y k) n) := by
  have inv := sw_inv A n n n (Nat.le_refl _)
  have hlt := fun i hi => full_lt h i hi
  have hinj := fun i j hi hj e => full_inj h i j hi hj e
  rw [inv.tells x y]
  have e1 : ∀ i, i < n → uOf (sw A n n).P x y i = x (piv (sw A n n) i) := fun i hi => uOf_some (full_P h i hi)
  have e2 : ∀ i, i < n → sm (fun j => (sw A n n).T i j * zOf (sw A n n).Q x y j) n = sm (fun k => Bm (piv (sw A n n) i) k * y k) n := fun i hi => by
    rw [sm_perm hlt hinj]
    refine sm_congr (fun k hk => ?_)
    rw [zOf_some (inv.pq _ _ (full_P h k hk)).1, hB i hi k hk]
  constructor
  · intro hh i hi
    obtain ⟨r, hr, rfl⟩ := inj_surj hlt hinj i hi
    rw [← e1 r hr, hh r hr, e2 r hr]
  · intro hh i hi
    rw [e1 i hi, e2 i hi]; exact hh _ (hlt i hi)
/-- The inverse makes the one, on either side. -/
theorem full_left {A : Nat → Nat → K} {n : Nat} (h : (sw A n n).l.length = n) {Bm : Nat → Nat → K} (hB : IsOrd (sw A n n) n Bm) (i j : Nat) (hi : i < n) (hj : j < n) : pr n Bm A i j = on i j := by
  have := (full_tells h hB (fun r => on r j) (fun r => A r j)).1 (fun r _ => by
    have e : ∀ c, c < n → A r c * on c j = if c = j then A r c else 0 := fun c _ => by unfold on; by_cases q : c = j <;> simp [q, kmul_one, kmul_zero]
    rw [sm_congr e, sm_at (fun c => A r c), if_pos hj]) i hi
  exact this.symm
theorem full_right {A : Nat → Nat → K} {n : Nat} (h : (sw A n n).l.length = n) {Bm : Nat → Nat → K} (hB : IsOrd (sw A n n) n Bm) (i j : Nat) (hi : i < n) (hj : j < n) : pr n A Bm i j = on i j := by
  have := (full_tells h hB (fun r => Bm r j) (fun r => on r j)).2 (fun r _ => by
    have e : ∀ c, c < n → Bm r c * on c j = if c = j then Bm r c else 0 := fun c _ => by unfold on; by_cases q : c = j <;> simp [q, kmul_one, kmul_zero]
    rw [sm_congr e, sm_at (fun c => Bm r c), if_pos hj]) i hi
  exact this.symm

/-- No row is a sum of multiples of the others. -/
def Indep (A : Nat → Nat → K) (n m : Nat) : Prop := ∀ c : Nat → K, (∀ j, j < m → sm (fun r => c r * A r j) n = 0) → ∀ r, r < n → c r = 0
theorem indep_pivot {A : Nat → Nat → K} {n m : Nat} (h : Indep A n m) (i : Nat) (hi : i < n) : pcol (sw A m i).T (sw A m i).Q i m 0 ≠ none := by
  intro hp
  have inv := sw_inv A n m i (by omega)
  have hP := inv.later i (Nat.le_refl _)
  have hz : ∀ j, j < m → (sw A m i).Q j = none → (sw A m i).T i j = 0 := fun j hj hQ => pcol_none hp j (by omega) (by omega) hQ
  have hci : sm (fun j => if (sw A m i).Q j = some i then (sw A m i).T i j else 0) m = 0 := sm_zero' (fun j _ => by
    rw [if_neg]; intro q; have := (inv.qp i j q).2; omega)
  have hc := h (fun r => (if r = i then 1 else 0) + sm (fun j => if (sw A m i).Q j = some r then (sw A m i).T i j else 0) m) (fun j hj => by
    have ht := (inv.tells (fun r => on r j) (fun r => A r j)).1 (fun r _ => by
      have e : ∀ c, c < m → A r c * on c j = if c = j then A r c else 0 := fun c _ => by unfold on; by_cases q : c = j <;> simp [q, kmul_one, kmul_zero]
      rw [sm_congr e, sm_at (fun c => A r c), if_pos hj]) i hi
    rw [uOf_none hP] at ht
    have e1 : sm (fun r => (if r = i then 1 else 0) * A r j) n = A i j := by
      have e : ∀ r, r < n → (if r = i then 1 else 0) * A r j = if r = i then A r j else 0 := fun r _ => by by_cases q : r = i <;> simp [q, kone_mul, kzero_mul]
      rw [sm_congr e, sm_at (fun r => A r j), if_pos hi]
    have e2 : sm (fun r => sm (fun c => if (sw A m i).Q c = some r then (sw A m i).T i c else 0) m * A r j) n = sm (fun c => (sw A m i).T i c * zOf (sw A m i).Q (fun r => on r j) (fun r => A r j) c) m := by
      rw [sm_congr (fun r _ => (sm_mul' (A r j) _ m).symm), sm_swap]
      refine sm_congr (fun c hc => ?_)
      cases hq : (sw A m i).Q c with
      | none =>
        rw [hz c hc hq, kzero_mul]
        exact sm_zero' (fun r _ => by rw [if_neg (by simp), kzero_mul])
      | some r0 =>
        rw [zOf_some hq]
        have e : ∀ r, r < n → (if some r0 = some r then (sw A m i).T i c else 0) * A r j = if r = r0 then (sw A m i).T i c * A r j else 0 := fun r _ => by
          by_cases q : r = r0
          · subst q; simp
          · rw [if_neg (fun e => q (by cases e; rfl)), if_neg q, kzero_mul]
        rw [sm_congr e, sm_at (fun r => (sw A m i).T i c * A r j), if_pos (by have := (inv.qp r0 c hq).2; omega)]
    have e3 : sm (fun r => ((if r = i then 1 else 0) + sm (fun c => if (sw A m i).Q c = some r then (sw A m i).T i c else 0) m) * A r j) n = A i j + A i j := by
      rw [sm_congr (fun r _ => kadd_mul _ _ _), sm_add, e1, e2, ← ht]
    rw [e3, kadd_self]) i hi
  simp only [if_true] at hc
  rw [hci, kadd_zero] at hc
  exact K.one_ne hc
theorem indep_full {A : Nat → Nat → K} {n m : Nat} (h : Indep A n m) : ∀ k, k ≤ n → (sw A m k).l.length = k
  | 0, _ => rfl
  | k + 1, hk => by
    cases hp : pcol (sw A m k).T (sw A m k).Q k m 0 with
    | none => exact absurd hp (indep_pivot h k (by omega))
    | some c =>
      rw [sw_some hp]
      show ((sw A m k).l ++ [c]).length = k + 1
      rw [List.length_append, indep_full h k (by omega)]; rfl
end Go.Proofs.Ytapgdenodhcliaa
