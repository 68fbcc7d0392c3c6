/- Texts laid into one, cut to what is needed: the remark ahead of each part says what is proved there. -/
import Derived.Test.YtdohmokhfajjpaaGreatDoorPah
/- Texts laid into one: the remark ahead of each part says what is proved there. -/
/- Plain mathematics: the numbers of eight bits as a type of their own, a field; sums over the first n places and what may be done with them; a map that is one to one on the first n numbers reaches each of them. No conditions. Nothing of the program is imported. -/
namespace Go.Proofs.YtdohmokhfajjpaaGreatDoor.U

/-- A number of eight bits. -/
structure K where
 val : Nat
 lt : val < 256
theorem K.ext {a b : K} (h : a.val = b.val) : a = b := by cases a; cases b; cases h; rfl
instance : DecidableEq K := fun a b => if h : a.val = b.val then isTrue (K.ext h) else isFalse (fun e => h (by rw [e]))
instance : Inhabited K := ⟨⟨0, by decide⟩⟩
/-- Any number, taken as one of eight bits. -/
def kb (n : Nat) : K := ⟨n % 256, Nat.mod_lt _ (by decide)⟩
theorem kb_val (n : Nat) (h : n < 256) : (kb n).val = n := Nat.mod_eq_of_lt h
theorem kb_inj {a b : Nat} (ha : a < 256) (hb : b < 256) (h : kb a = kb b) : a = b := by
 have := congrArg K.val h; rwa [kb_val a ha, kb_val b hb] at this
namespace K
def k0 : K := ⟨0, by decide⟩
def k1 : K := ⟨1, by decide⟩
def ad (a b : K) : K := ⟨a.val ^^^ b.val, Gf.xor_lt _ _ a.lt b.lt⟩
def ml (a b : K) : K := ⟨Gf.gm a.val b.val, Gf.gm_lt _ _ a.lt⟩
def iv (a : K) : K := ⟨if a.val = 0 then 0 else Gf.gi a.val, by have := Gf.gi_lt a.val a.lt; split <;> omega⟩
end K
instance : Add K := ⟨K.ad⟩
instance : Mul K := ⟨K.ml⟩
instance : OfNat K 0 := ⟨K.k0⟩
instance : OfNat K 1 := ⟨K.k1⟩
theorem K.val_add (a b : K) : (a + b).val = a.val ^^^ b.val := rfl
theorem K.val_ne {a : K} (h : a ≠ 0) : a.val ≠ 0 := fun e => h (K.ext e)
theorem K.one_ne : (1 : K) ≠ 0 := by decide

theorem kadd_comm (a b : K) : a + b = b + a := K.ext (Nat.xor_comm _ _)
theorem kadd_assoc (a b c : K) : a + b + c = a + (b + c) := K.ext (Nat.xor_assoc _ _ _)
theorem kadd_self (a : K) : a + a = 0 := K.ext (Nat.xor_self _)
theorem kadd_zero (a : K) : a + 0 = a := K.ext (Nat.xor_zero _)
theorem kzero_add (a : K) : 0 + a = a := K.ext (Nat.zero_xor _)
theorem kmul_comm (a b : K) : a * b = b * a := K.ext (Gf.gm_comm _ _ a.lt b.lt)
theorem kmul_assoc (a b c : K) : a * b * c = a * (b * c) := K.ext (Gf.gm_assoc _ _ _ a.lt b.lt c.lt)
theorem kmul_add (a b c : K) : a * (b + c) = a * b + a * c := K.ext (Gf.gm_right _ _ _)
theorem kadd_mul (a b c : K) : (a + b) * c = a * c + b * c := K.ext (Gf.gm_left _ _ _)
theorem kmul_one (a : K) : a * 1 = a := K.ext (Gf.gm_one _ a.lt)
theorem kone_mul (a : K) : 1 * a = a := K.ext (Gf.one_gm _ a.lt)
theorem kmul_zero (a : K) : a * 0 = 0 := K.ext (Gf.gm_zero _)
theorem kzero_mul (a : K) : 0 * a = 0 := K.ext (Gf.zero_gm _)
theorem kiv_mul (a : K) (h : a ≠ 0) : K.iv a * a = 1 := by
 apply K.ext
 show Gf.gm (if a.val = 0 then 0 else Gf.gi a.val) a.val = 1
 rw [if_neg (K.val_ne h)]
 exact Gf.gi_gm _ a.lt (K.val_ne h)
theorem kmul_iv (a : K) (h : a ≠ 0) : a * K.iv a = 1 := by rw [kmul_comm]; exact kiv_mul a h
theorem kiv_ne (a : K) (h : a ≠ 0) : K.iv a ≠ 0 := fun e => by
 have := kiv_mul a h
 rw [e, kzero_mul] at this
 exact K.one_ne this.symm
theorem kmul_ne {a b : K} (ha : a ≠ 0) (h : a * b = 0) : b = 0 := by
 have : K.iv a * (a * b) = b := by rw [← kmul_assoc, kiv_mul a ha, kone_mul]
 rw [h, kmul_zero] at this; exact this.symm
theorem kadd_lc (a b c : K) : a + (b + c) = b + (a + c) := by rw [← kadd_assoc, kadd_comm a b, kadd_assoc]
theorem kmul_lc (a b c : K) : a * (b * c) = b * (a * c) := by rw [← kmul_assoc, kmul_comm a b, kmul_assoc]
theorem kadd4 (a b c d : K) : (a + b) + (c + d) = (a + c) + (b + d) := by rw [kadd_assoc, kadd_assoc, kadd_lc b c d]
/-- Sums are differences. -/
theorem keq_add {a b c : K} : a = b + c ↔ a + c = b := by
 constructor
 ·intro h; rw [h, kadd_assoc, kadd_self, kadd_zero]
 ·intro h; rw [← h, kadd_assoc, kadd_self, kadd_zero]
theorem kadd_eq_zero {a b : K} (h : a + b = 0) : a = b := by
 have := keq_add.2 h; rwa [kzero_add] at this

/-- The sum over the first n places. -/
def sm (f : Nat → K) : Nat → K
 | 0 => 0
 | n + 1 => sm f n + f n
theorem sm_congr {f g : Nat → K} : ∀ {n : Nat}, (∀ i, i < n → f i = g i) → sm f n = sm g n
 | 0, _ => rfl
 | n + 1, h => by show sm f n + f n = sm g n + g n; rw [sm_congr (fun i hi => h i (by omega)), h n (by omega)]
theorem sm_zero : ∀ n, sm (fun _ => 0) n = 0
 | 0 => rfl
 | n + 1 => by show sm _ n + 0 = 0; rw [sm_zero n]; rfl
theorem sm_zero' {f : Nat → K} {n : Nat} (h : ∀ i, i < n → f i = 0) : sm f n = 0 := by rw [sm_congr h, sm_zero]
theorem sm_add (f g : Nat → K) : ∀ n, sm (fun i => f i + g i) n = sm f n + sm g n
 | 0 => (kadd_zero 0).symm
 | n + 1 => by show sm _ n + (f n + g n) = (sm f n + f n) + (sm g n + g n); rw [sm_add f g n, kadd4]
theorem sm_mul (c : K) (f : Nat → K) : ∀ n, sm (fun i => c * f i) n = c * sm f n
 | 0 => (kmul_zero c).symm
 | n + 1 => by show sm _ n + c * f n = c * (sm f n + f n); rw [sm_mul c f n, kmul_add]
theorem sm_mul' (c : K) (f : Nat → K) (n : Nat) : sm (fun i => f i * c) n = sm f n * c := by
 rw [kmul_comm, ← sm_mul]; exact sm_congr (fun i _ => kmul_comm _ _)
theorem sm_swap (f : Nat → Nat → K) (m : Nat) : ∀ n, sm (fun i => sm (fun j => f i j) m) n = sm (fun j => sm (fun i => f i j) n) m
 | 0 => (sm_zero m).symm
 | n + 1 => by
  show sm (fun i => sm (fun j => f i j) m) n + sm (fun j => f n j) m = sm (fun j => sm (fun i => f i j) n + f n j) m
  rw [sm_swap f m n, sm_add]
theorem sm_at (f : Nat → K) (k : Nat) : ∀ n, sm (fun i => if i = k then f i else 0) n = if k < n then f k else 0
 | 0 => by rw [if_neg (by omega)]; rfl
 | n + 1 => by
  show sm _ n + (if n = k then f n else 0) = _
  rw [sm_at f k n]
  by_cases e : n = k
  ·subst e; rw [if_neg (by omega), if_pos rfl, if_pos (by omega), kzero_add]
  ·rw [if_neg e, kadd_zero]
   by_cases h : k < n
   ·rw [if_pos h, if_pos (by omega)]
   ·rw [if_neg h, if_neg (by omega)]
theorem sm_split (f : Nat → K) (k n : Nat) (h : k < n) : sm f n = f k + sm (fun i => if i = k then 0 else f i) n := by
 have e := sm_at f k n
 rw [if_pos h] at e
 rw [← e, ← sm_add]
 refine sm_congr (fun i _ => ?_)
 by_cases hi : i = k
 ·rw [if_pos hi, if_pos hi, kadd_zero]
 ·rw [if_neg hi, if_neg hi, kzero_add]

/-- More than there is room for cannot be one to one. -/
theorem pigeon : ∀ (n m : Nat) (f : Nat → Nat), (∀ i, i < m → f i < n) → (∀ i j, i < m → j < m → f i = f j → i = j) → m ≤ n
 | 0, m, f, hf, _ => by
  rcases Nat.eq_zero_or_pos m with h | h
  ·omega
  ·exact absurd (hf 0 h) (by omega)
 | n + 1, 0, _, _, _ => by omega
 | n + 1, m + 1, f, hf, hj => by
  have h := pigeon n m (fun i => if f i = n then f m else f i) (fun i hi => by
   show (if f i = n then f m else f i) < n
   have h1 := hf i (by omega)
   have h2 := hf m (by omega)
   by_cases e : f i = n
   ·rw [if_pos e]
    have : f m ≠ n := fun e2 => by have := hj i m (by omega) (by omega) (e.trans e2.symm); omega
    omega
   ·rw [if_neg e]; omega) (fun i j hi hj' e => by
   have e' : (if f i = n then f m else f i) = (if f j = n then f m else f j) := e
   by_cases e1 : f i = n
   ·by_cases e2 : f j = n
    ·exact hj i j (by omega) (by omega) (e1.trans e2.symm)
    ·rw [if_pos e1, if_neg e2] at e'
     have := hj m j (by omega) (by omega) e'; omega
   ·by_cases e2 : f j = n
    ·rw [if_neg e1, if_pos e2] at e'
     have := hj i m (by omega) (by omega) e'; omega
    ·rw [if_neg e1, if_neg e2] at e'
     exact hj i j (by omega) (by omega) e')
  omega
theorem inj_surj {n : Nat} {p : Nat → Nat} (hp : ∀ i, i < n → p i < n) (hj : ∀ i j, i < n → j < n → p i = p j → i = j) (j : Nat) (h : j < n) : ∃ i, i < n ∧ p i = j := by
 apply Classical.byContradiction
 intro hne
 have hno : ∀ i, i < n → p i ≠ j := fun i hi e => hne ⟨i, hi, e⟩
 have := pigeon n (n + 1) (fun i => if i < n then p i else j) (fun i hi => by
  show (if i < n then p i else j) < n
  by_cases e : i < n
  ·rw [if_pos e]; exact hp i e
  ·rw [if_neg e]; exact h) (fun i k hi hk e => by
  have e' : (if i < n then p i else j) = (if k < n then p k else j) := e
  by_cases e1 : i < n
  ·by_cases e2 : k < n
   ·rw [if_pos e1, if_pos e2] at e'; exact hj i k e1 e2 e'
   ·rw [if_pos e1, if_neg e2] at e'; exact absurd e' (hno i e1)
  ·by_cases e2 : k < n
   ·rw [if_neg e1, if_pos e2] at e'; exact absurd e'.symm (hno k e2)
   ·omega)
 omega
/-- A sum may be gone through in any order. -/
theorem sm_perm {n : Nat} {p : Nat → Nat} (hp : ∀ i, i < n → p i < n) (hj : ∀ i j, i < n → j < n → p i = p j → i = j) (f : Nat → K) : sm f n = sm (fun k => f (p k)) n := by
 have h1 : ∀ j, j < n → f j = sm (fun k => if p k = j then f j else 0) n := by
  intro j hlt
  obtain ⟨k, hk, rfl⟩ := inj_surj hp hj j hlt
  have e : ∀ i, i < n → (if p i = p k then f (p k) else 0) = if i = k then (fun _ => f (p k)) i else 0 := by
   intro i hi
   by_cases e : i = k
   ·subst e; rw [if_pos rfl, if_pos rfl]
   ·rw [if_neg (fun h => e (hj i k hi hk h)), if_neg e]
  rw [sm_congr e, sm_at, if_pos hk]
 have h2 : ∀ k, k < n → sm (fun j => if p k = j then f j else 0) n = f (p k) := by
  intro k hk
  have e : ∀ j, j < n → (if p k = j then f j else 0) = if j = p k then f j else 0 := by
   intro j _
   by_cases e : p k = j
   ·rw [if_pos e, if_pos e.symm]
   ·rw [if_neg e, if_neg (fun h => e h.symm)]
  rw [sm_congr e, sm_at, if_pos (hp k hk)]
 rw [sm_congr h1, ← sm_congr h2]
 exact sm_swap (fun j k => if p k = j then f j else 0) n n

/-- The product of two matrices, the first one's rows having m numbers. -/
def pr (m : Nat) (X Y : Nat → Nat → K) (i j : Nat) : K := sm (fun k => X i k * Y k j) m
/-- The one. -/
def on (i j : Nat) : K := if i = j then 1 else 0
theorem pr_assoc (m l : Nat) (X Y Z : Nat → Nat → K) (i j : Nat) : pr l (pr m X Y) Z i j = pr m X (pr l Y Z) i j := by
 unfold pr
 rw [sm_congr (fun k _ => (sm_mul' (Z k j) (fun q => X i q * Y q k) m).symm), sm_swap]
 refine sm_congr (fun q _ => ?_)
 rw [← sm_mul]
 exact sm_congr (fun k _ => kmul_assoc _ _ _)
end Go.Proofs.YtdohmokhfajjpaaGreatDoor.U

/- Plain mathematics of sweeping a matrix by exchanges: what the rows tell of each other stays true in either direction; so a matrix all of whose rows were exchanged leads to its inverse, and a row that has no pivot is a sum of multiples of the rows ahead of it. No conditions but bounds. Nothing of the program is imported. -/
namespace Go.Proofs.YtdohmokhfajjpaaGreatDoor.U

/-- One place turned, of any function. -/
def put {α : Type} (f : Nat → α) (k : Nat) (v : α) : Nat → α := fun i => if i = k then v else f i
theorem put_same {α : Type} (f : Nat → α) (k : Nat) (v : α) : put f k v k = v := if_pos rfl
theorem put_other {α : Type} (f : Nat → α) (k : Nat) (v : α) (i : Nat) (h : i ≠ k) : put f k v i = f i := if_neg h

/-- The pivot's row behind the exchange; all rows behind it. -/
def xrow (T : Nat → Nat → K) (i0 j0 : Nat) (j : Nat) : K := (if j = j0 then 1 else T i0 j) * K.iv (T i0 j0)
def xch (T : Nat → Nat → K) (i0 j0 : Nat) : Nat → Nat → K := fun i j => if i = i0 then xrow T i0 j0 j else (if j = j0 then 0 else T i j) + T i j0 * xrow T i0 j0 j

/-- The sum of a row without its place j0. -/
def rest (T : Nat → Nat → K) (j0 m : Nat) (z : Nat → K) (i : Nat) : K := sm (fun j => if j = j0 then 0 else T i j * z j) m
theorem row_split (T : Nat → Nat → K) (j0 m : Nat) (z : Nat → K) (i : Nat) (h : j0 < m) : sm (fun j => T i j * z j) m = T i j0 * z j0 + rest T j0 m z i := sm_split _ j0 m h
theorem xrow_sum (T : Nat → Nat → K) (i0 j0 m : Nat) (z : Nat → K) (u : K) (h : j0 < m) : sm (fun j => xrow T i0 j0 j * put z j0 u j) m = K.iv (T i0 j0) * (u + rest T j0 m z i0) := by
 rw [sm_split _ j0 m h, put_same]
 have e1 : xrow T i0 j0 j0 * u = K.iv (T i0 j0) * u := by unfold xrow; rw [if_pos rfl, kone_mul]
 have e2 : sm (fun j => if j = j0 then 0 else xrow T i0 j0 j * put z j0 u j) m = K.iv (T i0 j0) * rest T j0 m z i0 := by
  unfold rest
  rw [← sm_mul]
  refine sm_congr (fun j _ => ?_)
  by_cases e : j = j0
  ·rw [if_pos e, if_pos e, kmul_zero]
  ·rw [if_neg e, if_neg e, put_other _ _ _ _ e]
   unfold xrow
   rw [if_neg e, kmul_comm (T i0 j), kmul_assoc]
 rw [e1, e2, kmul_add]
theorem xch_sum (T : Nat → Nat → K) (i0 j0 m i : Nat) (z : Nat → K) (u : K) (h : j0 < m) (hi : i ≠ i0) : sm (fun j => xch T i0 j0 i j * put z j0 u j) m = rest T j0 m z i + T i j0 * (K.iv (T i0 j0) * (u + rest T j0 m z i0)) := by
 rw [← xrow_sum T i0 j0 m z u h, ← sm_mul]
 unfold rest
 rw [← sm_add]
 refine sm_congr (fun j _ => ?_)
 unfold xch
 rw [if_neg hi]
 by_cases e : j = j0
 ·rw [if_pos e, if_pos e, kzero_add, kzero_add, kmul_assoc]
 ·rw [if_neg e, if_neg e, put_other _ _ _ _ e, kadd_mul, kmul_assoc]

theorem pivot_solve {p c u z s : K} (hc : c * p = 1) : u = p * z + s ↔ z = c * (u + s) := by
 have hp : p * c = 1 := by rw [kmul_comm]; exact hc
 constructor
 ·intro h; rw [h, kadd_assoc, kadd_self, kadd_zero, ← kmul_assoc, hc, kone_mul]
 ·intro h; rw [h, ← kmul_assoc, hp, kone_mul, kadd_assoc, kadd_self, kadd_zero]

/-- What the rows tell, in either direction. -/
theorem xch_tells (T : Nat → Nat → K) (n m i0 j0 : Nat) (u z : Nat → K) (hi0 : i0 < n) (hj0 : j0 < m) (hp : T i0 j0 ≠ 0) :
  (∀ i, i < n → u i = sm (fun j => T i j * z j) m) ↔ (∀ i, i < n → put u i0 (z j0) i = sm (fun j => xch T i0 j0 i j * put z j0 (u i0) j) m) := by
 have hc := kiv_mul _ hp
 have h0 : put u i0 (z j0) i0 = sm (fun j => xch T i0 j0 i0 j * put z j0 (u i0) j) m ↔ u i0 = sm (fun j => T i0 j * z j) m := by
  have e : sm (fun j => xch T i0 j0 i0 j * put z j0 (u i0) j) m = K.iv (T i0 j0) * (u i0 + rest T j0 m z i0) := by
   rw [← xrow_sum T i0 j0 m z (u i0) hj0]
   exact sm_congr (fun j _ => by unfold xch; rw [if_pos rfl])
  rw [put_same, e, row_split T j0 m z i0 hj0]
  exact (pivot_solve hc).symm
 have hz : ∀ i, i ≠ i0 → z j0 = K.iv (T i0 j0) * (u i0 + rest T j0 m z i0) → (put u i0 (z j0) i = sm (fun j => xch T i0 j0 i j * put z j0 (u i0) j) m ↔ u i = sm (fun j => T i j * z j) m) := by
  intro i hi e
  rw [put_other _ _ _ _ hi, xch_sum T i0 j0 m i z (u i0) hj0 hi, ← e, row_split T j0 m z i hj0, kadd_comm]
 have hz0 : u i0 = sm (fun j => T i0 j * z j) m → z j0 = K.iv (T i0 j0) * (u i0 + rest T j0 m z i0) := by
  intro h; rw [row_split T j0 m z i0 hj0] at h; exact (pivot_solve hc).1 h
 constructor
 ·intro h i hi
  by_cases e : i = i0
  ·subst e; exact h0.2 (h i hi)
  ·exact (hz i e (hz0 (h i0 hi0))).2 (h i hi)
 ·intro h i hi
  have h1 := h0.1 (h i0 hi0)
  by_cases e : i = i0
  ·subst e; exact h1
  ·exact (hz i e (hz0 h1)).1 (h i hi)

/-- The first column from j on, of f that are left, in which row i may be exchanged. -/
def pcol (T : Nat → Nat → K) (Q : Nat → Option Nat) (i : Nat) : Nat → Nat → Option Nat
 | 0, _ => none
 | f + 1, j => if (Q j).isSome = true ∨ T i j = 0 then pcol T Q i f (j + 1) else some j
theorem pcol_some {T : Nat → Nat → K} {Q : Nat → Option Nat} {i : Nat} : ∀ {f j r : Nat}, pcol T Q i f j = some r → j ≤ r ∧ r < j + f ∧ Q r = none ∧ T i r ≠ 0
 | 0, _, _, h => by cases h
 | f + 1, j, r, h => by
  unfold pcol at h
  by_cases e : (Q j).isSome = true ∨ T i j = 0
  ·rw [if_pos e] at h
   have := pcol_some h
   exact ⟨by omega, by omega, this.2.2⟩
  ·rw [if_neg e] at h
   cases h
   refine ⟨by omega, by omega, ?_, fun q => e (.inr q)⟩
   cases hq : Q j with
   | none => rfl
   | some v => exact absurd (.inl (by rw [hq]; rfl)) e
theorem pcol_none {T : Nat → Nat → K} {Q : Nat → Option Nat} {i : Nat} : ∀ {f j : Nat}, pcol T Q i f j = none → ∀ r, j ≤ r → r < j + f → Q r = none → T i r = 0
 | 0, _, _, r, h1, h2, _ => by omega
 | f + 1, j, h, r, h1, h2, hq => by
  unfold pcol at h
  by_cases e : (Q j).isSome = true ∨ T i j = 0
  ·rw [if_pos e] at h
   by_cases q : r = j
   ·subst q
    rcases e with e | e
    ·rw [hq] at e; cases e
    ·exact e
   ·exact pcol_none h r (by omega) (by omega) hq
  ·rw [if_neg e] at h; cases h

/-- How far a sweep has come: the numbers, each row's pivot, each column's row, the pivots one by one. -/
structure Sw where
 T : Nat → Nat → K
 P : Nat → Option Nat
 Q : Nat → Option Nat
 l : List Nat
def swStep (m : Nat) (s : Sw) (i : Nat) : Sw := match pcol s.T s.Q i m 0 with
 | none => s
 | some j => ⟨xch s.T i j, put s.P i (some j), put s.Q j (some i), s.l ++ [j]⟩
def sw (A : Nat → Nat → K) (m : Nat) : Nat → Sw
 | 0 => ⟨A, fun _ => none, fun _ => none, []⟩
 | i + 1 => swStep m (sw A m i) i
theorem sw_none {A : Nat → Nat → K} {m i : Nat} (h : pcol (sw A m i).T (sw A m i).Q i m 0 = none) : sw A m (i + 1) = sw A m i := by
 show swStep m (sw A m i) i = _; unfold swStep; rw [h]
theorem sw_some {A : Nat → Nat → K} {m i j : Nat} (h : pcol (sw A m i).T (sw A m i).Q i m 0 = some j) :
  sw A m (i + 1) = ⟨xch (sw A m i).T i j, put (sw A m i).P i (some j), put (sw A m i).Q j (some i), (sw A m i).l ++ [j]⟩ := by
 show swStep m (sw A m i) i = _; unfold swStep; rw [h]

def uOf (P : Nat → Option Nat) (x y : Nat → K) (i : Nat) : K := match P i with | some j => x j | none => y i
def zOf (Q : Nat → Option Nat) (x y : Nat → K) (j : Nat) : K := match Q j with | some i => y i | none => x j
theorem uOf_some {P : Nat → Option Nat} {x y : Nat → K} {i j : Nat} (h : P i = some j) : uOf P x y i = x j := by unfold uOf; rw [h]
theorem uOf_none {P : Nat → Option Nat} {x y : Nat → K} {i : Nat} (h : P i = none) : uOf P x y i = y i := by unfold uOf; rw [h]
theorem zOf_some {Q : Nat → Option Nat} {x y : Nat → K} {j i : Nat} (h : Q j = some i) : zOf Q x y j = y i := by unfold zOf; rw [h]
theorem zOf_none {Q : Nat → Option Nat} {x y : Nat → K} {j : Nat} (h : Q j = none) : zOf Q x y j = x j := by unfold zOf; rw [h]

/-- What is known of a sweep that has come to row k of n. -/
structure SwInv (A : Nat → Nat → K) (n m k : Nat) (s : Sw) : Prop where
 tells : ∀ x y : Nat → K, (∀ i, i < n → y i = sm (fun j => A i j * x j) m) ↔ (∀ i, i < n → uOf s.P x y i = sm (fun j => s.T i j * zOf s.Q x y j) m)
 later : ∀ i, k ≤ i → s.P i = none
 pq : ∀ i j, s.P i = some j → s.Q j = some i ∧ j < m
 qp : ∀ i j, s.Q j = some i → s.P i = some j ∧ i < k
 zero : ∀ i, i < k → s.P i = none → ∀ j, j < m → s.Q j = none → s.T i j = 0
 len : s.l.length ≤ k
 list : s.l.length = k → ∀ i, i < k → s.P i = s.l[i]?

theorem sw_inv (A : Nat → Nat → K) (n m : Nat) : ∀ k, k ≤ n → SwInv A n m k (sw A m k)
 | 0, _ => ⟨fun x y => by show _ ↔ (∀ i, i < n → y i = sm (fun j => A i j * x j) m); exact Iff.rfl, fun _ _ => rfl, (fun _ _ h => by cases h), (fun _ _ h => by cases h), fun i hi => absurd hi (by omega), Nat.le_refl _, fun _ i hi => absurd hi (by omega)⟩
 | k + 1, hk => by
  have ih := sw_inv A n m k (by omega)
  cases hp : pcol (sw A m k).T (sw A m k).Q k m 0 with
  | none =>
   rw [sw_none hp]
   refine ⟨ih.tells, fun i hi => ih.later i (by omega), ih.pq, fun i j h => ⟨(ih.qp i j h).1, by have := (ih.qp i j h).2; omega⟩, fun i hi hP j hj hQ => ?_, by have := ih.len; omega, fun h => ?_⟩
   ·by_cases e : i = k
    ·subst e; exact pcol_none hp j (by omega) (by omega) hQ
    ·exact ih.zero i (by omega) hP j hj hQ
   ·have := ih.len; omega
  | some c =>
   rw [sw_some hp]
   obtain ⟨_, hc, hQ, hT⟩ := pcol_some hp
   have hPk := ih.later k (Nat.le_refl _)
   refine ⟨fun x y => ?_, fun i hi => ?_, fun i j h => ?_, fun i j h => ?_, fun i hi hP j hj hQ' => ?_, ?_, fun h i hi => ?_⟩
   ·rw [ih.tells x y, xch_tells (sw A m k).T n m k c _ _ (by omega) (by omega) hT]
    have e1 : ∀ i, uOf (put (sw A m k).P k (some c)) x y i = put (uOf (sw A m k).P x y) k (zOf (sw A m k).Q x y c) i := fun i => by
     by_cases e : i = k
     ·subst e; rw [put_same, zOf_none hQ]; exact uOf_some (put_same _ _ _)
     ·rw [put_other _ _ _ _ e]; unfold uOf; rw [put_other _ _ _ _ e]
    have e2 : ∀ j, zOf (put (sw A m k).Q c (some k)) x y j = put (zOf (sw A m k).Q x y) c (uOf (sw A m k).P x y k) j := fun j => by
     by_cases e : j = c
     ·subst e; rw [put_same, uOf_none hPk]; exact zOf_some (put_same _ _ _)
     ·rw [put_other _ _ _ _ e]; unfold zOf; rw [put_other _ _ _ _ e]
    constructor
    ·intro h i hi
     rw [e1 i, h i hi]
     exact sm_congr (fun j _ => by rw [e2 j])
    ·intro h i hi
     rw [← e1 i, h i hi]
     exact sm_congr (fun j _ => by rw [e2 j])
   ·show put (sw A m k).P k (some c) i = none
    rw [put_other _ _ _ _ (by omega)]; exact ih.later i (by omega)
   ·show put (sw A m k).Q c (some k) j = some i ∧ j < m
    have h' : put (sw A m k).P k (some c) i = some j := h
    by_cases e : i = k
    ·subst e; rw [put_same] at h'; cases h'; exact ⟨put_same _ _ _, by omega⟩
    ·rw [put_other _ _ _ _ e] at h'
     have q := ih.pq i j h'
     have : j ≠ c := fun e2 => by rw [e2, hQ] at q; cases q.1
     rw [put_other _ _ _ _ this]; exact q
   ·show put (sw A m k).P k (some c) i = some j ∧ i < k + 1
    have h' : put (sw A m k).Q c (some k) j = some i := h
    by_cases e : j = c
    ·subst e; rw [put_same] at h'; cases h'; exact ⟨put_same _ _ _, by omega⟩
    ·rw [put_other _ _ _ _ e] at h'
     have q := ih.qp i j h'
     rw [put_other _ _ _ _ (by omega)]; exact ⟨q.1, by omega⟩
   ·have hP' : put (sw A m k).P k (some c) i = none := hP
    have hQ'' : put (sw A m k).Q c (some k) j = none := hQ'
    have e : i ≠ k := fun e => by subst e; rw [put_same] at hP'; cases hP'
    have e2 : j ≠ c := fun e => by subst e; rw [put_same] at hQ''; cases hQ''
    rw [put_other _ _ _ _ e] at hP'
    rw [put_other _ _ _ _ e2] at hQ''
    show xch (sw A m k).T k c i j = 0
    unfold xch
    rw [if_neg e, if_neg e2, ih.zero i (by omega) hP' j hj hQ'', ih.zero i (by omega) hP' c (by omega) hQ, kzero_mul, kzero_add]
   ·show ((sw A m k).l ++ [c]).length ≤ k + 1
    have := ih.len
    simp; omega
   ·have h' : (sw A m k).l.length = k := by have h2 : ((sw A m k).l ++ [c]).length = k + 1 := h; simp at h2; exact h2
    show put (sw A m k).P k (some c) i = ((sw A m k).l ++ [c])[i]?
    by_cases e : i = k
    ·subst e; rw [put_same, List.getElem?_append_right (by omega), h']; simp
    ·rw [put_other _ _ _ _ e, List.getElem?_append_left (by omega)]; exact ih.list h' i (by omega)

/-- The pivots, as a function. -/
def piv (s : Sw) (i : Nat) : Nat := (s.l[i]?).getD 0
/-- The inverse that is read out of a sweep all of whose rows have a pivot. -/
def IsOrd (s : Sw) (n : Nat) (Bm : Nat → Nat → K) : Prop := ∀ i, i < n → ∀ k, k < n → Bm (piv s i) k = s.T i (piv s k)
theorem full_P {A : Nat → Nat → K} {n m : Nat} (h : (sw A m n).l.length = n) (i : Nat) (hi : i < n) : (sw A m n).P i = some (piv (sw A m n) i) := by
 have := (sw_inv A n m n (Nat.le_refl _)).list h i hi
 rw [this]; unfold piv; rw [List.getElem?_eq_getElem (by omega)]; rfl
theorem full_lt {A : Nat → Nat → K} {n m : Nat} (h : (sw A m n).l.length = n) (i : Nat) (hi : i < n) : piv (sw A m n) i < m :=
 ((sw_inv A n m n (Nat.le_refl _)).pq _ _ (full_P h i hi)).2
theorem full_inj {A : Nat → Nat → K} {n m : Nat} (h : (sw A m n).l.length = n) (i j : Nat) (hi : i < n) (hj : j < n) (e : piv (sw A m n) i = piv (sw A m n) j) : i = j := by
 have inv := sw_inv A n m n (Nat.le_refl _)
 have h1 := (inv.pq _ _ (full_P h i hi)).1
 have h2 := (inv.pq _ _ (full_P h j hj)).1
 rw [e, h2] at h1
 cases h1; rfl
theorem full_tells {A : Nat → Nat → K} {n : Nat} (h : (sw A n n).l.length = n) {Bm : Nat → Nat → K} (hB : IsOrd (sw A n n) n Bm) (x y : Nat → K) :
  (∀ i, i < n → y i = sm (fun j => A i j * x j) n) ↔ (∀ i, i < n → x i = sm (fun k => Bm i k * y k) n) := by
 have inv := sw_inv A n n n (Nat.le_refl _)
 have hlt := fun i hi => full_lt h i hi
 have hinj := fun i j hi hj e => full_inj h i j hi hj e
 rw [inv.tells x y]
 have e1 : ∀ i, i < n → uOf (sw A n n).P x y i = x (piv (sw A n n) i) := fun i hi => uOf_some (full_P h i hi)
 have e2 : ∀ i, i < n → sm (fun j => (sw A n n).T i j * zOf (sw A n n).Q x y j) n = sm (fun k => Bm (piv (sw A n n) i) k * y k) n := fun i hi => by
  rw [sm_perm hlt hinj]
  refine sm_congr (fun k hk => ?_)
  rw [zOf_some (inv.pq _ _ (full_P h k hk)).1, hB i hi k hk]
 constructor
 ·intro hh i hi
  obtain ⟨r, hr, rfl⟩ := inj_surj hlt hinj i hi
  rw [← e1 r hr, hh r hr, e2 r hr]
 ·intro hh i hi
  rw [e1 i hi, e2 i hi]; exact hh _ (hlt i hi)
/-- The inverse makes the one, on either side. -/
theorem full_left {A : Nat → Nat → K} {n : Nat} (h : (sw A n n).l.length = n) {Bm : Nat → Nat → K} (hB : IsOrd (sw A n n) n Bm) (i j : Nat) (hi : i < n) (hj : j < n) : pr n Bm A i j = on i j := by
 have := (full_tells h hB (fun r => on r j) (fun r => A r j)).1 (fun r _ => by
  have e : ∀ c, c < n → A r c * on c j = if c = j then A r c else 0 := fun c _ => by unfold on; by_cases q : c = j <;> simp [q, kmul_one, kmul_zero]
  rw [sm_congr e, sm_at (fun c => A r c), if_pos hj]) i hi
 exact this.symm
theorem full_right {A : Nat → Nat → K} {n : Nat} (h : (sw A n n).l.length = n) {Bm : Nat → Nat → K} (hB : IsOrd (sw A n n) n Bm) (i j : Nat) (hi : i < n) (hj : j < n) : pr n A Bm i j = on i j := by
 have := (full_tells h hB (fun r => Bm r j) (fun r => on r j)).2 (fun r _ => by
  have e : ∀ c, c < n → Bm r c * on c j = if c = j then Bm r c else 0 := fun c _ => by unfold on; by_cases q : c = j <;> simp [q, kmul_one, kmul_zero]
  rw [sm_congr e, sm_at (fun c => Bm r c), if_pos hj]) i hi
 exact this.symm

/-- No row is a sum of multiples of the others. -/
def Indep (A : Nat → Nat → K) (n m : Nat) : Prop := ∀ c : Nat → K, (∀ j, j < m → sm (fun r => c r * A r j) n = 0) → ∀ r, r < n → c r = 0
theorem indep_pivot {A : Nat → Nat → K} {n m : Nat} (h : Indep A n m) (i : Nat) (hi : i < n) : pcol (sw A m i).T (sw A m i).Q i m 0 ≠ none := by
 intro hp
 have inv := sw_inv A n m i (by omega)
 have hP := inv.later i (Nat.le_refl _)
 have hz : ∀ j, j < m → (sw A m i).Q j = none → (sw A m i).T i j = 0 := fun j hj hQ => pcol_none hp j (by omega) (by omega) hQ
 have hci : sm (fun j => if (sw A m i).Q j = some i then (sw A m i).T i j else 0) m = 0 := sm_zero' (fun j _ => by
  rw [if_neg]; intro q; have := (inv.qp i j q).2; omega)
 have hc := h (fun r => (if r = i then 1 else 0) + sm (fun j => if (sw A m i).Q j = some r then (sw A m i).T i j else 0) m) (fun j hj => by
  have ht := (inv.tells (fun r => on r j) (fun r => A r j)).1 (fun r _ => by
   have e : ∀ c, c < m → A r c * on c j = if c = j then A r c else 0 := fun c _ => by unfold on; by_cases q : c = j <;> simp [q, kmul_one, kmul_zero]
   rw [sm_congr e, sm_at (fun c => A r c), if_pos hj]) i hi
  rw [uOf_none hP] at ht
  have e1 : sm (fun r => (if r = i then 1 else 0) * A r j) n = A i j := by
   have e : ∀ r, r < n → (if r = i then 1 else 0) * A r j = if r = i then A r j else 0 := fun r _ => by by_cases q : r = i <;> simp [q, kone_mul, kzero_mul]
   rw [sm_congr e, sm_at (fun r => A r j), if_pos hi]
  have e2 : sm (fun r => sm (fun c => if (sw A m i).Q c = some r then (sw A m i).T i c else 0) m * A r j) n = sm (fun c => (sw A m i).T i c * zOf (sw A m i).Q (fun r => on r j) (fun r => A r j) c) m := by
   rw [sm_congr (fun r _ => (sm_mul' (A r j) _ m).symm), sm_swap]
   refine sm_congr (fun c hc => ?_)
   cases hq : (sw A m i).Q c with
   | none =>
    rw [hz c hc hq, kzero_mul]
    exact sm_zero' (fun r _ => by rw [if_neg (by simp), kzero_mul])
   | some r0 =>
    rw [zOf_some hq]
    have e : ∀ r, r < n → (if some r0 = some r then (sw A m i).T i c else 0) * A r j = if r = r0 then (sw A m i).T i c * A r j else 0 := fun r _ => by
     by_cases q : r = r0
     ·subst q; simp
     ·rw [if_neg (fun e => q (by cases e; rfl)), if_neg q, kzero_mul]
    rw [sm_congr e, sm_at (fun r => (sw A m i).T i c * A r j), if_pos (by have := (inv.qp r0 c hq).2; omega)]
  have e3 : sm (fun r => ((if r = i then 1 else 0) + sm (fun c => if (sw A m i).Q c = some r then (sw A m i).T i c else 0) m) * A r j) n = A i j + A i j := by
   rw [sm_congr (fun r _ => kadd_mul _ _ _), sm_add, e1, e2, ← ht]
  rw [e3, kadd_self]) i hi
 simp only [if_true] at hc
 rw [hci, kadd_zero] at hc
 exact K.one_ne hc
theorem indep_full {A : Nat → Nat → K} {n m : Nat} (h : Indep A n m) : ∀ k, k ≤ n → (sw A m k).l.length = k
 | 0, _ => rfl
 | k + 1, hk => by
  cases hp : pcol (sw A m k).T (sw A m k).Q k m 0 with
  | none => exact absurd hp (indep_pivot h k (by omega))
  | some c =>
   rw [sw_some hp]
   show ((sw A m k).l ++ [c]).length = k + 1
   rw [List.length_append, indep_full h k (by omega)]; rfl
end Go.Proofs.YtdohmokhfajjpaaGreatDoor.U

/- Plain mathematics: any k unlike rows of the code of k are independent (Cauchy's rows), by taking away one row and one column at a time. No conditions but bounds. Nothing of the program is imported. -/
namespace Go.Proofs.YtdohmokhfajjpaaGreatDoor.U

/-- The sum of a list. -/
def lsum : List K → K
 | [] => 0
 | a :: l => a + lsum l
theorem lsum_map_mul {α : Type} (c : K) (f : α → K) : ∀ l : List α, lsum (l.map fun x => c * f x) = c * lsum (l.map f)
 | [] => (kmul_zero c).symm
 | a :: l => by show c * f a + lsum (l.map fun x => c * f x) = c * (f a + lsum (l.map f)); rw [lsum_map_mul c f l, kmul_add]
theorem lsum_map_add {α : Type} (f g : α → K) : ∀ l : List α, lsum (l.map fun x => f x + g x) = lsum (l.map f) + lsum (l.map g)
 | [] => (kadd_zero 0).symm
 | a :: l => by show f a + g a + lsum (l.map fun x => f x + g x) = (f a + lsum (l.map f)) + (g a + lsum (l.map g)); rw [lsum_map_add f g l, kadd4]
theorem lsum_congr {α : Type} {f g : α → K} : ∀ {l : List α}, (∀ x ∈ l, f x = g x) → lsum (l.map f) = lsum (l.map g)
 | [], _ => rfl
 | a :: l, h => by show f a + lsum (l.map f) = g a + lsum (l.map g); rw [h a (by simp), lsum_congr (fun x hx => h x (by simp [hx]))]
theorem lsum_zero {α : Type} {f : α → K} {l : List α} (h : ∀ x ∈ l, f x = 0) : lsum (l.map f) = 0 := by
 rw [lsum_congr h]
 induction l with
 | nil => rfl
 | cons a l ih => show 0 + lsum (l.map fun _ => 0) = 0; rw [kzero_add]; exact ih (fun x hx => h x (by simp [hx]))

theorem kadd_ne {a b : K} (h : a ≠ b) : a + b ≠ 0 := fun e => h (kadd_eq_zero e)
theorem four (x0 x y0 y : K) : (x0 + y) * (x + y0) + (x0 + y0) * (x + y) = (x0 + x) * (y0 + y) := by
 have e1 : (x0 + y) * (x + y0) = (x0 * x + x0 * y0) + (y * x + y * y0) := by rw [kadd_mul, kmul_add, kmul_add]
 have e2 : (x0 + y0) * (x + y) = (x0 * x + x0 * y) + (y0 * x + y0 * y) := by rw [kadd_mul, kmul_add, kmul_add]
 have e3 : (x0 + x) * (y0 + y) = (x0 * y0 + x0 * y) + (x * y0 + x * y) := by rw [kadd_mul, kmul_add, kmul_add]
 rw [e1, e2, e3, kadd4, kadd4 (x0 * x), kadd_self, kzero_add, kmul_comm y y0, kmul_comm y0 x, kmul_comm y x, kadd_comm (x * y) (y0 * y), kadd_comm (x * y0) (y0 * y), kadd4 (y0 * y), kadd_self, kzero_add, kadd_comm (x * y)]
/-- Two fractions made one. -/
theorem frac {x0 x y0 y : K} (h1 : x + y ≠ 0) (h2 : x + y0 ≠ 0) : (x0 + y) * K.iv (x + y) + (x0 + y0) * K.iv (x + y0) = (x0 + x) * (y0 + y) * (K.iv (x + y) * K.iv (x + y0)) := by
 rw [← four, kadd_mul ((x0 + y) * (x + y0))]
 congr 1
 ·rw [kmul_assoc, ← kmul_assoc (x + y0), kmul_comm (x + y0) (K.iv (x + y)), kmul_assoc (K.iv (x + y)), kmul_iv _ h2, kmul_one]
 ·rw [kmul_assoc, ← kmul_assoc (x + y), kmul_iv _ h1, kone_mul]

theorem cauchy : ∀ (P : List (K × K)) (J : List K), J.Nodup → (P.map Prod.fst).Nodup → P.length ≤ J.length → (∀ x ∈ P, ∀ y ∈ J, x.1 ≠ y) → (∀ y ∈ J, lsum (P.map fun x => x.2 * K.iv (x.1 + y)) = 0) → ∀ x ∈ P, x.2 = 0
 | [], _, _, _, _, _, _ => fun x hx => by cases hx
 | (x0, c0) :: P, [], _, _, hl, _, _ => by simp at hl
 | (x0, c0) :: P, y0 :: J, hJ, hP, hl, hne, heq => by
  have hJ2 := List.nodup_cons.1 hJ
  have hP2 : x0 ∉ P.map Prod.fst ∧ (P.map Prod.fst).Nodup := List.nodup_cons.1 hP
  have hx0 : ∀ y, y ∈ y0 :: J → x0 + y ≠ 0 := fun y hy => kadd_ne (hne (x0, c0) (by simp) y hy)
  have hxy : ∀ x ∈ P, ∀ y, y ∈ y0 :: J → x.1 + y ≠ 0 := fun x hx y hy => kadd_ne (hne x (by simp [hx]) y hy)
  have hxx : ∀ x ∈ P, x0 + x.1 ≠ 0 := fun x hx => kadd_ne (fun e => hP2.1 (by rw [e]; exact List.mem_map_of_mem hx))
  have hS : ∀ y, y ∈ y0 :: J → c0 = (x0 + y) * lsum (P.map fun x => x.2 * K.iv (x.1 + y)) := fun y hy => by
   have h : c0 * K.iv (x0 + y) + lsum (P.map fun x => x.2 * K.iv (x.1 + y)) = 0 := heq y hy
   rw [← kadd_eq_zero h, kmul_lc, kmul_iv _ (hx0 y hy), kmul_one]
  have hPz : ∀ x ∈ P, x.2 = 0 := by
   have hz := cauchy (P.map fun x => (x.1, x.2 * ((x0 + x.1) * K.iv (x.1 + y0)))) J hJ2.2 (by rw [List.map_map]; exact hP2.2) (by simp at hl ⊢; exact hl)
    (fun x hx y hy => by
     obtain ⟨x', hx', rfl⟩ := List.mem_map.1 hx
     exact hne x' (by simp [hx']) y (by simp [hy]))
    (fun y hy => by
     have e0 := hS y0 (by simp)
     have e1 := hS y (by simp [hy])
     have hyy : y0 + y ≠ 0 := kadd_ne (fun e => hJ2.1 (by rw [e]; exact hy))
     have e2 : (x0 + y) * lsum (P.map fun x => x.2 * K.iv (x.1 + y)) + (x0 + y0) * lsum (P.map fun x => x.2 * K.iv (x.1 + y0)) = 0 := by rw [← e0, ← e1, kadd_self]
     rw [← lsum_map_mul, ← lsum_map_mul, ← lsum_map_add] at e2
     have e3 : lsum (P.map fun x => (y0 + y) * (x.2 * ((x0 + x.1) * K.iv (x.1 + y0)) * K.iv (x.1 + y))) = 0 := by
      rw [← e2]
      refine lsum_congr (fun x hx => ?_)
      have f := frac (x0 := x0) (hxy x hx y (by simp [hy])) (hxy x hx y0 (by simp))
      rw [kmul_lc (x0 + y), kmul_lc (x0 + y0), ← kmul_add, f]
      rw [kmul_assoc x.2, kmul_lc (y0 + y)]
      congr 1
      rw [kmul_assoc (x0 + x.1) _ (K.iv (x.1 + y)), kmul_lc (y0 + y) (x0 + x.1), kmul_assoc (x0 + x.1) (y0 + y), kmul_comm (K.iv (x.1 + y0))]
     rw [lsum_map_mul] at e3
     have e4 := kmul_ne hyy e3
     rw [List.map_map]
     exact e4)
   intro x hx
   have h := hz (x.1, x.2 * ((x0 + x.1) * K.iv (x.1 + y0))) (List.mem_map.2 ⟨x, hx, rfl⟩)
   have h' : x.2 * ((x0 + x.1) * K.iv (x.1 + y0)) = 0 := h
   rw [kmul_comm, kmul_assoc] at h'
   exact kmul_ne (kiv_ne _ (hxy x hx y0 (by simp))) (kmul_ne (hxx x hx) h')
  intro x hx
  rcases List.mem_cons.1 hx with e | hx
  ·subst e
   show c0 = 0
   rw [hS y0 (by simp), lsum_zero (fun x hx => by rw [hPz x hx, kzero_mul]), kmul_zero]
  ·exact hPz x hx

/-! Counting. -/
theorem nodup_len : ∀ {l l' : List Nat}, l.Nodup → (∀ x ∈ l, x ∈ l') → l.length ≤ l'.length
 | [], _, _, _ => Nat.zero_le _
 | a :: l, l', h, hs => by
  have h2 := List.nodup_cons.1 h
  have ha := hs a (by simp)
  have := nodup_len (l' := l'.erase a) h2.2 (fun x hx => (List.mem_erase_of_ne (fun e => h2.1 (by rw [← e]; exact hx))).2 (hs x (by simp [hx])))
  rw [List.length_erase_of_mem ha] at this
  have hp := List.length_pos_of_mem ha
  simp only [List.length_cons]; omega
theorem nodup_map_on {α β : Type} (f : α → β) : ∀ {l : List α}, l.Nodup → (∀ x ∈ l, ∀ y ∈ l, f x = f y → x = y) → (l.map f).Nodup
 | [], _, _ => List.nodup_nil
 | a :: l, h, hf => by
  have h2 := List.nodup_cons.1 h
  show (f a :: l.map f).Nodup
  refine List.nodup_cons.2 ⟨fun hm => ?_, nodup_map_on f h2.2 (fun x hx y hy => hf x (by simp [hx]) y (by simp [hy]))⟩
  obtain ⟨x, hx, e⟩ := List.mem_map.1 hm
  have := hf x (by simp [hx]) a (by simp) e
  exact h2.1 (by rw [← this]; exact hx)
theorem filter_len {α : Type} (p : α → Bool) : ∀ l : List α, (l.filter p).length + (l.filter fun x => !p x).length = l.length
 | [] => rfl
 | a :: l => by
  have := filter_len p l
  cases h : p a <;> simp [h] <;> omega
theorem lsum_filter (p : Nat → Bool) (f : Nat → K) : ∀ n, lsum (((List.range n).filter p).map f) = sm (fun i => if p i = true then f i else 0) n
 | 0 => rfl
 | n + 1 => by
  have e : ∀ (l : List K) (a : K), lsum (l ++ [a]) = lsum l + a := fun l a => by
   induction l with
   | nil => show a + 0 = 0 + a; rw [kadd_zero, kzero_add]
   | cons b l ih => show b + lsum (l ++ [a]) = b + lsum l + a; rw [ih, kadd_assoc]
  rw [List.range_succ, List.filter_append, List.map_append]
  show _ = sm (fun i => if p i = true then f i else 0) n + (if p n = true then f n else 0)
  rw [← lsum_filter p f n]
  cases h : p n
  ·simp [h, kadd_zero]
  ·simp [h, e]

theorem code_indep (k : Nat) (R : Nat → Nat) (C : Nat → Nat → K) (hC : ∀ r c, C r c = if r < k then on r c else K.iv (kb r + kb c)) (hk : k ≤ 16) (hR : ∀ i, i < k → R i < 256) (hinj : ∀ i j, i < k → j < k → R i = R j → i = j) :
  Indep (fun i j => C (R i) j) k k := by
 intro c hc
 have hbig : ∀ i, i < k → k ≤ R i → c i = 0 := by
  have h := cauchy (((List.range k).filter fun i => decide (k ≤ R i)).map fun i => (kb (R i), c i)) (((List.range k).filter fun j => !((List.range k).any fun i => R i == j)).map kb)
   (nodup_map_on kb (List.Nodup.sublist List.filter_sublist List.nodup_range) (fun x hx y hy e => by
    have h1 := List.mem_range.1 (List.mem_filter.1 hx).1
    have h2 := List.mem_range.1 (List.mem_filter.1 hy).1
    exact kb_inj (by omega) (by omega) e))
   (by
    rw [List.map_map]
    exact nodup_map_on _ (List.Nodup.sublist List.filter_sublist List.nodup_range) (fun x hx y hy e => by
     have h1 := List.mem_range.1 (List.mem_filter.1 hx).1
     have h2 := List.mem_range.1 (List.mem_filter.1 hy).1
     exact hinj x y h1 h2 (kb_inj (hR x h1) (hR y h2) e)))
   (by
    rw [List.length_map, List.length_map]
    have l1 := filter_len (fun i => decide (k ≤ R i)) (List.range k)
    have l2 := filter_len (fun j => (List.range k).any fun i => R i == j) (List.range k)
    have l3 : ((List.range k).filter fun j => (List.range k).any fun i => R i == j).length ≤ (((List.range k).filter fun i => !decide (k ≤ R i)).map R).length :=
     nodup_len (List.Nodup.sublist List.filter_sublist List.nodup_range) (fun j hj => by
      have h1 := List.mem_filter.1 hj
      obtain ⟨i, hi, e⟩ := List.any_eq_true.1 h1.2
      have e' : R i = j := by simpa using e
      refine List.mem_map.2 ⟨i, List.mem_filter.2 ⟨hi, ?_⟩, e'⟩
      have := List.mem_range.1 h1.1
      simp; omega)
    rw [List.length_map] at l3
    omega)
   (fun x hx y hy e => by
    obtain ⟨i, hi, rfl⟩ := List.mem_map.1 hx
    obtain ⟨j, hj, rfl⟩ := List.mem_map.1 hy
    have h1 := List.mem_filter.1 hi
    have h2 := List.mem_range.1 (List.mem_filter.1 hj).1
    have h3 := List.mem_range.1 h1.1
    have h4 : k ≤ R i := by simpa using h1.2
    have := kb_inj (hR i h3) (by omega) e
    omega)
   (fun y hy => by
    obtain ⟨j, hj, rfl⟩ := List.mem_map.1 hy
    have h1 := List.mem_filter.1 hj
    have hjk := List.mem_range.1 h1.1
    have hno : ∀ i, i < k → R i ≠ j := fun i hi e => by
     have h2 : ((List.range k).any fun i => R i == j) = true := List.any_eq_true.2 ⟨i, List.mem_range.2 hi, by simpa using e⟩
     rw [h2] at h1; exact absurd h1.2 (by decide)
    rw [List.map_map]
    show lsum (((List.range k).filter fun i => decide (k ≤ R i)).map fun i => c i * K.iv (kb (R i) + kb j)) = 0
    rw [lsum_filter]
    refine Eq.trans (sm_congr (fun i hi => ?_)) (hc j hjk)
    show _ = c i * C (R i) j
    rw [hC]
    by_cases e : R i < k
    ·rw [if_neg (by simp; omega), if_pos e]
     unfold on; rw [if_neg (hno i hi), kmul_zero]
    ·rw [if_pos (by simp; omega), if_neg e])
  intro i hi hki
  exact h (kb (R i), c i) (List.mem_map.2 ⟨i, List.mem_filter.2 ⟨List.mem_range.2 hi, by simpa using hki⟩, rfl⟩)
 intro r hr
 by_cases e : k ≤ R r
 ·exact hbig r hr e
 ·have h := hc (R r) (by omega)
  rw [sm_split _ r k hr] at h
  have h2 : sm (fun i => if i = r then 0 else c i * C (R i) (R r)) k = 0 := sm_zero' (fun i hi => by
   by_cases q : i = r
   ·rw [if_pos q]
   ·rw [if_neg q]
    by_cases q2 : k ≤ R i
    ·rw [hbig i hi q2, kzero_mul]
    ·rw [hC, if_pos (by omega)]
     unfold on; rw [if_neg (fun e2 => q (hinj i r hi hr e2)), kmul_zero])
  have h3 : c r * C (R r) (R r) + sm (fun i => if i = r then 0 else c i * C (R i) (R r)) k = 0 := h
  rw [h2, kadd_zero, hC, if_pos (by omega)] at h3
  unfold on at h3
  rw [if_pos rfl, kmul_one] at h3
  exact h3
end Go.Proofs.YtdohmokhfajjpaaGreatDoor.U

/- Plain mathematics of ranks: fewer equations than unknowns have a solution that is not zero; so there is one rank, however it was found; and what sweeping column by column leaves has it, with the inverse beside it. No conditions but bounds. Nothing of the program is imported. -/
namespace Go.Proofs.YtdohmokhfajjpaaGreatDoor.U

/-- A row and a list of numbers, multiplied place by place and added. -/
def ap (m : Nat) (f x : Nat → K) : K := sm (fun c => f c * x c) m
def Ker (A : Nat → Nat → K) (n m : Nat) (x : Nat → K) : Prop := ∀ i, i < n → ap m (A i) x = 0

/-! Sweeping column by column. -/
/-- What row operations keep: the second matrix makes the first one of A, and nothing is lost. -/
structure RK (A : Nat → Nat → K) (n m : Nat) (T W : Nat → Nat → K) : Prop where
 ker : ∀ x, Ker T n m x → Ker A n m x
 wa : ∀ i, i < n → ∀ c, c < m → pr n W A i c = T i c
/-- Rows ahead of n0 but r are rid of column j; the second matrix goes with it. -/
def elR (X T : Nat → Nat → K) (r j n0 : Nat) : Nat → Nat → K := fun i c => if i < n0 ∧ i ≠ r then X i c + X r c * T i j else X i c
theorem RK.elim {A T W : Nat → Nat → K} {n m : Nat} (h : RK A n m T W) (r j : Nat) (hr : r < n) : RK A n m (elR T T r j n) (elR W T r j n) where
 ker := fun x hx => h.ker x (fun i hi => by
  have hrr : ap m (T r) x = 0 := by
   have := hx r hr
   unfold ap elR at this
   rw [sm_congr (g := fun c => T r c * x c) (fun c _ => by rw [if_neg (fun q => q.2 rfl)])] at this
   exact this
  by_cases e : i = r
  ·subst e; exact hrr
  ·have h2 := hx i hi
   unfold ap elR at h2
   rw [sm_congr (g := fun c => T i c * x c + T i j * (T r c * x c)) (fun c _ => by rw [if_pos ⟨hi, e⟩, kadd_mul, kmul_comm (T r c), kmul_assoc]), sm_add, sm_mul] at h2
   have h3 : sm (fun c => T r c * x c) m = 0 := hrr
   rw [h3, kmul_zero, kadd_zero] at h2
   exact h2)
 wa := fun i hi c hc => by
  by_cases e : i = r
  ·subst e
   have e1 : elR T T i j n i c = T i c := if_neg (fun q => q.2 rfl)
   rw [e1, ← h.wa i hi c hc]
   unfold pr
   exact sm_congr (fun k _ => by unfold elR; rw [if_neg (fun q => q.2 rfl)])
  ·have e1 : elR T T r j n i c = T i c + T r c * T i j := if_pos ⟨hi, e⟩
   rw [e1, ← h.wa i hi c hc, ← h.wa r hr c hc]
   unfold pr
   rw [sm_congr (g := fun k => W i k * A k c + W r k * A k c * T i j) (fun k _ => by
    unfold elR
    rw [if_pos ⟨hi, e⟩, kadd_mul, kmul_assoc (W r k), kmul_comm (T i j), ← kmul_assoc (W r k)]), sm_add, sm_mul']

/-- What is known when column j is come to, and r pivots were found. -/
structure RInv (A : Nat → Nat → K) (n m j r : Nat) (T W : Nat → Nat → K) : Prop where
 rk : RK A n m T W
 rn : r ≤ n
 jm : j ≤ m
 ex : ∃ (q : Nat → Nat) (fr : List Nat), fr.length + r = j ∧ (∀ k, k < r → q k < j) ∧ (∀ k, k < r → ∀ i, i < n → T i (q k) = on i k) ∧ (∀ c, c < j → c ∈ fr ∨ ∃ k, k < r ∧ q k = c) ∧ (fr = [] → ∀ k, k < r → q k = k)
 zero : ∀ i, i < n → r ≤ i → ∀ c, c < j → T i c = 0
theorem RInv.start (A : Nat → Nat → K) (n m : Nat) : RInv A n m 0 0 A on where
 rk := ⟨fun _ h => h, fun i hi c _ => by
  unfold pr on
  rw [sm_congr (g := fun k => if k = i then A k c else 0) (fun k _ => by by_cases e : i = k <;> simp [e, kone_mul, kzero_mul, eq_comm]), sm_at (fun k => A k c), if_pos hi]⟩
 rn := Nat.zero_le _
 jm := Nat.zero_le _
 ex := ⟨fun _ => 0, [], rfl, fun k hk => absurd hk (by omega), fun k hk => absurd hk (by omega), fun c hc => absurd hc (by omega), fun _ k hk => absurd hk (by omega)⟩
 zero := fun i _ _ c hc => absurd hc (by omega)
theorem RInv.left {A T W : Nat → Nat → K} {n j : Nat} (h : RInv A n n j n T W) (i c : Nat) (hi : i < n) (hc : c < n) : pr n W A i c = on i c := by
 obtain ⟨q, fr, h1, h2, h3, h4, h5⟩ := h.ex
 have hjm := h.jm
 have hfr : fr = [] := List.eq_nil_of_length_eq_zero (by omega)
 rw [h.rk.wa i hi c hc]
 have := h3 c hc i hi
 rwa [h5 hfr c hc] at this
/-- There is one inverse. -/
theorem inv_one {A W Bm : Nat → Nat → K} {n : Nat} (hl : ∀ i, i < n → ∀ j, j < n → pr n W A i j = on i j) (hr : ∀ i, i < n → ∀ j, j < n → pr n A Bm i j = on i j) (i j : Nat) (hi : i < n) (hj : j < n) : W i j = Bm i j := by
 have h := pr_assoc n n W A Bm i j
 have e1 : pr n (pr n W A) Bm i j = Bm i j := by
  unfold pr
  rw [sm_congr (g := fun k => if k = i then Bm k j else 0) (fun k hk => by
   have := hl i hi k hk
   unfold pr at this
   rw [this]; unfold on
   by_cases e : i = k <;> simp [e, kone_mul, kzero_mul, eq_comm]), sm_at (fun k => Bm k j), if_pos hi]
 have e2 : pr n W (pr n A Bm) i j = W i j := by
  unfold pr
  rw [sm_congr (g := fun k => if k = j then W i k else 0) (fun k hk => by
   have := hr k hk j hj
   unfold pr at this
   rw [this]; unfold on
   by_cases e : k = j <;> simp [e, kmul_one, kmul_zero]), sm_at (fun k => W i k), if_pos hj]
 rw [e1, e2] at h
 exact h.symm
end Go.Proofs.YtdohmokhfajjpaaGreatDoor.U
