/- Plain mathematics: the numbers of eight bits as a type of their own, a field; sums over the first n places and what may be done with them; a map that is one to one on the first n numbers reaches each of them. No conditions. Nothing of the program is imported. -/
import Derived.Test.YtapgdenodhcliaaMath
namespace Go.Proofs.Ytapgdenodhcliaa

/-- A number of eight bits. -/
structure K where
  val : Nat
  lt : val < 256
theorem K.ext {a b : K} (h : a.val = b.val) : a = b := by cases a; cases b; cases h; rfl
instance : DecidableEq K := fun a b => if h : a.val = b.val then isTrue (K.ext h) else isFalse (fun e => h (by rw [e]))
instance : Inhabited K := ⟨⟨0, by decide⟩⟩
/-- Any number, taken as one of eight bits. -/
def kb (n : Nat) : K := ⟨n % 256, Nat.mod_lt _ (by decide)⟩
theorem kb_val (n : Nat) (h : n < 256) : (kb n).val = n := Nat.mod_eq_of_lt h
theorem kb_of (a : K) : kb a.val = a := K.ext (kb_val _ a.lt)
theorem kb_inj {a b : Nat} (ha : a < 256) (hb : b < 256) (h : kb a = kb b) : a = b := by
  have := congrArg K.val h; rwa [kb_val a ha, kb_val b hb] at this
namespace K
def k0 : K := ⟨0, by decide⟩
def k1 : K := ⟨1, by decide⟩
def ad (a b : K) : K := ⟨a.val ^^^ b.val, Gf.xor_lt _ _ a.lt b.lt⟩
def ml (a b : K) : K := ⟨Gf.gm a.val b.val, Gf.gm_lt _ _ a.lt⟩
def iv (a : K) : K := ⟨if a.val = 0 then 0 else Gf.gi a.val, by have := Gf.gi_lt a.val a.lt; split <;> omega⟩
end K
instance : Add K := ⟨K.ad⟩
instance : Mul K := ⟨K.ml⟩
instance : OfNat K 0 := ⟨K.k0⟩
instance : OfNat K 1 := ⟨K.k1⟩
theorem K.val_add (a b : K) : (a + b).val = a.val ^^^ b.val := rfl
theorem K.val_mul (a b : K) : (a * b).val = Gf.gm a.val b.val := rfl
theorem K.val_zero : (0 : K).val = 0 := rfl
theorem K.val_one : (1 : K).val = 1 := rfl
theorem K.val_ne {a : K} (h : a ≠ 0) : a.val ≠ 0 := fun e => h (K.ext e)
theorem K.one_ne : (1 : K) ≠ 0 := by decide

theorem kadd_comm (a b : K) : a + b = b + a := K.ext (Nat.xor_comm _ _)
theorem kadd_assoc (a b c : K) : a + b + c = a + (b + c) := K.ext (Nat.xor_assoc _ _ _)
theorem kadd_self (a : K) : a + a = 0 := K.ext (Nat.xor_self _)
theorem kadd_zero (a : K) : a + 0 = a := K.ext (Nat.xor_zero _)
theorem kzero_add (a : K) : 0 + a = a := K.ext (Nat.zero_xor _)
theorem kmul_comm (a b : K) : a * b = b * a := K.ext (Gf.gm_comm _ _ a.lt b.lt)
theorem kmul_assoc (a b c : K) : a * b * c = a * (b * c) := K.ext (Gf.gm_assoc _ _ _ a.lt b.lt c.lt)
theorem kmul_add (a b c : K) : a * (b + c) = a * b + a * c := K.ext (Gf.gm_right _ _ _)
theorem kadd_mul (a b c : K) : (a + b) * c = a * c + b * c := K.ext (Gf.gm_left _ _ _)
theorem kmul_one (a : K) : a * 1 = a := K.ext (Gf.gm_one _ a.lt)
theorem kone_mul (a : K) : 1 * a = a := K.ext (Gf.one_gm _ a.lt)
theorem kmul_zero (a : K) : a * 0 = 0 := K.ext (Gf.gm_zero _)
theorem kzero_mul (a : K) : 0 * a = 0 := K.ext (Gf.zero_gm _)
theorem kiv_mul (a : K) (h : a ≠ 0) : K.iv a * a = 1 := by
  apply K.ext
  show Gf.gm (if a.val = 0 then 0 else Gf.gi a.val) a.val = 1
  rw [if_neg (K.val_ne h)]
  exact Gf.gi_gm _ a.lt (K.val_ne h)
theorem kmul_iv (a : K) (h : a ≠ 0) : a * K.iv a = 1 := by rw [kmul_comm]; exact kiv_mul a h
theorem kiv_ne (a : K) (h : a ≠ 0) : K.iv a ≠ 0 := fun e => by
  have := kiv_mul a h
  rw [e, kzero_mul] at this
  exact K.one_ne this.symm
theorem kmul_ne {a b : K} (ha : a ≠ 0) (h : a * b = 0) : b = 0 := by
  have : K.iv a * (a * b) = b := by rw [← kmul_assoc, kiv_mul a ha, kone_mul]
  rw [h, kmul_zero] at this; exact this.symm
theorem kadd_lc (a b c : K) : a + (b + c) = b + (a + c) := by rw [← kadd_assoc, kadd_comm a b, kadd_assoc]
theorem kmul_lc (a b c : K) : a * (b * c) = b * (a * c) := by rw [← kmul_assoc, kmul_comm a b, kmul_assoc]
theorem kadd4 (a b c d : K) : (a + b) + (c + d) = (a + c) + (b + d) := by rw [kadd_assoc, kadd_assoc, kadd_lc b c d]
theorem kadd_cancel (a b : K) : a + (a + b) = b := by rw [← kadd_assoc, kadd_self, kzero_add]
/-- Sums are differences. -/
theorem keq_add {a b c : K} : a = b + c ↔ a + c = b := by
  constructor
  · intro h; rw [h, kadd_assoc, kadd_self, kadd_zero]
  · intro h; rw [← h, kadd_assoc, kadd_self, kadd_zero]
theorem kadd_eq_zero {a b : K} (h : a + b = 0) : a = b := by
  have := keq_add.2 h; rwa [kzero_add] at this

/-- The sum over the first n places. -/
def sm (f : Nat → K) : Nat → K
  | 0 => 0
  | n + 1 => sm f n + f n
theorem sm_congr {f g : Nat → K} : ∀ {n : Nat}, (∀ i, i < n → f i = g i) → sm f n = sm g n
  | 0, _ => rfl
  | n + 1, h => by show sm f n + f n = sm g n + g n; rw [sm_congr (fun i hi => h i (by omega)), h n (by omega)]
theorem sm_zero : ∀ n, sm (fun _ => 0) n = 0
  | 0 => rfl
  | n + 1 => by show sm _ n + 0 = 0; rw [sm_zero n]; rfl
theorem sm_zero' {f : Nat → K} {n : Nat} (h : ∀ i, i < n → f i = 0) : sm f n = 0 := by rw [sm_congr h, sm_zero]
theorem sm_add (f g : Nat → K) : ∀ n, sm (fun i => f i + g i) n = sm f n + sm g n
  | 0 => (kadd_zero 0).symm
  | n + 1 => by show sm _ n + (f n + g n) = (sm f n + f n) + (sm g n + g n); rw [sm_add f g n, kadd4]
theorem sm_mul (c : K) (f : Nat → K) : ∀ n, sm (fun i => c * f i) n = c * sm f n
  | 0 => (kmul_zero c).symm
  | n + 1 => by show sm _ n + c * f n = c * (sm f n + f n); rw [sm_mul c f n, kmul_add]
theorem sm_mul' (c : K) (f : Nat → K) (n : Nat) : sm (fun i => f i * c) n = sm f n * c := by
  rw [kmul_comm, ← sm_mul]; exact sm_congr (fun i _ => kmul_comm _ _)
theorem sm_swap (f : Nat → Nat → K) (m : Nat) : ∀ n, sm (fun i => sm (fun j => f i j) m) n = sm (fun j => sm (fun i => f i j) n) m
  | 0 => (sm_zero m).symm
  | n + 1 => by
    show sm (fun i => sm (fun j => f i j) m) n + sm (fun j => f n j) m = sm (fun j => sm (fun i => f i j) n + f n j) m
    rw [sm_swap f m n, sm_add]
theorem sm_at (f : Nat → K) (k : Nat) : ∀ n, sm (fun i => if i = k then f i else 0) n = if k < n then f k else 0
  | 0 => by rw [if_neg (by omega)]; rfl
  | n + 1 => by
    show sm _ n + (if n = k then f n else 0) = _
    rw [sm_at f k n]
    by_cases e : n = k
    · subst e; rw [if_neg (by omega), if_pos rfl, if_pos (by omega), kzero_add]
    · rw [if_neg e, kadd_zero]
      by_cases h : k < n
      · rw [if_pos h, if_pos (by omega)]
      · rw [if_neg h, if_neg (by omega)]
theorem sm_split (f : Nat → K) (k n : Nat) (h : k < n) : sm f n = f k + sm (fun i => if i = k then 0 else f i) n := by
  have e := sm_at f k n
  rw [if_pos h] at e
  rw [← e, ← sm_add]
  refine sm_congr (fun i _ => ?_)
  by_cases hi : i = k
  · rw [if_pos hi, if_pos hi, kadd_zero]
  · rw [if_neg hi, if_neg hi, kzero_add]

/-- More than there is room for cannot be one to one. -/
theorem pigeon : ∀ (n m : Nat) (f : Nat → Nat), (∀ i, i < m → f i < n) → (∀ i j, i < m → j < m → f i = f j → i = j) → m ≤ n
  | 0, m, f, hf, _ => by
    rcases Nat.eq_zero_or_pos m with h | h
    · omega
    · exact absurd (hf 0 h) (by omega)
  | n + 1, 0, _, _, _ => by omega
  | n + 1, m + 1, f, hf, hj => by
    have h := pigeon n m (fun i => if f i = n then f m else f i) (fun i hi => by
      show (if f i = n then f m else f i) < n
      have h1 := hf i (by omega)
      have h2 := hf m (by omega)
      by_cases e : f i = n
      · rw [if_pos e]
        have : f m ≠ n := fun e2 => by have := hj i m (by omega) (by omega) (e.trans e2.symm); omega
        omega
      · rw [if_neg e]; omega) (fun i j hi hj' e => by
      have e' : (if f i = n then f m else f i) = (if f j = n then f m else f j) := e
      by_cases e1 : f i = n
      · by_cases e2 : f j = n
        · exact hj i j (by omega) (by omega) (e1.trans e2.symm)
        · rw [if_pos e1, if_neg e2] at e'
          have := hj m j (by omega) (by omega) e'; omega
      · by_cases e2 : f j = n
        · rw [if_neg e1, if_pos e2] at e'
          have := hj i m (by omega) (by omega) e'; omega
        · rw [if_neg e1, if_neg e2] at e'
          exact hj i j (by omega) (by omega) e')
    omega
theorem inj_surj {n : Nat} {p : Nat → Nat} (hp : ∀ i, i < n → p i < n) (hj : ∀ i j, i < n → j < n → p i = p j → i = j) (j : Nat) (h : j < n) : ∃ i, i < n ∧ p i = j := by
  apply Classical.byContradiction
  intro hne
  have hno : ∀ i, i < n → p i ≠ j := fun i hi e => hne ⟨i, hi, e⟩
  have := pigeon n (n + 1) (fun i => if i < n then p i else j) (fun i hi => by
    show (if i < n then p i else j) < n
    by_cases e : i < n
    · rw [if_pos e]; exact hp i e
    · rw [if_neg e]; exact h) (fun i k hi hk e => by
    have e' : (if i < n then p i else j) = (if k < n then p k else j) := e
    by_cases e1 : i < n
    · by_cases e2 : k < n
      · rw [if_pos e1, if_pos e2] at e'; exact hj i k e1 e2 e'
      · rw [if_pos e1, if_neg e2] at e'; exact absurd e' (hno i e1)
    · by_cases e2 : k < n
      · rw [if_neg e1, if_pos e2] at e'; exact absurd e'.symm (hno k e2)
      · omega)
  omega
/-- A sum may be gone through in any order. -/
theorem sm_perm {n : Nat} {p : Nat → Nat} (hp : ∀ i, i < n → p i < n) (hj : ∀ i j, i < n → j < n → p i = p j → i = j) (f : Nat → K) : sm f n = sm (fun k => f (p k)) n := by
  have h1 : ∀ j, j < n → f j = sm (fun k => if p k = j then f j else 0) n := by
    intro j hlt
    obtain ⟨k, hk, rfl⟩ := inj_surj hp hj j hlt
    have e : ∀ i, i < n → (if p i = p k then f (p k) else 0) = if i = k then (fun _ => f (p k)) i else 0 := by
      intro i hi
      by_cases e : i = k
      · subst e; rw [if_pos rfl, if_pos rfl]
      · rw [if_neg (fun h => e (hj i k hi hk h)), if_neg e]
    rw [sm_congr e, sm_at, if_pos hk]
  have h2 : ∀ k, k < n → sm (fun j => if p k = j then f j else 0) n = f (p k) := by
    intro k hk
    have e : ∀ j, j < n → (if p k = j then f j else 0) = if j = p k then f j else 0 := by
      intro j _
      by_cases e : p k = j
      · rw [if_pos e, if_pos e.symm]
      · rw [if_neg e, if_neg (fun h => e h.symm)]
    rw [sm_congr e, sm_at, if_pos (hp k hk)]
  rw [sm_congr h1, ← sm_congr h2]
  exact sm_swap (fun j k => if p k = j then f j else 0) n n

/-- The product of two matrices, the first one's rows having m numbers. -/
def pr (m : Nat) (X Y : Nat → Nat → K) (i j : Nat) : K := sm (fun k => X i k * Y k j) m
/-- The one. -/
def on (i j : Nat) : K := if i = j then 1 else 0
theorem pr_assoc (m l : Nat) (X Y Z : Nat → Nat → K) (i j : Nat) : pr l (pr m X Y) Z i j = pr m X (pr l Y Z) i j := by
  unfold pr
  rw [sm_congr (fun k _ => (sm_mul' (Z k j) (fun q => X i q * Y q k) m).symm), sm_swap]
  refine sm_congr (fun q _ => ?_)
  rw [← sm_mul]
  exact sm_congr (fun k _ => kmul_assoc _ _ _)
end Go.Proofs.Ytapgdenodhcliaa
