/- Plain mathematics of ranks: fewer equations than unknowns have a solution that is not zero; so there is one rank, however it was found; and what sweeping column by column leaves has it, with the inverse beside it. No conditions but bounds. Nothing of the program is imported. -/
import Derived.Test.YtapgdenodhcliaaLc
namespace Go.Proofs.Ytapgdenodhcliaa

/-- A row and a list of numbers, multiplied place by place and added. -/
def ap (m : Nat) (f x : Nat → K) : K := sm (fun c => f c * x c) m
def Ker (A : Nat → Nat → K) (n m : Nat) (x : Nat → K) : Prop := ∀ i, i < n → ap m (A i) x = 0

/-- Fewer equations than unknowns. -/
theorem nonzero (F : List (Nat → K)) (m : Nat) (h : F.length < m) : ∃ x : Nat → K, (∃ c, c < m ∧ x c ≠ 0) ∧ ∀ f ∈ F, ap m f x = 0 := by
  let A : Nat → Nat → K := fun i => (F[i]?).getD fun _ => 0
  have inv := sw_inv A F.length m F.length (Nat.le_refl _)
  obtain ⟨c0, hc0, hq0⟩ : ∃ c0, c0 < m ∧ (sw A m F.length).Q c0 = none := by
    apply Classical.byContradiction
    intro hno
    have hall : ∀ c, c < m → ∃ i, (sw A m F.length).Q c = some i := fun c hc => by
      cases q : (sw A m F.length).Q c with
      | none => exact absurd ⟨c, hc, q⟩ hno
      | some i => exact ⟨i, rfl⟩
    have := pigeon F.length m (fun c => ((sw A m F.length).Q c).getD 0) (fun c hc => by
      obtain ⟨i, hi⟩ := hall c hc
      show ((sw A m F.length).Q c).getD 0 < F.length
      rw [hi]; exact (inv.qp i c hi).2) (fun c d hc hd e => by
      obtain ⟨i, hi⟩ := hall c hc
      obtain ⟨k, hk⟩ := hall d hd
      have e' : ((sw A m F.length).Q c).getD 0 = ((sw A m F.length).Q d).getD 0 := e
      rw [hi, hk] at e'
      have e2 : i = k := e'
      subst e2
      have h1 := (inv.qp i c hi).1
      rw [(inv.qp i d hk).1] at h1
      cases h1; rfl)
    omega
  let s := sw A m F.length
  let z : Nat → K := fun c => if c = c0 then 1 else 0
  let x : Nat → K := fun c => match s.Q c with | some i => s.T i c0 | none => z c
  have hxc0 : x c0 = 1 := by show (match s.Q c0 with | some i => s.T i c0 | none => z c0) = 1; rw [hq0]; exact if_pos rfl
  refine ⟨x, ⟨c0, hc0, by rw [hxc0]; exact K.one_ne⟩, ?_⟩
  have hA : ∀ i, i < F.length → (fun _ => (0 : K)) i = sm (fun j => A i j * x j) m := by
    refine (inv.tells x (fun _ => 0)).2 (fun i hi => ?_)
    have hz : ∀ c, c < m → zOf s.Q x (fun _ => 0) c = z c := fun c _ => by
      cases q : s.Q c with
      | none =>
        rw [zOf_none q]
        show (match s.Q c with | some i => s.T i c0 | none => z c) = z c
        rw [q]
      | some k =>
        rw [zOf_some q]
        show 0 = z c
        have : c ≠ c0 := fun e => by rw [e] at q; have q' : (sw A m F.length).Q c0 = some k := q; rw [hq0] at q'; cases q'
        exact (if_neg this).symm
    have hsum : sm (fun j => s.T i j * zOf s.Q x (fun _ => 0) j) m = s.T i c0 := by
      have e : ∀ c, c < m → s.T i c * zOf s.Q x (fun _ => 0) c = if c = c0 then s.T i c else 0 := fun c hc => by
        rw [hz c hc]
        show s.T i c * (if c = c0 then 1 else 0) = _
        by_cases e : c = c0
        · rw [if_pos e, if_pos e, kmul_one]
        · rw [if_neg e, if_neg e, kmul_zero]
      rw [sm_congr e, sm_at (fun c => s.T i c), if_pos hc0]
    rw [show sm (fun j => (sw A m F.length).T i j * zOf (sw A m F.length).Q x (fun _ => 0) j) m = s.T i c0 from hsum]
    cases q : s.P i with
    | none => rw [uOf_none q]; exact (inv.zero i hi q c0 hc0 hq0).symm
    | some c =>
      rw [uOf_some q]
      show (match s.Q c with | some i => s.T i c0 | none => z c) = s.T i c0
      rw [(inv.pq i c q).1]
  intro f hf
  obtain ⟨i, hi, rfl⟩ := List.mem_iff_getElem.1 hf
  have := hA i hi
  have hAi : A i = F[i] := by show (F[i]?).getD _ = _; rw [List.getElem?_eq_getElem hi]; rfl
  rw [← hAi]; exact this.symm

/-- A matrix of m columns has rank r: r equations say all that it says, and m - r columns settle the others. -/
def HasRank (A : Nat → Nat → K) (n m r : Nat) : Prop :=
  ∃ (E : List (Nat → K)) (fr : List Nat), E.length = r ∧ fr.length + r = m ∧ (∀ x, (∀ f ∈ E, ap m f x = 0) → Ker A n m x) ∧ (∀ x, Ker A n m x → (∀ c ∈ fr, c < m → x c = 0) → ∀ c, c < m → x c = 0)
theorem rank_le {A : Nat → Nat → K} {n m r s : Nat} (h : HasRank A n m r) (h' : HasRank A n m s) : s ≤ r := by
  apply Classical.byContradiction
  intro hlt
  obtain ⟨E, _, hE, _, h1, _⟩ := h
  obtain ⟨_, fr, _, hfr, _, h2⟩ := h'
  obtain ⟨x, ⟨c, hc, hx⟩, hF⟩ := nonzero (E ++ fr.map fun k => fun c => if c = k then 1 else 0) m (by rw [List.length_append, List.length_map]; omega)
  refine hx (h2 x (h1 x (fun f hf => hF f (by simp [hf]))) (fun k hk hkm => ?_) c hc)
  have h3 := hF (fun c => if c = k then 1 else 0) (List.mem_append.2 (.inr (List.mem_map.2 ⟨k, hk, rfl⟩)))
  have e : ∀ c, c < m → (if c = k then (1 : K) else 0) * x c = if c = k then x c else 0 := fun c _ => by by_cases q : c = k <;> simp [q, kone_mul, kzero_mul]
  unfold ap at h3
  rw [sm_congr e, sm_at x, if_pos hkm] at h3
  exact h3
theorem rank_one {A : Nat → Nat → K} {n m r s : Nat} (h : HasRank A n m r) (h' : HasRank A n m s) : r = s := Nat.le_antisymm (rank_le h' h) (rank_le h h')

/-- One more that is not counted. -/
theorem count_put (p : Nat → Bool) (c0 : Nat) (hp : p c0 = true) : ∀ m, ((List.range m).filter fun c => if c = c0 then false else p c).length + (if c0 < m then 1 else 0) = ((List.range m).filter p).length
  | 0 => rfl
  | m + 1 => by
    have ih := count_put p c0 hp m
    rw [List.range_succ, List.filter_append, List.filter_append, List.length_append, List.length_append]
    by_cases e : m = c0
    · subst e
      rw [if_neg (by omega), Nat.add_zero] at ih
      rw [ih, if_pos (by omega)]
      simp [List.filter, hp]
    · have e1 : (List.filter (fun c => if c = c0 then false else p c) [m]).length = (List.filter p [m]).length := by simp [List.filter, e]
      rw [e1]
      by_cases q : c0 < m
      · rw [if_pos q] at ih; rw [if_pos (by omega)]; omega
      · rw [if_neg q] at ih; rw [if_neg (by omega)]; omega
theorem sw_count (A : Nat → Nat → K) (n m : Nat) : ∀ k, k ≤ n → ((List.range m).filter fun c => !((sw A m k).Q c).isSome).length + (sw A m k).l.length = m
  | 0, _ => by
    show ((List.range m).filter fun c => !((none : Option Nat)).isSome).length + 0 = m
    have e : (List.range m).filter (fun c => !((none : Option Nat)).isSome) = List.range m := List.filter_eq_self.2 (fun _ _ => rfl)
    rw [e, List.length_range]; rfl
  | k + 1, hk => by
    have ih := sw_count A n m k (by omega)
    cases hp : pcol (sw A m k).T (sw A m k).Q k m 0 with
    | none => rw [sw_none hp]; exact ih
    | some c =>
      obtain ⟨_, hc, hQ, _⟩ := pcol_some hp
      rw [sw_some hp]
      show ((List.range m).filter fun x => !(put (sw A m k).Q c (some k) x).isSome).length + ((sw A m k).l ++ [c]).length = m
      have hcp := count_put (fun x => !((sw A m k).Q x).isSome) c (by rw [hQ]; rfl) m
      rw [if_pos (by omega)] at hcp
      have e : (fun x => !(put (sw A m k).Q c (some k) x).isSome) = fun x => if x = c then false else !((sw A m k).Q x).isSome := by
        funext x; unfold put
        by_cases q : x = c
        · rw [if_pos q, if_pos q]; rfl
        · rw [if_neg q, if_neg q]
      rw [e, List.length_append]
      show _ + ((sw A m k).l.length + 1) = m
      omega
theorem sw_pairs (A : Nat → Nat → K) (n m : Nat) : ∀ k, k ≤ n → ((List.range k).filter fun i => ((sw A m k).P i).isSome).length = (sw A m k).l.length
  | 0, _ => rfl
  | k + 1, hk => by
    have ih := sw_pairs A n m k (by omega)
    have inv := sw_inv A n m k (by omega)
    have hPk := inv.later k (Nat.le_refl _)
    rw [List.range_succ, List.filter_append, List.length_append]
    cases hp : pcol (sw A m k).T (sw A m k).Q k m 0 with
    | none => rw [sw_none hp, ih]; simp [hPk]
    | some c =>
      rw [sw_some hp]
      show ((List.range k).filter fun i => (put (sw A m k).P k (some c) i).isSome).length + ([k].filter fun i => (put (sw A m k).P k (some c) i).isSome).length = ((sw A m k).l ++ [c]).length
      have e : (List.range k).filter (fun i => (put (sw A m k).P k (some c) i).isSome) = (List.range k).filter fun i => ((sw A m k).P i).isSome :=
        List.filter_congr (fun i hi => by rw [put_other _ _ _ _ (by have := List.mem_range.1 hi; omega)])
      rw [e, ih, List.length_append]
      simp [put_same]

/-- A sweep by exchanges finds the rank. -/
theorem sw_rank (A : Nat → Nat → K) (n m : Nat) : HasRank A n m (sw A m n).l.length := by
  have inv := sw_inv A n m n (Nat.le_refl _)
  refine ⟨((List.range n).filter fun i => ((sw A m n).P i).isSome).map fun i c => (if c = ((sw A m n).P i).getD 0 then 1 else 0) + (if ((sw A m n).Q c).isSome = true then 0 else (sw A m n).T i c),
    (List.range m).filter fun c => !((sw A m n).Q c).isSome, by rw [List.length_map]; exact sw_pairs A n m n (Nat.le_refl _), sw_count A n m n (Nat.le_refl _), fun x hE => ?_, fun x hK hfr => ?_⟩
  · have h := (inv.tells x (fun _ => 0)).2 (fun i hi => by
      have hz : ∀ c, c < m → (sw A m n).T i c * zOf (sw A m n).Q x (fun _ => 0) c = (if ((sw A m n).Q c).isSome = true then 0 else (sw A m n).T i c) * x c := fun c _ => by
        cases q : (sw A m n).Q c with
        | none => rw [zOf_none q]; simp
        | some k => rw [zOf_some q]; simp [kmul_zero, kzero_mul]
      rw [sm_congr hz]
      cases q : (sw A m n).P i with
      | none =>
        rw [uOf_none q]
        refine (sm_zero' (fun c hc => ?_)).symm
        cases q2 : (sw A m n).Q c with
        | none => simp [inv.zero i hi q c hc q2, kzero_mul]
        | some k => simp [kzero_mul]
      | some p =>
        rw [uOf_some q]
        have h2 := hE _ (List.mem_map.2 ⟨i, List.mem_filter.2 ⟨List.mem_range.2 hi, by rw [q]; rfl⟩, rfl⟩)
        unfold ap at h2
        rw [sm_congr (fun c _ => kadd_mul _ _ _), sm_add] at h2
        have e : ∀ c, c < m → (if c = ((sw A m n).P i).getD 0 then (1 : K) else 0) * x c = if c = p then x c else 0 := fun c _ => by
          rw [q]; show (if c = p then (1 : K) else 0) * x c = _
          by_cases q3 : c = p <;> simp [q3, kone_mul, kzero_mul]
        rw [sm_congr e, sm_at x, if_pos (inv.pq i p q).2] at h2
        exact kadd_eq_zero h2)
    exact fun i hi => (h i hi).symm
  · have h := (inv.tells x (fun _ => 0)).1 (fun i hi => (hK i hi).symm)
    have hfree : ∀ c, c < m → (sw A m n).Q c = none → x c = 0 := fun c hc q => hfr c (List.mem_filter.2 ⟨List.mem_range.2 hc, by rw [q]; rfl⟩) hc
    intro c hc
    cases q : (sw A m n).Q c with
    | none => exact hfree c hc q
    | some i =>
      have hp := inv.qp i c q
      have h2 := h i hp.2
      rw [uOf_some hp.1] at h2
      rw [h2]
      refine sm_zero' (fun d hd => ?_)
      cases q2 : (sw A m n).Q d with
      | none => rw [zOf_none q2, hfree d hd q2, kmul_zero]
      | some k => rw [zOf_some q2, kmul_zero]

/-! Sweeping column by column. -/
/-- What row operations keep: the second matrix makes the first one of A, and nothing is lost. -/
structure RK (A : Nat → Nat → K) (n m : Nat) (T W : Nat → Nat → K) : Prop where
  ker : ∀ x, Ker T n m x → Ker A n m x
  wa : ∀ i, i < n → ∀ c, c < m → pr n W A i c = T i c
def swI (p r i : Nat) : Nat := if i = p then r else if i = r then p else i
theorem swI_lt {p r i n : Nat} (hp : p < n) (hr : r < n) (hi : i < n) : swI p r i < n := by unfold swI; split <;> (try split) <;> omega
theorem swI_swI (p r i : Nat) : swI p r (swI p r i) = i := by
  unfold swI
  by_cases h1 : i = p
  · by_cases h2 : r = p
    · simp [h1, h2]
    · simp [h1, h2]
  · by_cases h2 : i = r
    · simp [h2]
    · simp [h1, h2]
theorem RK.swap {A T W : Nat → Nat → K} {n m : Nat} (h : RK A n m T W) (p r : Nat) (hp : p < n) (hr : r < n) : RK A n m (fun i => T (swI p r i)) (fun i => W (swI p r i)) where
  ker := fun x hx => h.ker x (fun i hi => by have h2 : ap m (T (swI p r (swI p r i))) x = 0 := hx (swI p r i) (swI_lt hp hr hi); rwa [swI_swI] at h2)
  wa := fun i hi c hc => h.wa (swI p r i) (swI_lt hp hr hi) c hc
def scR (T : Nat → Nat → K) (r : Nat) (b : K) : Nat → Nat → K := fun i c => if i = r then T r c * b else T i c
theorem RK.scale {A T W : Nat → Nat → K} {n m : Nat} (h : RK A n m T W) (r : Nat) (b : K) (hr : r < n) (hb : b ≠ 0) : RK A n m (scR T r b) (scR W r b) where
  ker := fun x hx => h.ker x (fun i hi => by
    have h2 := hx i hi
    by_cases e : i = r
    · subst e
      unfold ap scR at h2
      rw [sm_congr (g := fun c => b * (T i c * x c)) (fun c _ => by rw [if_pos rfl, kmul_comm (T i c), kmul_assoc]), sm_mul] at h2
      exact kmul_ne hb h2
    · unfold ap scR at h2
      rw [sm_congr (g := fun c => T i c * x c) (fun c _ => by rw [if_neg e])] at h2
      exact h2)
  wa := fun i hi c hc => by
    by_cases e : i = r
    · subst e
      unfold pr scR
      rw [if_pos rfl, ← h.wa i hi c hc]
      unfold pr
      rw [sm_congr (g := fun k => W i k * A k c * b) (fun k _ => by rw [if_pos rfl, kmul_assoc, kmul_comm b, ← kmul_assoc]), sm_mul']
    · unfold pr scR
      rw [if_neg e, ← h.wa i hi c hc]
      unfold pr
      exact sm_congr (fun k _ => by rw [if_neg e])
/-- Rows ahead of n0 but r are rid of column j; the second matrix goes with it. -/
def elR (X T : Nat → Nat → K) (r j n0 : Nat) : Nat → Nat → K := fun i c => if i < n0 ∧ i ≠ r then X i c + X r c * T i j else X i c
theorem RK.elim {A T W : Nat → Nat → K} {n m : Nat} (h : RK A n m T W) (r j : Nat) (hr : r < n) : RK A n m (elR T T r j n) (elR W T r j n) where
  ker := fun x hx => h.ker x (fun i hi => by
    have hrr : ap m (T r) x = 0 := by
      have := hx r hr
      unfold ap elR at this
      rw [sm_congr (g := fun c => T r c * x c) (fun c _ => by rw [if_neg (fun q => q.2 rfl)])] at this
      exact this
    by_cases e : i = r
    · subst e; exact hrr
    · have h2 := hx i hi
      unfold ap elR at h2
      rw [sm_congr (g := fun c => T i c * x c + T i j * (T r c * x c)) (fun c _ => by rw [if_pos ⟨hi, e⟩, kadd_mul, kmul_comm (T r c), kmul_assoc]), sm_add, sm_mul] at h2
      have h3 : sm (fun c => T r c * x c) m = 0 := hrr
      rw [h3, kmul_zero, kadd_zero] at h2
      exact h2)
  wa := fun i hi c hc => by
    by_cases e : i = r
    · subst e
      have e1 : elR T T i j n i c = T i c := if_neg (fun q => q.2 rfl)
      rw [e1, ← h.wa i hi c hc]
      unfold pr
      exact sm_congr (fun k _ => by unfold elR; rw [if_neg (fun q => q.2 rfl)])
    · have e1 : elR T T r j n i c = T i c + T r c * T i j := if_pos ⟨hi, e⟩
      rw [e1, ← h.wa i hi c hc, ← h.wa r hr c hc]
      unfold pr
      rw [sm_congr (g := fun k => W i k * A k c + W r k * A k c * T i j) (fun k _ => by
        unfold elR
        rw [if_pos ⟨hi, e⟩, kadd_mul, kmul_assoc (W r k), kmul_comm (T i j), ← kmul_assoc (W r k)]), sm_add, sm_mul']

/-- What is known when column j is come to, and r pivots were found. -/
structure RInv (A : Nat → Nat → K) (n m j r : Nat) (T W : Nat → Nat → K) : Prop where
  rk : RK A n m T W
  rn : r ≤ n
  jm : j ≤ m
  ex : ∃ (q : Nat → Nat) (fr : List Nat), fr.length + r = j ∧ (∀ k, k < r → q k < j) ∧ (∀ k, k < r → ∀ i, i < n → T i (q k) = on i k) ∧ (∀ c, c < j → c ∈ fr ∨ ∃ k, k < r ∧ q k = c) ∧ (fr = [] → ∀ k, k < r → q k = k)
  zero : ∀ i, i < n → r ≤ i → ∀ c, c < j → T i c = 0
theorem RInv.start (A : Nat → Nat → K) (n m : Nat) : RInv A n m 0 0 A on where
  rk := ⟨fun _ h => h, fun i hi c _ => by
    unfold pr on
    rw [sm_congr (g := fun k => if k = i then A k c else 0) (fun k _ => by by_cases e : i = k <;> simp [e, kone_mul, kzero_mul, eq_comm]), sm_at (fun k => A k c), if_pos hi]⟩
  rn := Nat.zero_le _
  jm := Nat.zero_le _
  ex := ⟨fun _ => 0, [], rfl, fun k hk => absurd hk (by omega), fun k hk => absurd hk (by omega), fun c hc => absurd hc (by omega), fun _ k hk => absurd hk (by omega)⟩
  zero := fun i _ _ c hc => absurd hc (by omega)
theorem RInv.skip {A T W : Nat → Nat → K} {n m j r : Nat} (h : RInv A n m j r T W) (hj : j < m) (hz : ∀ i, i < n → r ≤ i → T i j = 0) : RInv A n m (j + 1) r T W where
  rk := h.rk
  rn := h.rn
  jm := hj
  ex := by
    obtain ⟨q, fr, h1, h2, h3, h4, h5⟩ := h.ex
    refine ⟨q, fr ++ [j], by rw [List.length_append]; show fr.length + 1 + r = j + 1; omega, fun k hk => by have := h2 k hk; omega, h3, fun c hc => ?_, fun e => by simp at e⟩
    by_cases e : c = j
    · left; simp [e]
    · rcases h4 c (by omega) with q | q
      · left; simp [q]
      · right; exact q
  zero := fun i hi hr c hc => by
    by_cases e : c = j
    · rw [e]; exact hz i hi hr
    · exact h.zero i hi hr c (by omega)
theorem RInv.pivot {A T W : Nat → Nat → K} {n m j r p : Nat} (h : RInv A n m j r T W) (hj : j < m) (hr : r < n) (hp : r ≤ p) (hpn : p < n) (hne : T p j ≠ 0) :
    RInv A n m (j + 1) (r + 1) (elR (scR (fun i => T (swI p r i)) r (K.iv (T p j))) (scR (fun i => T (swI p r i)) r (K.iv (T p j))) r j n) (elR (scR (fun i => W (swI p r i)) r (K.iv (T p j))) (scR (fun i => T (swI p r i)) r (K.iv (T p j))) r j n) where
  rk := ((h.rk.swap p r hpn hr).scale r _ hr (kiv_ne _ hne)).elim r j hr
  rn := hr
  jm := hj
  ex := by
    obtain ⟨q, fr, h1, h2, h3, h4, h5⟩ := h.ex
    refine ⟨fun k => if k = r then j else q k, fr, by omega, fun k hk => ?_, fun k hk i hi => ?_, fun c hc => ?_, fun e k hk => ?_⟩
    · show (if k = r then j else q k) < j + 1
      by_cases e : k = r
      · rw [if_pos e]; omega
      · rw [if_neg e]; have := h2 k (by omega); omega
    · show elR _ _ r j n i (if k = r then j else q k) = on i k
      have hrj : scR (fun i => T (swI p r i)) r (K.iv (T p j)) r j = 1 := by
        unfold scR; rw [if_pos rfl]
        show T (swI p r r) j * _ = 1
        have : swI p r r = p := by unfold swI; by_cases e : r = p <;> simp [e]
        rw [this]; exact kmul_iv _ hne
      by_cases e : k = r
      · subst e
        rw [if_pos rfl]
        unfold elR
        by_cases q1 : i = k
        · subst q1; rw [if_neg (fun z => z.2 rfl), hrj]; unfold on; rw [if_pos rfl]
        · rw [if_pos ⟨hi, q1⟩, hrj, kone_mul, kadd_self]; unfold on; rw [if_neg q1]
      · rw [if_neg e]
        have hsw : ∀ a, a < n → T (swI p r a) (q k) = on a k := fun a ha => by
          rw [h3 k (by omega) _ (swI_lt hpn hr ha)]
          unfold on swI
          by_cases z1 : a = p
          · rw [if_pos z1, if_neg (by omega), if_neg (by omega)]
          · rw [if_neg z1]
            by_cases z2 : a = r
            · rw [if_pos z2, if_neg (by omega), if_neg (by omega)]
            · rw [if_neg z2]
        have hsr : scR (fun i => T (swI p r i)) r (K.iv (T p j)) r (q k) = 0 := by
          unfold scR; rw [if_pos rfl]
          show T (swI p r r) (q k) * _ = 0
          rw [hsw r hr]; unfold on; rw [if_neg (fun z => e z.symm), kzero_mul]
        unfold elR
        by_cases q1 : i = r
        · subst q1
          rw [if_neg (fun z => z.2 rfl), hsr]; unfold on; rw [if_neg (fun z => e z.symm)]
        · rw [if_pos ⟨hi, q1⟩, hsr, kzero_mul, kadd_zero]
          unfold scR; rw [if_neg q1]; exact hsw i hi
    · by_cases e : c = j
      · right; exact ⟨r, by omega, by show (if r = r then j else q r) = c; rw [if_pos rfl, e]⟩
      · rcases h4 c (by omega) with z | ⟨k, hk, z⟩
        · exact .inl z
        · right; exact ⟨k, by omega, by show (if k = r then j else q k) = c; rw [if_neg (by omega)]; exact z⟩
    · show (if k = r then j else q k) = k
      by_cases z : k = r
      · rw [if_pos z]; rw [e] at h1; simp at h1; omega
      · rw [if_neg z]; exact h5 e k (by omega)
  zero := fun i hi hri c hc => by
    have hrj : scR (fun i => T (swI p r i)) r (K.iv (T p j)) r j = 1 := by
      unfold scR; rw [if_pos rfl]
      show T (swI p r r) j * _ = 1
      have : swI p r r = p := by unfold swI; by_cases e : r = p <;> simp [e]
      rw [this]; exact kmul_iv _ hne
    unfold elR
    rw [if_pos ⟨hi, by omega⟩]
    by_cases e : c = j
    · rw [e, hrj, kone_mul, kadd_self]
    · have hs : ∀ a, a < n → r ≤ a → T (swI p r a) c = 0 := fun a ha hra => by
        refine h.zero _ (swI_lt hpn hr ha) ?_ c (by omega)
        unfold swI; split <;> (try split) <;> omega
      have h1 : scR (fun i => T (swI p r i)) r (K.iv (T p j)) r c = 0 := by
        unfold scR; rw [if_pos rfl]; show T (swI p r r) c * _ = 0; rw [hs r hr (Nat.le_refl _), kzero_mul]
      rw [h1, kzero_mul, kadd_zero]
      unfold scR; rw [if_neg (by omega)]; exact hs i hi (by omega)
/-- Where the sweep ends: all columns were gone through, or all rows have their pivot. -/
theorem RInv.rank {A T W : Nat → Nat → K} {n m j r : Nat} (h : RInv A n m j r T W) (he : j = m ∨ r = n) : HasRank A n m r := by
  obtain ⟨q, fr, h1, h2, h3, h4, h5⟩ := h.ex
  have hjm := h.jm
  refine ⟨(List.range r).map fun k => T k, fr ++ (List.range (m - j)).map (j + ·), by simp, by simp; omega, fun x hE => ?_, fun x hK hfr => ?_⟩
  · refine h.rk.ker x (fun i hi => ?_)
    by_cases e : i < r
    · exact hE _ (List.mem_map.2 ⟨i, List.mem_range.2 e, rfl⟩)
    · rcases he with he | he
      · exact sm_zero' (fun c hc => by rw [h.zero i hi (by omega) c (by omega), kzero_mul])
      · omega
  · have hT : ∀ i, i < n → ap m (T i) x = 0 := fun i hi => by
      have e : ap m (T i) x = sm (fun k => W i k * ap m (A k) x) n := by
        unfold ap
        rw [sm_congr (g := fun c => sm (fun k => W i k * (A k c * x c)) n) (fun c hc => by
          rw [← h.rk.wa i hi c hc]; unfold pr
          rw [← sm_mul']
          exact sm_congr (fun k _ => kmul_assoc _ _ _)), sm_swap]
        exact sm_congr (fun k _ => sm_mul _ _ _)
      rw [e]
      exact sm_zero' (fun k hk => by rw [hK k hk, kmul_zero])
    have hfree : ∀ c, c < m → (∀ k, k < r → q k ≠ c) → x c = 0 := fun c hc hno => by
      refine hfr c ?_ hc
      by_cases e : c < j
      · rcases h4 c e with z | ⟨k, hk, z⟩
        · simp [z]
        · exact absurd z (hno k hk)
      · refine List.mem_append.2 (.inr (List.mem_map.2 ⟨c - j, List.mem_range.2 (by omega), ?_⟩))
        show j + (c - j) = c; omega
    intro c hc
    by_cases hex : ∃ k, k < r ∧ q k = c
    · obtain ⟨k, hk, rfl⟩ := hex
      have hk2 := hT k (by have := h.rn; omega)
      unfold ap at hk2
      rw [sm_split _ (q k) m hc, h3 k hk k (by have := h.rn; omega)] at hk2
      have hz : sm (fun c => if c = q k then 0 else T k c * x c) m = 0 := sm_zero' (fun d hd => by
        by_cases e : d = q k
        · rw [if_pos e]
        · rw [if_neg e]
          by_cases hex2 : ∃ l, l < r ∧ q l = d
          · obtain ⟨l, hl, rfl⟩ := hex2
            rw [h3 l hl k (by have := h.rn; omega)]
            unfold on
            rw [if_neg (fun z => e (by rw [z])), kzero_mul]
          · rw [hfree d hd (fun l hl z => hex2 ⟨l, hl, z⟩), kmul_zero])
      rw [hz, kadd_zero] at hk2
      unfold on at hk2
      rw [if_pos rfl, kone_mul] at hk2
      exact hk2
    · exact hfree c hc (fun k hk z => hex ⟨k, hk, z⟩)
theorem RInv.left {A T W : Nat → Nat → K} {n j : Nat} (h : RInv A n n j n T W) (i c : Nat) (hi : i < n) (hc : c < n) : pr n W A i c = on i c := by
  obtain ⟨q, fr, h1, h2, h3, h4, h5⟩ := h.ex
  have hjm := h.jm
  have hfr : fr = [] := List.eq_nil_of_length_eq_zero (by omega)
  rw [h.rk.wa i hi c hc]
  have := h3 c hc i hi
  rwa [h5 hfr c hc] at this
/-- There is one inverse. -/
theorem inv_one {A W Bm : Nat → Nat → K} {n : Nat} (hl : ∀ i, i < n → ∀ j, j < n → pr n W A i j = on i j) (hr : ∀ i, i < n → ∀ j, j < n → pr n A Bm i j = on i j) (i j : Nat) (hi : i < n) (hj : j < n) : W i j = Bm i j := by
  have h := pr_assoc n n W A Bm i j
  have e1 : pr n (pr n W A) Bm i j = Bm i j := by
    unfold pr
    rw [sm_congr (g := fun k => if k = i then Bm k j else 0) (fun k hk => by
      have := hl i hi k hk
      unfold pr at this
      rw [this]; unfold on
      by_cases e : i = k <;> simp [e, kone_mul, kzero_mul, eq_comm]), sm_at (fun k => Bm k j), if_pos hi]
  have e2 : pr n W (pr n A Bm) i j = W i j := by
    unfold pr
    rw [sm_congr (g := fun k => if k = j then W i k else 0) (fun k hk => by
      have := hr k hk j hj
      unfold pr at this
      rw [this]; unfold on
      by_cases e : k = j <;> simp [e, kmul_one, kmul_zero]), sm_at (fun k => W i k), if_pos hj]
  rw [e1, e2] at h
  exact h.symm
end Go.Proofs.Ytapgdenodhcliaa
