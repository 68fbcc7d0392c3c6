/- Plain mathematics: any k unlike rows of the code of k are independent (Cauchy's rows), by taking away one row and one column at a time. No conditions but bounds. Nothing of the program is imported. -/
import Derived.Test.YtapgdenodhcliaaLb
namespace Go.Proofs.Ytapgdenodhcliaa

/-- The sum of a list. -/
def lsum : List K → K
  | [] => 0
  | a :: l => a + lsum l
theorem lsum_mul (c : K) : ∀ l : List K, lsum (l.map fun x => c * x) = c * lsum l
  | [] => (kmul_zero c).symm
  | a :: l => by show c * a + lsum (l.map fun x => c * x) = c * (a + lsum l); rw [lsum_mul c l, kmul_add]
theorem lsum_map_mul {α : Type} (c : K) (f : α → K) : ∀ l : List α, lsum (l.map fun x => c * f x) = c * lsum (l.map f)
  | [] => (kmul_zero c).symm
  | a :: l => by show c * f a + lsum (l.map fun x => c * f x) = c * (f a + lsum (l.map f)); rw [lsum_map_mul c f l, kmul_add]
theorem lsum_map_add {α : Type} (f g : α → K) : ∀ l : List α, lsum (l.map fun x => f x + g x) = lsum (l.map f) + lsum (l.map g)
  | [] => (kadd_zero 0).symm
  | a :: l => by show f a + g a + lsum (l.map fun x => f x + g x) = (f a + lsum (l.map f)) + (g a + lsum (l.map g)); rw [lsum_map_add f g l, kadd4]
theorem lsum_congr {α : Type} {f g : α → K} : ∀ {l : List α}, (∀ x ∈ l, f x = g x) → lsum (l.map f) = lsum (l.map g)
  | [], _ => rfl
  | a :: l, h => by show f a + lsum (l.map f) = g a + lsum (l.map g); rw [h a (by simp), lsum_congr (fun x hx => h x (by simp [hx]))]
theorem lsum_zero {α : Type} {f : α → K} {l : List α} (h : ∀ x ∈ l, f x = 0) : lsum (l.map f) = 0 := by
  rw [lsum_congr h]
  induction l with
  | nil => rfl
  | cons a l ih => show 0 + lsum (l.map fun _ => 0) = 0; rw [kzero_add]; exact ih (fun x hx => h x (by simp [hx]))

theorem kadd_ne {a b : K} (h : a ≠ b) : a + b ≠ 0 := fun e => h (kadd_eq_zero e)
theorem four (x0 x y0 y : K) : (x0 + y) * (x + y0) + (x0 + y0) * (x + y) = (x0 + x) * (y0 + y) := by
  have e1 : (x0 + y) * (x + y0) = (x0 * x + x0 * y0) + (y * x + y * y0) := by rw [kadd_mul, kmul_add, kmul_add]
  have e2 : (x0 + y0) * (x + y) = (x0 * x + x0 * y) + (y0 * x + y0 * y) := by rw [kadd_mul, kmul_add, kmul_add]
  have e3 : (x0 + x) * (y0 + y) = (x0 * y0 + x0 * y) + (x * y0 + x * y) := by rw [kadd_mul, kmul_add, kmul_add]
  rw [e1, e2, e3, kadd4, kadd4 (x0 * x), kadd_self, kzero_add, kmul_comm y y0, kmul_comm y0 x, kmul_comm y x, kadd_comm (x * y) (y0 * y), kadd_comm (x * y0) (y0 * y), kadd4 (y0 * y), kadd_self, kzero_add, kadd_comm (x * y)]
/-- Two fractions made one. -/
theorem frac {x0 x y0 y : K} (h1 : x + y ≠ 0) (h2 : x + y0 ≠ 0) : (x0 + y) * K.iv (x + y) + (x0 + y0) * K.iv (x + y0) = (x0 + x) * (y0 + y) * (K.iv (x + y) * K.iv (x + y0)) := by
  rw [← four, kadd_mul ((x0 + y) * (x + y0))]
  congr 1
  · rw [kmul_assoc, ← kmul_assoc (x + y0), kmul_comm (x + y0) (K.iv (x + y)), kmul_assoc (K.iv (x + y)), kmul_iv _ h2, kmul_one]
  · rw [kmul_assoc, ← kmul_assoc (x + y), kmul_iv _ h1, kone_mul]

theorem cauchy : ∀ (P : List (K × K)) (J : List K), J.Nodup → (P.map Prod.fst).Nodup → P.length ≤ J.length → (∀ x ∈ P, ∀ y ∈ J, x.1 ≠ y) → (∀ y ∈ J, lsum (P.map fun x => x.2 * K.iv (x.1 + y)) = 0) → ∀ x ∈ P, x.2 = 0
  | [], _, _, _, _, _, _ => fun x hx => by cases hx
  | (x0, c0) :: P, [], _, _, hl, _, _ => by simp at hl
  | (x0, c0) :: P, y0 :: J, hJ, hP, hl, hne, heq => by
    have hJ2 := List.nodup_cons.1 hJ
    have hP2 : x0 ∉ P.map Prod.fst ∧ (P.map Prod.fst).Nodup := List.nodup_cons.1 hP
    have hx0 : ∀ y, y ∈ y0 :: J → x0 + y ≠ 0 := fun y hy => kadd_ne (hne (x0, c0) (by simp) y hy)
    have hxy : ∀ x ∈ P, ∀ y, y ∈ y0 :: J → x.1 + y ≠ 0 := fun x hx y hy => kadd_ne (hne x (by simp [hx]) y hy)
    have hxx : ∀ x ∈ P, x0 + x.1 ≠ 0 := fun x hx => kadd_ne (fun e => hP2.1 (by rw [e]; exact List.mem_map_of_mem hx))
    have hS : ∀ y, y ∈ y0 :: J → c0 = (x0 + y) * lsum (P.map fun x => x.2 * K.iv (x.1 + y)) := fun y hy => by
      have h : c0 * K.iv (x0 + y) + lsum (P.map fun x => x.2 * K.iv (x.1 + y)) = 0 := heq y hy
      rw [← kadd_eq_zero h, kmul_lc, kmul_iv _ (hx0 y hy), kmul_one]
    have hPz : ∀ x ∈ P, x.2 = 0 := by
      have hz := cauchy (P.map fun x => (x.1, x.2 * ((x0 + x.1) * K.iv (x.1 + y0)))) J hJ2.2 (by rw [List.map_map]; exact hP2.2) (by simp at hl ⊢; exact hl)
        (fun x hx y hy => by
          obtain ⟨x', hx', rfl⟩ := List.mem_map.1 hx
          exact hne x' (by simp [hx']) y (by simp [hy]))
        (fun y hy => by
          have e0 := hS y0 (by simp)
          have e1 := hS y (by simp [hy])
          have hyy : y0 + y ≠ 0 := kadd_ne (fun e => hJ2.1 (by rw [e]; exact hy))
          have e2 : (x0 + y) * lsum (P.map fun x => x.2 * K.iv (x.1 + y)) + (x0 + y0) * lsum (P.map fun x => x.2 * K.iv (x.1 + y0)) = 0 := by rw [← e0, ← e1, kadd_self]
          rw [← lsum_map_mul, ← lsum_map_mul, ← lsum_map_add] at e2
          have e3 : lsum (P.map fun x => (y0 + y) * (x.2 * ((x0 + x.1) * K.iv (x.1 + y0)) * K.iv (x.1 + y))) = 0 := by
            rw [← e2]
            refine lsum_congr (fun x hx => ?_)
            have f := frac (x0 := x0) (hxy x hx y (by simp [hy])) (hxy x hx y0 (by simp))
            rw [kmul_lc (x0 + y), kmul_lc (x0 + y0), ← kmul_add, f]
            rw [kmul_assoc x.2, kmul_lc (y0 + y)]
            congr 1
            rw [kmul_assoc (x0 + x.1) _ (K.iv (x.1 + y)), kmul_lc (y0 + y) (x0 + x.1), kmul_assoc (x0 + x.1) (y0 + y), kmul_comm (K.iv (x.1 + y0))]
          rw [lsum_map_mul] at e3
          have e4 := kmul_ne hyy e3
          rw [List.map_map]
          exact e4)
      intro x hx
      have h := hz (x.1, x.2 * ((x0 + x.1) * K.iv (x.1 + y0))) (List.mem_map.2 ⟨x, hx, rfl⟩)
      have h' : x.2 * ((x0 + x.1) * K.iv (x.1 + y0)) = 0 := h
      rw [kmul_comm, kmul_assoc] at h'
      exact kmul_ne (kiv_ne _ (hxy x hx y0 (by simp))) (kmul_ne (hxx x hx) h')
    intro x hx
    rcases List.mem_cons.1 hx with e | hx
    · subst e
      show c0 = 0
      rw [hS y0 (by simp), lsum_zero (fun x hx => by rw [hPz x hx, kzero_mul]), kmul_zero]
    · exact hPz x hx

/-! Counting. -/
theorem nodup_len : ∀ {l l' : List Nat}, l.Nodup → (∀ x ∈ l, x ∈ l') → l.length ≤ l'.length
  | [], _, _, _ => Nat.zero_le _
  | a :: l, l', h, hs => by
    have h2 := List.nodup_cons.1 h
    have ha := hs a (by simp)
    have := nodup_len (l' := l'.erase a) h2.2 (fun x hx => (List.mem_erase_of_ne (fun e => h2.1 (by rw [← e]; exact hx))).2 (hs x (by simp [hx])))
    rw [List.length_erase_of_mem ha] at this
    have hp := List.length_pos_of_mem ha
    simp only [List.length_cons]; omega
theorem nodup_map_on {α β : Type} (f : α → β) : ∀ {l : List α}, l.Nodup → (∀ x ∈ l, ∀ y ∈ l, f x = f y → x = y) → (l.map f).Nodup
  | [], _, _ => List.nodup_nil
  | a :: l, h, hf => by
    have h2 := List.nodup_cons.1 h
    show (f a :: l.map f).Nodup
    refine List.nodup_cons.2 ⟨fun hm => ?_, nodup_map_on f h2.2 (fun x hx y hy => hf x (by simp [hx]) y (by simp [hy]))⟩
    obtain ⟨x, hx, e⟩ := List.mem_map.1 hm
    have := hf x (by simp [hx]) a (by simp) e
    exact h2.1 (by rw [← this]; exact hx)
theorem filter_len {α : Type} (p : α → Bool) : ∀ l : List α, (l.filter p).length + (l.filter fun x => !p x).length = l.length
  | [] => rfl
  | a :: l => by
    have := filter_len p l
    cases h : p a <;> simp [h] <;> omega
theorem lsum_filter (p : Nat → Bool) (f : Nat → K) : ∀ n, lsum (((List.range n).filter p).map f) = sm (fun i => if p i = true then f i else 0) n
  | 0 => rfl
  | n + 1 => by
    have e : ∀ (l : List K) (a : K), lsum (l ++ [a]) = lsum l + a := fun l a => by
      induction l with
      | nil => show a + 0 = 0 + a; rw [kadd_zero, kzero_add]
      | cons b l ih => show b + lsum (l ++ [a]) = b + lsum l + a; rw [ih, kadd_assoc]
    rw [List.range_succ, List.filter_append, List.map_append]
    show _ = sm (fun i => if p i = true then f i else 0) n + (if p n = true then f n else 0)
    rw [← lsum_filter p f n]
    cases h : p n
    · simp [h, kadd_zero]
    · simp [h, e]

theorem code_indep (k : Nat) (R : Nat → Nat) (C : Nat → Nat → K) (hC : ∀ r c, C r c = if r < k then on r c else K.iv (kb r + kb c)) (hk : k ≤ 16) (hR : ∀ i, i < k → R i < 256) (hinj : ∀ i j, i < k → j < k → R i = R j → i = j) :
    Indep (fun i j => C (R i) j) k k := by
  intro c hc
  have hbig : ∀ i, i < k → k ≤ R i → c i = 0 := by
    have h := cauchy (((List.range k).filter fun i => decide (k ≤ R i)).map fun i => (kb (R i), c i)) (((List.range k).filter fun j => !((List.range k).any fun i => R i == j)).map kb)
      (nodup_map_on kb (List.Nodup.sublist List.filter_sublist List.nodup_range) (fun x hx y hy e => by
        have h1 := List.mem_range.1 (List.mem_filter.1 hx).1
        have h2 := List.mem_range.1 (List.mem_filter.1 hy).1
        exact kb_inj (by omega) (by omega) e))
      (by
        rw [List.map_map]
        exact nodup_map_on _ (List.Nodup.sublist List.filter_sublist List.nodup_range) (fun x hx y hy e => by
          have h1 := List.mem_range.1 (List.mem_filter.1 hx).1
          have h2 := List.mem_range.1 (List.mem_filter.1 hy).1
          exact hinj x y h1 h2 (kb_inj (hR x h1) (hR y h2) e)))
      (by
        rw [List.length_map, List.length_map]
        have l1 := filter_len (fun i => decide (k ≤ R i)) (List.range k)
        have l2 := filter_len (fun j => (List.range k).any fun i => R i == j) (List.range k)
        have l3 : ((List.range k).filter fun j => (List.range k).any fun i => R i == j).length ≤ (((List.range k).filter fun i => !decide (k ≤ R i)).map R).length :=
          nodup_len (List.Nodup.sublist List.filter_sublist List.nodup_range) (fun j hj => by
            have h1 := List.mem_filter.1 hj
            obtain ⟨i, hi, e⟩ := List.any_eq_true.1 h1.2
            have e' : R i = j := by simpa using e
            refine List.mem_map.2 ⟨i, List.mem_filter.2 ⟨hi, ?_⟩, e'⟩
            have := List.mem_range.1 h1.1
            simp; omega)
        rw [List.length_map] at l3
        omega)
      (fun x hx y hy e => by
        obtain ⟨i, hi, rfl⟩ := List.mem_map.1 hx
        obtain ⟨j, hj, rfl⟩ := List.mem_map.1 hy
        have h1 := List.mem_filter.1 hi
        have h2 := List.mem_range.1 (List.mem_filter.1 hj).1
        have h3 := List.mem_range.1 h1.1
        have h4 : k ≤ R i := by simpa using h1.2
        have := kb_inj (hR i h3) (by omega) e
        omega)
      (fun y hy => by
        obtain ⟨j, hj, rfl⟩ := List.mem_map.1 hy
        have h1 := List.mem_filter.1 hj
        have hjk := List.mem_range.1 h1.1
        have hno : ∀ i, i < k → R i ≠ j := fun i hi e => by
          have h2 : ((List.range k).any fun i => R i == j) = true := List.any_eq_true.2 ⟨i, List.mem_range.2 hi, by simpa using e⟩
          rw [h2] at h1; exact absurd h1.2 (by decide)
        rw [List.map_map]
        show lsum (((List.range k).filter fun i => decide (k ≤ R i)).map fun i => c i * K.iv (kb (R i) + kb j)) = 0
        rw [lsum_filter]
        refine Eq.trans (sm_congr (fun i hi => ?_)) (hc j hjk)
        show _ = c i * C (R i) j
        rw [hC]
        by_cases e : R i < k
        · rw [if_neg (by simp; omega), if_pos e]
          unfold on; rw [if_neg (hno i hi), kmul_zero]
        · rw [if_pos (by simp; omega), if_neg e])
    intro i hi hki
    exact h (kb (R i), c i) (List.mem_map.2 ⟨i, List.mem_filter.2 ⟨List.mem_range.2 hi, by simpa using hki⟩, rfl⟩)
  intro r hr
  by_cases e : k ≤ R r
  · exact hbig r hr e
  · have h := hc (R r) (by omega)
    rw [sm_split _ r k hr] at h
    have h2 : sm (fun i => if i = r then 0 else c i * C (R i) (R r)) k = 0 := sm_zero' (fun i hi => by
      by_cases q : i = r
      · rw [if_pos q]
      · rw [if_neg q]
        by_cases q2 : k ≤ R i
        · rw [hbig i hi q2, kzero_mul]
        · rw [hC, if_pos (by omega)]
          unfold on; rw [if_neg (fun e2 => q (hinj i r hi hr e2)), kmul_zero])
    have h3 : c r * C (R r) (R r) + sm (fun i => if i = r then 0 else c i * C (R i) (R r)) k = 0 := h
    rw [h2, kadd_zero, hC, if_pos (by omega)] at h3
    unfold on at h3
    rw [if_pos rfl, kmul_one] at h3
    exact h3
end Go.Proofs.Ytapgdenodhcliaa
