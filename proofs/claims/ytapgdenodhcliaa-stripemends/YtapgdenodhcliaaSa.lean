/- Plain mathematics of shards: the first k that are there, in order; the code's upper rows are the one; what any k shards of bytes make are all shards; a turned byte parts the shards. No conditions but bounds. -/
import Derived.Test.YtapgdenodhcliaaYc
import Derived.Test.YtapgdenodhcliaaLz
namespace Go.Proofs.Ytapgdenodhcliaa

/-- How long the shards of n bytes are. -/
def lgt (n k : Nat) : Nat := (n + k - 1) / k
/-- The first shards of n bytes x, each of length l. -/
def dsh (l n : Nat) (x : Nat → K) (i j : Nat) : K := if i * l + j < n then x (i * l + j) else 0
/-- All shards. -/
def ash (k l n : Nat) (x : Nat → K) : Nat → Nat → K := pr k (codeX k) (dsh l n x)

theorem pr_congr {k : Nat} {X X' Y Y' : Nat → Nat → K} {i j : Nat} (hX : ∀ q, q < k → X i q = X' i q) (hY : ∀ q, q < k → Y q j = Y' q j) : pr k X Y i j = pr k X' Y' i j := by
  unfold pr; exact sm_congr (fun q hq => by rw [hX q hq, hY q hq])
theorem pr_on (k : Nat) (Y : Nat → Nat → K) (i j : Nat) (h : i < k) : pr k on Y i j = Y i j := by
  unfold pr on
  have e : ∀ q, q < k → (if i = q then (1 : K) else 0) * Y q j = if q = i then Y q j else 0 := fun q _ => by
    by_cases e : q = i
    · subst e; rw [if_pos rfl, if_pos rfl, kone_mul]
    · rw [if_neg (fun h => e h.symm), if_neg e, kzero_mul]
  rw [sm_congr e, sm_at (fun q => Y q j) i k, if_pos h]
theorem pr_code (k : Nat) (Y : Nat → Nat → K) (i j : Nat) (h : i < k) : pr k (codeX k) Y i j = Y i j := by
  rw [← pr_on k Y i j h]
  exact pr_congr (fun q _ => by unfold codeX; rw [if_pos h]) (fun _ _ => rfl)
/-- What any k shards make are all shards. -/
theorem mend_all (k : Nat) (C Y D T : Nat → Nat → K) (l : Nat → Nat) (hY : ∀ i, i < k → ∀ j, j < k → pr k Y (fun i c => C (l i) c) i j = on i j) (r j : Nat) (hT : ∀ i, i < k → T i j = pr k C D (l i) j) :
    pr k (pr k C Y) T r j = pr k C D r j := by
  rw [pr_assoc]
  refine pr_congr (fun _ _ => rfl) (fun q hq => ?_)
  have h1 : pr k Y T q j = pr k Y (pr k (fun i c => C (l i) c) D) q j := pr_congr (fun _ _ => rfl) (fun i hi => hT i hi)
  rw [h1, ← pr_assoc, pr_congr (X' := on) (Y' := D) (fun i hi => hY q hq i hi) (fun _ _ => rfl), pr_on k D q j hq]

theorem code_ne (k r c : Nat) (hr : k ≤ r) (hr2 : r < 256) (hc : c < k) : codeX k r c ≠ 0 := by
  unfold codeX
  rw [if_neg (by omega)]
  refine kiv_ne _ (kadd_ne (fun e => ?_))
  have := kb_inj hr2 (by omega) e
  omega
/-- One factor turned by t. -/
theorem pr_turn (k : Nat) (C S S' : Nat → Nat → K) (i j wh : Nat) (t : K) (hw : wh < k) (hS : ∀ q, q < k → S' q j = if q = wh then S q j + t else S q j) : pr k C S' i j = pr k C S i j + C i wh * t := by
  unfold pr
  have e : ∀ q, q < k → C i q * S' q j = C i q * S q j + (if q = wh then C i q * t else 0) := fun q hq => by
    rw [hS q hq]
    by_cases e : q = wh
    · rw [if_pos e, if_pos e, kmul_add]
    · rw [if_neg e, if_neg e, kadd_zero]
  rw [sm_congr e, sm_add, sm_at (fun q => C i q * t) wh k, if_pos hw]

/-- Do the last m shards go together with the first k? -/
def Snd (k m l : Nat) (S : Nat → Nat → K) : Prop := ∀ i, i < m → ∀ j, j < l → pr k (codeX k) S (k + i) j = S (k + i) j
/-- Does it hold of the first n, and of the first l of each? -/
def all2 (n l : Nat) (p : Nat → Nat → Bool) : Bool := (List.range n).all fun i => (List.range l).all fun j => p i j
theorem all2_true {n l : Nat} {p : Nat → Nat → Bool} (h : ∀ i, i < n → ∀ j, j < l → p i j = true) : all2 n l p = true := by
  unfold all2
  rw [List.all_eq_true]
  intro i hi
  rw [List.all_eq_true]
  intro j hj
  exact h i (by simpa using hi) j (by simpa using hj)
theorem all2_of {n l : Nat} {p : Nat → Nat → Bool} (h : all2 n l p = true) : ∀ i, i < n → ∀ j, j < l → p i j = true := fun i hi j hj => by
  unfold all2 at h
  rw [List.all_eq_true] at h
  have h2 := h i (by simpa using hi)
  rw [List.all_eq_true] at h2
  exact h2 j (by simpa using hj)
theorem all2_false {n l : Nat} {p : Nat → Nat → Bool} (h : ¬ ∀ i, i < n → ∀ j, j < l → p i j = true) : all2 n l p = false := by
  cases q : all2 n l p with
  | false => rfl
  | true => exact absurd (all2_of q) h
def sndB (k m l : Nat) (S : Nat → Nat → K) : Bool := all2 m l fun i j => decide (pr k (codeX k) S (k + i) j = S (k + i) j)
theorem sndB_true {k m l : Nat} {S : Nat → Nat → K} (h : Snd k m l S) : sndB k m l S = true := all2_true (fun i hi j hj => decide_eq_true (h i hi j hj))
theorem sndB_false {k m l : Nat} {S : Nat → Nat → K} (h : ¬ Snd k m l S) : sndB k m l S = false := all2_false (fun q => h (fun i hi j hj => of_decide_eq_true (q i hi j hj)))
theorem snd_code (k m l : Nat) (D S : Nat → Nat → K) (h : ∀ i, i < k + m → ∀ j, j < l → S i j = pr k (codeX k) D i j) : Snd k m l S := fun i hi j hj => by
  rw [h (k + i) (by omega) j hj]
  exact pr_congr (fun _ _ => rfl) (fun q hq => by rw [h q (by omega) j hj, pr_code k D q j hq])
/-- A turned byte parts the shards. -/
theorem snd_turn (k m l : Nat) (D S : Nat → Nat → K) (wh pl : Nat) (t : K) (h1 : 1 ≤ m) (hk : k + m ≤ 256) (hw : wh < k + m) (hp : pl < l) (ht : t ≠ 0)
    (hS : ∀ i, i < k + m → S i pl = if i = wh then pr k (codeX k) D i pl + t else pr k (codeX k) D i pl) : ¬ Snd k m l S := fun h => by
  by_cases hq : wh < k
  · have h2 := h 0 (by omega) pl hp
    rw [hS (k + 0) (by omega), if_neg (by omega), pr_turn k (codeX k) D S (k + 0) pl wh t hq (fun q hq' => by rw [hS q (by omega), pr_code k D q pl hq'])] at h2
    have h3 : codeX k (k + 0) wh * t = 0 := by
      have h4 := congrArg (fun z => pr k (codeX k) D (k + 0) pl + z) h2
      simp only [kadd_cancel, kadd_self] at h4
      exact h4
    exact ht (kmul_ne (code_ne k (k + 0) wh (by omega) (by omega) hq) h3)
  · have h2 := h (wh - k) (by omega) pl hp
    rw [show k + (wh - k) = wh by omega, hS wh hw, if_pos rfl] at h2
    have h3 : pr k (codeX k) S wh pl = pr k (codeX k) D wh pl := pr_congr (fun _ _ => rfl) (fun q hq' => by rw [hS q (by omega), if_neg (by omega), pr_code k D q pl hq'])
    rw [h3] at h2
    have h4 := congrArg (fun z => pr k (codeX k) D wh pl + z) h2
    simp only [kadd_cancel, kadd_self] at h4
    exact ht h4.symm

/-- The first k that are there, of the first so many. -/
def tk (H : Nat → Bool) (k : Nat) : Nat → List Nat
  | 0 => []
  | i + 1 => if (tk H k i).length < k ∧ H i = true then tk H k i ++ [i] else tk H k i
/-- How many are there. -/
def cn (H : Nat → Bool) : Nat → Nat
  | 0 => 0
  | i + 1 => cn H i + (if H i = true then 1 else 0)
theorem tk_on {H : Nat → Bool} {k i : Nat} (h : (tk H k i).length < k) (h2 : H i = true) : tk H k (i + 1) = tk H k i ++ [i] := by show (if _ then _ else _) = _; rw [if_pos ⟨h, h2⟩]
theorem tk_off {H : Nat → Bool} {k i : Nat} (h2 : H i = false) : tk H k (i + 1) = tk H k i := by show (if _ then _ else _) = _; rw [if_neg (fun h => by rw [h2] at h; exact absurd h.2 (by decide))]
theorem tk_full {H : Nat → Bool} {k i : Nat} (h : (tk H k i).length = k) : tk H k (i + 1) = tk H k i := by show (if _ then _ else _) = _; rw [if_neg (fun q => by omega)]
theorem tk_rest {H : Nat → Bool} {k i : Nat} (h : (tk H k i).length = k) : ∀ d, tk H k (i + d) = tk H k i
  | 0 => rfl
  | d + 1 => by
    have ih := tk_rest h d
    rw [show i + (d + 1) = (i + d) + 1 by omega, tk_full (by rw [ih]; exact h), ih]
theorem tk_end {H : Nat → Bool} {k i n : Nat} (h : (tk H k i).length = k) (hi : i ≤ n) : tk H k n = tk H k i := by
  have := tk_rest h (n - i); rwa [show i + (n - i) = n by omega] at this
theorem tk_len (H : Nat → Bool) (k : Nat) : ∀ n, (tk H k n).length = min k (cn H n)
  | 0 => by simp [tk, cn]
  | i + 1 => by
    have ih := tk_len H k i
    unfold cn
    cases hi : H i with
    | false => rw [tk_off hi, ih]; simp
    | true =>
      rw [if_pos rfl]
      by_cases hl : (tk H k i).length < k
      · rw [tk_on hl hi, List.length_append, ih]; simp; omega
      · rw [tk_full (by omega), ih]; omega
theorem tk_spec (H : Nat → Bool) (k : Nat) : ∀ n, (tk H k n).Pairwise (· < ·) ∧ ∀ y ∈ tk H k n, y < n ∧ H y = true
  | 0 => ⟨List.Pairwise.nil, fun y hy => by cases hy⟩
  | i + 1 => by
    obtain ⟨h1, h2⟩ := tk_spec H k i
    by_cases hc : (tk H k i).length < k ∧ H i = true
    · rw [tk_on hc.1 hc.2]
      refine ⟨List.pairwise_append.2 ⟨h1, List.pairwise_singleton _ _, fun a ha b hb => ?_⟩, fun y hy => ?_⟩
      · simp at hb; subst hb; exact (h2 a ha).1
      · rcases List.mem_append.1 hy with q | q
        · exact ⟨by have := (h2 y q).1; omega, (h2 y q).2⟩
        · simp at q; subst q; exact ⟨by omega, hc.2⟩
    · have e : tk H k (i + 1) = tk H k i := by show (if _ then _ else _) = _; rw [if_neg hc]
      rw [e]
      exact ⟨h1, fun y hy => ⟨by have := (h2 y hy).1; omega, (h2 y hy).2⟩⟩
theorem tk_get (H : Nat → Bool) (k n a : Nat) (h : a < (tk H k n).length) : ((tk H k n)[a]?).getD 0 < n ∧ H (((tk H k n)[a]?).getD 0) = true := by
  rw [List.getElem?_eq_getElem h]
  exact (tk_spec H k n).2 _ (List.getElem_mem h)
theorem tk_inj (H : Nat → Bool) (k n a b : Nat) (ha : a < (tk H k n).length) (hb : b < (tk H k n).length) (e : ((tk H k n)[a]?).getD 0 = ((tk H k n)[b]?).getD 0) : a = b := by
  have hp := List.pairwise_iff_getElem.1 (tk_spec H k n).1
  rw [List.getElem?_eq_getElem ha, List.getElem?_eq_getElem hb] at e
  simp only [Option.getD_some] at e
  rcases Nat.lt_trichotomy a b with q | q | q
  · exact absurd e (Nat.ne_of_lt (hp a b ha hb q))
  · exact q
  · exact absurd e.symm (Nat.ne_of_lt (hp b a hb ha q))
theorem cn_le (H : Nat → Bool) : ∀ n, cn H n ≤ n
  | 0 => Nat.le_refl _
  | i + 1 => by have := cn_le H i; unfold cn; split <;> omega
theorem cn_congr {H H' : Nat → Bool} : ∀ {n : Nat}, (∀ i, i < n → H i = H' i) → cn H n = cn H' n
  | 0, _ => rfl
  | i + 1, h => by unfold cn; rw [cn_congr (fun j hj => h j (by omega)), h i (by omega)]
theorem cn_all {H : Nat → Bool} : ∀ {n : Nat}, (∀ i, i < n → H i = true) → cn H n = n
  | 0, _ => rfl
  | i + 1, h => by unfold cn; rw [cn_all (fun j hj => h j (by omega)), h i (by omega)]; simp
/-- One more. -/
theorem cn_set {H H' : Nat → Bool} {j : Nat} (h0 : H j = false) (h1 : H' j = true) (h : ∀ i, i ≠ j → H' i = H i) : ∀ n, j < n → cn H' n = cn H n + 1
  | 0, hj => absurd hj (by omega)
  | i + 1, hj => by
    unfold cn
    by_cases e : i = j
    · subst e
      rw [h0, h1, cn_congr (H := H') (H' := H) (fun q hq => h q (by omega))]; simp
    · rw [cn_set h0 h1 h i (by omega), h i e]; omega
/-- With all there the first k are taken. -/
theorem tk_all {H : Nat → Bool} {n : Nat} (k : Nat) (h : ∀ i, i < n → H i = true) : ∀ i, i ≤ n → tk H k i = List.range (min i k)
  | 0, _ => by simp [tk]
  | i + 1, hi => by
    have ih := tk_all k h i (by omega)
    by_cases hl : i < k
    · rw [tk_on (by rw [ih, List.length_range]; omega) (h i (by omega)), ih, show min (i + 1) k = i + 1 by omega, show min i k = i by omega, List.range_succ]
    · rw [tk_full (by rw [ih, List.length_range]; omega), ih, show min (i + 1) k = min i k by omega]

/-- The length that shards are held against, behind the first so many. -/
def lenSt (H : Nat → Bool) (L : Nat → Nat) (z : Int) : Nat → Int
  | 0 => z
  | i + 1 => if H i = true ∧ lenSt H L z i < 0 then (L i : Int) else lenSt H L z i
/-- Is one that is there too long? -/
def anyLong (n : Nat) (H : Nat → Bool) (L : Nat → Nat) : Bool := (List.range n).any fun i => H i && decide (65536 < L i)
/-- Is one that is there of another length? -/
def anyOdd (n : Nat) (H : Nat → Bool) (L : Nat → Nat) (z : Int) : Bool := (List.range n).any fun i => H i && decide ((L i : Int) ≠ lenSt H L z (i + 1))
/-- What is wrong with shards, but for how many are there. -/
def errMt (ns nh n : Nat) (H : Nat → Bool) (L : Nat → Nat) (z : Int) : Int := if ns ≠ n ∨ nh ≠ n then 2 else if anyLong n H L = true then 3 else if anyOdd n H L z = true then 2 else 0
theorem anyLong_true {n : Nat} {H : Nat → Bool} {L : Nat → Nat} (i : Nat) (hi : i < n) (h1 : H i = true) (h : 65536 < L i) : anyLong n H L = true := by
  unfold anyLong; rw [List.any_eq_true]; exact ⟨i, by simpa using hi, by simp [h1, h]⟩
theorem anyLong_false {n : Nat} {H : Nat → Bool} {L : Nat → Nat} (h : ∀ i, i < n → H i = true → L i ≤ 65536) : anyLong n H L = false := by
  unfold anyLong; rw [List.any_eq_false]; intro i hi; have := h i (by simpa using hi)
  cases q : H i with
  | false => simp
  | true => have := this q; simp; omega
theorem anyLong_not {n : Nat} {H : Nat → Bool} {L : Nat → Nat} (h : anyLong n H L = false) (i : Nat) (hi : i < n) (h1 : H i = true) : L i ≤ 65536 := by
  rcases Nat.lt_or_ge 65536 (L i) with q | q
  · rw [anyLong_true i hi h1 q] at h; cases h
  · exact q
theorem anyOdd_true {n : Nat} {H : Nat → Bool} {L : Nat → Nat} {z : Int} (i : Nat) (hi : i < n) (h1 : H i = true) (h : (L i : Int) ≠ lenSt H L z (i + 1)) : anyOdd n H L z = true := by
  unfold anyOdd; rw [List.any_eq_true]; exact ⟨i, by simpa using hi, by simp [h1, h]⟩
theorem anyOdd_false {n : Nat} {H : Nat → Bool} {L : Nat → Nat} {z : Int} (h : ∀ i, i < n → H i = true → (L i : Int) = lenSt H L z (i + 1)) : anyOdd n H L z = false := by
  unfold anyOdd; rw [List.any_eq_false]; intro i hi; have := h i (by simpa using hi)
  cases q : H i with
  | false => simp
  | true => simp [this q]
theorem anyOdd_not {n : Nat} {H : Nat → Bool} {L : Nat → Nat} {z : Int} (h : anyOdd n H L z = false) (i : Nat) (hi : i < n) (h1 : H i = true) : (L i : Int) = lenSt H L z (i + 1) := by
  by_cases q : (L i : Int) = lenSt H L z (i + 1)
  · exact q
  · rw [anyOdd_true i hi h1 q] at h; cases h
theorem lenSt_succ (H : Nat → Bool) (L : Nat → Nat) (z : Int) (i : Nat) : lenSt H L z (i + 1) = if H i = true ∧ lenSt H L z i < 0 then (L i : Int) else lenSt H L z i := rfl
theorem lenSt_ge {H : Nat → Bool} {L : Nat → Nat} {z : Int} (hz : 0 ≤ z) : ∀ i, lenSt H L z i = z
  | 0 => rfl
  | i + 1 => by unfold lenSt; rw [lenSt_ge hz i, if_neg (by omega)]
theorem lenSt_lo {H : Nat → Bool} {L : Nat → Nat} {z : Int} (hz : -1 ≤ z) : ∀ i, -1 ≤ lenSt H L z i
  | 0 => hz
  | i + 1 => by unfold lenSt; have := lenSt_lo (H := H) (L := L) hz i; split <;> omega
theorem lenSt_keep {H : Nat → Bool} {L : Nat → Nat} {z : Int} {i : Nat} (h : 0 ≤ lenSt H L z i) : ∀ d, lenSt H L z (i + d) = lenSt H L z i
  | 0 => rfl
  | d + 1 => by
    have ih := lenSt_keep h d
    show lenSt H L z ((i + d) + 1) = _
    rw [lenSt_succ, ih, if_neg (by omega)]
/-- All that are there have one length. -/
theorem one_len {n : Nat} {H : Nat → Bool} {L : Nat → Nat} {z : Int} (h : anyOdd n H L z = false) (i : Nat) (hi : i < n) (h1 : H i = true) : (L i : Int) = lenSt H L z n := by
  have h2 := anyOdd_not h i hi h1
  have h3 := lenSt_keep (H := H) (L := L) (z := z) (i := i + 1) (by omega) (n - (i + 1))
  rw [show i + 1 + (n - (i + 1)) = n by omega] at h3
  rw [h3]; exact h2
theorem errMt_zero {ns nh n : Nat} {H : Nat → Bool} {L : Nat → Nat} {z : Int} (h : errMt ns nh n H L z = 0) : ns = n ∧ nh = n ∧ (∀ i, i < n → H i = true → L i ≤ 65536) ∧ ∀ i, i < n → H i = true → (L i : Int) = lenSt H L z n := by
  unfold errMt at h
  by_cases h1 : ns ≠ n ∨ nh ≠ n
  · rw [if_pos h1] at h; exact absurd h (by decide)
  · rw [if_neg h1] at h
    cases h2 : anyLong n H L with
    | true => rw [h2, if_pos rfl] at h; exact absurd h (by decide)
    | false =>
      rw [h2, if_neg (by decide)] at h
      cases h3 : anyOdd n H L z with
      | true => rw [h3, if_pos rfl] at h; exact absurd h (by decide)
      | false => exact ⟨by omega, by omega, anyLong_not h2, one_len h3⟩
theorem errMt_ok {n l : Nat} {H : Nat → Bool} {L : Nat → Nat} {z : Int} (hl : l ≤ 65536) (hz : z = -1 ∨ z = (l : Int)) (h : ∀ i, i < n → H i = true → L i = l) : errMt n n n H L z = 0 := by
  have h0 : ∀ i, i ≤ n → (lenSt H L z i = z ∨ lenSt H L z i = (l : Int)) ∧ ∀ j, j < i → H j = true → lenSt H L z (j + 1) = (l : Int) := by
    intro i
    induction i with
    | zero => exact fun _ => ⟨.inl rfl, fun j hj => absurd hj (by omega)⟩
    | succ i ih =>
      intro hi
      obtain ⟨h1, h2⟩ := ih (by omega)
      have h3 : H i = true → lenSt H L z (i + 1) = (l : Int) := fun q => by
        unfold lenSt
        by_cases e : H i = true ∧ lenSt H L z i < 0
        · rw [if_pos e, h i (by omega) q]
        · rw [if_neg e]
          have : ¬ lenSt H L z i < 0 := fun r => e ⟨q, r⟩
          rcases h1 with r | r
          · rcases hz with r2 | r2
            · omega
            · omega
          · exact r
      refine ⟨?_, fun j hj hH => ?_⟩
      · cases q : H i with
        | true => exact .inr (h3 q)
        | false => unfold lenSt; rw [if_neg (fun r => by rw [q] at r; exact absurd r.1 (by decide))]; exact h1
      · by_cases e : j = i
        · subst e; exact h3 hH
        · exact h2 j (by omega) hH
  unfold errMt
  rw [if_neg (by omega), anyLong_false (fun i hi q => by rw [h i hi q]; exact hl), if_neg (by decide), anyOdd_false (fun i hi q => by rw [h i hi q]; exact ((h0 n (Nat.le_refl _)).2 i hi q).symm), if_neg (by decide)]
end Go.Proofs.Ytapgdenodhcliaa
