/- Numbers and texts as bytes: mathematics alone. -/
import Derived.WalkKit
namespace Go.Proofs.Ytepkpkbgmchioaa

/-- A number's bytes. -/
def nb (n : Nat) : List Nat := if n < 128 then [n] else (n % 128 + 128) :: nb (n / 128)
  termination_by n
  decreasing_by omega
theorem nb_lt {n : Nat} (h : n < 128) : nb n = [n] := by rw [nb, if_pos h]
theorem nb_ge {n : Nat} (h : ¬ n < 128) : nb n = (n % 128 + 128) :: nb (n / 128) := by rw [nb, if_neg h]
/-- A number of at most k bytes from the front. -/
def rdG : Nat → List Nat → Option (Nat × List Nat)
  | 0, _ => none
  | _ + 1, [] => none
  | k + 1, c :: r => if c < 128 then some (c, r) else match rdG k r with
    | some (n, r') => if n = 0 then none else some (c % 128 + 128 * n, r')
    | none => none
def rdU (b : List Nat) : Option (Nat × List Nat) := match rdG 6 b with
  | some (n, r) => if n ≤ 1099511627776 then some (n, r) else none
  | none => none
theorem nb_len : ∀ (k n : Nat), n < 128 ^ (k + 1) → (nb n).length ≤ k + 1
  | 0, n, h => by rw [nb_lt (by simpa using h)]; simp
  | k + 1, n, h => by
    by_cases hn : n < 128
    · rw [nb_lt hn]; simp
    · rw [nb_ge hn, List.length_cons]
      have := nb_len k (n / 128) (by rw [Nat.pow_succ] at h; exact Nat.div_lt_of_lt_mul (by rw [Nat.mul_comm]; exact h))
      omega
theorem nb_pos (n : Nat) : 1 ≤ (nb n).length := by
  by_cases hn : n < 128
  · rw [nb_lt hn]; simp
  · rw [nb_ge hn]; simp
theorem nb_ne (n : Nat) : nb n ≠ [] := fun e => by have := nb_pos n; rw [e] at this; simp at this
theorem nb_byte : ∀ (n : Nat), ∀ x ∈ nb n, x < 256 := fun n => by
  induction n using Nat.strongRecOn with
  | ind n ih =>
    intro x hx
    by_cases hn : n < 128
    · rw [nb_lt hn] at hx; simp at hx; omega
    · rw [nb_ge hn] at hx
      rcases List.mem_cons.1 hx with rfl | hx
      · omega
      · exact ih (n / 128) (by omega) x hx
theorem rdG_nb : ∀ (k n : Nat) (r : List Nat), n < 128 ^ (k + 1) → rdG (k + 1) (nb n ++ r) = some (n, r)
  | 0, n, r, h => by
    have h' : n < 128 := by simpa using h
    rw [nb_lt h']; simp [rdG, h']
  | k + 1, n, r, h => by
    by_cases hn : n < 128
    · rw [nb_lt hn]; simp [rdG, hn]
    · rw [nb_ge hn, List.cons_append]
      have := rdG_nb k (n / 128) r (by rw [Nat.pow_succ] at h; exact Nat.div_lt_of_lt_mul (by rw [Nat.mul_comm]; exact h))
      unfold rdG
      rw [if_neg (by omega), this]
      have h0 : ¬ n / 128 = 0 := by omega
      simp only [h0, if_false]
      congr 2
      omega
theorem rdG_some : ∀ {k : Nat} {b : List Nat} {n : Nat} {r : List Nat}, (∀ x ∈ b, x < 256) → rdG k b = some (n, r) → b = nb n ++ r ∧ n < 128 ^ k
  | 0, _, _, _, _, h => by simp [rdG] at h
  | _ + 1, [], _, _, _, h => by simp [rdG] at h
  | k + 1, c :: t, n, r, hb, h => by
    unfold rdG at h
    by_cases hc : c < 128
    · rw [if_pos hc] at h
      cases h
      exact ⟨by rw [nb_lt hc]; rfl, Nat.lt_of_lt_of_le hc (by rw [Nat.pow_succ]; have := Nat.pow_pos (n := k) (show 0 < 128 by omega); omega)⟩
    · rw [if_neg hc] at h
      cases hr : rdG k t with
      | none => rw [hr] at h; cases h
      | some p =>
        obtain ⟨m, t'⟩ := p
        rw [hr] at h
        by_cases hm : m = 0
        · simp [hm] at h
        · simp only [hm, if_false] at h
          cases h
          obtain ⟨h1, h2⟩ := rdG_some (fun x hx => hb x (List.mem_cons_of_mem _ hx)) hr
          have hc2 := hb c (List.mem_cons_self)
          refine ⟨?_, ?_⟩
          · rw [nb_ge (by omega), List.cons_append]
            have e1 : (c % 128 + 128 * m) % 128 + 128 = c := by omega
            have e2 : (c % 128 + 128 * m) / 128 = m := by omega
            rw [e1, e2, ← h1]
          · rw [Nat.pow_succ]; omega
theorem rdU_nb {n : Nat} (r : List Nat) (h : n ≤ 1099511627776) : rdU (nb n ++ r) = some (n, r) := by
  unfold rdU
  rw [rdG_nb 5 n r (by omega)]
  simp [h]
theorem rdU_some {b : List Nat} {n : Nat} {r : List Nat} (hb : ∀ x ∈ b, x < 256) (h : rdU b = some (n, r)) : b = nb n ++ r ∧ n ≤ 1099511627776 := by
  unfold rdU at h
  cases hr : rdG 6 b with
  | none => rw [hr] at h; cases h
  | some p =>
    obtain ⟨m, t⟩ := p
    rw [hr] at h
    by_cases hm : m ≤ 1099511627776
    · simp only [hm, if_true] at h
      cases h
      exact ⟨(rdG_some hb hr).1, hm⟩
    · simp [hm] at h
/-- A text's bytes. -/
def tb (s : List Nat) : List Nat := nb s.length ++ s
def rdT (b : List Nat) : Option (List Nat × List Nat) := match rdU b with
  | some (n, r) => if n ≤ 65536 ∧ n ≤ r.length then some (r.take n, r.drop n) else none
  | none => none
theorem rdT_tb {s : List Nat} (r : List Nat) (h : s.length ≤ 65536) : rdT (tb s ++ r) = some (s, r) := by
  unfold rdT tb
  rw [List.append_assoc, rdU_nb (s ++ r) (by omega)]
  simp [h]
theorem rdT_some {b s r : List Nat} (hb : ∀ x ∈ b, x < 256) (h : rdT b = some (s, r)) : b = tb s ++ r ∧ s.length ≤ 65536 := by
  unfold rdT at h
  cases hr : rdU b with
  | none => rw [hr] at h; cases h
  | some p =>
    obtain ⟨n, t⟩ := p
    rw [hr] at h
    by_cases hn : n ≤ 65536 ∧ n ≤ t.length
    · simp only [hn, and_self, if_true] at h
      cases h
      obtain ⟨h1, h2⟩ := rdU_some hb hr
      unfold tb
      rw [List.length_take, Nat.min_eq_left hn.2, List.append_assoc, List.take_append_drop]
      exact ⟨h1, hn.1⟩
    · simp [hn] at h
#print axioms rdT_some
end Go.Proofs.Ytepkpkbgmchioaa
