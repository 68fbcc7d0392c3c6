/- Matrices as they lie in memory, and contracts of the functions that look at their lengths alone (Large; Check of package matrix and what it calls): the answer by the lengths; the world is as it was. -/
import Derived.Test.YtapgdenodhcliaaXd
import Derived.Test.YtapgdenodhcliaaLa
namespace Go.Proofs.Ytapgdenodhcliaa
open Go.RowKit

/-- The slice's value leads to n rows, each a slice's value; one of no row may lead anywhere. -/
def TopAt (w : World) (p : Option Addr) (n : Nat) (A : Nat → Option Addr) (L C : Nat → Nat) : Prop :=
  n = 0 ∨ ∃ b o, p = some ⟨b, o, none⟩ ∧ ∀ i, i < n → w.cell? ⟨b, o + i, none⟩ = some (.slice (A i) (L i) (C i))
theorem TopAt.pos {w : World} {p : Option Addr} {n : Nat} {A : Nat → Option Addr} {L C : Nat → Nat} (h : TopAt w p n A L C) (hn : 0 < n) :
    ∃ b o, p = some ⟨b, o, none⟩ ∧ ∀ i, i < n → w.cell? ⟨b, o + i, none⟩ = some (.slice (A i) (L i) (C i)) := by
  rcases h with h | h
  · omega
  · exact h
/-- n rows, row i of L i bytes, X i. -/
structure MatAt (w : World) (p : Option Addr) (n : Nat) (A : Nat → Option Addr) (L C : Nat → Nat) (X : Nat → Nat → K) : Prop where
  top : TopAt w p n A L C
  row : ∀ i, i < n → StrAt w (A i) (L i) (fun j => (X i j).val)
  le : ∀ i, i < n → L i ≤ C i
/-- What was there is as it was. -/
def Stays (w w' : World) : Prop := ∀ p v, w.cell? p = some v → w'.cell? p = some v
theorem Stays.of_below {w w' : World} (h : Below w.heap.size w w') : Stays w w' := fun _ _ hp =>
  (h.cell (World.block_lt_of_cell? w _ hp)).trans hp
theorem TopAt.keep {w w' : World} {p : Option Addr} {n : Nat} {A : Nat → Option Addr} {L C : Nat → Nat} (h : TopAt w p n A L C) (k : Stays w w') : TopAt w' p n A L C := by
  rcases h with h | ⟨b, o, h, hc⟩
  · exact .inl h
  · exact .inr ⟨b, o, h, fun i hi => k _ _ (hc i hi)⟩
theorem StrAt.keep {w w' : World} {p : Option Addr} {n : Nat} {x : Nat → Nat} (h : StrAt w p n x) (k : Stays w w') : StrAt w' p n x := by
  rcases h with h | ⟨b, o, h, hc⟩
  · exact .inl h
  · exact .inr ⟨b, o, h, fun i hi => k _ _ (hc i hi)⟩
theorem MatAt.keep {w w' : World} {p : Option Addr} {n : Nat} {A : Nat → Option Addr} {L C : Nat → Nat} {X : Nat → Nat → K} (h : MatAt w p n A L C X) (k : Stays w w') : MatAt w' p n A L C X :=
  ⟨h.top.keep k, fun i hi => (h.row i hi).keep k, h.le⟩

theorem ret_bool {a b : Bool} (h : a = b) : Ending.returned (.bool a) = .returned (.bool b) := by rw [h]

set_option maxHeartbeats 400000 in
theorem long1_any (p : Option Addr) (n c : Nat) (w : World) :
    Calls Try.prog 90 #[.slice p n c] w fun e w' => e = .returned (.bool (decide (32 < n))) ∧ w' = w := by
  by_cases hn : 32 < n
  · go_enter Try.func90, Try.ntmps90
    go_wp2
    go_ret
    exact ⟨ret_bool (by simp; omega), rfl⟩
  · go_enter Try.func90, Try.ntmps90
    go_wp2
    go_ret
    exact ⟨ret_bool (by simp; omega), rfl⟩

/-- The first row that is too long. -/
def tooLong (n : Nat) (L : Nat → Nat) : Bool := (List.range n).any fun i => decide (32 < L i)
theorem tooLong_true {n : Nat} {L : Nat → Nat} (i : Nat) (hi : i < n) (h : 32 < L i) : tooLong n L = true := by
  unfold tooLong; rw [List.any_eq_true]; exact ⟨i, by simpa using hi, by simpa using h⟩
theorem tooLong_false {n : Nat} {L : Nat → Nat} (h : ∀ i, i < n → L i ≤ 32) : tooLong n L = false := by
  unfold tooLong; rw [List.any_eq_false]; intro i hi; have := h i (by simpa using hi); simpa using this
theorem tooLong_not {n : Nat} {L : Nat → Nat} (h : tooLong n L = false) : ∀ i, i < n → L i ≤ 32 := fun i hi => by
  rcases Nat.lt_or_ge 32 (L i) with q | q
  · rw [tooLong_true i hi q] at h; cases h
  · exact q

set_option maxRecDepth 100000 in
set_option maxHeartbeats 400000 in
theorem indexFunc_any (p : Option Addr) (n c : Nat) (A : Nat → Option Addr) (L C : Nat → Nat) (w : World) (hn : n ≤ 100) (h : TopAt w p n A L C) :
    Calls Try.prog 91 #[.slice p n c, .func (.func 90) #[] #[]] w fun e w' => (∃ z : Int, -1 ≤ z ∧ z ≤ 100 ∧ e = .returned (.int .i64 z) ∧ decide (0 ≤ z) = tooLong n L) ∧ w' = w := by
  go_enter Try.func91, Try.ntmps91
  go_wp2
  go_loop [8] (fun i => ∃ k : Nat, k ≤ n ∧ i = .int .i64 k ∧ ∀ j, j < k → L j ≤ 32) (fun i => (n - intOf i).toNat)
  case atStart => exact ⟨0, by omega, rfl, fun j hj => absurd hj (by omega)⟩
  case round =>
    obtain ⟨k, hk, rfl, hs⟩ := hrel
    by_cases hlt : k < n
    · obtain ⟨b, o, rfl, hc⟩ := h.pos (by omega)
      have c1 := hc k hlt
      clear h hc
      by_cases hb : 32 < L k
      · have HB := hid (tooLong_true k hlt hb)
        have hd : decide (32 < L k) = true := by simpa using hb
        clear hs
        go_wp2_with (go_at_call 90; refine (long1_any _ _ _ _).mono ?_; rintro e w' ⟨rfl, rfl⟩; rw [hd])
        go_ret
        exact ⟨⟨_, by omega, by omega, rfl, by rw [HB.out]; simp⟩, rfl⟩
      · have HS : Hid (∀ j, j < k + 1 → L j ≤ 32) := fun j hj => by
          by_cases e : j = k
          · subst e; omega
          · exact hs j (by omega)
        have hd : decide (32 < L k) = false := by simpa using hb
        clear hs
        go_wp2_with (go_at_call 90; refine (long1_any _ _ _ _).mono ?_; rintro e w' ⟨rfl, rfl⟩; rw [hd])
        go_round
        case rel => exact ⟨k + 1, by omega, by go_num, HS.out⟩
        case measure => simp [intOf]; omega
    · have HB := hid (tooLong_false (L := L) (n := n) (fun i hi => hs i (by omega)))
      clear h hs
      go_wp2
      go_ret
      exact ⟨⟨_, by omega, by omega, rfl, by rw [HB.out]; rfl⟩, rfl⟩

set_option maxHeartbeats 400000 in
theorem contains_any (p : Option Addr) (n c : Nat) (A : Nat → Option Addr) (L C : Nat → Nat) (w : World) (hn : n ≤ 100) (h : TopAt w p n A L C) :
    Calls Try.prog 89 #[.slice p n c, .func (.func 90) #[] #[]] w fun e w' => e = .returned (.bool (tooLong n L)) ∧ w' = w := by
  go_enter Try.func89, Try.ntmps89
  go_wp2_with fail
  refine (indexFunc_any _ _ _ _ _ _ _ hn h).mono ?_
  rintro e w' ⟨⟨z, h1, h2, rfl, h3⟩, hw⟩
  have hw2 := hw.symm
  subst hw2
  clear hw
  have H3 := hid h3
  clear h3
  by_cases hz : 0 ≤ z
  · go_wp2
    go_ret
    exact ⟨ret_bool (by rw [← H3.out]; first | done | simp [hz]), rfl⟩
  · go_wp2
    go_ret
    exact ⟨ret_bool (by rw [← H3.out]; first | done | simp [hz]), rfl⟩

set_option maxHeartbeats 400000 in
theorem long_any (p : Option Addr) (n c : Nat) (A : Nat → Option Addr) (L C : Nat → Nat) (w : World) (hn : n ≤ 100) (h : TopAt w p n A L C) :
    Calls Try.prog 82 #[.slice p n c] w fun e w' => e = .returned (.bool (decide (32 < n) || tooLong n L)) ∧ w' = w := by
  by_cases h1 : 32 < n
  · go_enter Try.func82, Try.ntmps82
    go_wp2
    go_ret
    exact ⟨ret_bool (by simp [h1]), rfl⟩
  · go_enter Try.func82, Try.ntmps82
    go_wp2_with fail
    refine (contains_any _ _ _ _ _ _ _ hn h).mono ?_
    rintro e w' ⟨rfl, hw⟩
    have hw2 := hw.symm
    subst hw2
    clear hw
    go_wp2
    go_ret
    exact ⟨ret_bool (by simp [h1]), rfl⟩
end Go.Proofs.Ytapgdenodhcliaa
