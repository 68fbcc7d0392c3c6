/- Contracts of One and Check of package matrix: the answer by the number, or the lengths; what was there is as it was. -/
import Derived.Test.YtapgdenodhcliaaMb
namespace Go.Proofs.Ytapgdenodhcliaa
open Go.RowKit

theorem ret_se {v v' : Value} {c d : Int} (h : v = v') (h2 : c = d) : Ending.returned (.tuple #[v, .int .i64 c]) = .returned (.tuple #[v', .int .i64 d]) := by rw [h, h2]

set_option maxHeartbeats 400000 in
theorem one_err (n : Int) (w : World) (h : n < 1 ∨ 32 < n) :
    Calls Try.prog 53 #[.int .i64 n] w fun e w' => e = .returned (.tuple #[.slice none 0 0, .int .i64 5]) ∧ w' = w := by
  rcases h with h | h
  · go_enter Try.func53, Try.ntmps53
    go_wp2
    go_ret2
    exact ⟨rfl, rfl⟩
  · have h1 : ¬ n < 1 := by omega
    go_enter Try.func53, Try.ntmps53
    go_wp2
    go_ret2
    exact ⟨rfl, rfl⟩

theorem on_step (k : Nat) (i j : Nat) : up2 (fun i j => if i < k then on i j else 0) k k 1 i j = if i < k + 1 then on i j else 0 := by
  unfold up2 on
  by_cases e : i = k
  · subst e
    by_cases q : j = i
    · subst q; simp
    · simp [q, show ¬ i = j from fun h => q h.symm]
  · by_cases q : i < k
    · simp [e, q, show i < k + 1 by omega]
    · simp [e, q, show ¬ i < k + 1 by omega]

set_option maxRecDepth 100000 in
set_option maxHeartbeats 1000000 in
theorem one_any (n : Nat) (w : World) (h0 : 1 ≤ n) (hn : n ≤ 32) :
    Calls Try.prog 53 #[.int .i64 n] w fun e w' => ∃ g G, e = .returned (.tuple #[.slice (some ⟨g, 0, none⟩) n n, .int .i64 0]) ∧ OwnMat w.heap.size w' g n n n G (fun _ => n) on ∧ Below w.heap.size w w' := by
  go_enter Try.func53, Try.ntmps53
  go_wp2_with fail
  refine (zeros_any n n w (by omega) (by omega)).mono ?_
  rintro e w1 ⟨g, G, rfl, hm, hb⟩
  have HM := hid hm
  have HB := hid hb
  clear hm hb
  go_wp2_with fail
  go_loopw [18] (fun i wr => ∃ k : Nat, k ≤ n ∧ i = .int .i64 k ∧ OwnMat w.heap.size wr g n n n G (fun _ => n) (fun i j => if i < k then on i j else 0) ∧ Below w.heap.size w wr) (fun i _ => (n - intOf i).toNat)
  case atStart => exact ⟨0, by omega, rfl, HM.out.congr (fun i _ j _ => by simp), HB.out⟩
  case round =>
    obtain ⟨k, hk, rfl, hm, hb⟩ := hrel
    clear HM HB
    by_cases hlt : k < n
    · have c1 := hm.topCell k hlt
      have c2 := hm.cell k k hlt hlt
      have c3 := hm.free k k hlt
      have hge := (hm.ge k hlt).1
      have HM := hid ((hm.set k k 1 hlt).congr (fun i _ j _ => on_step k i j))
      have HB := hid (hb.setCell (p := ⟨G k, k, none⟩) hge (.int .u8 (((1 : K).val : Nat) : Int)))
      clear hm hb
      go_wp2
      go_roundw
      case rel => exact ⟨k + 1, by omega, by go_num, HM.out, HB.out⟩
      case measure => simp [intOf]; omega
    · have HM := hid (hm.congr (Y := on) (fun i hi j _ => by simp [show i < k by omega]))
      have HB := hid hb
      clear hm hb
      go_wp2
      go_ret2
      exact ⟨g, G, rfl, HM.out, HB.out⟩

/-- Check's answer. -/
def evenL (n : Nat) (L : Nat → Nat) : Bool := (List.range n).all fun i => L i == L 0
theorem evenL_true {n : Nat} {L : Nat → Nat} (h : ∀ i, i < n → L i = L 0) : evenL n L = true := by
  unfold evenL; rw [List.all_eq_true]; intro i hi; have := h i (by simpa using hi); simpa using this
theorem evenL_false {n : Nat} {L : Nat → Nat} (i : Nat) (hi : i < n) (h : L i ≠ L 0) : evenL n L = false := by
  unfold evenL; rw [List.all_eq_false]; exact ⟨i, by simpa using hi, by simpa using h⟩
theorem evenL_of {n : Nat} {L : Nat → Nat} (h : evenL n L = true) : ∀ i, i < n → L i = L 0 := fun i hi => by
  by_cases e : L i = L 0
  · exact e
  · rw [evenL_false i hi e] at h; cases h
def errC (n : Nat) (L : Nat → Nat) : Int := if (decide (32 < n) || tooLong n L) = true then 3 else if n = 0 ∨ L 0 = 0 then 2 else if evenL n L = true then 0 else 2
theorem errC_zero {n : Nat} {L : Nat → Nat} (h : errC n L = 0) : 1 ≤ n ∧ n ≤ 32 ∧ 1 ≤ L 0 ∧ L 0 ≤ 32 ∧ ∀ i, i < n → L i = L 0 := by
  unfold errC at h
  cases h1 : (decide (32 < n) || tooLong n L) with
  | true => rw [h1, if_pos rfl] at h; exact absurd h (by decide)
  | false =>
    rw [h1, if_neg (by decide)] at h
    by_cases h2 : n = 0 ∨ L 0 = 0
    · rw [if_pos h2] at h; exact absurd h (by decide)
    · rw [if_neg h2] at h
      cases h3 : evenL n L with
      | false => rw [h3, if_neg (by decide)] at h; exact absurd h (by decide)
      | true =>
        rw [Bool.or_eq_false_iff] at h1
        have h4 : n ≤ 32 := by simpa using h1.1
        have h5 := tooLong_not h1.2 0 (by omega)
        exact ⟨by omega, h4, by omega, h5, evenL_of h3⟩
theorem errC_ok {n m : Nat} {L : Nat → Nat} (h1 : 1 ≤ n) (h2 : n ≤ 32) (h3 : 1 ≤ m) (h4 : m ≤ 32) (h : ∀ i, i < n → L i = m) : errC n L = 0 := by
  unfold errC
  have e1 : (decide (32 < n) || tooLong n L) = false := by
    rw [Bool.or_eq_false_iff]
    exact ⟨by simpa using h2, tooLong_false (fun i hi => by rw [h i hi]; exact h4)⟩
  have e0 := h 0 (by omega)
  rw [e1, if_neg (by decide), if_neg (by omega), evenL_true (fun i hi => by rw [h i hi, e0]), if_pos rfl]

set_option maxRecDepth 100000 in
set_option maxHeartbeats 1000000 in
theorem check_any (p : Option Addr) (n c : Nat) (A : Nat → Option Addr) (L C : Nat → Nat) (w : World) (hn : n ≤ 100) (h : TopAt w p n A L C) :
    Calls Try.prog 70 #[.slice p n c] w fun e w' => e = .returned (.int .i64 (errC n L)) ∧ w' = w := by
  cases h1 : (decide (32 < n) || tooLong n L) with
  | true =>
    have HE : Hid (errC n L = 3) := by unfold errC; rw [h1]; rfl
    go_enter Try.func70, Try.ntmps70
    go_wp2_with fail
    refine (long_any _ _ _ _ _ _ _ hn h).mono ?_
    rintro e w' ⟨rfl, hw⟩
    have hw2 := hw.symm
    subst hw2
    clear hw
    rw [h1]
    go_wp2
    go_ret
    exact ⟨ret_int HE.out.symm, rfl⟩
  | false =>
    by_cases h0 : n = 0
    · have HE : Hid (errC n L = 2) := by unfold errC; rw [h1]; simp [h0]; trivial
      subst h0
      go_enter Try.func70, Try.ntmps70
      go_wp2_with fail
      refine (long_any _ _ _ _ _ _ _ hn h).mono ?_
      rintro e w' ⟨rfl, hw⟩
      have hw2 := hw.symm
      subst hw2
      clear hw
      rw [h1]
      go_wp2
      go_ret
      exact ⟨ret_int HE.out.symm, rfl⟩
    · obtain ⟨b, o, rfl, hc⟩ := h.pos (by omega)
      have c0 := hc 0 (by omega)
      rw [Nat.add_zero] at c0
      have hnz : ((n : Int) == 0) = false := by simpa using h0
      by_cases h2 : L 0 = 0
      · have HE : Hid (errC n L = 2) := by unfold errC; rw [h1]; simp [h2]; trivial
        have h2' : ((L 0 : Nat) : Int) == 0 := by simpa using h2
        go_enter Try.func70, Try.ntmps70
        go_wp2_with fail
        refine (long_any _ _ _ _ _ _ _ hn h).mono ?_
        rintro e w' ⟨rfl, hw⟩
        have hw2 := hw.symm
        subst hw2
        clear hw hc
        rw [h1]
        go_wp2
        go_ret
        exact ⟨ret_int HE.out.symm, rfl⟩
      · have h2' : (((L 0 : Nat) : Int) == 0) = false := by simpa using h2
        go_enter Try.func70, Try.ntmps70
        go_wp2_with fail
        refine (long_any _ _ _ _ _ _ _ hn h).mono ?_
        rintro e w' ⟨rfl, hw⟩
        have hw2 := hw.symm
        subst hw2
        clear hw
        rw [h1]
        have HC := hid hc
        clear hc h
        go_wp2_with fail
        go_loop [19] (fun i => ∃ k : Nat, k ≤ n ∧ i = .int .i64 k ∧ ∀ j, j < k → L j = L 0) (fun i => (n - intOf i).toNat)
        case atStart => exact ⟨0, by omega, rfl, fun j hj => absurd hj (by omega)⟩
        case round =>
          obtain ⟨k, hk, rfl, hs⟩ := hrel
          by_cases hlt : k < n
          · have c1 := HC.out k hlt
            by_cases e : L k = L 0
            · have HS : Hid (∀ j, j < k + 1 → L j = L 0) := fun j hj => by
                by_cases q : j = k
                · rw [q]; exact e
                · exact hs j (by omega)
              have e' : (((L k : Nat) : Int) != ((L 0 : Nat) : Int)) = false := by rw [e]; simp
              clear hs e HC
              go_wp2
              go_round
              case rel => exact ⟨k + 1, by omega, by go_num, HS.out⟩
              case measure => simp [intOf]; omega
            · have e' : (((L k : Nat) : Int) != ((L 0 : Nat) : Int)) = true := by simp; omega
              have HE : Hid (errC n L = 2) := by unfold errC; rw [h1, evenL_false k hlt e]; simp; trivial
              clear hs HC e
              go_wp2
              go_ret
              exact ⟨ret_int HE.out.symm, rfl⟩
          · have e : evenL n L = true := evenL_true (fun i hi => hs i (by omega))
            have HE : Hid (errC n L = 0) := by unfold errC; rw [h1, e]; simp [h0, h2]; trivial
            clear hs HC e
            go_wp2
            go_ret
            exact ⟨ret_int HE.out.symm, rfl⟩
end Go.Proofs.Ytapgdenodhcliaa
