/- Contract of clash of the statements on block; walk of BlockTurned. -/
import Derived.Test.YtgmehiidnclgmaaFs
namespace Go.Proofs.Ytgmehiidnclgmaa
open Go Go.RowKit

def clashB (n : Nat) (x y : Nat → Nat) : Bool := !sameB n x n y && eqD 32 (sha n x) (sha n y)
set_option maxRecDepth 100000 in
set_option maxHeartbeats 400000 in
theorem clash_core (p q : Option Addr) (n c d : Nat) (dx dy : Nat → Nat) (s : Bool) (w : World)
    (hsm : Calls Try.prog 14 #[.slice p n c, .slice q n d] w fun e w' => e = .returned (.bool s) ∧ w' = w)
    (hs1 : Calls Try.prog 36 #[.slice p n c] w fun e w' => e = .returned (.agg (aB 32 dx)) ∧ Below w.heap.size w w')
    (hs2 : ∀ W', Below w.heap.size w W' → Calls Try.prog 36 #[.slice q n d] W' fun e w' => e = .returned (.agg (aB 32 dy)) ∧ Below W'.heap.size W' w') :
    Calls Try.prog 28 #[.slice p n c, .slice q n d] w fun e w' => e = .returned (.bool (!s && eqD 32 dx dy)) ∧ Below w.heap.size w w' := by
  have HSM := hid hsm
  have HS1 := hid hs1
  have HS2 := hid hs2
  have he := fun w' => run_eqDig dx dy w'
  generalize eqD 32 dx dy = r at *
  clear hsm hs1 hs2
  cases s with
  | true =>
    clear he
    go_enter Try.func28, Try.ntmps28
    go_wp2_with (go_at_call 14; refine HSM.out.mono ?_; rintro e w' ⟨rfl, hw⟩; have h3 := hw.symm; subst h3)
    go_ret
    exact ⟨rfl, Below.refl _ _⟩
  | false =>
    go_enter Try.func28, Try.ntmps28
    go_wp2_with (first
      | (go_at_call 14; refine HSM.out.mono ?_; rintro e w' ⟨rfl, hw⟩; have h3 := hw.symm; subst h3)
      | (go_at_call 36; refine HS1.out.mono ?_; clear HS1; rintro e w1 ⟨rfl, hb⟩; have HB1 := hid hb; clear hb)
      | (go_at_call 36; refine (HS2.out _ HB1.out).mono ?_; rintro e w2 ⟨rfl, hb⟩; have HB2 := hid (HB1.out.trans (hb.mono HB1.out.size)); clear hb))
    go_ret
    exact ⟨rfl, HB2.out⟩
theorem clash_any (p q : Option Addr) (n c d : Nat) (x y : Nat → Nat) (w : World) (hn : n ≤ 1000) (hc : n ≤ c) (hd : n ≤ d) (hx : StrAt w p n x) (hy : StrAt w q n y) (hxb : ∀ i, i < n → x i < 256) (hyb : ∀ i, i < n → y i < 256) :
    Calls Try.prog 28 #[.slice p n c, .slice q n d] w fun e w' => e = .returned (.bool (clashB n x y)) ∧ Below w.heap.size w w' := by
  unfold clashB
  exact clash_core p q n c d (sha n x) (sha n y) (sameB n x n y) w (same_any p q n n c d x y w hx hy hxb hyb) (sum_any p n c x w (by omega) hc hx hxb) (fun W' hW' => sum_any q n d y W' (by omega) hd (hy.below hW') hyb)
theorem filter_one (i : Nat) : ∀ c, i < c → (List.range c).filter (fun j => decide (j = i)) = [i]
  | 0, h => by omega
  | c + 1, h => by
    rw [List.range_succ, List.filter_append]
    by_cases e : i = c
    · subst e
      have h0 : (List.range i).filter (fun j => decide (j = i)) = [] := by
        rw [List.filter_eq_nil_iff]
        intro j hj
        have := List.mem_range.1 hj
        simp; omega
      rw [h0]; simp
    · rw [filter_one i c (by omega)]
      have h1 : decide (c = i) = false := decide_eq_false (fun h => e h.symm)
      simp [h1]
/-- What is told of a file of which one byte is turned. -/
theorem turned_told (n : Nat) (y : Nat → Nat) (i : Nat) (hn : n ≤ 65536) (hi : i < cnt n) (hs : ∀ j, j < cnt n → snd y (n + 32 * cnt n) n j = !decide (j = i)) :
    partL y (n + 32 * cnt n) n 0 n = [] ∧ partE y (n + 32 * cnt n) n 0 n = 14 ∧ bdL y (n + 32 * cnt n) n = [i] := by
  have hc : cnt n = (n + 255) / 256 := rfl
  have hok : parOK y (n + 32 * cnt n) n 0 n = false := parOK_false hi (by unfold plo phi bend; omega) (by rw [hs i hi]; simp)
  have hok' : ¬ parOK y (n + 32 * cnt n) ((n : Int)).toNat ((0 : Int)).toNat ((n : Int)).toNat = true := by
    show ¬ parOK y (n + 32 * cnt n) n 0 n = true
    rw [hok]; decide
  have hr : rngB (n : Int) 0 n := ⟨by omega, by omega, by omega, by omega, by omega⟩
  have hm : ((n + 32 * cnt n : Nat) : Int) = szV n := (szV_nat n hn).symm
  refine ⟨?_, ?_, ?_⟩
  · unfold partL; rw [if_neg (fun h => hok' h.2.2)]
  · unfold partE; rw [if_pos hr, if_pos hm, if_neg hok']
  · unfold bdL
    rw [if_pos ⟨by omega, by omega⟩]
    show badL y (n + 32 * cnt n) n = [i]
    unfold badL
    rw [← filter_one i (cnt n) hi]
    apply List.filter_congr
    intro j hj
    rw [hs j (List.mem_range.1 hj), Bool.not_not]
end Go.Proofs.Ytgmehiidnclgmaa
