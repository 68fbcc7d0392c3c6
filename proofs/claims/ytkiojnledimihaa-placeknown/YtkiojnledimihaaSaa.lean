/- Texts laid into one: the remark ahead of each part says what is proved there. -/
import Derived.Test.YtkiojnledimihaaPaa
import Derived.Test.YtkiojnledimihaaPab
import Derived.Test.YtkiojnledimihaaPac
import Derived.Test.YtkiojnledimihaaPad
import Derived.Test.YtkiojnledimihaaPae
import Derived.Test.YtkiojnledimihaaPaf
import Derived.Test.YtkiojnledimihaaPag
import Derived.Test.YtkiojnledimihaaPah
import Derived.Test.YtkiojnledimihaaPai
import Derived.Test.YtkiojnledimihaaPaj
import Derived.Test.YtkiojnledimihaaPak
import Derived.Test.YtkiojnledimihaaPal
/- PlaceTells and PlaceKnown, over the contracts of package place. -/
namespace Go.Proofs.Ytkiojnledimihaa
open Go Go.RowKit Go.Shelf

theorem abc_set (n : Nat) (h : okS tABC (n : Int) = true) (h0 : 13436514500253700074 % n = 0) : stN tABC n = 0 := by
  unfold stN
  rw [if_pos h, abc_hash, Int.toNat_natCast]; exact h0
set_option maxHeartbeats 4000000 in
set_option maxRecDepth 100000 in
theorem placeKnown_core (hP : PlC) (w : World) : Calls Try.prog 7 #[] w fun e w' => e = .returned (.bool true) ∧ Below w.heap.size w w' := by
  have hset : ∀ (n : Nat) (W : World), n < 100 → Calls Try.prog 10 #[.string ⟨#[97, 98, 99]⟩, .int .i64 (n : Int)] W fun e w' => e = .returned (.tuple #[.int .i64 (stN tABC n : Int), .int .i64 (stE tABC n : Int)]) ∧ Below W.heap.size W w' := fun n W hn => hP.set tABC n W (by unfold maxLen; decide) (by omega)
  have H1 : Hid (∀ W, Calls Try.prog 10 #[.string ⟨#[97, 98, 99]⟩, .int .i64 1] W fun e w' => e = .returned (.tuple #[.int .i64 0, .int .i64 0]) ∧ Below W.heap.size W w') := hid (fun W => by
    have h := hset 1 W (by omega)
    rw [abc_set 1 (by decide) (by decide), show stE tABC ((1 : Nat) : Int) = 0 by decide] at h; exact h)
  have H2 : Hid (∀ W, Calls Try.prog 10 #[.string ⟨#[97, 98, 99]⟩, .int .i64 2] W fun e w' => e = .returned (.tuple #[.int .i64 0, .int .i64 0]) ∧ Below W.heap.size W w') := hid (fun W => by
    have h := hset 2 W (by omega)
    rw [abc_set 2 (by decide) (by decide), show stE tABC ((2 : Nat) : Int) = 0 by decide] at h; exact h)
  have H3 : Hid (∀ W, Calls Try.prog 10 #[.string ⟨#[97, 98, 99]⟩, .int .i64 3] W fun e w' => e = .returned (.tuple #[.int .i64 0, .int .i64 0]) ∧ Below W.heap.size W w') := hid (fun W => by
    have h := hset 3 W (by omega)
    rw [abc_set 3 (by decide) (by decide), show stE tABC ((3 : Nat) : Int) = 0 by decide] at h; exact h)
  have H5 : Hid (∀ W, Calls Try.prog 10 #[.string ⟨#[97, 98, 99]⟩, .int .i64 5] W fun e w' => e = .returned (.tuple #[.int .i64 0, .int .i64 2]) ∧ Below W.heap.size W w') := hid (fun W => by
    have h := hset 5 W (by omega)
    rw [show stN tABC ((5 : Nat) : Int) = 0 by unfold stN; rw [if_neg (by decide)], show stE tABC ((5 : Nat) : Int) = 2 by decide] at h; exact h)
  have H0 : Hid (∀ W, Calls Try.prog 10 #[.string ⟨#[]⟩, .int .i64 2] W fun e w' => e = .returned (.tuple #[.int .i64 0, .int .i64 2]) ∧ Below W.heap.size W w') := hid (fun W => by
    have h := hP.set [] 2 W (by unfold maxLen; decide) (by omega)
    rw [show stN [] 2 = 0 by unfold stN; rw [if_neg (by decide)], show stE [] 2 = 2 by decide] at h; exact h)
  have HA := hid (fun W => awake13_any hP W)
  have HB := hid (Below.refl w.heap.size w)
  clear hP hset
  have t0 : True := trivial
  have t1 : True := trivial
  have t2 : True := trivial
  have t3 : True := trivial
  have t4 : True := trivial
  go_enter Try.func7, Try.ntmps7
  go_wp2_with (first
    | (go_at_call 10; have _t := t0; refine (H1.out _).mono ?_; rintro e w1 ⟨rfl, hb⟩; have HB := hid (below_on _ _ HB.out hb); clear hb t0)
    | (go_at_call 10; have _t := t1; refine (H2.out _).mono ?_; rintro e w2 ⟨rfl, hb⟩; have HB := hid (below_on _ _ HB.out hb); clear hb t1)
    | (go_at_call 10; have _t := t2; refine (H3.out _).mono ?_; rintro e w3 ⟨rfl, hb⟩; have HB := hid (below_on _ _ HB.out hb); clear hb t2)
    | (go_at_call 10; have _t := t3; refine (H0.out _).mono ?_; rintro e w4 ⟨rfl, hb⟩; have HB := hid (below_on _ _ HB.out hb); clear hb t3)
    | (go_at_call 10; have _t := t4; refine (H5.out _).mono ?_; rintro e w5 ⟨rfl, hb⟩; have HB := hid (below_on _ _ HB.out hb); clear hb t4)
    | (go_at_call 12; refine (HA.out _).mono ?_; rintro e w6 ⟨rfl, hb⟩; have HB := hid (below_on _ _ HB.out hb); clear hb))
  go_ret
  exact ⟨rfl, HB.out⟩
end Go.Proofs.Ytkiojnledimihaa
