/- Part and Read of the document's own answer, of any numbers. -/
import Derived.Test.YtgmehiidnclgmaaFw
namespace Go.Proofs.Ytgmehiidnclgmaa
open Go Go.RowKit

set_option maxRecDepth 100000 in
set_option maxHeartbeats 1000000 in
theorem rpart_range (p : Option Addr) (m c : Nat) (z a b : Int) (w : World) (h : ¬ rngB z a b) :
    Calls Try.prog 21 #[.slice p m c, .int .i64 z, .int .i64 a, .int .i64 b] w fun e w' => e = .returned (.tuple #[.slice none 0 0, .int .i64 5]) ∧ w' = w := by
  by_cases h1 : 0 ≤ z ∧ z ≤ 65536
  · have hd : mayB z = true := decide_eq_true h1
    by_cases h2 : a < 0
    · go_enter Try.func21, Try.ntmps21
      go_wp2_with (go_at_call 39; refine (rmay_any _ _).mono ?_; rintro e w5 ⟨rfl, hw⟩; have h3 := hw.symm; subst h3; rw [hd])
      go_ret2
      exact ⟨rfl, rfl⟩
    · by_cases h3 : b < a
      · go_enter Try.func21, Try.ntmps21
        go_wp2_with (go_at_call 39; refine (rmay_any _ _).mono ?_; rintro e w5 ⟨rfl, hw⟩; have h3 := hw.symm; subst h3; rw [hd])
        go_ret2
        exact ⟨rfl, rfl⟩
      · have h4 : z < b := by unfold rngB at h; omega
        have h2' : ¬ a < 0 := h2
        go_enter Try.func21, Try.ntmps21
        go_wp2_with (go_at_call 39; refine (rmay_any _ _).mono ?_; rintro e w5 ⟨rfl, hw⟩; have h3 := hw.symm; subst h3; rw [hd])
        go_ret2
        exact ⟨rfl, rfl⟩
  · have hd : mayB z = false := decide_eq_false h1
    clear h
    go_enter Try.func21, Try.ntmps21
    go_wp2_with (go_at_call 39; refine (rmay_any _ _).mono ?_; rintro e w5 ⟨rfl, hw⟩; have h3 := hw.symm; subst h3; rw [hd])
    go_ret2
    exact ⟨rfl, rfl⟩
set_option maxRecDepth 100000 in
set_option maxHeartbeats 1000000 in
theorem rpart_size (p : Option Addr) (m c : Nat) (z a b : Int) (w : World) (h : rngB z a b) (hm : ¬ (m : Int) = szV z) :
    Calls Try.prog 21 #[.slice p m c, .int .i64 z, .int .i64 a, .int .i64 b] w fun e w' => e = .returned (.tuple #[.slice none 0 0, .int .i64 4]) ∧ w' = w := by
  have hd : mayB z = true := decide_eq_true ⟨h.1, h.2.1⟩
  have h2 : ¬ a < 0 := by have := h.2.2; omega
  have h3 : ¬ b < a := by have := h.2.2; omega
  have h4 : ¬ z < b := by have := h.2.2; omega
  clear h
  go_enter Try.func21, Try.ntmps21
  go_wp2_with (first
    | (go_at_call 39; refine (rmay_any _ _).mono ?_; rintro e w5 ⟨rfl, hw⟩; have h3 := hw.symm; subst h3; rw [hd])
    | (go_at_call 13; refine (rsize_any _ _).mono ?_; rintro e w5 ⟨rfl, hw⟩; have h3 := hw.symm; subst h3))
  go_ret2
  exact ⟨rfl, rfl⟩
theorem rpart_any (p : Option Addr) (m c : Nat) (y : Nat → Nat) (z a b : Int) (w : World) (hc : m ≤ c) (hp : p = none → m = 0 ∧ c = 0) (hy : StrAt w p m y) (hb : ∀ i, i < m → y i < 256) :
    Calls Try.prog 21 #[.slice p m c, .int .i64 z, .int .i64 a, .int .i64 b] w (RPartU w (partL y m z a b) (partE y m z a b)) := by
  by_cases h1 : rngB z a b
  · by_cases h2 : (m : Int) = szV z
    · obtain ⟨h5, h6, h7, h8, h9⟩ := h1
      obtain ⟨n, rfl⟩ : ∃ n : Nat, z = n := ⟨z.toNat, by omega⟩
      obtain ⟨a, rfl⟩ : ∃ n : Nat, a = n := ⟨a.toNat, by omega⟩
      obtain ⟨b, rfl⟩ : ∃ n : Nat, b = n := ⟨b.toNat, by omega⟩
      have hr : rngB (n : Int) a b := ⟨h5, h6, h7, h8, h9⟩
      have hm : m = n + 32 * cnt n := by rw [szV_nat n (by omega)] at h2; omega
      refine (rpart_ok p m c n a b y w (by omega) hm (by omega) (by omega) hc hp hy hb).mono ?_
      rintro e w' ⟨hbel, ⟨hok, v, rfl, hrow⟩ | ⟨hok, rfl⟩⟩
      · have hL : partL y m n a b = parL y n a b := by unfold partL; rw [if_pos ⟨hr, h2, hok⟩]; rfl
        have hE : partE y m n a b = 0 := by unfold partE; rw [if_pos hr, if_pos h2]; exact if_pos hok
        rw [hL, hE]
        exact ⟨_, rfl, hrow, hbel⟩
      · have hok' : ¬ parOK y m ((n : Int)).toNat ((a : Int)).toNat ((b : Int)).toNat = true := by simp [hok]
        have hL : partL y m n a b = [] := by unfold partL; rw [if_neg (fun h => hok' h.2.2)]
        have hE : partE y m n a b = 14 := by unfold partE; rw [if_pos hr, if_pos h2, if_neg hok']
        rw [hL, hE]
        exact ⟨_, rfl, BufL.nil _ _, hbel⟩
    · have hL : partL y m z a b = [] := by unfold partL; rw [if_neg (fun h => h2 h.2.1)]
      have hE : partE y m z a b = 4 := by unfold partE; rw [if_pos h1, if_neg h2]
      rw [hL, hE]
      refine (rpart_size p m c z a b w h1 h2).mono ?_
      rintro e w' ⟨rfl, rfl⟩
      exact ⟨_, rfl, BufL.nil _ _, Below.refl _ _⟩
  · have hL : partL y m z a b = [] := by unfold partL; rw [if_neg (fun h => h1 h.1)]
    have hE : partE y m z a b = 5 := by unfold partE; rw [if_neg h1]
    rw [hL, hE]
    refine (rpart_range p m c z a b w h1).mono ?_
    rintro e w' ⟨rfl, rfl⟩
    exact ⟨_, rfl, BufL.nil _ _, Below.refl _ _⟩
theorem partL_max (y : Nat → Nat) (m : Nat) (z : Int) : partL y m z 0 (if z < 0 then 0 else z) = partL y m z 0 z ∧ partE y m z 0 (if z < 0 then 0 else z) = partE y m z 0 z := by
  by_cases h : z < 0
  · have h1 : ¬ rngB z 0 0 := fun q => by have := q.1; omega
    have h2 : ¬ rngB z 0 z := fun q => by have := q.1; omega
    rw [if_pos h]
    unfold partL partE
    rw [if_neg (fun q => h1 q.1), if_neg (fun q => h2 q.1), if_neg h1, if_neg h2]
    exact ⟨rfl, rfl⟩
  · rw [if_neg h]; exact ⟨rfl, rfl⟩
theorem rread_any (p : Option Addr) (m c : Nat) (y : Nat → Nat) (z : Int) (w : World) (hc : m ≤ c) (hp : p = none → m = 0 ∧ c = 0) (hy : StrAt w p m y) (hb : ∀ i, i < m → y i < 256) :
    Calls Try.prog 19 #[.slice p m c, .int .i64 z] w (RPartU w (partL y m z 0 z) (partE y m z 0 z)) := by
  have h0 := rpart_any p m c y z 0 (if z < 0 then 0 else z) w hc hp hy hb
  rw [(partL_max y m z).1, (partL_max y m z).2] at h0
  have HP := hid h0
  generalize partL y m z 0 z = L at *
  generalize partE y m z 0 z = E at *
  clear hp hy hb h0
  by_cases h : z < 0
  · go_enter Try.func19, Try.ntmps19
    go_wp2_with (go_at_call 21; rw [if_pos h] at HP; refine HP.out.mono ?_; rintro e w5 ⟨v, rfl, hx⟩; have HX := hid hx; clear hx)
    go_ret2
    exact ⟨v, rfl, HX.out⟩
  · go_enter Try.func19, Try.ntmps19
    go_wp2_with (go_at_call 21; rw [if_neg h] at HP; refine HP.out.mono ?_; rintro e w5 ⟨v, rfl, hx⟩; have HX := hid hx; clear hx)
    go_ret2
    exact ⟨v, rfl, HX.out⟩
end Go.Proofs.Ytgmehiidnclgmaa
