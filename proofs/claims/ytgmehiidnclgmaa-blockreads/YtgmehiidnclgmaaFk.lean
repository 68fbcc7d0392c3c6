/- Part and Read of package block, of any numbers; Bad likewise. -/
import Derived.Test.YtgmehiidnclgmaaFj
namespace Go.Proofs.Ytgmehiidnclgmaa
open Go Go.RowKit

def rngB (z a b : Int) : Prop := 0 ≤ z ∧ z ≤ 65536 ∧ 0 ≤ a ∧ a ≤ b ∧ b ≤ z
instance (z a b : Int) : Decidable (rngB z a b) := by unfold rngB; infer_instance
def partL (y : Nat → Nat) (m : Nat) (z a b : Int) : List Nat := if rngB z a b ∧ (m : Int) = szV z ∧ parOK y m z.toNat a.toNat b.toNat = true then parL y z.toNat a.toNat b.toNat else []
def partE (y : Nat → Nat) (m : Nat) (z a b : Int) : Int := if rngB z a b then (if (m : Int) = szV z then (if parOK y m z.toNat a.toNat b.toNat = true then 0 else 14) else 4) else 5
/-- What Part tells, of any numbers. -/
def PartU (w : World) (L : List Nat) (E : Int) (e : Ending) (w' : World) : Prop := ∃ po, e = .returned (.tuple #[.slice po L.length L.length, .int .i64 E]) ∧ Below w.heap.size w w' ∧
  ((po = none ∧ L = []) ∨ ∃ g, po = some ⟨g, 0, none⟩ ∧ w.heap.size ≤ g ∧ RowL w' g L)
theorem below6 (w : World) (o0 o1 o2 o3 o4 o5 : Obj) : Below w.heap.size w ((((((w.alloc o0).alloc o1).alloc o2).alloc o3).alloc o4).alloc o5) :=
  ((((((Below.refl _ w).alloc (by simp) _).alloc (by simp) _).alloc (by simp; omega) _).alloc (by simp; omega) _).alloc (by simp; omega) _).alloc (by simp; omega) _
set_option maxRecDepth 100000 in
set_option maxHeartbeats 1000000 in
theorem part_range (p : Option Addr) (m c : Nat) (z a b : Int) (w : World) (h : ¬ rngB z a b) :
    Calls Try.prog 20 #[.slice p m c, .int .i64 z, .int .i64 a, .int .i64 b] w fun e w' => e = .returned (.tuple #[.slice none 0 0, .int .i64 5]) ∧ Below w.heap.size w w' := by
  by_cases h1 : 0 ≤ z ∧ z ≤ 65536
  · have hse : szE z = 0 := by unfold szE; rw [if_pos h1]
    by_cases h2 : a < 0
    · go_enter Try.func20, Try.ntmps20
      go_wp2_with (go_at_call 12; refine (size_any _ _).mono ?_; rintro e w5 ⟨rfl, rfl⟩; rw [hse])
      refine ⟨rfl, .tuple #[.slice none 0 0, .int .i64 5], ?_, rfl, below6 _ _ _ _ _ _ _⟩
      simp [results, Try.f20, go_sem]
    · by_cases h3 : b < a
      · go_enter Try.func20, Try.ntmps20
        go_wp2_with (go_at_call 12; refine (size_any _ _).mono ?_; rintro e w5 ⟨rfl, rfl⟩; rw [hse])
        refine ⟨rfl, .tuple #[.slice none 0 0, .int .i64 5], ?_, rfl, below6 _ _ _ _ _ _ _⟩
        simp [results, Try.f20, go_sem]
      · have h4 : z < b := by unfold rngB at h; omega
        have h2' : ¬ a < 0 := h2
        go_enter Try.func20, Try.ntmps20
        go_wp2_with (go_at_call 12; refine (size_any _ _).mono ?_; rintro e w5 ⟨rfl, rfl⟩; rw [hse])
        refine ⟨rfl, .tuple #[.slice none 0 0, .int .i64 5], ?_, rfl, below6 _ _ _ _ _ _ _⟩
        simp [results, Try.f20, go_sem]
  · have hse : szE z = 5 := by unfold szE; rw [if_neg h1]
    clear h
    go_enter Try.func20, Try.ntmps20
    go_wp2_with (go_at_call 12; refine (size_any _ _).mono ?_; rintro e w5 ⟨rfl, rfl⟩; rw [hse])
    refine ⟨rfl, .tuple #[.slice none 0 0, .int .i64 5], ?_, rfl, below6 _ _ _ _ _ _ _⟩
    simp [results, Try.f20, go_sem]
set_option maxRecDepth 100000 in
set_option maxHeartbeats 1000000 in
theorem part_size (p : Option Addr) (m c : Nat) (z a b : Int) (w : World) (h : rngB z a b) (hm : ¬ (m : Int) = szV z) :
    Calls Try.prog 20 #[.slice p m c, .int .i64 z, .int .i64 a, .int .i64 b] w fun e w' => e = .returned (.tuple #[.slice none 0 0, .int .i64 4]) ∧ Below w.heap.size w w' := by
  have hse : szE z = 0 := by unfold szE; rw [if_pos ⟨h.1, h.2.1⟩]
  have h2 : ¬ a < 0 := by have := h.2.2; omega
  have h3 : ¬ b < a := by have := h.2.2; omega
  have h4 : ¬ z < b := by have := h.2.2; omega
  clear h
  go_enter Try.func20, Try.ntmps20
  go_wp2_with (go_at_call 12; refine (size_any _ _).mono ?_; rintro e w5 ⟨rfl, rfl⟩; rw [hse])
  refine ⟨rfl, .tuple #[.slice none 0 0, .int .i64 4], ?_, rfl, below6 _ _ _ _ _ _ _⟩
  simp [results, Try.f20, go_sem]
theorem part_any (p : Option Addr) (m c : Nat) (y : Nat → Nat) (z a b : Int) (w : World) (hc : m ≤ c) (hp : p = none → m = 0 ∧ c = 0) (hy : StrAt w p m y) (hb : ∀ i, i < m → y i < 256) :
    Calls Try.prog 20 #[.slice p m c, .int .i64 z, .int .i64 a, .int .i64 b] w (PartU w (partL y m z a b) (partE y m z a b)) := by
  by_cases h1 : rngB z a b
  · by_cases h2 : (m : Int) = szV z
    · obtain ⟨h5, h6, h7, h8, h9⟩ := h1
      obtain ⟨n, rfl⟩ : ∃ n : Nat, z = n := ⟨z.toNat, by omega⟩
      obtain ⟨a, rfl⟩ : ∃ n : Nat, a = n := ⟨a.toNat, by omega⟩
      obtain ⟨b, rfl⟩ : ∃ n : Nat, b = n := ⟨b.toNat, by omega⟩
      have hr : rngB (n : Int) a b := ⟨h5, h6, h7, h8, h9⟩
      have hm : m = n + 32 * cnt n := by rw [szV_nat n (by omega)] at h2; omega
      refine (part_ok p m c n a b y w (by omega) hm (by omega) (by omega) hc hp hy hb).mono ?_
      rintro e w' ⟨hbel, ⟨hok, g, rfl, hg, hrow⟩ | ⟨hok, rfl⟩⟩
      · have hL : partL y m n a b = parL y n a b := by unfold partL; rw [if_pos ⟨hr, h2, hok⟩]; rfl
        have hE : partE y m n a b = 0 := by unfold partE; rw [if_pos hr, if_pos h2]; exact if_pos hok
        rw [hL, hE]
        exact ⟨_, rfl, hbel, .inr ⟨g, rfl, hg, hrow⟩⟩
      · have hok' : ¬ parOK y m ((n : Int)).toNat ((a : Int)).toNat ((b : Int)).toNat = true := by simp [hok]
        have hL : partL y m n a b = [] := by unfold partL; rw [if_neg (fun h => hok' h.2.2)]
        have hE : partE y m n a b = 14 := by unfold partE; rw [if_pos hr, if_pos h2, if_neg hok']
        rw [hL, hE]
        exact ⟨none, rfl, hbel, .inl ⟨rfl, rfl⟩⟩
    · have hL : partL y m z a b = [] := by unfold partL; rw [if_neg (fun h => h2 h.2.1)]
      have hE : partE y m z a b = 4 := by unfold partE; rw [if_pos h1, if_neg h2]
      rw [hL, hE]
      refine (part_size p m c z a b w h1 h2).mono ?_
      rintro e w' ⟨rfl, hbel⟩
      exact ⟨none, rfl, hbel, .inl ⟨rfl, rfl⟩⟩
  · have hL : partL y m z a b = [] := by unfold partL; rw [if_neg (fun h => h1 h.1)]
    have hE : partE y m z a b = 5 := by unfold partE; rw [if_neg h1]
    rw [hL, hE]
    refine (part_range p m c z a b w h1).mono ?_
    rintro e w' ⟨rfl, hbel⟩
    exact ⟨none, rfl, hbel, .inl ⟨rfl, rfl⟩⟩
theorem read_any (p : Option Addr) (m c : Nat) (y : Nat → Nat) (z : Int) (w : World) (hc : m ≤ c) (hp : p = none → m = 0 ∧ c = 0) (hy : StrAt w p m y) (hb : ∀ i, i < m → y i < 256) :
    Calls Try.prog 18 #[.slice p m c, .int .i64 z] w (PartU w (partL y m z 0 z) (partE y m z 0 z)) := by
  have HP := hid (part_any p m c y z 0 z w hc hp hy hb)
  generalize partL y m z 0 z = L at *
  generalize partE y m z 0 z = E at *
  clear hp hy hb
  go_enter Try.func18, Try.ntmps18
  go_wp2_with (go_at_call 20; refine HP.out.mono ?_; rintro e w5 ⟨po, rfl, hx⟩; have HX := hid hx; clear hx)
  go_ret2
  exact ⟨po, rfl, HX.out⟩
def bdL (y : Nat → Nat) (m : Nat) (z : Int) : List Nat := if 0 ≤ z ∧ z ≤ 65536 then badL y m z.toNat else []
def BadU (w : World) (L : List Nat) (E : Int) (e : Ending) (w' : World) : Prop := ∃ v, e = .returned (.tuple #[v, .int .i64 E]) ∧ BufI w.heap.size w' v L ∧ Below w.heap.size w w'
theorem bad_any (p : Option Addr) (m c : Nat) (y : Nat → Nat) (z : Int) (w : World) (hm : m ≤ 100000) (hc : m ≤ c) (hy : StrAt w p m y) (hb : ∀ i, i < m → y i < 256) :
    Calls Try.prog 22 #[.slice p m c, .int .i64 z] w (BadU w (bdL y m z) (szE z)) := by
  by_cases h : 0 ≤ z ∧ z ≤ 65536
  · obtain ⟨n, rfl⟩ : ∃ n : Nat, z = n := ⟨z.toNat, by omega⟩
    have hL : bdL y m n = badL y m n := by unfold bdL; rw [if_pos h]; rfl
    rw [hL, szE_nat n (by omega)]
    exact bad_ok p m c n y w (by omega) hm hc hy hb
  · have hL : bdL y m z = [] := by unfold bdL; rw [if_neg h]
    have hE : szE z = 5 := by unfold szE; rw [if_neg h]
    rw [hL, hE]
    refine (bad_no p m c z w h).mono ?_
    rintro e w' ⟨rfl, hbel⟩
    exact ⟨_, rfl, BufI.nil _ _, hbel⟩
end Go.Proofs.Ytgmehiidnclgmaa
