/- Contracts of SameLists and makes of the statements' kit: of two matrices that read alike they return true; and of the examples that awake asks: all are answered as the chapter says. What was there is as it was. -/
import Derived.Test.YtapgdenodhcliaaMl
import Derived.Deep.QuietTactic
import Derived.BigQuiet
import Derived.Deep.Draws
namespace Go.Proofs.Ytapgdenodhcliaa
open Go.RowKit

theorem below_drewN {B n : Nat} {w w' : World} (h : Below B w w') : Below B w (w'.drewN n) := ⟨h.os, h.tape, h.output, h.size, h.block⟩

set_option maxRecDepth 100000 in
set_option maxHeartbeats 1000000 in
theorem sameLists_true (p q : Option Addr) (n c d : Nat) (A A' : Nat → Option Addr) (L C C' : Nat → Nat) (X Y : Nat → Nat → K) (w : World) (hn : n ≤ 100) (h : MatAt w p n A L C X) (h' : MatAt w q n A' L C' Y) (hXY : ∀ i, i < n → ∀ j, j < L i → X i j = Y i j) :
    Calls Try.prog 14 #[.slice p n c, .slice q n d] w fun e w' => e = .returned (.bool true) ∧ Below w.heap.size w w' := by
  have H := hid h
  have H' := hid h'
  have HX := hid hXY
  clear h h' hXY
  go_enter Try.func14, Try.ntmps14
  go_wp2_with fail
  go_loopw [5] (fun i wr => ∃ k : Nat, k ≤ n ∧ i = .int .i64 k ∧ Below w.heap.size w wr) (fun i _ => (n - intOf i).toNat)
  case atStart => exact ⟨0, by omega, rfl, Below.refl _ _⟩
  case round =>
    obtain ⟨k, hk, rfl, hb⟩ := hrel
    have HB := hid hb
    by_cases hlt : k < n
    · have s1 : StrAt wr (A k) (L k) (fun j => (X k j).val) := (H.out.row k hlt).keep (Stays.of_below hb)
      have s2 : StrAt wr (A' k) (L k) (fun j => (X k j).val) := by
        have := (H'.out.row k hlt).keep (Stays.of_below hb)
        rcases this with q | ⟨b, o, q1, q2⟩
        · exact .inl q
        · exact .inr ⟨b, o, q1, fun j hj => by rw [q2 j hj]; show some (Value.int .u8 (((Y k j).val : Nat) : Int)) = some (Value.int .u8 (((X k j).val : Nat) : Int)); rw [HX.out k hlt j hj]⟩
      obtain ⟨b, o, rfl, hc⟩ := H.out.top.pos (by omega)
      obtain ⟨b', o', rfl, hc'⟩ := H'.out.top.pos (by omega)
      have c1 := Stays.of_below hb _ _ (hc k hlt)
      have c2 := Stays.of_below hb _ _ (hc' k hlt)
      have hlt' : (k : Int) < (n : Int) := by omega
      have S1 := hid s1
      have S2 := hid s2
      clear H H' HX hc hc' hb s1 s2
      go_wp2_with fail
      go_quiet ((go_at_call 27; refine Calls.quiet_of_same (same_true _ _ (L k) _ _ (fun j => (X k j).val) _ (by exact S1.out) (by exact S2.out))))
      go_wp2
      go_roundw
      case rel => exact ⟨k + 1, by omega, by go_num, below_drewN HB.out⟩
      case measure => simp [intOf]; omega
    · clear H H' HX hb
      go_wp2
      go_ret
      exact ⟨rfl, HB.out⟩

/-- Matrices that stand in the text. -/
def li2 (a b c d : Nat) (i j : Nat) : K := kb (if i = 0 then (if j = 0 then a else b) else (if j = 0 then c else d))
def li3 (a b c d e f : Nat) (i j : Nat) : K := kb (if i = 0 then (if j = 0 then a else b) else if i = 1 then (if j = 0 then c else d) else (if j = 0 then e else f))
theorem lt2 {i : Nat} (h : i < 2) : i = 0 ∨ i = 1 := by omega
theorem lt3 {i : Nat} (h : i < 3) : i = 0 ∨ i = 1 ∨ i = 2 := by omega

theorem lit2_at (w : World) (N a b c d : Nat) (hN : N = w.heap.size) (ha : a < 256) (hb : b < 256) (hc : c < 256) (hd : d < 256) :
    MatAt (((w.alloc (.cells #[.int .u8 ((a : Nat) : Int), .int .u8 ((b : Nat) : Int)] 5)).alloc (.cells #[.int .u8 ((c : Nat) : Int), .int .u8 ((d : Nat) : Int)] 5)).alloc (.cells #[.slice (some ⟨N, 0, none⟩) 2 2, .slice (some ⟨N + 1, 0, none⟩) 2 2] 22))
      (some ⟨N + 1 + 1, 0, none⟩) 2 (fun i => some ⟨N + i, 0, none⟩) (fun _ => 2) (fun _ => 2) (li2 a b c d) where
  top := .inr ⟨_, _, rfl, fun i hi => by
    subst hN
    have e : (w.heap.size + 1 + 1) = ((w.alloc (.cells #[.int .u8 ((a : Nat) : Int), .int .u8 ((b : Nat) : Int)] 5)).alloc (.cells #[.int .u8 ((c : Nat) : Int), .int .u8 ((d : Nat) : Int)] 5)).heap.size := by simp
    rw [e, World.cell?_alloc_new]
    rcases lt2 hi with rfl | rfl <;> rfl⟩
  row := fun i hi => .inr ⟨_, _, rfl, fun j hj => by
    subst hN
    rcases lt2 hi with rfl | rfl
    · rw [World.cell?_alloc_lt _ _ _ (by simp; omega), World.cell?_alloc_lt _ _ _ (by simp)]
      rw [Nat.add_zero, World.cell?_alloc_new]
      rcases lt2 hj with rfl | rfl
      · simp [li2, kb_val _ ha]
      · simp [li2, kb_val _ hb]
    · rw [World.cell?_alloc_lt _ _ _ (by simp)]
      have e : w.heap.size + 1 = (w.alloc (.cells #[.int .u8 ((a : Nat) : Int), .int .u8 ((b : Nat) : Int)] 5)).heap.size := by simp
      rw [e, World.cell?_alloc_new]
      rcases lt2 hj with rfl | rfl
      · simp [li2, kb_val _ hc]
      · simp [li2, kb_val _ hd]⟩
  le := fun _ _ => Nat.le_refl _

theorem lit3_at (w : World) (N a b c d e f : Nat) (hN : N = w.heap.size) (ha : a < 256) (hb : b < 256) (hc : c < 256) (hd : d < 256) (he : e < 256) (hf : f < 256) :
    MatAt ((((w.alloc (.cells #[.int .u8 ((a : Nat) : Int), .int .u8 ((b : Nat) : Int)] 5)).alloc (.cells #[.int .u8 ((c : Nat) : Int), .int .u8 ((d : Nat) : Int)] 5)).alloc (.cells #[.int .u8 ((e : Nat) : Int), .int .u8 ((f : Nat) : Int)] 5)).alloc
      (.cells #[.slice (some ⟨N, 0, none⟩) 2 2, .slice (some ⟨N + 1, 0, none⟩) 2 2, .slice (some ⟨N + 1 + 1, 0, none⟩) 2 2] 22))
      (some ⟨N + 1 + 1 + 1, 0, none⟩) 3 (fun i => some ⟨N + i, 0, none⟩) (fun _ => 2) (fun _ => 2) (li3 a b c d e f) where
  top := .inr ⟨_, _, rfl, fun i hi => by
    subst hN
    have q : (w.heap.size + 1 + 1 + 1) = (((w.alloc (.cells #[.int .u8 ((a : Nat) : Int), .int .u8 ((b : Nat) : Int)] 5)).alloc (.cells #[.int .u8 ((c : Nat) : Int), .int .u8 ((d : Nat) : Int)] 5)).alloc (.cells #[.int .u8 ((e : Nat) : Int), .int .u8 ((f : Nat) : Int)] 5)).heap.size := by simp
    rw [q, World.cell?_alloc_new]
    rcases lt3 hi with rfl | rfl | rfl <;> rfl⟩
  row := fun i hi => .inr ⟨_, _, rfl, fun j hj => by
    subst hN
    rcases lt3 hi with rfl | rfl | rfl
    · rw [World.cell?_alloc_lt _ _ _ (by simp; omega), World.cell?_alloc_lt _ _ _ (by simp; omega), World.cell?_alloc_lt _ _ _ (by simp)]
      rw [Nat.add_zero, World.cell?_alloc_new]
      rcases lt2 hj with rfl | rfl
      · simp [li3, kb_val _ ha]
      · simp [li3, kb_val _ hb]
    · rw [World.cell?_alloc_lt _ _ _ (by simp), World.cell?_alloc_lt _ _ _ (by simp)]
      have q : w.heap.size + 1 = (w.alloc (.cells #[.int .u8 ((a : Nat) : Int), .int .u8 ((b : Nat) : Int)] 5)).heap.size := by simp
      rw [q, World.cell?_alloc_new]
      rcases lt2 hj with rfl | rfl
      · simp [li3, kb_val _ hc]
      · simp [li3, kb_val _ hd]
    · rw [World.cell?_alloc_lt _ _ _ (by simp)]
      have q : w.heap.size + 2 = ((w.alloc (.cells #[.int .u8 ((a : Nat) : Int), .int .u8 ((b : Nat) : Int)] 5)).alloc (.cells #[.int .u8 ((c : Nat) : Int), .int .u8 ((d : Nat) : Int)] 5)).heap.size := by simp
      rw [q, World.cell?_alloc_new]
      rcases lt2 hj with rfl | rfl
      · simp [li3, kb_val _ he]
      · simp [li3, kb_val _ hf]⟩
  le := fun _ _ => Nat.le_refl _
theorem known_inv (Y : Nat → Nat → K) (hY : IsOrd (sw (li2 1 1 0 1) 2 2) 2 Y) : ∀ i, i < 2 → ∀ j, j < 2 → Y i j = li2 1 1 0 1 i j := by
  have p0 : piv (sw (li2 1 1 0 1) 2 2) 0 = 0 := by decide +kernel
  have p1 : piv (sw (li2 1 1 0 1) 2 2) 1 = 1 := by decide +kernel
  intro i hi j hj
  have h00 := hY 0 (by omega) 0 (by omega)
  have h01 := hY 0 (by omega) 1 (by omega)
  have h10 := hY 1 (by omega) 0 (by omega)
  have h11 := hY 1 (by omega) 1 (by omega)
  rw [p0] at h00 h01 h10
  rw [p1] at h01 h10 h11
  rcases lt2 hi with rfl | rfl <;> rcases lt2 hj with rfl | rfl
  · rw [h00]; decide +kernel
  · rw [h01]; decide +kernel
  · rw [h10]; decide +kernel
  · rw [h11]; decide +kernel
theorem known_code : ∀ i, i < 3 → ∀ j, j < 2 → codeX 2 i j = li3 1 0 0 1 142 244 i j := by
  intro i hi j hj
  rcases lt3 hi with rfl | rfl | rfl <;> rcases lt2 hj with rfl | rfl <;> decide +kernel

end Go.Proofs.Ytapgdenodhcliaa
