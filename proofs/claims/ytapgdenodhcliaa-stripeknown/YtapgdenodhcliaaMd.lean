/- Contracts of turned and Mul of package matrix: the product lies in new memory, or the error's number by the lengths; what was there is as it was. -/
import Derived.Test.YtapgdenodhcliaaMc
namespace Go.Proofs.Ytapgdenodhcliaa
open Go.RowKit

theorem MatAt.at {w : World} {p : Option Addr} {n m : Nat} {A : Nat → Option Addr} {C : Nat → Nat} {X : Nat → Nat → K} (h : MatAt w p n A (fun _ => m) C X) (hn : 0 < n) (hm : 0 < m) :
    ∃ b o, p = some ⟨b, o, none⟩ ∧ ∃ bs os : Nat → Nat, (∀ i, i < n → w.cell? ⟨b, o + i, none⟩ = some (.slice (some ⟨bs i, os i, none⟩) m (C i))) ∧ ∀ i, i < n → RowAt w (bs i) (os i) m (fun j => (X i j).val) := by
  obtain ⟨b, o, hp, hc⟩ := h.top.pos hn
  have hr : ∀ i, i < n → ∃ y : Nat × Nat, A i = some ⟨y.1, y.2, none⟩ ∧ RowAt w y.1 y.2 m (fun j => (X i j).val) := fun i hi => by
    rcases h.row i hi with q | ⟨b', o', q1, q2⟩
    · omega
    · exact ⟨(b', o'), q1, q2⟩
  have hf : ∃ f : Nat → Nat × Nat, ∀ i, i < n → A i = some ⟨(f i).1, (f i).2, none⟩ ∧ RowAt w (f i).1 (f i).2 m (fun j => (X i j).val) := by
    classical
    refine ⟨fun i => if hi : i < n then Classical.choose (hr i hi) else (0, 0), fun i hi => ?_⟩
    simp only [dif_pos hi]
    exact Classical.choose_spec (hr i hi)
  obtain ⟨f, hf⟩ := hf
  exact ⟨b, o, hp, fun i => (f i).1, fun i => (f i).2, fun i hi => by rw [hc i hi, (hf i hi).1], fun i hi => (hf i hi).2⟩
theorem RowAt.keep {w w' : World} {b o n : Nat} {x : Nat → Nat} (h : RowAt w b o n x) (k : Stays w w') : RowAt w' b o n x := fun i hi => k _ _ (h i hi)

/-- The columns as far as they were gone through. -/
def turnTo (X : Nat → Nat → K) (i j : Nat) : Nat → Nat → K := fun r c => if c < i ∨ (c = i ∧ r < j) then X c r else 0
theorem turnTo_step (X : Nat → Nat → K) (i j r c : Nat) : up2 (turnTo X i j) j i (X i j) r c = turnTo X i (j + 1) r c := by
  unfold up2 turnTo
  by_cases e : r = j ∧ c = i
  · obtain ⟨rfl, rfl⟩ := e; simp
  · rw [if_neg e]
    by_cases q : c < i ∨ (c = i ∧ r < j)
    · rw [if_pos q, if_pos (by omega)]
    · rw [if_neg q, if_neg (by omega)]
theorem turnTo_next (X : Nat → Nat → K) (i m r c : Nat) (hr : r < m) : turnTo X i m r c = turnTo X (i + 1) 0 r c := by
  unfold turnTo
  by_cases q : c < i ∨ (c = i ∧ r < m)
  · rw [if_pos q, if_pos (by omega)]
  · rw [if_neg q, if_neg (by omega)]

set_option maxRecDepth 100000 in
set_option maxHeartbeats 2000000 in
theorem turned_any (p : Option Addr) (n m c : Nat) (A : Nat → Option Addr) (C : Nat → Nat) (X : Nat → Nat → K) (w : World) (h : MatAt w p n A (fun _ => m) C X) (h0 : 1 ≤ n) (hn : n ≤ 32) (h1 : 1 ≤ m) (hm : m ≤ 32) :
    Calls Try.prog 75 #[.slice p n c] w fun e w' => ∃ g G, e = .returned (.slice (some ⟨g, 0, none⟩) m m) ∧ OwnMat w.heap.size w' g m m n G (fun _ => n) (fun j i => X i j) ∧ Below w.heap.size w w' := by
  obtain ⟨b, o, rfl, bs, os, hc, hr⟩ := h.at (by omega) (by omega)
  clear h
  have c0 := hc 0 (by omega)
  rw [Nat.add_zero] at c0
  have HC := hid hc
  have HR := hid hr
  clear hc hr
  go_enter Try.func75, Try.ntmps75
  go_wp2_with fail
  refine (zeros_any m n w (by omega) (by omega)).mono ?_
  rintro e w1 ⟨g, G, rfl, hmat, hb⟩
  have HM := hid hmat
  have HB := hid hb
  clear hmat hb
  go_wp2_with fail
  go_loopw [17] (fun i wr => ∃ k : Nat, k ≤ n ∧ i = .int .i64 k ∧ OwnMat w.heap.size wr g m m n G (fun _ => n) (turnTo X k 0) ∧ Below w.heap.size w wr) (fun i _ => (n - intOf i).toNat)
  case atStart => exact ⟨0, by omega, rfl, HM.out.congr (fun i _ j _ => by simp [turnTo]), HB.out⟩
  case round =>
    obtain ⟨k, hk, rfl, hmat, hb⟩ := hrel
    clear HM HB
    by_cases hlt : k < n
    · have c1 : wr.cell? ⟨b, o + k, none⟩ = some (.slice (some ⟨bs k, os k, none⟩) m (C k)) := Stays.of_below hb _ _ (HC.out k hlt)
      have HM := hid hmat
      have HB := hid hb
      clear hmat hb
      go_wp2_with fail
      go_loopw [24] (fun i wr => ∃ l : Nat, l ≤ m ∧ i = .int .i64 l ∧ OwnMat w.heap.size wr g m m n G (fun _ => n) (turnTo X k l) ∧ Below w.heap.size w wr) (fun i _ => (m - intOf i).toNat)
      case atStart => exact ⟨0, by omega, rfl, HM.out, HB.out⟩
      case round =>
        clear HM HB c1 c0
        obtain ⟨l, hl, rfl, hmat, hb⟩ := hrel
        by_cases hlt2 : l < m
        · have c1 : wr.cell? ⟨bs k, os k + l, none⟩ = some (.int .u8 ((X k l).val : Nat)) := Stays.of_below hb _ _ (HR.out k hlt l hlt2)
          have c2 := hmat.topCell l hlt2
          have c3 := hmat.cell l k hlt2 hlt
          have c4 := hmat.free l k hlt2
          have hge := (hmat.ge l hlt2).1
          have HM := hid ((hmat.set l k (X k l) hlt2).congr (fun r _ c _ => turnTo_step X k l r c))
          have HB := hid (hb.setCell (p := ⟨G l, k, none⟩) hge (.int .u8 (((X k l).val : Nat) : Int)))
          clear hmat hb HR HC
          go_wp2
          go_roundw
          case rel => exact ⟨l + 1, by omega, by go_num, HM.out, HB.out⟩
          case measure => simp [intOf]; omega
        · have HM := hid (hmat.congr (fun r hr c _ => turnTo_next X k l r c (by omega)))
          have HB := hid hb
          clear hmat hb HR HC
          go_wp2
          go_roundw
          case rel => exact ⟨k + 1, by omega, by go_num, HM.out, HB.out⟩
          case measure => simp [intOf]; omega
    · have HM := hid (hmat.congr (Y := fun j i => X i j) (fun i hi j hj => by simp [turnTo, show j < k by omega]))
      have HB := hid hb
      clear hmat hb HR HC
      go_wp2
      go_ret
      exact ⟨g, G, rfl, HM.out, HB.out⟩

theorem dotN_sm (x y : Nat → K) : ∀ n, dotN (fun i => (x i).val) (fun i => (y i).val) n = (sm (fun i => x i * y i) n).val
  | 0 => rfl
  | n + 1 => by show _ ^^^ _ = (sm (fun i => x i * y i) n + x n * y n).val; rw [dotN_sm x y n]; rfl

theorem dot_k (bx ox nx cx bY oy cy : Nat) (x y : Nat → K) (w : World) (hn : nx ≤ 100) (hcx : nx ≤ cx) (hcy : nx ≤ cy)
    (cellx : RowAt w bx ox nx fun j => (x j).val) (celly : RowAt w bY oy nx fun j => (y j).val) :
    Calls Try.prog 55 #[.slice (some ⟨bx, ox, none⟩) nx cx, .slice (some ⟨bY, oy, none⟩) nx cy] w fun e w' => e = .returned (.tuple #[.int .u8 ((sm (fun i => x i * y i) nx).val : Nat), .int .i64 0]) ∧ w' = w := by
  rw [← dotN_sm]
  exact dot_some bx ox nx cx bY oy cy _ _ w (by omega) hcx hcy (fun i _ => (x i).lt) (fun i _ => (y i).lt) cellx celly
end Go.Proofs.Ytapgdenodhcliaa
