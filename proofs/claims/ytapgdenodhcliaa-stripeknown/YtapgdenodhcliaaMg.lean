/- Contract of exchange of package matrix: the rows, each in a block of its own, are exchanged as the plain mathematics says; no other block is touched. -/
import Derived.Test.YtapgdenodhcliaaMf
namespace Go.Proofs.Ytapgdenodhcliaa
open Go.RowKit

/-- From w to w' nothing has turned but what the blocks of S hold. -/
structure OnlyIn (S : Nat → Prop) (w w' : World) : Prop where
  os : w'.os = w.os
  tape : w'.tape = w.tape
  output : w'.output = w.output
  size : w'.heap.size = w.heap.size
  block : ∀ k, ¬ S k → w'.heap[k]? = w.heap[k]?
theorem OnlyIn.refl (S : Nat → Prop) (w : World) : OnlyIn S w w := ⟨rfl, rfl, rfl, rfl, fun _ _ => rfl⟩
theorem OnlyIn.setCell {S : Nat → Prop} {w w' : World} (h : OnlyIn S w w') (g i : Nat) (hg : S g) (v : Value) : OnlyIn S w (w'.setCell ⟨g, i, none⟩ v) :=
  ⟨h.os, h.tape, h.output, by rw [World.size_setCell]; exact h.size, fun k hk => (Below.heap_setCell _ _ _ k (fun e => hk (by rw [e]; exact hg))).trans (h.block k hk)⟩
theorem OnlyIn.below {S : Nat → Prop} {B : Nat} {w0 w w' : World} (h : OnlyIn S w w') (hb : Below B w0 w) (hS : ∀ k, S k → B ≤ k) : Below B w0 w' :=
  ⟨h.os.trans hb.os, h.tape.trans hb.tape, h.output.trans hb.output, by rw [h.size]; exact hb.size, fun k hk => (h.block k (fun q => by have := hS k q; omega)).trans (hb.block k hk)⟩

section
variable (T : Nat → Nat → K) (i j : Nat)
def xs1 (k : Nat) : Nat → Nat → K := fun r c => if r = i ∧ c < k then xrow T i j c else up2 T i j 1 r c
theorem xs1_zero (r c : Nat) : up2 T i j 1 r c = xs1 T i j 0 r c := by unfold xs1; rw [if_neg (by omega)]
theorem xs1_val (k : Nat) : xs1 T i j k i k * K.iv (T i j) = xrow T i j k := by
  unfold xs1 xrow up2; rw [if_neg (by omega)]
  by_cases e : k = j
  · rw [if_pos ⟨rfl, e⟩, if_pos e]
  · rw [if_neg (fun h => e h.2), if_neg e]
theorem xs1_step (k r c : Nat) : up2 (xs1 T i j k) i k (xs1 T i j k i k * K.iv (T i j)) r c = xs1 T i j (k + 1) r c := by
  rw [xs1_val]
  unfold up2 xs1
  by_cases e : r = i ∧ c = k
  · obtain ⟨rfl, rfl⟩ := e; simp
  · rw [if_neg e]
    by_cases q : r = i ∧ c < k
    · rw [if_pos q, if_pos (by omega)]
    · rw [if_neg q, if_neg (by omega)]
def xm2 (r0 : Nat) : Nat → Nat → K := fun r c => if r < r0 ∨ r = i then xch T i j r c else T r c
theorem xm2_zero (m r c : Nat) (hc : c < m) : xs1 T i j m r c = xm2 T i j 0 r c := by
  unfold xs1 xm2
  by_cases e : r = i
  · rw [if_pos ⟨e, hc⟩, if_pos (.inr e)]; unfold xch; rw [if_pos e]
  · rw [if_neg (fun h => e h.1), if_neg (by omega)]; unfold up2; rw [if_neg (fun h => e h.1)]
theorem xm2_skip (r c : Nat) : xm2 T i j i r c = xm2 T i j (i + 1) r c := by
  unfold xm2
  by_cases e : r < i ∨ r = i
  · rw [if_pos e, if_pos (by omega)]
  · rw [if_neg e, if_neg (by omega)]
theorem xm2_done (n r c : Nat) (hr : r < n) : xm2 T i j n r c = xch T i j r c := by unfold xm2; rw [if_pos (.inl hr)]
def xs3 (r0 k : Nat) : Nat → Nat → K := fun r c => if r = r0 then (if c < k then xch T i j r0 c else if c = j then 0 else T r0 c) else xm2 T i j r0 r c
theorem xm2_at (r0 c : Nat) (h : r0 ≠ i) : xm2 T i j r0 r0 c = T r0 c := by unfold xm2; rw [if_neg (by omega)]
theorem xs3_zero (r0 r c : Nat) (h : r0 ≠ i) : up2 (xm2 T i j r0) r0 j 0 r c = xs3 T i j r0 0 r c := by
  unfold xs3
  by_cases e : r = r0
  · subst e
    rw [if_pos rfl, if_neg (by omega)]
    unfold up2
    by_cases q : c = j
    · rw [if_pos ⟨rfl, q⟩, if_pos q]
    · rw [if_neg (fun hh => q hh.2), if_neg q, xm2_at T i j r c h]
  · rw [if_neg e]; unfold up2; rw [if_neg (fun hh => e hh.1)]
theorem xs3_same (r0 k : Nat) : xs3 T i j r0 k r0 k = if k = j then 0 else T r0 k := by
  unfold xs3; rw [if_pos rfl, if_neg (Nat.lt_irrefl k)]
theorem xs3_piv (r0 k c : Nat) (h : r0 ≠ i) : xs3 T i j r0 k i c = xrow T i j c := by
  unfold xs3; rw [if_neg (fun e => h e.symm)]; unfold xm2; rw [if_pos (Or.inr rfl)]; unfold xch; rw [if_pos rfl]
theorem xs3_val (r0 k : Nat) (h : r0 ≠ i) : xs3 T i j r0 k r0 k + xm2 T i j r0 r0 j * xs3 T i j r0 k i k = xch T i j r0 k := by
  rw [xm2_at T i j r0 j h, xs3_same, xs3_piv T i j r0 k k h]
  unfold xch; rw [if_neg h]
theorem xs3_step (r0 k r c : Nat) (h : r0 ≠ i) : up2 (xs3 T i j r0 k) r0 k (xs3 T i j r0 k r0 k + xm2 T i j r0 r0 j * xs3 T i j r0 k i k) r c = xs3 T i j r0 (k + 1) r c := by
  rw [xs3_val T i j r0 k h]
  unfold up2 xs3
  by_cases e : r = r0
  · subst e
    by_cases q : c = k
    · subst q; simp
    · rw [if_neg (fun hh => q hh.2), if_pos rfl, if_pos rfl]
      by_cases q2 : c < k
      · rw [if_pos q2, if_pos (by omega)]
      · rw [if_neg q2, if_neg (show ¬ c < k + 1 by omega)]
  · rw [if_neg (fun hh => e hh.1), if_neg e, if_neg e]
theorem xs3_done (r0 m r c : Nat) (hc : c < m) (h : r0 ≠ i) : xs3 T i j r0 m r c = xm2 T i j (r0 + 1) r c := by
  unfold xs3
  by_cases e : r = r0
  · subst e; rw [if_pos rfl, if_pos hc]; unfold xm2; rw [if_pos (by omega)]
  · rw [if_neg e]; unfold xm2
    by_cases q : r < r0 ∨ r = i
    · rw [if_pos q, if_pos (by omega)]
    · rw [if_neg q, if_neg (by omega)]
end

set_option maxRecDepth 100000 in
set_option maxHeartbeats 4000000 in
theorem exchange_any (B g c n m i j : Nat) (G Q : Nat → Nat) (T : Nat → Nat → K) (w : World) (h : OwnMat B w g c n m G Q T) (hi : i < n) (hj : j < m) (hn : n ≤ 32) (hm : m ≤ 32) :
    Calls Try.prog 84 #[.slice (some ⟨g, 0, none⟩) n c, .int .i64 i, .int .i64 j] w fun e w' => e = .returned (.tuple #[]) ∧ OwnMat B w' g c n m G Q (xch T i j) ∧ OnlyIn (fun b => ∃ r, r < n ∧ b = G r) w w' := by
  have c1 := h.topCell i hi
  have c2 := h.cell i j hi hj
  have c3 := h.free i j hi
  have HM := hid ((h.set i j 1 hi).congr (fun r _ c _ => xs1_zero T i j r c))
  have HO := hid ((OnlyIn.refl (fun b => ∃ r, r < n ∧ b = G r) w).setCell (G i) j ⟨i, hi, rfl⟩ (.int .u8 (((1 : K).val : Nat) : Int)))
  clear h
  go_enter Try.func84, Try.ntmps84
  go_wp2_with (go_at_call 66; refine (inv_k _ _).mono ?_; rintro e w' ⟨rfl, hw⟩; have hw2 := hw.symm; subst hw2; clear hw)
  clear c2 c3
  go_loopw [33] (fun x wr => ∃ k : Nat, k ≤ m ∧ x = .int .i64 k ∧ OwnMat B wr g c n m G Q (xs1 T i j k) ∧ OnlyIn (fun b => ∃ r, r < n ∧ b = G r) w wr) (fun x _ => (m - intOf x).toNat)
  case atStart => exact ⟨0, by omega, rfl, HM.out, HO.out⟩
  case round =>
    clear c1 HM HO
    obtain ⟨k, hk, rfl, hmat, ho⟩ := hrel
    by_cases hlt : k < m
    · have c2 := hmat.cell i k hi hlt
      have c3 := hmat.free i k hi
      have HM := hid ((hmat.set i k (xs1 T i j k i k * K.iv (T i j)) hi).congr (fun r _ c _ => xs1_step T i j k r c))
      have HO := hid (ho.setCell (G i) k ⟨i, hi, rfl⟩ (.int .u8 (((xs1 T i j k i k * K.iv (T i j)).val : Nat) : Int)))
      clear hmat ho
      go_wp2_with (go_at_call 69; refine (mul_k _ _ _).mono ?_; rintro e w' ⟨rfl, rfl⟩)
      go_roundw
      case rel => exact ⟨k + 1, by omega, by go_num, HM.out, HO.out⟩
      case measure => simp [intOf]; omega
    · have HM := hid (hmat.congr (fun r _ c hc => xm2_zero T i j k r c (by omega)))
      have HO := hid ho
      clear hmat ho
      go_wp2_with fail
      go_loopw [47] (fun x wr => ∃ r : Nat, r ≤ n ∧ x = .int .i64 r ∧ OwnMat B wr g c n m G Q (xm2 T i j r) ∧ OnlyIn (fun b => ∃ r, r < n ∧ b = G r) w wr) (fun x _ => (n - intOf x).toNat)
      case atStart => exact ⟨0, by omega, rfl, HM.out, HO.out⟩
      case round =>
        clear HM HO
        obtain ⟨r, hr, rfl, hmat, ho⟩ := hrel
        by_cases hlt2 : r < n
        · have d1 := hmat.topCell r hlt2
          by_cases e : r = i
          · have e' : ((r : Int) == (i : Int)) = true := by rw [e]; simp
            have HM : Hid (OwnMat B wr g c n m G Q (xm2 T i j (r + 1))) := by
              rw [e] at hmat ⊢; exact hmat.congr (fun r _ c _ => xm2_skip T i j r c)
            have HO := hid ho
            clear hmat ho e
            go_wp2
            go_roundw
            case rel => exact ⟨r + 1, by omega, by go_num, HM.out, HO.out⟩
            case measure => simp [intOf]; omega
          · have e' : ((r : Int) == (i : Int)) = false := by simp; omega
            have HE := hid e
            have d2 := hmat.cell r j hlt2 hj
            have d3 := hmat.free r j hlt2
            have HM := hid ((hmat.set r j 0 hlt2).congr (fun r' _ c _ => xs3_zero T i j r r' c e))
            have HO := hid (ho.setCell (G r) j ⟨r, hlt2, rfl⟩ (.int .u8 (((0 : K).val : Nat) : Int)))
            clear hmat ho e
            go_wp2_with fail
            clear d2 d3
            go_loopw [64] (fun x wr => ∃ l : Nat, l ≤ m ∧ x = .int .i64 l ∧ OwnMat B wr g c n m G Q (xs3 T i j r l) ∧ OnlyIn (fun b => ∃ r, r < n ∧ b = G r) w wr) (fun x _ => (m - intOf x).toNat)
            case atStart => exact ⟨0, by omega, rfl, HM.out, HO.out⟩
            case round =>
              clear HM HO d1
              obtain ⟨l, hl, rfl, hmat, ho⟩ := hrel
              by_cases hlt3 : l < m
              · have d2 := hmat.cell r l hlt2 hlt3
                have d3 := hmat.free r l hlt2
                have d4 := hmat.cell i l hi hlt3
                have HM := hid ((hmat.set r l (xs3 T i j r l r l + xm2 T i j r r j * xs3 T i j r l i l) hlt2).congr (fun r' _ c _ => xs3_step T i j r l r' c HE.out))
                have HO := hid (ho.setCell (G r) l ⟨r, hlt2, rfl⟩ (.int .u8 (((xs3 T i j r l r l + xm2 T i j r r j * xs3 T i j r l i l).val : Nat) : Int)))
                clear hmat ho
                go_wp2_with (first | (go_at_call 69; refine (mul_k _ _ _).mono ?_; rintro e w' ⟨rfl, rfl⟩) | (go_at_call 67; refine (add_k _ _ _).mono ?_; rintro e w' ⟨rfl, rfl⟩))
                go_roundw
                case rel => exact ⟨l + 1, by omega, by go_num, HM.out, HO.out⟩
                case measure => simp [intOf]; omega
              · have HM := hid (hmat.congr (fun r' _ c hc => xs3_done T i j r l r' c (by omega) HE.out))
                have HO := hid ho
                clear hmat ho
                go_wp2
                go_roundw
                case rel => exact ⟨r + 1, by omega, by go_num, HM.out, HO.out⟩
                case measure => simp [intOf]; omega
        · have HM := hid (hmat.congr (fun r' hr' c _ => xm2_done T i j r r' c (by omega)))
          have HO := hid ho
          clear hmat ho
          go_wp2
          go_end0
          exact ⟨rfl, HM.out, HO.out⟩
end Go.Proofs.Ytapgdenodhcliaa
