/- Contract of written of package digest: the words' bytes. -/
import Derived.Test.YtgmehiidnclgmaaSe
namespace Go.Proofs.Ytgmehiidnclgmaa
open Go Go.RowKit

theorem zero32 : (Try.prog.info? 61).map (·.zero) = some (some (.agg (aB 32 zB))) := by kernel_rfl
theorem size32 (x : Nat → Nat) : (Try.prog.info? 61).map (·.size) = some (aB 32 x).size := by rw [aB_size]; kernel_rfl
def upTo (f : Nat → Nat) (k i : Nat) : Nat := if i < k then f i else 0
theorem upTo_step (f : Nat → Nat) (k i : Nat) : upB (upTo f k) k (f k) i = upTo f (k + 1) i := by
  unfold upB upTo
  by_cases e : i = k
  · rw [if_pos e, if_pos (by omega), e]
  · rw [if_neg e]
    by_cases q : i < k
    · rw [if_pos q, if_pos (by omega)]
    · rw [if_neg q, if_neg (by omega)]
theorem upTo_zero (f : Nat → Nat) (i : Nat) : zB i = upTo f 0 i := by unfold zB upTo; rw [if_neg (by omega)]
theorem upTo_at (f : Nat → Nat) (k i : Nat) (h : i < k) : upTo f k i = f i := by unfold upTo; rw [if_pos h]
theorem out_byte (s : St) (k : Nat) (sw : BitVec 32) (h : s.get (k / 4) = sw) : wv sw / 2 ^ (24 - k % 4 * 8) % 256 = ((outB s k : Nat) : Int) := by
  unfold outB wv; rw [h, Nat.mul_comm (k % 4) 8]; simp
set_option maxRecDepth 100000 in
set_option maxHeartbeats 400000 in
theorem written_any (s : St) (w : World) :
    Calls Try.prog 51 #[.agg (aW 8 s.get)] w fun e w' => e = .returned (.agg (aB 32 (outB s))) ∧ Below w.heap.size w w' := by
  go_enter Try.func51, Try.ntmps51
  go_wp2_with (refine wpList_alloc_row rfl 61 rfl _ zero32 ?_)
  go_loopw [5] (fun v wr => ∃ k : Nat, k ≤ 32 ∧ v = .int .i64 k ∧ CAt wr w.heap.size (aW 8 s.get) 75 ∧ CAt wr (w.heap.size + 1) (aB 32 zB) 61 ∧ CAt wr (w.heap.size + 1 + 1) (aB 32 (upTo (outB s) k)) 61 ∧ Below w.heap.size w wr) (fun v _ => (32 - intOf v).toNat)
  case atStart =>
    refine ⟨0, by omega, rfl, ((CAt.new w (aW 8 s.get) 75).alloc _).alloc _, (CAt.new' (w.alloc (.cells (aW 8 s.get) 75)) (aB 32 zB) 61 _ (by simp)).alloc _, ?_, (((Below.refl _ _).alloc (by omega) _).alloc (by simp) _).alloc (by simp; omega) _⟩
    exact (CAt.new' ((w.alloc (.cells (aW 8 s.get) 75)).alloc (.cells (aB 32 zB) 61)) (aB 32 zB) 61 _ (by simp)).congr (aB_congr 32 fun i _ => upTo_zero _ i)
  case round =>
    obtain ⟨k, hk, rfl, hs, hz, hc, hb⟩ := hrel
    by_cases hlt : k < 32
    · have c1 := hs.cellW (k / 4) (by omega)
      have c2 := hc.cellB k hlt
      have c3 := hc.free k
      generalize hsw : s.get (k / 4) = sw at *
      have HS := hid hs
      have HZ := hid hz
      have HC := hid hc
      have HB := hid hb
      have HSW := hid hsw
      have hlt' : (k : Int) < 32 := by omega
      clear hs hz hc hb hsw
      have hv := out_byte s k sw HSW.out
      go_wp2
      go_roundw
      case rel =>
        exact ⟨k + 1, by omega, by go_num, HS.out.other _ _ (by simp; omega), HZ.out.other _ _ (by simp), (HC.out.setB k _).congr (aB_congr 32 fun i _ => upTo_step _ k i), HB.out.setCell (by simp; omega) _⟩
      case measure => simp [intOf]; omega
    · have e : k = 32 := by omega
      have hc2 := hc.congr (cs' := aB 32 (outB s)) (aB_congr 32 fun i hi => upTo_at _ _ _ (by omega))
      have HZ := hid hz
      have HC := hid hc2
      have HB := hid hb
      have hge : ¬ (k : Int) < 32 := by omega
      clear hs hz hc hb hc2 e
      go_wp2_with (first
        | refine wpList_load_row rfl 61 _ rfl _ rfl _ _ _ _ HC.out Try.underlying61 rfl (size32 _) ?_
        | refine wpList_store_row rfl 61 _ _ rfl _ _ rfl rfl _ _ HZ.out (size32 _) (by rw [aB_size, aB_size]) (aB_one _ _) ?_)
      exact ret_row rfl _ _ _ _ _ rfl rfl (HZ.out.row _) Try.underlying61 rfl (size32 _) ⟨rfl, below_setRow HB.out (by omega) _⟩
end Go.Proofs.Ytgmehiidnclgmaa
