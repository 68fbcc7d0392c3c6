/- Contract of spread of package digest: a block's words, and those that follow from them; what was there is as it was. -/
import Derived.Test.YtgmehiidnclgmaaSc
import Derived.Test.YtgmehiidnclgmaaQl
namespace Go.Proofs.Ytgmehiidnclgmaa
open Go.RowKit

def spTo (x : Nat → Nat) (k i : Nat) : BitVec 32 := wpart x i (min (k - 4 * i) 4)
theorem spTo_step (x : Nat → Nat) (k i : Nat) : upW (spTo x k) (k / 4) ((spTo x k (k / 4) <<< 8) ||| BitVec.ofNat 32 (x k)) i = spTo x (k + 1) i := by
  unfold upW spTo
  by_cases e : i = k / 4
  · rw [if_pos e, e, show min (k - 4 * (k / 4)) 4 = k % 4 by omega, show min (k + 1 - 4 * (k / 4)) 4 = k % 4 + 1 by omega, wpart, show 4 * (k / 4) + k % 4 = k by omega]
  · rw [if_neg e]
    rcases Nat.lt_or_ge i (k / 4) with h | h
    · rw [show min (k - 4 * i) 4 = 4 by omega, show min (k + 1 - 4 * i) 4 = 4 by omega]
    · rw [show min (k - 4 * i) 4 = 0 by omega, show min (k + 1 - 4 * i) 4 = 0 by omega]
def schTo (x : Nat → Nat) (t i : Nat) : BitVec 32 := if i < t then sch x i else 0
theorem spTo_end (x : Nat → Nat) (i : Nat) : spTo x 64 i = schTo x 16 i := by
  unfold spTo schTo
  by_cases h : i < 16
  · rw [if_pos h, sch_low x i h, show min (64 - 4 * i) 4 = 4 by omega]; rfl
  · rw [if_neg h, show min (64 - 4 * i) 4 = 0 by omega]; rfl
theorem schTo_at (x : Nat → Nat) (t i : Nat) (h : i < t) : schTo x t i = sch x i := by unfold schTo; rw [if_pos h]
theorem schTo_step (x : Nat → Nat) (t : Nat) (h : 16 ≤ t) (i : Nat) : upW (schTo x t) t (sg1 (schTo x t (t - 2)) + schTo x t (t - 7) + sg0 (schTo x t (t - 15)) + schTo x t (t - 16)) i = schTo x (t + 1) i := by
  rw [schTo_at x t (t - 2) (by omega), schTo_at x t (t - 7) (by omega), schTo_at x t (t - 15) (by omega), schTo_at x t (t - 16) (by omega), ← sch_high x t h]
  unfold upW schTo
  by_cases e : i = t
  · rw [if_pos e, if_pos (by omega), e]
  · rw [if_neg e]
    by_cases q : i < t
    · rw [if_pos q, if_pos (by omega)]
    · rw [if_neg q, if_neg (by omega)]
theorem byte_word (n : Nat) (h : n < 256) : ((n : Nat) : Int) = wv (BitVec.ofNat 32 n) := by
  unfold wv; rw [BitVec.toNat_ofNat]; omega
theorem size64B (x : Nat → Nat) : (Try.prog.info? 79).map (·.size) = some (aB 64 x).size := by rw [aB_size]; kernel_rfl

theorem run_index_blk (x : Nat → Nat) (k : Nat) (hk : k < 64) (w : World) : (Instr.index 79 (.agg (aB 64 x)) (.int .i64 (k : Int))).run Try.prog w = .ok (.int .u8 ((x k : Nat) : Int)) w :=
  run_index_row 79 5 64 _ k _ Try.underlying79 hk (aB_get 64 x k hk) (by kernel_rfl) (fun _ => by kernel_rfl) w
set_option maxRecDepth 100000 in
set_option maxHeartbeats 400000 in
theorem spread_any (x : Nat → Nat) (hx : ∀ i, i < 64 → x i < 256) (w : World) :
    Calls Try.prog 65 #[.agg (aB 64 x)] w fun e w' => e = .returned (.agg (aW 64 (sch x))) ∧ Below w.heap.size w w' := by
  have HX := hid hx
  clear hx
  go_enter Try.func65, Try.ntmps65
  go_wp2_with (first
    | refine wpList_alloc_row rfl 85 rfl _ zero64 ?_
    | refine wpList_load_row rfl 79 _ rfl _ rfl _ _ _ _ (((CAt.new w (aB 64 x) 79).alloc (.cells (aW 64 zW) 85)).alloc (.cells (aW 64 zW) 85)) Try.underlying79 rfl (size64B x) ?_)
  go_loopw [12] (fun v wr => ∃ k : Nat, k ≤ 64 ∧ v = .int .i64 k ∧ CAt wr (w.heap.size + 1 + 1) (aW 64 (spTo x k)) 85 ∧ CAt wr (w.heap.size + 1) (aW 64 zW) 85 ∧ Below w.heap.size w wr) (fun v _ => (64 - intOf v).toNat)
  case atStart =>
    refine ⟨0, by omega, rfl, ?_, ?_, ?_⟩
    · exact (CAt.new' ((w.alloc (.cells (aB 64 x) 79)).alloc (.cells (aW 64 zW) 85)) (aW 64 zW) 85 _ (by simp)).congr (aW_congr 64 fun i _ => by show (0 : BitVec 32) = wpart x i (min (0 - 4 * i) 4); rw [show min (0 - 4 * i) 4 = 0 by omega]; rfl)
    · exact (CAt.new' (w.alloc (.cells (aB 64 x) 79)) (aW 64 zW) 85 _ (by simp)).alloc _
    · exact (((Below.refl _ _).alloc (by omega) _).alloc (by simp) _).alloc (by simp; omega) _
  case round =>
    obtain ⟨k, hk, rfl, hc, hz, hb⟩ := hrel
    by_cases hlt : k < 64
    · have hix := run_index_blk x k hlt
      have c1 := hc.cellW (k / 4) (by omega)
      have c2 := hc.free (k / 4)
      have hxk := byte_word (x k) (HX.out k hlt)
      have HC := hid hc
      have HZ := hid hz
      have HB := hid hb
      clear hc hz hb
      have e1 := wshl (spTo x k (k / 4)) 8
      simp only [Int.reducePow] at e1
      have e2 := wmod (BitVec.ofNat 32 (x k))
      have e3 := wor (spTo x k (k / 4) <<< 8) (BitVec.ofNat 32 (x k))
      go_wp2
      go_roundw
      case rel =>
        exact ⟨k + 1, by omega, by go_num, (HC.out.setW (k / 4) _).congr (aW_congr 64 fun i _ => spTo_step x k i), HZ.out.other _ _ (by simp), HB.out.setCell (by simp; omega) _⟩
      case measure => simp [intOf]; omega
    · have e : k = 64 := by omega
      have HC := hid (hc.congr (cs' := aW 64 (schTo x 16)) (aW_congr 64 fun i _ => (by rw [e]; exact spTo_end x i)))
      clear e
      have HZ := hid hz
      have HB := hid hb
      clear hc hz hb HX
      go_wp2
      go_loopw [6] (fun v wr => ∃ t : Nat, 16 ≤ t ∧ t ≤ 64 ∧ v = .int .i64 t ∧ CAt wr (w.heap.size + 1 + 1) (aW 64 (schTo x t)) 85 ∧ CAt wr (w.heap.size + 1) (aW 64 zW) 85 ∧ Below w.heap.size w wr) (fun v _ => (64 - intOf v).toNat)
      case atStart => exact ⟨16, by omega, by omega, rfl, HC.out, HZ.out, HB.out⟩
      case round =>
        clear HC HZ HB
        obtain ⟨t, ht0, ht, rfl, hc, hz, hb⟩ := hrel
        by_cases hlt : t < 64
        · have c1 := hc.cellW (t - 2) (by omega)
          have c2 := hc.cellW (t - 7) (by omega)
          have c3 := hc.cellW (t - 15) (by omega)
          have c4 := hc.cellW (t - 16) (by omega)
          have c5 := hc.free t
          have HC := hid hc
          have HZ := hid hz
          have HB := hid hb
          clear hc hz hb
          go_wp2_with fail
          go_quiet (fail)
          have a1 := wadd
          have a2 := wxor
          have a3 := wshr (schTo x t (t - 2)) 10
          have a4 := wshr (schTo x t (t - 15)) 3
          simp only [Int.reducePow] at a3 a4
          go_wp2_with (go_at_call 66; refine (right_i _ _ (by decide) (by decide) _).mono ?_; rintro e w' ⟨rfl, rfl⟩)
          have HC := hid (HC.out.drewN nq)
          have HZ := hid (HZ.out.drewN nq)
          have HB := hid (Below.drewN' HB.out nq)
          clear c1 c2 c3 c4 c5
          generalize wr.drewN nq = w5 at *
          have c7 := HC.out.cellW (t - 7) (by omega)
          have c8 := HC.out.cellW (t - 16) (by omega)
          have c9 := HC.out.free t
          refine wp_region_last_lit (by kernel_rfl) (by kernel_rfl) ?_
          dsimp only [List.dropLast, List.getLast]
          repeat (go_big_quiet_step (fail))
          refine wpQuiet_nil ?_
          intro nr
          have HC := hid (HC.out.drewN nr)
          have HZ := hid (HZ.out.drewN nr)
          have HB := hid (Below.drewN' HB.out nr)
          clear c7 c8 c9
          generalize w5.drewN nr = w6 at *
          have c9 := HC.out.free t
          have c10 := HC.out.cellW t hlt
          go_wp2
          go_roundw
          case rel => exact ⟨t + 1, by omega, by omega, by go_num, (HC.out.setW t _).congr (aW_congr 64 fun i _ => schTo_step x t ht0 i), HZ.out.other _ _ (by simp), HB.out.setCell (by simp; omega) _⟩
          case measure => simp [intOf]; omega
        · have e : t = 64 := by omega
          subst e
          have HC := hid hc
          have HZ := hid hz
          have HB := hid hb
          clear hc hz hb
          go_wp2_with (first
            | refine wpList_load_row rfl 85 _ rfl _ rfl _ _ _ _ HC.out Try.underlying85 rfl (size64 _) ?_
            | refine wpList_store_row rfl 85 _ _ rfl _ _ rfl rfl _ _ HZ.out (size64 _) (by rw [aW_size, aW_size]) (aW_one _ _) ?_)
          refine ret_row rfl _ _ _ _ _ rfl rfl (HZ.out.row _) Try.underlying85 rfl (size64 _) ⟨?_, below_setRow HB.out (by omega) _⟩
          rw [aW_congr 64 (fun i hi => schTo_at x 64 i hi)]
end Go.Proofs.Ytgmehiidnclgmaa
