/- Contract of finish of package digest: the bytes that are left are filled up and mixed in, with the count. -/
import Derived.Test.YtgmehiidnclgmaaSf
import Derived.Test.YtgmehiidnclgmaaLa
import Derived.Deep.CutRange
namespace Go.Proofs.Ytgmehiidnclgmaa
open Go Go.RowKit

theorem zero64B : (Try.prog.info? 79).map (·.zero) = some (some (.agg (aB 64 zB))) := by kernel_rfl
/-- The count's lowest k bytes at a block's end. -/
def cTo (N : Nat) (f : Nat → Nat) (k i : Nat) : Nat := if i < 64 - k then f i else (8 * N) / 256 ^ (63 - i) % 256
theorem cTo_step (N : Nat) (f : Nat → Nat) (k i : Nat) (hk : k < 8) (hi : i < 64) : upB (cTo N f k) (63 - k) ((8 * N) / 256 ^ k % 256) i = cTo N f (k + 1) i := by
  unfold upB cTo
  by_cases e : i = 63 - k
  · rw [if_pos e, if_neg (by omega), show 63 - i = k by omega]
  · rw [if_neg e]
    by_cases q : i < 64 - k
    · rw [if_pos q, if_pos (by omega)]
    · rw [if_neg q, if_neg (by omega)]
theorem cTo_zero (N : Nat) (f : Nat → Nat) (i : Nat) (hi : i < 64) : f i = cTo N f 0 i := by unfold cTo; rw [if_pos (by omega)]
theorem cTo_end (N : Nat) (f : Nat → Nat) (i : Nat) : cTo N f 8 i = withC N f i := rfl
def fin (s : St) (n : Nat) (x : Nat → Nat) (N : Nat) : St := if n < 56 then comp s (withC N (lastA n x)) else comp (comp s (lastA n x)) (withC N (fun _ => 0))
theorem lastA_lt (n : Nat) (x : Nat → Nat) (hx : ∀ i, i < n → x i < 256) (i : Nat) : lastA n x i < 256 := by
  unfold lastA
  by_cases h : i < n
  · rw [if_pos h]; exact hx i h
  · rw [if_neg h]; split <;> omega
theorem withC_lt (N : Nat) (f : Nat → Nat) (hf : ∀ i, f i < 256) (i : Nat) : withC N f i < 256 := by
  unfold withC
  by_cases h : i < 56
  · rw [if_pos h]; exact hf i
  · rw [if_neg h]; exact Nat.mod_lt _ (by omega)
theorem last_set (n : Nat) (x : Nat → Nat) (i : Nat) : upB (ovl n x zB) n 128 i = lastA n x i := by
  unfold upB ovl lastA zB
  by_cases e : i = n
  · rw [if_pos e, if_neg (by omega), if_pos e]
  · rw [if_neg e]
    by_cases q : i < n
    · rw [if_pos q, if_pos q]
    · rw [if_neg q, if_neg q, if_neg e]
theorem count_byte (C N k : Nat) (hC : C = 8 * N) : ((C : Nat) : Int) / 2 ^ (8 * k) % 256 = (((8 * N) / 256 ^ k % 256 : Nat) : Int) := by
  rw [hC, show (256 : Nat) = 2 ^ 8 by decide, ← Nat.pow_mul]; simp
/-- What finish holds ahead of the count. -/
structure FinM (w w1 : World) (s : St) (f : Nat → Nat) : Prop where
  st : CAt w1 w.heap.size (aW 8 s.get) 75
  res : CAt w1 (w.heap.size + 1) (aW 8 zW) 75
  last : CAt w1 (w.heap.size + 1 + 1) (aB 64 f) 79
  below : Below w.heap.size w w1
theorem ld8 (s : St) : (Try.prog.info? 75).map (·.size) = some (aW 8 s.get).size := size8 _
set_option maxRecDepth 100000 in
set_option maxHeartbeats 1000000 in
theorem finish_lo (s : St) (p : Option Addr) (n c : Nat) (x : Nat → Nat) (C N : Nat) (w : World) (hC : C = 8 * N) (hn : n ≤ 63) (hx : StrAt w p n x) (hb : ∀ i, i < n → x i < 256) (hp : ∀ a, p = some a → 0 < n → a.block < w.heap.size) (h56 : n < 56) :
    Calls Try.prog 52 #[.agg (aW 8 s.get), .slice p n c, .int .u64 ((C : Nat) : Int)] w fun e w' => e = .returned (.agg (aW 8 (fin s n x N).get)) ∧ Below w.heap.size w w' := by
  have HX : Hid (∀ i, i < n → x i < 256) := hb
  have HC := hid hC
  clear hC
  have hz1 : (w.alloc (.cells (aW 8 s.get) 75)).heap.size = w.heap.size + 1 := by simp
  have hz2 : ((w.alloc (.cells (aW 8 s.get) 75)).alloc (.cells (aW 8 zW) 75)).heap.size = w.heap.size + 1 + 1 := by simp
  have d0 := CAt.new' ((w.alloc (.cells (aW 8 s.get) 75)).alloc (.cells (aW 8 zW) 75)) (aB 64 zB) 79 _ hz2
  have d1 := (CAt.new' (w.alloc (.cells (aW 8 s.get) 75)) (aW 8 zW) 75 _ hz1).alloc (.cells (aB 64 zB) 79)
  have d2 := ((CAt.new w (aW 8 s.get) 75).alloc (.cells (aW 8 zW) 75)).alloc (.cells (aB 64 zB) 79)
  have d3 : Below w.heap.size w (((w.alloc (.cells (aW 8 s.get) 75)).alloc (.cells (aW 8 zW) 75)).alloc (.cells (aB 64 zB) 79)) :=
    (((Below.refl _ _).alloc (by omega) _).alloc (by rw [hz1]; omega) _).alloc (by rw [hz2]; omega) _
  have hx2 : StrAt (((w.alloc (.cells (aW 8 s.get) 75)).alloc (.cells (aW 8 zW) 75)).alloc (.cells (aB 64 zB) 79)) p n x := by
    rcases hx with h | ⟨b, o, rfl, hr⟩
    · exact .inl h
    · rcases Nat.eq_zero_or_pos n with h0 | h0
      · exact .inl h0
      · exact .inr ⟨b, o, rfl, hr.below d3 (hp _ rfl h0)⟩
  have hcp := run_copy_blk _ _ 64 _ zB p n c x d0 hx2
  have hmin : min n 64 = n := by omega
  rw [hmin] at hcp
  have M1 : FinM w ((((w.alloc (.cells (aW 8 s.get) 75)).alloc (.cells (aW 8 zW) 75)).alloc (.cells (aB 64 zB) 79)).setRow (w.heap.size + 1 + 1) (aB 64 (ovl n x zB))) s (ovl n x zB) :=
    ⟨d2.rowOther _ (by omega), d1.rowOther _ (by omega), d0.row _, below_setRow d3 (by omega) _⟩
  have HM := hid M1
  clear M1 d0 d1 d2 d3 hx hx2 hb hp hz1 hz2 hmin
  have hn' : (n : Int) < 64 := by omega
  have h56' : (n : Int) < 56 := by omega
  go_enter Try.func52, Try.ntmps52
  go_upto_region 3 with (first
    | refine wpList_alloc_row rfl 75 rfl _ zero8 ?_
    | refine wpList_alloc_row rfl 79 rfl _ zero64B ?_)
  generalize ((((w.alloc (.cells (aW 8 s.get) 75)).alloc (.cells (aW 8 zW) 75)).alloc (.cells (aB 64 zB) 79)).setRow (w.heap.size + 1 + 1) (aB 64 (ovl n x zB))) = w1 at *
  clear hcp
  have c1 := HM.out.last.cellB n (by omega)
  have c2 := HM.out.last.free n
  have M2 : FinM w (w1.setCell ⟨w.heap.size + 1 + 1, n, none⟩ (.int .u8 128)) s (lastA n x) :=
    ⟨HM.out.st.other _ _ (by simp; omega), HM.out.res.other _ _ (by simp), (HM.out.last.setB n 128).congr (aB_congr 64 fun i _ => last_set n x i), HM.out.below.setCell (by simp; omega) _⟩
  have HM := hid M2
  clear M2
  go_wp2
  go_loopw [22] (fun v wr => ∃ k : Nat, k ≤ 8 ∧ v = .int .i64 k ∧ FinM w wr s (cTo N (lastA n x) k)) (fun v _ => (8 - intOf v).toNat)
  case atStart => exact ⟨0, by omega, rfl, HM.out.st, HM.out.res, HM.out.last.congr (aB_congr 64 fun i hi => cTo_zero N _ i hi), HM.out.below⟩
  case round =>
    clear HM
    obtain ⟨k, hk, rfl, hm⟩ := hrel
    by_cases hlt : k < 8
    · have c1 := hm.last.cellB (63 - k) (by omega)
      have c2 := hm.last.free (63 - k)
      have hv := count_byte C N k HC.out
      have hlt' : (k : Int) < 8 := by omega
      have HM := hid hm
      clear hm
      go_wp2
      go_roundw
      case rel => exact ⟨k + 1, by omega, by go_num, HM.out.st.other _ _ (by simp; omega), HM.out.res.other _ _ (by simp), (HM.out.last.setB (63 - k) _).congr (aB_congr 64 fun i hi => cTo_step N _ k i hlt hi), HM.out.below.setCell (by simp; omega) _⟩
      case measure => simp [intOf]; omega
    · have e : k = 8 := by omega
      have hm2 : FinM w wr s (withC N (lastA n x)) := ⟨hm.st, hm.res, hm.last.congr (aB_congr 64 fun i _ => (by rw [e]; exact cTo_end N _ i)), hm.below⟩
      have HM := hid hm2
      have hge : ¬ (k : Int) < 8 := by omega
      have HL : Hid (∀ i, withC N (lastA n x) i < 256) := fun i => withC_lt N _ (lastA_lt n x HX.out) i
      clear hm hm2 e
      go_wp2_with (first
        | refine wpList_load_row rfl 75 _ rfl _ rfl _ _ _ _ HM.out.st Try.underlying75 rfl (size8 _) ?_
        | refine wpList_load_row rfl 79 _ rfl _ rfl _ _ _ _ HM.out.last Try.underlying79 rfl (size64B _) ?_
        | (go_at_call 50; refine (mix_any _ _ (fun i _ => HL.out i) _).mono ?_; rintro e w2 ⟨rfl, hbw⟩; have HR := hid (HM.out.res.below hbw HM.out.res.lt); have HB := hid (HM.out.below.trans (hbw.mono HM.out.below.size)); clear hbw)
        | refine wpList_store_row rfl 75 _ _ rfl _ _ rfl rfl _ _ HR.out (size8 _) (by rw [aW_size, aW_size]) (aW_one _ _) ?_)
      have hfin : comp s (withC N (lastA n x)) = fin s n x N := by unfold fin; rw [if_pos h56]
      refine ret_row rfl _ _ _ _ _ rfl rfl (HR.out.row _) Try.underlying75 rfl (size8 _) ⟨?_, below_setRow HB.out (by omega) _⟩
      rw [hfin]
set_option maxRecDepth 100000 in
set_option maxHeartbeats 1000000 in
theorem finish_hi (s : St) (p : Option Addr) (n c : Nat) (x : Nat → Nat) (C N : Nat) (w : World) (hC : C = 8 * N) (hn : n ≤ 63) (hx : StrAt w p n x) (hb : ∀ i, i < n → x i < 256) (hp : ∀ a, p = some a → 0 < n → a.block < w.heap.size) (h56 : ¬ n < 56) :
    Calls Try.prog 52 #[.agg (aW 8 s.get), .slice p n c, .int .u64 ((C : Nat) : Int)] w fun e w' => e = .returned (.agg (aW 8 (fin s n x N).get)) ∧ Below w.heap.size w w' := by
  have HX : Hid (∀ i, i < n → x i < 256) := hb
  have HC := hid hC
  clear hC
  have hz1 : (w.alloc (.cells (aW 8 s.get) 75)).heap.size = w.heap.size + 1 := by simp
  have hz2 : ((w.alloc (.cells (aW 8 s.get) 75)).alloc (.cells (aW 8 zW) 75)).heap.size = w.heap.size + 1 + 1 := by simp
  have d0 := CAt.new' ((w.alloc (.cells (aW 8 s.get) 75)).alloc (.cells (aW 8 zW) 75)) (aB 64 zB) 79 _ hz2
  have d1 := (CAt.new' (w.alloc (.cells (aW 8 s.get) 75)) (aW 8 zW) 75 _ hz1).alloc (.cells (aB 64 zB) 79)
  have d2 := ((CAt.new w (aW 8 s.get) 75).alloc (.cells (aW 8 zW) 75)).alloc (.cells (aB 64 zB) 79)
  have d3 : Below w.heap.size w (((w.alloc (.cells (aW 8 s.get) 75)).alloc (.cells (aW 8 zW) 75)).alloc (.cells (aB 64 zB) 79)) :=
    (((Below.refl _ _).alloc (by omega) _).alloc (by rw [hz1]; omega) _).alloc (by rw [hz2]; omega) _
  have hx2 : StrAt (((w.alloc (.cells (aW 8 s.get) 75)).alloc (.cells (aW 8 zW) 75)).alloc (.cells (aB 64 zB) 79)) p n x := by
    rcases hx with h | ⟨b, o, rfl, hr⟩
    · exact .inl h
    · rcases Nat.eq_zero_or_pos n with h0 | h0
      · exact .inl h0
      · exact .inr ⟨b, o, rfl, hr.below d3 (hp _ rfl h0)⟩
  have hcp := run_copy_blk _ _ 64 _ zB p n c x d0 hx2
  have hmin : min n 64 = n := by omega
  rw [hmin] at hcp
  have M1 : FinM w ((((w.alloc (.cells (aW 8 s.get) 75)).alloc (.cells (aW 8 zW) 75)).alloc (.cells (aB 64 zB) 79)).setRow (w.heap.size + 1 + 1) (aB 64 (ovl n x zB))) s (ovl n x zB) :=
    ⟨d2.rowOther _ (by omega), d1.rowOther _ (by omega), d0.row _, below_setRow d3 (by omega) _⟩
  have HM := hid M1
  clear M1 d0 d1 d2 d3 hx hx2 hb hp hz1 hz2 hmin
  have hn' : (n : Int) < 64 := by omega
  have h56' : ¬ (n : Int) < 56 := by omega
  go_enter Try.func52, Try.ntmps52
  go_upto_region 3 with (first
    | refine wpList_alloc_row rfl 75 rfl _ zero8 ?_
    | refine wpList_alloc_row rfl 79 rfl _ zero64B ?_)
  generalize ((((w.alloc (.cells (aW 8 s.get) 75)).alloc (.cells (aW 8 zW) 75)).alloc (.cells (aB 64 zB) 79)).setRow (w.heap.size + 1 + 1) (aB 64 (ovl n x zB))) = w1 at *
  clear hcp
  have c1 := HM.out.last.cellB n (by omega)
  have c2 := HM.out.last.free n
  have M2 : FinM w (w1.setCell ⟨w.heap.size + 1 + 1, n, none⟩ (.int .u8 128)) s (lastA n x) :=
    ⟨HM.out.st.other _ _ (by simp; omega), HM.out.res.other _ _ (by simp), (HM.out.last.setB n 128).congr (aB_congr 64 fun i _ => last_set n x i), HM.out.below.setCell (by simp; omega) _⟩
  have HM := hid M2
  clear M2
  go_wp2_with (first
    | refine wpList_load_row rfl 75 _ rfl _ rfl _ _ _ _ HM.out.st Try.underlying75 rfl (size8 _) ?_
    | refine wpList_load_row rfl 79 _ rfl _ rfl _ _ _ _ HM.out.last Try.underlying79 rfl (size64B _) ?_
    | (go_at_call 50; refine (mix_any _ _ (fun i _ => lastA_lt n x HX.out i) _).mono ?_; rintro e w2 ⟨rfl, hbw⟩; have HM := hid (FinM.mk (HM.out.st.below hbw HM.out.st.lt) (HM.out.res.below hbw HM.out.res.lt) (HM.out.last.below hbw HM.out.last.lt) (HM.out.below.trans (hbw.mono HM.out.below.size))); clear hbw)
    | (refine wpList_store_row rfl 75 _ _ rfl _ _ rfl rfl _ _ HM.out.st (size8 _) (by rw [aW_size, aW_size]) (aW_one _ _) ?_; have HM := hid (FinM.mk (HM.out.st.row (aW 8 (comp s (lastA n x)).get)) (HM.out.res.rowOther _ (by omega)) (HM.out.last.rowOther _ (by omega)) (below_setRow HM.out.below (by omega) _)))
    | refine wpList_build_to rfl 79 _ rfl (aB 64 zB) (by kernel_rfl) ?_
    | (refine wpList_store_row rfl 79 _ _ rfl _ _ rfl rfl _ _ HM.out.last (size64B _) (by rw [aB_size, aB_size]) (aB_one _ _) ?_; have HM := hid (FinM.mk (HM.out.st.rowOther (aB 64 zB) (by omega)) (HM.out.res.rowOther _ (by omega)) (HM.out.last.row _) (below_setRow HM.out.below (by omega) _))))
  go_loopw [22] (fun v wr => ∃ k : Nat, k ≤ 8 ∧ v = .int .i64 k ∧ FinM w wr (comp s (lastA n x)) (cTo N zB k)) (fun v _ => (8 - intOf v).toNat)
  case atStart => exact ⟨0, by omega, rfl, HM.out.st, HM.out.res, HM.out.last.congr (aB_congr 64 fun i hi => cTo_zero N _ i hi), HM.out.below⟩
  case round =>
    clear HM
    obtain ⟨k, hk, rfl, hm⟩ := hrel
    by_cases hlt : k < 8
    · have c1 := hm.last.cellB (63 - k) (by omega)
      have c2 := hm.last.free (63 - k)
      have hv := count_byte C N k HC.out
      have hlt' : (k : Int) < 8 := by omega
      have HM := hid hm
      clear hm
      go_wp2
      go_roundw
      case rel => exact ⟨k + 1, by omega, by go_num, HM.out.st.other _ _ (by simp; omega), HM.out.res.other _ _ (by simp), (HM.out.last.setB (63 - k) _).congr (aB_congr 64 fun i hi => cTo_step N _ k i hlt hi), HM.out.below.setCell (by simp; omega) _⟩
      case measure => simp [intOf]; omega
    · have e : k = 8 := by omega
      have hm2 : FinM w wr (comp s (lastA n x)) (withC N zB) := ⟨hm.st, hm.res, hm.last.congr (aB_congr 64 fun i _ => (by rw [e]; exact cTo_end N _ i)), hm.below⟩
      have HM := hid hm2
      have hge : ¬ (k : Int) < 8 := by omega
      have HL : Hid (∀ i, withC N zB i < 256) := fun i => withC_lt N _ (fun _ => by unfold zB; omega) i
      clear hm hm2 e
      go_wp2_with (first
        | refine wpList_load_row rfl 75 _ rfl _ rfl _ _ _ _ HM.out.st Try.underlying75 rfl (size8 _) ?_
        | refine wpList_load_row rfl 79 _ rfl _ rfl _ _ _ _ HM.out.last Try.underlying79 rfl (size64B _) ?_
        | (go_at_call 50; refine (mix_any _ _ (fun i _ => HL.out i) _).mono ?_; rintro e w2 ⟨rfl, hbw⟩; have HR := hid (HM.out.res.below hbw HM.out.res.lt); have HB := hid (HM.out.below.trans (hbw.mono HM.out.below.size)); clear hbw)
        | refine wpList_store_row rfl 75 _ _ rfl _ _ rfl rfl _ _ HR.out (size8 _) (by rw [aW_size, aW_size]) (aW_one _ _) ?_)
      have hfin : comp (comp s (lastA n x)) (withC N zB) = fin s n x N := by unfold fin; rw [if_neg h56]; rfl
      refine ret_row rfl _ _ _ _ _ rfl rfl (HR.out.row _) Try.underlying75 rfl (size8 _) ⟨?_, below_setRow HB.out (by omega) _⟩
      rw [hfin]
theorem finish_any (s : St) (p : Option Addr) (n c : Nat) (x : Nat → Nat) (C N : Nat) (w : World) (hC : C = 8 * N) (hn : n ≤ 63) (hx : StrAt w p n x) (hb : ∀ i, i < n → x i < 256) (hp : ∀ a, p = some a → 0 < n → a.block < w.heap.size) :
    Calls Try.prog 52 #[.agg (aW 8 s.get), .slice p n c, .int .u64 ((C : Nat) : Int)] w fun e w' => e = .returned (.agg (aW 8 (fin s n x N).get)) ∧ Below w.heap.size w w' := by
  by_cases h : n < 56
  · exact finish_lo s p n c x C N w hC hn hx hb hp h
  · exact finish_hi s p n c x C N w hC hn hx hb hp h
end Go.Proofs.Ytgmehiidnclgmaa
