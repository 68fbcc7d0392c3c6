/- Texts laid into one, cut to what is needed: the remark ahead of each part says what is proved there. -/
import Derived.Test.YtkiojnledimihaaPae
import Derived.Deep.CutRange
import Derived.Maps.AppendAt
import Derived.Laws.AppendOwnNone
import Derived.Test.YtkiojnledimihaaPac
import Derived.Lib.ConvBytes
import Derived.Laws.CopyOwn
import Derived.Deep.RegionHeld3
/- Contract of finish of package digest: the bytes that are left are filled up and mixed in, with the count. -/
namespace Go.Proofs.Ytkiojnledimihaa.H
open Go Go.RowKit

theorem zero64B : (Try.prog.info? 57).map (·.zero) = some (some (.agg (aB 64 zB))) := by kernel_rfl
/-- The count's lowest k bytes at a block's end. -/
def cTo (N : Nat) (f : Nat → Nat) (k i : Nat) : Nat := if i < 64 - k then f i else (8 * N) / 256 ^ (63 - i) % 256
theorem cTo_step (N : Nat) (f : Nat → Nat) (k i : Nat) (hk : k < 8) (hi : i < 64) : upB (cTo N f k) (63 - k) ((8 * N) / 256 ^ k % 256) i = cTo N f (k + 1) i := by
  unfold upB cTo
  by_cases e : i = 63 - k
  · rw [if_pos e, if_neg (by omega), show 63 - i = k by omega]
  · rw [if_neg e]
    by_cases q : i < 64 - k
    · rw [if_pos q, if_pos (by omega)]
    · rw [if_neg q, if_neg (by omega)]
theorem cTo_zero (N : Nat) (f : Nat → Nat) (i : Nat) (hi : i < 64) : f i = cTo N f 0 i := by unfold cTo; rw [if_pos (by omega)]
theorem cTo_end (N : Nat) (f : Nat → Nat) (i : Nat) : cTo N f 8 i = withC N f i := rfl
def fin (s : St) (n : Nat) (x : Nat → Nat) (N : Nat) : St := if n < 56 then comp s (withC N (lastA n x)) else comp (comp s (lastA n x)) (withC N (fun _ => 0))
theorem lastA_lt (n : Nat) (x : Nat → Nat) (hx : ∀ i, i < n → x i < 256) (i : Nat) : lastA n x i < 256 := by
  unfold lastA
  by_cases h : i < n
  · rw [if_pos h]; exact hx i h
  · rw [if_neg h]; split <;> omega
theorem withC_lt (N : Nat) (f : Nat → Nat) (hf : ∀ i, f i < 256) (i : Nat) : withC N f i < 256 := by
  unfold withC
  by_cases h : i < 56
  · rw [if_pos h]; exact hf i
  · rw [if_neg h]; exact Nat.mod_lt _ (by omega)
theorem last_set (n : Nat) (x : Nat → Nat) (i : Nat) : upB (ovl n x zB) n 128 i = lastA n x i := by
  unfold upB ovl lastA zB
  by_cases e : i = n
  · rw [if_pos e, if_neg (by omega), if_pos e]
  · rw [if_neg e]
    by_cases q : i < n
    · rw [if_pos q, if_pos q]
    · rw [if_neg q, if_neg q, if_neg e]
theorem count_byte (C N k : Nat) (hC : C = 8 * N) : ((C : Nat) : Int) / 2 ^ (8 * k) % 256 = (((8 * N) / 256 ^ k % 256 : Nat) : Int) := by
  rw [hC, show (256 : Nat) = 2 ^ 8 by decide, ← Nat.pow_mul]; simp
/-- What finish holds ahead of the count. -/
structure FinM (w w1 : World) (s : St) (f : Nat → Nat) : Prop where
  st : CAt w1 w.heap.size (aW 8 s.get) 54
  res : CAt w1 (w.heap.size + 1) (aW 8 zW) 54
  last : CAt w1 (w.heap.size + 1 + 1) (aB 64 f) 57
  below : Below w.heap.size w w1
set_option maxRecDepth 100000 in
set_option maxHeartbeats 1000000 in
theorem finish_lo (s : St) (p : Option Addr) (n c : Nat) (x : Nat → Nat) (C N : Nat) (w : World) (hC : C = 8 * N) (hn : n ≤ 63) (hx : StrAt w p n x) (hb : ∀ i, i < n → x i < 256) (hp : ∀ a, p = some a → 0 < n → a.block < w.heap.size) (h56 : n < 56) :
    Calls Try.prog 34 #[.agg (aW 8 s.get), .slice p n c, .int .u64 ((C : Nat) : Int)] w fun e w' => e = .returned (.agg (aW 8 (fin s n x N).get)) ∧ Below w.heap.size w w' := by
  have HX : Hid (∀ i, i < n → x i < 256) := hb
  have HC := hid hC
  clear hC
  have hz1 : (w.alloc (.cells (aW 8 s.get) 54)).heap.size = w.heap.size + 1 := by simp
  have hz2 : ((w.alloc (.cells (aW 8 s.get) 54)).alloc (.cells (aW 8 zW) 54)).heap.size = w.heap.size + 1 + 1 := by simp
  have d0 := CAt.new' ((w.alloc (.cells (aW 8 s.get) 54)).alloc (.cells (aW 8 zW) 54)) (aB 64 zB) 57 _ hz2
  have d1 := (CAt.new' (w.alloc (.cells (aW 8 s.get) 54)) (aW 8 zW) 54 _ hz1).alloc (.cells (aB 64 zB) 57)
  have d2 := ((CAt.new w (aW 8 s.get) 54).alloc (.cells (aW 8 zW) 54)).alloc (.cells (aB 64 zB) 57)
  have d3 : Below w.heap.size w (((w.alloc (.cells (aW 8 s.get) 54)).alloc (.cells (aW 8 zW) 54)).alloc (.cells (aB 64 zB) 57)) :=
    (((Below.refl _ _).alloc (by omega) _).alloc (by rw [hz1]; omega) _).alloc (by rw [hz2]; omega) _
  have hx2 : StrAt (((w.alloc (.cells (aW 8 s.get) 54)).alloc (.cells (aW 8 zW) 54)).alloc (.cells (aB 64 zB) 57)) p n x := by
    rcases hx with h | ⟨b, o, rfl, hr⟩
    · exact .inl h
    · rcases Nat.eq_zero_or_pos n with h0 | h0
      · exact .inl h0
      · exact .inr ⟨b, o, rfl, hr.below d3 (hp _ rfl h0)⟩
  have hcp := run_copy_blk _ _ 64 _ zB p n c x d0 hx2
  have hmin : min n 64 = n := by omega
  rw [hmin] at hcp
  have M1 : FinM w ((((w.alloc (.cells (aW 8 s.get) 54)).alloc (.cells (aW 8 zW) 54)).alloc (.cells (aB 64 zB) 57)).setRow (w.heap.size + 1 + 1) (aB 64 (ovl n x zB))) s (ovl n x zB) :=
    ⟨d2.rowOther _ (by omega), d1.rowOther _ (by omega), d0.row _, below_setRow d3 (by omega) _⟩
  have HM := hid M1
  clear M1 d0 d1 d2 d3 hx hx2 hb hp hz1 hz2 hmin
  have hn' : (n : Int) < 64 := by omega
  have h56' : (n : Int) < 56 := by omega
  go_enter Try.func34, Try.ntmps34
  go_upto_region 3 with (first
    | refine wpList_alloc_row rfl 54 rfl _ zero8 ?_
    | refine wpList_alloc_row rfl 57 rfl _ zero64B ?_)
  generalize ((((w.alloc (.cells (aW 8 s.get) 54)).alloc (.cells (aW 8 zW) 54)).alloc (.cells (aB 64 zB) 57)).setRow (w.heap.size + 1 + 1) (aB 64 (ovl n x zB))) = w1 at *
  clear hcp
  have c1 := HM.out.last.cellB n (by omega)
  have c2 := HM.out.last.free n
  have M2 : FinM w (w1.setCell ⟨w.heap.size + 1 + 1, n, none⟩ (.int .u8 128)) s (lastA n x) :=
    ⟨HM.out.st.other _ _ (by simp; omega), HM.out.res.other _ _ (by simp), (HM.out.last.setB n 128).congr (aB_congr 64 fun i _ => last_set n x i), HM.out.below.setCell (by simp; omega) _⟩
  have HM := hid M2
  clear M2
  go_wp2
  go_loopw [22] (fun v wr => ∃ k : Nat, k ≤ 8 ∧ v = .int .i64 k ∧ FinM w wr s (cTo N (lastA n x) k)) (fun v _ => (8 - intOf v).toNat)
  case atStart => exact ⟨0, by omega, rfl, HM.out.st, HM.out.res, HM.out.last.congr (aB_congr 64 fun i hi => cTo_zero N _ i hi), HM.out.below⟩
  case round =>
    clear HM
    obtain ⟨k, hk, rfl, hm⟩ := hrel
    by_cases hlt : k < 8
    · have c1 := hm.last.cellB (63 - k) (by omega)
      have c2 := hm.last.free (63 - k)
      have hv := count_byte C N k HC.out
      have hlt' : (k : Int) < 8 := by omega
      have HM := hid hm
      clear hm
      go_wp2
      go_roundw
      case rel => exact ⟨k + 1, by omega, by go_num, HM.out.st.other _ _ (by simp; omega), HM.out.res.other _ _ (by simp), (HM.out.last.setB (63 - k) _).congr (aB_congr 64 fun i hi => cTo_step N _ k i hlt hi), HM.out.below.setCell (by simp; omega) _⟩
      case measure => simp [intOf]; omega
    · have e : k = 8 := by omega
      have hm2 : FinM w wr s (withC N (lastA n x)) := ⟨hm.st, hm.res, hm.last.congr (aB_congr 64 fun i _ => (by rw [e]; exact cTo_end N _ i)), hm.below⟩
      have HM := hid hm2
      have hge : ¬ (k : Int) < 8 := by omega
      have HL : Hid (∀ i, withC N (lastA n x) i < 256) := fun i => withC_lt N _ (lastA_lt n x HX.out) i
      clear hm hm2 e
      go_wp2_with (first
        | refine wpList_load_row rfl 54 _ rfl _ rfl _ _ _ _ HM.out.st Try.underlying54 rfl (size8 _) ?_
        | refine wpList_load_row rfl 57 _ rfl _ rfl _ _ _ _ HM.out.last Try.underlying57 rfl (size64B _) ?_
        | (go_at_call 32; refine (mix_any _ _ (fun i _ => HL.out i) _).mono ?_; rintro e w2 ⟨rfl, hbw⟩; have HR := hid (HM.out.res.below hbw HM.out.res.lt); have HB := hid (HM.out.below.trans (hbw.mono HM.out.below.size)); clear hbw)
        | refine wpList_store_row rfl 54 _ _ rfl _ _ rfl rfl _ _ HR.out (size8 _) (by rw [aW_size, aW_size]) (aW_one _ _) ?_)
      have hfin : comp s (withC N (lastA n x)) = fin s n x N := by unfold fin; rw [if_pos h56]
      refine ret_row rfl _ _ _ _ _ rfl rfl (HR.out.row _) Try.underlying54 rfl (size8 _) ⟨?_, below_setRow HB.out (by omega) _⟩
      rw [hfin]
set_option maxRecDepth 100000 in
set_option maxHeartbeats 1000000 in
theorem finish_hi (s : St) (p : Option Addr) (n c : Nat) (x : Nat → Nat) (C N : Nat) (w : World) (hC : C = 8 * N) (hn : n ≤ 63) (hx : StrAt w p n x) (hb : ∀ i, i < n → x i < 256) (hp : ∀ a, p = some a → 0 < n → a.block < w.heap.size) (h56 : ¬ n < 56) :
    Calls Try.prog 34 #[.agg (aW 8 s.get), .slice p n c, .int .u64 ((C : Nat) : Int)] w fun e w' => e = .returned (.agg (aW 8 (fin s n x N).get)) ∧ Below w.heap.size w w' := by
  have HX : Hid (∀ i, i < n → x i < 256) := hb
  have HC := hid hC
  clear hC
  have hz1 : (w.alloc (.cells (aW 8 s.get) 54)).heap.size = w.heap.size + 1 := by simp
  have hz2 : ((w.alloc (.cells (aW 8 s.get) 54)).alloc (.cells (aW 8 zW) 54)).heap.size = w.heap.size + 1 + 1 := by simp
  have d0 := CAt.new' ((w.alloc (.cells (aW 8 s.get) 54)).alloc (.cells (aW 8 zW) 54)) (aB 64 zB) 57 _ hz2
  have d1 := (CAt.new' (w.alloc (.cells (aW 8 s.get) 54)) (aW 8 zW) 54 _ hz1).alloc (.cells (aB 64 zB) 57)
  have d2 := ((CAt.new w (aW 8 s.get) 54).alloc (.cells (aW 8 zW) 54)).alloc (.cells (aB 64 zB) 57)
  have d3 : Below w.heap.size w (((w.alloc (.cells (aW 8 s.get) 54)).alloc (.cells (aW 8 zW) 54)).alloc (.cells (aB 64 zB) 57)) :=
    (((Below.refl _ _).alloc (by omega) _).alloc (by rw [hz1]; omega) _).alloc (by rw [hz2]; omega) _
  have hx2 : StrAt (((w.alloc (.cells (aW 8 s.get) 54)).alloc (.cells (aW 8 zW) 54)).alloc (.cells (aB 64 zB) 57)) p n x := by
    rcases hx with h | ⟨b, o, rfl, hr⟩
    · exact .inl h
    · rcases Nat.eq_zero_or_pos n with h0 | h0
      · exact .inl h0
      · exact .inr ⟨b, o, rfl, hr.below d3 (hp _ rfl h0)⟩
  have hcp := run_copy_blk _ _ 64 _ zB p n c x d0 hx2
  have hmin : min n 64 = n := by omega
  rw [hmin] at hcp
  have M1 : FinM w ((((w.alloc (.cells (aW 8 s.get) 54)).alloc (.cells (aW 8 zW) 54)).alloc (.cells (aB 64 zB) 57)).setRow (w.heap.size + 1 + 1) (aB 64 (ovl n x zB))) s (ovl n x zB) :=
    ⟨d2.rowOther _ (by omega), d1.rowOther _ (by omega), d0.row _, below_setRow d3 (by omega) _⟩
  have HM := hid M1
  clear M1 d0 d1 d2 d3 hx hx2 hb hp hz1 hz2 hmin
  have hn' : (n : Int) < 64 := by omega
  have h56' : ¬ (n : Int) < 56 := by omega
  go_enter Try.func34, Try.ntmps34
  go_upto_region 3 with (first
    | refine wpList_alloc_row rfl 54 rfl _ zero8 ?_
    | refine wpList_alloc_row rfl 57 rfl _ zero64B ?_)
  generalize ((((w.alloc (.cells (aW 8 s.get) 54)).alloc (.cells (aW 8 zW) 54)).alloc (.cells (aB 64 zB) 57)).setRow (w.heap.size + 1 + 1) (aB 64 (ovl n x zB))) = w1 at *
  clear hcp
  have c1 := HM.out.last.cellB n (by omega)
  have c2 := HM.out.last.free n
  have M2 : FinM w (w1.setCell ⟨w.heap.size + 1 + 1, n, none⟩ (.int .u8 128)) s (lastA n x) :=
    ⟨HM.out.st.other _ _ (by simp; omega), HM.out.res.other _ _ (by simp), (HM.out.last.setB n 128).congr (aB_congr 64 fun i _ => last_set n x i), HM.out.below.setCell (by simp; omega) _⟩
  have HM := hid M2
  clear M2
  go_wp2_with (first
    | refine wpList_load_row rfl 54 _ rfl _ rfl _ _ _ _ HM.out.st Try.underlying54 rfl (size8 _) ?_
    | refine wpList_load_row rfl 57 _ rfl _ rfl _ _ _ _ HM.out.last Try.underlying57 rfl (size64B _) ?_
    | (go_at_call 32; refine (mix_any _ _ (fun i _ => lastA_lt n x HX.out i) _).mono ?_; rintro e w2 ⟨rfl, hbw⟩; have HM := hid (FinM.mk (HM.out.st.below hbw HM.out.st.lt) (HM.out.res.below hbw HM.out.res.lt) (HM.out.last.below hbw HM.out.last.lt) (HM.out.below.trans (hbw.mono HM.out.below.size))); clear hbw)
    | (refine wpList_store_row rfl 54 _ _ rfl _ _ rfl rfl _ _ HM.out.st (size8 _) (by rw [aW_size, aW_size]) (aW_one _ _) ?_; have HM := hid (FinM.mk (HM.out.st.row (aW 8 (comp s (lastA n x)).get)) (HM.out.res.rowOther _ (by omega)) (HM.out.last.rowOther _ (by omega)) (below_setRow HM.out.below (by omega) _)))
    | refine wpList_build_to rfl 57 _ rfl (aB 64 zB) (by kernel_rfl) ?_
    | (refine wpList_store_row rfl 57 _ _ rfl _ _ rfl rfl _ _ HM.out.last (size64B _) (by rw [aB_size, aB_size]) (aB_one _ _) ?_; have HM := hid (FinM.mk (HM.out.st.rowOther (aB 64 zB) (by omega)) (HM.out.res.rowOther _ (by omega)) (HM.out.last.row _) (below_setRow HM.out.below (by omega) _))))
  go_loopw [22] (fun v wr => ∃ k : Nat, k ≤ 8 ∧ v = .int .i64 k ∧ FinM w wr (comp s (lastA n x)) (cTo N zB k)) (fun v _ => (8 - intOf v).toNat)
  case atStart => exact ⟨0, by omega, rfl, HM.out.st, HM.out.res, HM.out.last.congr (aB_congr 64 fun i hi => cTo_zero N _ i hi), HM.out.below⟩
  case round =>
    clear HM
    obtain ⟨k, hk, rfl, hm⟩ := hrel
    by_cases hlt : k < 8
    · have c1 := hm.last.cellB (63 - k) (by omega)
      have c2 := hm.last.free (63 - k)
      have hv := count_byte C N k HC.out
      have hlt' : (k : Int) < 8 := by omega
      have HM := hid hm
      clear hm
      go_wp2
      go_roundw
      case rel => exact ⟨k + 1, by omega, by go_num, HM.out.st.other _ _ (by simp; omega), HM.out.res.other _ _ (by simp), (HM.out.last.setB (63 - k) _).congr (aB_congr 64 fun i hi => cTo_step N _ k i hlt hi), HM.out.below.setCell (by simp; omega) _⟩
      case measure => simp [intOf]; omega
    · have e : k = 8 := by omega
      have hm2 : FinM w wr (comp s (lastA n x)) (withC N zB) := ⟨hm.st, hm.res, hm.last.congr (aB_congr 64 fun i _ => (by rw [e]; exact cTo_end N _ i)), hm.below⟩
      have HM := hid hm2
      have hge : ¬ (k : Int) < 8 := by omega
      have HL : Hid (∀ i, withC N zB i < 256) := fun i => withC_lt N _ (fun _ => by unfold zB; omega) i
      clear hm hm2 e
      go_wp2_with (first
        | refine wpList_load_row rfl 54 _ rfl _ rfl _ _ _ _ HM.out.st Try.underlying54 rfl (size8 _) ?_
        | refine wpList_load_row rfl 57 _ rfl _ rfl _ _ _ _ HM.out.last Try.underlying57 rfl (size64B _) ?_
        | (go_at_call 32; refine (mix_any _ _ (fun i _ => HL.out i) _).mono ?_; rintro e w2 ⟨rfl, hbw⟩; have HR := hid (HM.out.res.below hbw HM.out.res.lt); have HB := hid (HM.out.below.trans (hbw.mono HM.out.below.size)); clear hbw)
        | refine wpList_store_row rfl 54 _ _ rfl _ _ rfl rfl _ _ HR.out (size8 _) (by rw [aW_size, aW_size]) (aW_one _ _) ?_)
      have hfin : comp (comp s (lastA n x)) (withC N zB) = fin s n x N := by unfold fin; rw [if_neg h56]; rfl
      refine ret_row rfl _ _ _ _ _ rfl rfl (HR.out.row _) Try.underlying54 rfl (size8 _) ⟨?_, below_setRow HB.out (by omega) _⟩
      rw [hfin]
theorem finish_any (s : St) (p : Option Addr) (n c : Nat) (x : Nat → Nat) (C N : Nat) (w : World) (hC : C = 8 * N) (hn : n ≤ 63) (hx : StrAt w p n x) (hb : ∀ i, i < n → x i < 256) (hp : ∀ a, p = some a → 0 < n → a.block < w.heap.size) :
    Calls Try.prog 34 #[.agg (aW 8 s.get), .slice p n c, .int .u64 ((C : Nat) : Int)] w fun e w' => e = .returned (.agg (aW 8 (fin s n x N).get)) ∧ Below w.heap.size w w' := by
  by_cases h : n < 56
  · exact finish_lo s p n c x C N w hC hn hx hb hp h
  · exact finish_hi s p n c x C N w hC hn hx hb hp h
end Go.Proofs.Ytkiojnledimihaa.H

/- Contract of Sum of package digest: the digest of any bytes; what was there is as it was. -/
namespace Go.Proofs.Ytkiojnledimihaa.H
open Go Go.RowKit

theorem add_plain' (b o l : Nat) : (⟨b, o, none⟩ : Addr).add l = ⟨b, o + l, none⟩ := by unfold Addr.add; split <;> simp_all
theorem StrAt.drop {w : World} {p p2 : Option Addr} {n c l : Nat} {x : Nat → Nat} (h : StrAt w p n x) (hc : n ≤ c) (hp : ∀ b o, p = some ⟨b, o, none⟩ → l < c → p2 = some ⟨b, o + l, none⟩) : StrAt w p2 (n - l) (fun j => x (l + j)) := by
  by_cases h0 : n - l = 0
  · exact .inl h0
  · rcases h with h | ⟨b, o, rfl, hr⟩
    · omega
    · exact .inr ⟨b, o + l, hp b o rfl (by omega), fun i hi => by rw [Nat.add_assoc]; exact hr (l + i) (by omega)⟩
theorem StrAt.congr {w : World} {p : Option Addr} {n : Nat} {x y : Nat → Nat} (h : StrAt w p n x) (e : ∀ j, j < n → x j = y j) : StrAt w p n y := by
  rcases h with h | ⟨b, o, rfl, hr⟩
  · exact .inl h
  · exact .inr ⟨b, o, rfl, fun i hi => by rw [← e i hi]; exact hr i hi⟩
theorem cell_lt {w : World} {a : Addr} {v : Value} (h : w.cell? a = some v) : a.block < w.heap.size := by
  rcases Nat.lt_or_ge a.block w.heap.size with h1 | h1
  · exact h1
  · simp [World.cell?, Array.getElem?_eq_none h1] at h
theorem StrAt.lt {w : World} {p : Option Addr} {n : Nat} {x : Nat → Nat} (h : StrAt w p n x) (a : Addr) (ha : p = some a) (hn : 0 < n) : a.block < w.heap.size := by
  rcases h with h | ⟨b, o, rfl, hr⟩
  · omega
  · cases ha; exact cell_lt (hr 0 hn)
theorem StrAt.below {w w' : World} {p : Option Addr} {n : Nat} {x : Nat → Nat} (h : StrAt w p n x) (hb : Below w.heap.size w w') : StrAt w' p n x := by
  rcases Nat.eq_zero_or_pos n with h0 | h0
  · exact .inl h0
  · have hl := h.lt
    rcases h with h | ⟨b, o, rfl, hr⟩
    · exact .inl h
    · exact .inr ⟨b, o, rfl, hr.below hb (hl _ rfl h0)⟩
def lenV : Value → Nat | .slice _ n _ => n | _ => 0
structure SumM (w wr : World) (g3 g5 : Nat) (s : St) : Prop where
  st : CAt wr g3 (aW 8 s.get) 54
  blk : ∃ y, CAt wr g5 (aB 64 y) 57
  res : CAt wr w.heap.size (aB 32 zB) 42
  below : Below w.heap.size w wr
  h3 : w.heap.size < g3
  h5 : g3 < g5
set_option maxRecDepth 100000 in
set_option maxHeartbeats 1000000 in
theorem sum_any (p : Option Addr) (n c : Nat) (x : Nat → Nat) (w : World) (hn : n ≤ 1000000) (hc : n ≤ c) (hx : StrAt w p n x) (hb : ∀ i, i < n → x i < 256) :
    Calls Try.prog 23 #[.slice p n c] w fun e w' => e = .returned (.agg (aB 32 (sha n x))) ∧ Below w.heap.size w w' := by
  have HX := hid hx
  have HBX := hid hb
  have HCC := hid hc
  clear hx hb hc
  have hn' : (n : Int) ≤ 1000000 := by omega
  go_enter Try.func23, Try.ntmps23
  go_upto_region 2 with (first
    | refine wpList_alloc_row rfl 42 rfl _ zero32 ?_
    | refine wpList_alloc_row rfl 54 rfl _ zero8 ?_
    | (go_at_call 31; refine (firstWords_any _).mono ?_; rintro e w1 ⟨rfl, hbw⟩)
    | refine wpList_store_row rfl 54 _ _ rfl _ _ rfl rfl _ _ (CAt.new _ _ _) (size8 _) (by rw [aW_size, aW_size]) (aW_one _ _) ?_)
  have hz : (w.alloc (.cells (aB 32 zB) 42)).heap.size = w.heap.size + 1 := by simp
  have r0 : CAt w1 w.heap.size (aB 32 zB) 42 := (CAt.new w (aB 32 zB) 42).below hbw (by rw [hz]; omega)
  have b0 : Below w.heap.size w w1 := ((Below.refl _ _).alloc (by omega) _).trans (hbw.mono (by rw [hz]; omega))
  have g0 : w.heap.size < w1.heap.size := by have := hbw.size; rw [hz] at this; omega
  have hz3 : ((w1.alloc (.cells (aW 8 zW) 54)).setRow w1.heap.size (aW 8 st0.get)).heap.size = w1.heap.size + 1 := by simp
  have r1 : CAt ((w1.alloc (.cells (aW 8 zW) 54)).setRow w1.heap.size (aW 8 st0.get)) w1.heap.size (aW 8 st0.get) 54 := (CAt.new w1 (aW 8 zW) 54).row _
  have r2 := ((r0.alloc (.cells (aW 8 zW) 54)).rowOther (k := w1.heap.size) (aW 8 st0.get) (by omega))
  have b2 : Below w.heap.size w ((w1.alloc (.cells (aW 8 zW) 54)).setRow w1.heap.size (aW 8 st0.get)) := below_setRow (b0.alloc (by omega) _) (by omega) _
  clear r0 b0 hbw hz
  generalize ((w1.alloc (.cells (aW 8 zW) 54)).setRow w1.heap.size (aW 8 st0.get)) = w3 at *
  generalize w1.heap.size = g3 at *
  have M0 : SumM w (w3.alloc (.cells (aB 64 zB) 57)) g3 (g3 + 1) (hs x 0) := ⟨r1.alloc _, ⟨zB, CAt.new' w3 (aB 64 zB) 57 _ hz3⟩, r2.alloc _, b2.alloc (by omega) _, g0, by omega⟩
  have HM := hid M0
  have HZ3 := hid hz3
  clear M0 r1 r2 b2 g0
  simp only [Act.put, List.setIfInBounds_toArray, List.set_cons_succ, List.set_cons_zero]
  go_wp2_with (refine wpList_alloc_row rfl 57 rfl _ zero64B ?_)
  obtain ⟨C, hC⟩ : ∃ C, C = 8 * n := ⟨_, rfl⟩
  have hCn : (n : Int) * 8 = (C : Int) := by omega
  have hz4 := HZ3.out
  simp only [Act.put, List.setIfInBounds_toArray, List.set_cons_succ, List.set_cons_zero, hCn, hz4]
  have HC := hid hC
  clear hC hCn hz3 hz4 HZ3
  go_loopw [0] (fun v wr => ∃ (q : Nat) (p' : Option Addr) (m c' : Nat), 64 * q + m = n ∧ v = .slice p' m c' ∧ m ≤ c' ∧ StrAt w p' m (fun i => x (64 * q + i)) ∧ SumM w wr g3 (g3 + 1) (hs x q)) (fun v _ => lenV v)
  case atStart => exact ⟨0, p, n, c, by omega, rfl, HCC.out, HX.out.congr (fun j _ => by simp), HM.out⟩
  case round =>
    clear HM HX HCC
    obtain ⟨q, p', m, c', hqm, rfl, hmc, hstr, hm⟩ := hrel
    have HQ := hid hqm
    have HMC := hid hmc
    have hm6 : (m : Int) ≤ 1000000 := by omega
    by_cases hge : 64 ≤ m
    · obtain ⟨y, hy⟩ := hm.blk
      have hcp := run_copy_blk wr (g3 + 1) 64 57 y p' m c' _ hy (hstr.below hm.below)
      rw [show min m 64 = 64 by omega] at hcp
      have M1 : SumM w (wr.setRow (g3 + 1) (aB 64 (ovl 64 (fun i => x (64 * q + i)) y))) g3 (g3 + 1) (hs x q) :=
        ⟨hm.st.rowOther _ (by omega), ⟨_, hy.row _⟩, hm.res.rowOther _ (by have := hm.h3; omega), below_setRow hm.below (by have := hm.h3; omega) _, hm.h3, hm.h5⟩
      have B1 : CAt (wr.setRow (g3 + 1) (aB 64 (ovl 64 (fun i => x (64 * q + i)) y))) (g3 + 1) (aB 64 (fun i => x (64 * q + i))) 57 :=
        (hy.row _).congr (aB_congr 64 fun i hi => by unfold ovl; rw [if_pos hi])
      have HS : Hid (StrAt w (if c' = 64 then p' else Option.map (fun a => { block := a.block, off := a.off + 64 }) p') (m - 64) (fun i => x (64 * (q + 1) + i))) :=
        (hstr.drop (l := 64) hmc (fun b o e h => by subst e; rw [if_neg (by omega)]; rfl)).congr (fun j _ => by congr 1; omega)
      have HM := hid M1
      have HB := hid B1
      have hge' : (64 : Int) ≤ (m : Int) := by omega
      clear M1 B1 hm hy hstr hqm hmc
      go_upto_region 6 with fail
      clear hcp
      generalize (wr.setRow (g3 + 1) (aB 64 (ovl 64 (fun i => x (64 * q + i)) y))) = w4 at *
      have HLT : Hid (∀ i, i < 64 → x (64 * q + i) < 256) := fun i hi => HBX.out _ (by have := HQ.out; omega)
      go_wp2_with (first
        | refine wpList_load_row rfl 54 _ rfl _ rfl _ _ _ _ HM.out.st Try.underlying54 rfl (size8 _) ?_
        | refine wpList_load_row rfl 57 _ rfl _ rfl _ _ _ _ HB.out Try.underlying57 rfl (size64B _) ?_
        | (go_at_call 32; refine (mix_any _ _ HLT.out _).mono ?_; rintro e w5 ⟨rfl, hbw⟩; have HM5 := hid (SumM.mk (HM.out.st.below hbw HM.out.st.lt) ⟨_, HB.out.below hbw HB.out.lt⟩ (HM.out.res.below hbw HM.out.res.lt) (HM.out.below.trans (hbw.mono HM.out.below.size)) HM.out.h3 HM.out.h5); clear hbw)
        | refine wpList_store_row rfl 54 _ _ rfl _ _ rfl rfl _ _ HM5.out.st (size8 _) (by rw [aW_size, aW_size]) (aW_one _ _) ?_)
      go_roundw
      case rel =>
        refine ⟨q + 1, _, m - 64, c' - 64, by have := HQ.out; omega, rfl, by have := HMC.out; omega, HS.out, ?_⟩
        obtain ⟨y2, hy2⟩ := HM5.out.blk
        exact ⟨HM5.out.st.row _, ⟨_, hy2.rowOther _ (by omega)⟩, HM5.out.res.rowOther _ (by have := HM5.out.h3; omega), below_setRow HM5.out.below (by have := HM5.out.h3; omega) _, HM5.out.h3, HM5.out.h5⟩
      case measure => simp [lenV]; omega
    · have hlt' : ¬ (64 : Int) ≤ (m : Int) := by omega
      have HM := hid hm
      have HS := hid hstr
      have HS2 := hid (hstr.below hm.below)
      have hq : q = n / 64 := by omega
      have hm3 : m = n % 64 := by omega
      have hf : fin (hs x q) m (fun i => x (64 * q + i)) n = shaSt n x := by
        rw [hq, hm3]; unfold fin
        by_cases h : n % 64 < 56
        · rw [if_pos h, shaSt_short n x h]
        · rw [if_neg h, shaSt_long n x (by omega)]
      have HF := hid hf
      have HM63 : Hid (m ≤ 63) := by show m ≤ 63; omega
      clear hm hstr hqm hmc hq hm3 hf
      go_wp2_with (first
        | refine wpList_load_row rfl 54 _ rfl _ rfl _ _ _ _ HM.out.st Try.underlying54 rfl (size8 _) ?_
        | (go_at_call 34; refine (finish_any _ _ _ _ _ _ n _ HC.out HM63.out HS2.out (fun i hi => HBX.out _ (by have := HQ.out; omega)) (fun a ha hpos => HS2.out.lt a ha hpos)).mono ?_; rintro e w5 ⟨rfl, hbw⟩; rw [HF.out]; have HR := hid (HM.out.res.below hbw HM.out.res.lt); have HB5 := hid (HM.out.below.trans (hbw.mono HM.out.below.size)); clear hbw)
        | (go_at_call 33; refine (written_any _ _).mono ?_; rintro e w6 ⟨rfl, hbw⟩; have HR6 := hid (HR.out.below hbw HR.out.lt); have HB6 := hid (HB5.out.trans (hbw.mono HB5.out.size)); clear hbw)
        | refine wpList_store_row rfl 42 _ _ rfl _ _ rfl rfl _ _ HR6.out (size32 _) (by rw [aB_size, aB_size]) (aB_one _ _) ?_)
      exact ret_row rfl _ _ _ _ _ rfl rfl (HR6.out.row _) Try.underlying42 rfl (size32 _) ⟨rfl, below_setRow HB6.out (by omega) _⟩
end Go.Proofs.Ytkiojnledimihaa.H

/- Contract of block of the document's own answer: the eight numbers behind a block that stands in a list from a place on. -/
namespace Go.Proofs.Ytkiojnledimihaa.H
open Go Go.RowKit

structure BlkM (w wr : World) (s : St) (f : Nat → BitVec 32) : Prop where
  h : CAt wr w.heap.size (aW 8 s.get) 53
  k : CAt wr (w.heap.size + 1) (aW 64 kk) 63
  r : CAt wr (w.heap.size + 1 + 1) (aW 8 zW) 53
  v : CAt wr (w.heap.size + 1 + 1 + 1) (aW 64 f) 63
  below : Below w.heap.size w wr
theorem BlkM.drewN {w wr : World} {s : St} {f : Nat → BitVec 32} (h : BlkM w wr s f) (m : Nat) : BlkM w (wr.drewN m) s f :=
  ⟨h.h.drewN m, h.k.drewN m, h.r.drewN m, h.v.drewN m, Below.drewN' h.below m⟩
theorem BlkM.set {w wr : World} {s : St} {f : Nat → BitVec 32} (h : BlkM w wr s f) (i : Nat) (u : BitVec 32) : BlkM w (wr.setCell ⟨w.heap.size + 1 + 1 + 1, i, none⟩ (.int .u32 (wv u))) s (upW f i u) :=
  ⟨h.h.other _ _ (by show w.heap.size ≠ w.heap.size + 1 + 1 + 1; omega), h.k.other _ _ (by show w.heap.size + 1 ≠ w.heap.size + 1 + 1 + 1; omega), h.r.other _ _ (by show w.heap.size + 1 + 1 ≠ w.heap.size + 1 + 1 + 1; omega), h.v.setW i u, h.below.setCell (by show w.heap.size ≤ w.heap.size + 1 + 1 + 1; omega) _⟩
theorem BlkM.row {w wr : World} {s : St} {f : Nat → BitVec 32} (h : BlkM w wr s f) (g : Nat) (hg : w.heap.size + 1 + 1 + 1 < g) (cs : Array Value) : BlkM w (wr.setRow g cs) s f :=
  ⟨h.h.rowOther _ (by omega), h.k.rowOther _ (by omega), h.r.rowOther _ (by omega), h.v.rowOther _ (by omega), below_setRow h.below (by omega) _⟩
end Go.Proofs.Ytkiojnledimihaa.H

/- A buffer of bytes that a call fills by append. -/
namespace Go.Proofs.Ytkiojnledimihaa.H
open Go Go.RowKit

def Buf (B : Nat) (w : World) (v : Value) (n : Nat) (x : Nat → Nat) : Prop := w.ownsRow B 5 1 v n (valN n x)
theorem Buf.nil (B : Nat) (w : World) (x : Nat → Nat) : Buf B w (.slice none 0 0) 0 x := by
  have := World.ownsRow_nil w B 5 1
  unfold Buf valN; simpa using this
theorem Buf.below {B : Nat} {w w' : World} {v : Value} {n : Nat} {x : Nat → Nat} (h : Buf B w v n x) (hb : Below w.heap.size w w') : Buf B w' v n x := by
  obtain ⟨hl, h | ⟨g, cap, cur, rfl, hB, hg, hc, hm, hs, ht⟩⟩ := h
  · exact ⟨hl, .inl h⟩
  · refine ⟨hl, .inr ⟨g, cap, cur, rfl, hB, ?_, hc, hm, hs, ht⟩⟩
    exact (hb.block g (CAt.lt hg)).trans hg
end Go.Proofs.Ytkiojnledimihaa.H

/- Contracts of Eight and Sum of the document's own answer: a number's eight bytes; the digest of bytes. -/
namespace Go.Proofs.Ytkiojnledimihaa.H
open Go Go.RowKit

structure RsM (w wr : World) (v : Value) (m : Nat) (f : Nat → Nat) : Prop where
  buf : Buf (w.heap.size + 1) wr v m f
  res : CAt wr w.heap.size (aB 32 zB) 42
  below : Below w.heap.size w wr
theorem RsM.size {w wr : World} {v : Value} {m : Nat} {f : Nat → Nat} (h : RsM w wr v m f) : w.heap.size + 1 ≤ wr.heap.size := h.res.lt
structure LpM (w wr : World) (gh gk ba oa M : Nat) (f : Nat → Nat) (s : St) : Prop where
  h : CAt wr gh (aW 8 s.get) 53
  k : CAt wr gk (aW 64 kk) 63
  row : RowAt wr ba oa M f
  res : CAt wr w.heap.size (aB 32 zB) 42
  below : Below w.heap.size w wr
theorem LpM.on {w wr w' : World} {gh gk ba oa M : Nat} {f : Nat → Nat} {s : St} (h : LpM w wr gh gk ba oa M f s) (hM : 0 < M) (hb : Below wr.heap.size wr w') : LpM w w' gh gk ba oa M f s :=
  ⟨h.h.below hb h.h.lt, h.k.below hb h.k.lt, h.row.below hb (cell_lt (h.row 0 hM)), h.res.below hb h.res.lt, h.below.trans (hb.mono h.below.size)⟩
end Go.Proofs.Ytkiojnledimihaa.H

/- The number and the set of a path: the mathematics; the document's Hash and Set. -/
namespace Go.Proofs.Ytkiojnledimihaa
open Go Go.RowKit Go.Shelf

/-- The bytes of a text; its digest's 32 bytes. -/
def byN (s : Nm) (j : Nat) : Nat := (s.getD j 0).toNat
theorem byN_lt (s : Nm) (j : Nat) : byN s j < 256 := (s.getD j 0).toNat_lt
def dgF (s : Nm) : Nat → Nat := H.sha s.length (byN s)
theorem dgF_lt (s : Nm) (i : Nat) : dgF s i < 256 := H.sha_lt _ _ _
/-- []byte(s) -/
theorem toB13 (s : Nm) (w : World) : ∃ c w1, (convert 9 44 (sv s)).run Try.prog w = .ok (.slice (some ⟨w.heap.size, 0, none⟩) s.length c) w1 ∧ Below w.heap.size w w1 ∧ H.StrAt w1 (some ⟨w.heap.size, 0, none⟩) s.length (byN s) ∧ s.length ≤ c := by
  have hsz : (⟨s.toArray⟩ : ByteArray).size = s.length := by simp [ByteArray.size]
  have h := Lib.run_convert_string_bytes (P := Try.prog) w 9 44 5 ⟨s.toArray⟩ Try.underlying9 Try.underlying44 Try.underlying5
  rw [hsz] at h
  refine ⟨_, _, h, ⟨rfl, rfl, rfl, by rw [Lib.bytesWorld_size]; omega, fun k hk => Lib.bytesWorld_at_old w 5 _ k hk⟩, Or.inr ⟨_, 0, rfl, fun i hi => ?_⟩, by have := grownCap_ge w s.length 0 5; omega⟩
  rw [Nat.zero_add, Lib.bytesWorld_cell w 5 _ i (by rw [hsz]; exact hi)]
  simp [byN]
/-- The first k bytes of a digest as one number. -/
def hsP (f : Nat → Nat) : Nat → Nat
  | 0 => 0
  | k + 1 => hsP f k * 256 + f k
theorem hsP_lt {f : Nat → Nat} (h : ∀ i, f i < 256) : ∀ k, hsP f k < 256 ^ k
  | 0 => by show 0 < 1; omega
  | k + 1 => by
    have h1 := hsP_lt h k
    have h2 := h k
    show hsP f k * 256 + f k < 256 ^ (k + 1)
    rw [Nat.pow_succ]
    omega
theorem hsP_64 {f : Nat → Nat} (h : ∀ i, f i < 256) {k : Nat} (hk : k < 8) : hsP f k * 256 + f k < 18446744073709551616 := by
  have h1 := hsP_lt h (k + 1)
  have h2 : 256 ^ (k + 1) ≤ 256 ^ 8 := Nat.pow_le_pow_right (by omega) (by omega)
  have e : 256 ^ 8 = 18446744073709551616 := by decide
  show hsP f (k + 1) < _
  omega
def okP (s : Nm) : Bool := decide (1 ≤ s.length ∧ s.length ≤ 400)
def okS (s : Nm) (n : Int) : Bool := okP s && decide (1 ≤ n ∧ n ≤ 4)
def hsE (s : Nm) : Nat := if okP s = true then 0 else 2
def hsN (s : Nm) : Nat := if okP s = true then hsP (dgF s) 8 else 0
def stE (s : Nm) (n : Int) : Nat := if okS s n = true then 0 else 2
def stN (s : Nm) (n : Int) : Nat := if okS s n = true then hsN s % n.toNat else 0
theorem hsN_lt (s : Nm) : hsN s < 18446744073709551616 := by
  unfold hsN
  split
  · have := hsP_lt (f := dgF s) (dgF_lt s) 8
    have e : 256 ^ 8 = 18446744073709551616 := by decide
    omega
  · decide
theorem stN_lt {s : Nm} {n : Int} (h : okS s n = true) : stN s n < n.toNat := by
  unfold stN
  rw [if_pos h]
  unfold okS at h
  simp at h
  exact Nat.mod_lt _ (by omega)
end Go.Proofs.Ytkiojnledimihaa

/- Bytes in memory; contracts of SameBytes, LentBytes and KeptBytes of the statements' kit. -/
namespace Go.Proofs.Ytkiojnledimihaa
open Go.RowKit

/-- A row of n bytes lies at block b from o on. -/
def RowAt (w : World) (b o n : Nat) (x : Nat → Nat) : Prop := ∀ i, i < n → w.cell? ⟨b, o + i, none⟩ = some (.int .u8 (x i : Nat))
/-- The world w has one block more than w0 has: n bytes, x, which may be written; what was there is as it was. -/
structure NewRow (w0 w : World) (n : Nat) (x : Nat → Nat) : Prop where
  size : w.heap.size = w0.heap.size + 1
  below : Below w0.heap.size w0 w
  cells : ∀ i, i < n → w.cell? ⟨w0.heap.size, i, none⟩ = some (.int .u8 (x i : Nat))
  free : ∀ i, w.frozen? ⟨w0.heap.size, i, none⟩ = false

theorem madeCells_get (z : Value) (n i : Nat) (h : i < n) : (madeCells #[z] n)[i]? = some z := by
  simp [madeCells, h, Nat.mod_one]
theorem NewRow.set {w0 w : World} {n : Nat} {x : Nat → Nat} (h : NewRow w0 w n x) (k : Nat) (v : Nat) (hk : k < n) :
    NewRow w0 (w.setCell ⟨w0.heap.size, k, none⟩ (.int .u8 (v : Nat))) n (fun i => if i = k then v else x i) where
  size := by simp [h.size]
  below := h.below.setCell (Nat.le_refl _) _
  cells := fun i hi => by
    by_cases e : i = k
    · subst e
      rw [World.cell?_setCell_same _ _ _ (h.cells i hi)]; simp
    · rw [World.cell?_setCell_other _ _ _ _ (by intro h2; cases h2; exact e rfl), h.cells i hi]; simp [e]
  free := fun i => by rw [World.frozen?_setCell]; exact h.free i
end Go.Proofs.Ytkiojnledimihaa

/- Contract of SameBytes of the statements' kit: of two slices that read alike it returns true, and leaves the world as it was. -/
namespace Go.Proofs.Ytkiojnledimihaa
open Go.RowKit

/-- The slice's value leads to n bytes x; one of no byte may lead anywhere. -/
def StrAt (w : World) (p : Option Addr) (n : Nat) (x : Nat → Nat) : Prop := n = 0 ∨ ∃ b o, p = some ⟨b, o, none⟩ ∧ RowAt w b o n x
end Go.Proofs.Ytkiojnledimihaa

/- Contract of LentBytes of the statements' kit: a copy of the bytes lies in a new block, with three marked bytes of spare room behind it; what was there is as it was. -/
namespace Go.Proofs.Ytkiojnledimihaa
open Go.RowKit

theorem size_setCells (b : Nat) : ∀ (vs : List Value) (o : Nat) (w : World), (w.setCells b o vs).heap.size = w.heap.size
  | [], _, _ => rfl
  | v :: r, o, w => by rw [World.setCells, size_setCells b r, World.size_setCell]
theorem below_setCells (b B : Nat) (hB : B ≤ b) : ∀ (vs : List Value) (o : Nat) (w0 w : World), Below B w0 w → Below B w0 (w.setCells b o vs)
  | [], _, _, _, h => h
  | v :: r, o, w0, w, h => by rw [World.setCells]; exact below_setCells b B hB r (o + 1) w0 _ (h.setCell hB _)

/-- n bytes as values. -/
def valN (n : Nat) (x : Nat → Nat) : List Value := (List.range n).map fun i => .int .u8 (x i : Nat)
theorem valN_len (n : Nat) (x : Nat → Nat) : (valN n x).length = n := by simp [valN]
theorem valN_get (n : Nat) (x : Nat → Nat) (i : Nat) (h : i < n) : (valN n x)[i]? = some (.int .u8 (x i : Nat)) := by simp [valN, h]

/-- What a lent list reads as, its spare room with it. -/
def lentN (n : Nat) (x : Nat → Nat) (i : Nat) : Nat := if i < n then x i else 160 + i % 90

end Go.Proofs.Ytkiojnledimihaa

/- Contract of KeptBytes of the statements' kit: it returns true of a lent list that reads as it was lent. -/
namespace Go.Proofs.Ytkiojnledimihaa
open Go.RowKit

theorem RowAt.below {B : Nat} {w w' : World} {b o n : Nat} {x : Nat → Nat} (h : RowAt w b o n x) (hb : Below B w w') (hlt : b < B) : RowAt w' b o n x :=
  fun i hi => (hb.cell (p := ⟨b, o + i, none⟩) hlt).trans (h i hi)
theorem NewRow.row {w0 w : World} {n : Nat} {x : Nat → Nat} (h : NewRow w0 w n x) : RowAt w w0.heap.size 0 n x :=
  fun i hi => by rw [Nat.zero_add]; exact h.cells i hi


end Go.Proofs.Ytkiojnledimihaa

/- Rows all of whose cells are known to be bytes, or short texts. -/
namespace Go.Proofs.Ytkiojnledimihaa
open Go Go.RowKit
open Go.Proofs (encStr)
open Go.Sort

/-- All cells of the row that a slice leads to, its spare room too, are such. -/
def AllQ (Q : Value → Prop) (e : TypeId) (w : World) (v : Value) : Prop := ∀ g, v.ownBlock = some g → ∀ cur, w.heap[g]? = some (.cells cur e (0, 0)) → ∀ u ∈ cur.toList, Q u
theorem AllQ.nil (Q : Value → Prop) (e : TypeId) (w : World) (n c : Nat) : AllQ Q e w (.slice none n c) := fun g h => by cases h
theorem AllQ.keep {Q : Value → Prop} {e : TypeId} {w w' : World} {v : Value} (h : AllQ Q e w v) (hk : ∀ b, v.ownBlock = some b → w'.heap[b]? = w.heap[b]?) : AllQ Q e w' v := fun g hg cur hc => h g hg cur (by rw [← hk g hg]; exact hc)
theorem mem_zeroCells {z : Value} (hz : z.cells = #[z]) {k : Nat} {u : Value} (h : u ∈ (Builtin.zeroCells z.cells k).toList) : u = z := by
  rw [hz] at h
  unfold Builtin.zeroCells at h
  simp at h
  obtain ⟨i, _, rfl⟩ := h
  simp [Nat.mod_one]
theorem append_typed {w : World} {base : Nat} {t ty e : TypeId} {i : TypeInfo} {z : Value} {bytes : Nat} (Q : Value → Prop) (ht : Try.prog.underlying t = some (.slice e)) (hi : Try.prog.info? e = some i) (hz : i.zero = some z) (hsize : i.size = 1) (hby : i.bytes = bytes) (hzc : z.cells = #[z]) (hQz : Q z)
    {v : Value} {n : Nat} {xs : List Value} (hown : w.ownsRow base e 1 v n xs) (hall : AllQ Q e w v) (hxs : ∀ u ∈ xs, Q u) (a : Addr) (m c : Nat) (news : List Value) (hl : news.length = m) (hnews : ∀ j u, news[j]? = some u → w.cell? (a.add j) = some u) (h1 : ∀ u ∈ news, u.oneCell' = true) (hQ : ∀ u ∈ news, Q u)
    (h63 : n + m ≤ maxLen) (hbytes : (n + m) * bytes ≤ 140737488355328) {v' : Value} {w' : World} (hr : (Builtin.append_ #[t, t] ty #[v, .slice (some a) m c]).run Try.prog w = .ok v' w') : AllQ Q e w' v' := by
  subst hby
  have h63' : n + m ≤ 9223372036854775807 := by simpa only [maxLen] using h63
  have hls : news.length = m * i.size := by rw [hsize, Nat.mul_one]; exact hl
  have hnew : ∀ (w0 : World) (cs : Array Value) (k l : Nat), (∀ u ∈ cs.toList, Q u) → AllQ Q e (w0.alloc (.cells cs e)) (.slice (some ⟨w0.heap.size, 0, none⟩) k l) := fun w0 cs k l hq g hg cur hc => by
    cases hg
    have h2 : CAt (w0.alloc (.cells cs e)) w0.heap.size cs e := CAt.made w0 _ _
    unfold CAt at h2
    rw [h2] at hc; cases hc; exact hq
  have hgrown : ∀ old, ∀ u ∈ (xs.toArray ++ news.toArray ++ Builtin.zeroCells z.cells (grownCap w (n + m) old e - (n + m))).toList, Q u := fun old u hu => by
    simp only [Array.toList_append, List.mem_append] at hu
    rcases hu with (hu | hu) | hu
    · exact hxs u hu
    · exact hQ u hu
    · rw [mem_zeroCells hzc hu]; exact hQz
  rcases hown.2 with ⟨rfl, rfl⟩ | ⟨g, cap, cur, rfl, hbg, hg, hnc, hcm, hcs, htake⟩
  · have hx : xs = [] := List.eq_nil_of_length_eq_zero (by simpa using hown.1)
    subst hx
    by_cases hm : m = 0
    · subst hm
      have hn : news = [] := List.eq_nil_of_length_eq_zero hl
      subst hn
      have he : (Builtin.append_ #[t, t] ty #[.slice none 0 0, .slice (some a) 0 c]).run Try.prog w = .ok (.slice none 0 0) w := by
        simp [Builtin.append_, run_underlying ht, sizeOf, typeInfo, hi, Builtin.lenOf, Builtin.firstCells, loadCells, loadCellsFrom]
      rw [he] at hr; cases hr
      exact AllQ.nil _ _ _ _ _
    · have he := run_append_nil (P := Try.prog) w t ty e i z ht hi hz a m c news hls hnews (by omega) (by omega) (by have hb := hbytes; simp only [Nat.zero_add] at hb; omega)
      rw [he] at hr; cases hr
      refine hnew w.drew _ _ _ fun u hu => ?_
      have := hgrown 0 u
      simp only [Nat.zero_add] at this
      exact this (by simpa using hu)
  · by_cases hroom : n + m ≤ cap
    · have hfit : n * i.size + news.length ≤ cur.size := by rw [hls, hcs, hsize, ← Nat.add_mul]; exact Nat.mul_le_mul_right _ hroom
      have he := run_append_room (P := Try.prog) w t ty e i ht hi g n cap cur hg a m c news hls hnews h1 hroom hfit
      rw [he] at hr; cases hr
      intro g2 hg2 cur2 hc2 u hu
      cases hg2
      rw [setRow_heap w g cur _ e _ hg] at hc2
      cases hc2
      have hold := hall g rfl cur hg
      simp only [List.mem_append] at hu
      rcases hu with (hu | hu) | hu
      · exact hold u (List.mem_of_mem_take hu)
      · exact hQ u hu
      · exact hold u (List.mem_of_mem_drop hu)
    · have holds : ∀ j u, xs[j]? = some u → w.cell? ((⟨g, 0, none⟩ : Addr).add j) = some u := hown.cells (g := g) rfl
      have he := run_append_grow (P := Try.prog) w t ty e i z ht hi hz ⟨g, 0, none⟩ n cap xs (by rw [hown.1, hsize]) holds a m c news hls hnews (by omega) (by omega) (growslice_fits (by omega) hbytes)
      rw [he] at hr; cases hr
      exact hnew w.drew _ _ _ (hgrown cap)
def QS (u : Value) : Prop := ∃ s : Nm, u = sv s ∧ s.length ≤ 512
structure TxtS (B : Nat) (w : World) (v : Value) (ns : List Nm) : Prop where
  t : TxtL B w v ns
  q : AllQ QS 9 w v
  s : ∀ x ∈ ns, x.length ≤ 512
theorem TxtS.nil (B : Nat) (w : World) : TxtS B w (.slice none 0 0) [] := ⟨World.ownsRow_nil _ _ _ _, AllQ.nil _ _ _ _ _, by simp⟩
theorem TxtS.keep {B : Nat} {w w' : World} {v : Value} {ns : List Nm} (h : TxtS B w v ns) (hk : ∀ b, v.ownBlock = some b → w'.heap[b]? = w.heap[b]?) : TxtS B w' v ns := ⟨h.t.keep hk, h.q.keep hk, h.s⟩
theorem TxtS.below {B : Nat} {w w' : World} {v : Value} {ns : List Nm} (h : TxtS B w v ns) (hb : Below w.heap.size w w') : TxtS B w' v ns := h.keep fun b hb' => hb.block b (own_ge h.t b hb').2
theorem TxtS.base {B B2 : Nat} {w : World} {v : Value} {ns : List Nm} (h : TxtS B w v ns) (hB : B2 ≤ B) : TxtS B2 w v ns := ⟨h.t.base hB, h.q, h.s⟩
theorem TxtS.push {B : Nat} {w : World} {v : Value} {ns : List Nm} (h : TxtS B w v ns) (x : Nm) (hx : x.length ≤ 512) (hn : ns.length ≤ 1000000000000) (hB : B ≤ w.heap.size) :
    ∃ v' w', (Builtin.append_ #[30, 30] 30 #[v, .slice (some ⟨w.heap.size, 0, none⟩) 1 1]).run Try.prog (w.alloc (.cells #[sv x] 9)) = .ok v' w' ∧ TxtS B w' v' (ns ++ [x]) ∧
      (w.alloc (.cells #[sv x] 9)).grownBy w' v.ownBlock ∧ (v'.ownBlock = v.ownBlock ∨ v'.ownBlock = some (w.heap.size + 1)) := by
  obtain ⟨v', w', hr, h1, h2, h3⟩ := h.t.push x hn hB
  obtain ⟨i0, hi0, hz0, hz1, hz2⟩ := info_parts Try.info9
  have hs : ∀ y ∈ ns ++ [x], y.length ≤ 512 := fun y hy => by
    rcases List.mem_append.1 hy with hy | hy
    · exact h.s y hy
    · have : y = x := by simpa using hy
      rw [this]; exact hx
  have hb := h.below ((Below.refl w.heap.size w).alloc (Nat.le_refl _) (.cells #[sv x] 9))
  refine ⟨v', w', hr, ⟨h1, ?_, hs⟩, h2, h3⟩
  refine append_typed QS Try.underlying30 hi0 hz0 hz1 hz2 rfl ⟨[], rfl, by simp⟩ hb.t hb.q (fun u hu => ?_) ⟨w.heap.size, 0, none⟩ 1 1 [sv x] rfl (cell_one_new w (sv x) 9) (by intro u hu; simp at hu; subst hu; rfl) (fun u hu => ?_) (by unfold maxLen; omega) (by omega) hr
  · obtain ⟨y, hy, rfl⟩ := List.mem_map.1 hu; exact ⟨y, rfl, h.s y hy⟩
  · simp at hu; subst hu; exact ⟨x, rfl, hx⟩
theorem sort2_any {w : World} {B : Nat} {v : Value} {ss : List Nm} (h : TxtS B w v ss) (hn : ss.length < 4611686018427387904) :
    Calls Try.prog 47 #[v] w fun e w' => e = .returned (.tuple #[]) ∧ TxtS B w' v (ss.mergeSort fun x y => decide (x ≤ y)) ∧ w.grownBy w' v.ownBlock := by
  have hlen : (ss.mergeSort fun x y => decide (x ≤ y)).length = ss.length := List.length_mergeSort _
  have hs : ∀ x ∈ (ss.mergeSort fun x y => decide (x ≤ y)), x.length ≤ 512 := fun x hx => h.s x (List.mem_mergeSort.1 hx)
  rcases h.t.2 with ⟨rfl, h0⟩ | ⟨g, cap, cur, rfl, hbase, hb, h1, h2, h3, h4⟩
  · have : ss = [] := List.eq_nil_of_length_eq_zero h0
    subst this
    refine (Try.slices_Sort_string_none none 0 w).mono ?_
    rintro e w' ⟨rfl, rfl⟩
    exact ⟨rfl, by simpa using h, ⟨rfl, rfl, rfl, Nat.le_refl _, fun _ _ _ => rfl⟩⟩
  · refine (Try.slices_Sort_string g 0 cap ss w (holds_of_block hb (by simpa using h4)) (Array.getElem?_eq_some_iff.1 hb).1 hn).mono ?_
    rintro e w' ⟨rfl, n, os, rfl⟩
    refine ⟨rfl, ⟨?_, ?_, hs⟩, grownBy_sorted _⟩
    · unfold TxtL
      rw [hlen]
      exact ownsRow_sorted hlen hbase hb h1 h2 h3
    · intro g2 hg2 cur2 hc2 u hu
      cases hg2
      rw [heap_sorted _ hb] at hc2
      cases hc2
      have hu' : u ∈ putCells encStr 0 (ss.mergeSort fun x y => decide (x ≤ y)).toArray cur := by simpa using hu
      unfold putCells at hu'
      rw [Array.mem_mapIdx] at hu'
      obtain ⟨i, hi, rfl⟩ := hu'
      split
      · rename_i hc
        have hi2 : i < (ss.mergeSort fun x y => decide (x ≤ y)).toArray.size := by omega
        have e : (ss.mergeSort fun x y => decide (x ≤ y)).toArray[i - 0]! = (ss.mergeSort fun x y => decide (x ≤ y))[i]'(by simpa using hi2) := by
          rw [Nat.sub_zero, getElem!_pos _ i hi2]; simp
        rw [e]
        exact ⟨_, rfl, hs _ (List.getElem_mem _)⟩
      · exact h.q g rfl cur hb _ (by simp)
end Go.Proofs.Ytkiojnledimihaa
