/- Texts laid into one, cut to what is needed: the remark ahead of each part says what is proved there. -/
import Derived.Test.YtelkijiphhoacaaGreatDoorMan
import Derived.Deep.CutRange
/- Contract of finish of package digest: the bytes that are left are filled up and mixed in, with the count. -/
namespace Go.Proofs.YtelkijiphhoacaaGreatDoor.H
open Go Go.RowKit

theorem zero64B : (Tryz.prog.info? 124).map (·.zero) = some (some (.agg (aB 64 zB))) := by kernel_rfl
/-- The count's lowest k bytes at a block's end. -/
def cTo (N : Nat) (f : Nat → Nat) (k i : Nat) : Nat := if i < 64 - k then f i else (8 * N) / 256 ^ (63 - i) % 256
theorem cTo_step (N : Nat) (f : Nat → Nat) (k i : Nat) (hk : k < 8) (hi : i < 64) : upB (cTo N f k) (63 - k) ((8 * N) / 256 ^ k % 256) i = cTo N f (k + 1) i := by
  unfold upB cTo
  by_cases e : i = 63 - k
  · rw [if_pos e, if_neg (by omega), show 63 - i = k by omega]
  · rw [if_neg e]
    by_cases q : i < 64 - k
    · rw [if_pos q, if_pos (by omega)]
    · rw [if_neg q, if_neg (by omega)]
theorem cTo_zero (N : Nat) (f : Nat → Nat) (i : Nat) (hi : i < 64) : f i = cTo N f 0 i := by unfold cTo; rw [if_pos (by omega)]
theorem cTo_end (N : Nat) (f : Nat → Nat) (i : Nat) : cTo N f 8 i = withC N f i := rfl
def fin (s : St) (n : Nat) (x : Nat → Nat) (N : Nat) : St := if n < 56 then comp s (withC N (lastA n x)) else comp (comp s (lastA n x)) (withC N (fun _ => 0))
theorem lastA_lt (n : Nat) (x : Nat → Nat) (hx : ∀ i, i < n → x i < 256) (i : Nat) : lastA n x i < 256 := by
  unfold lastA
  by_cases h : i < n
  · rw [if_pos h]; exact hx i h
  · rw [if_neg h]; split <;> omega
theorem withC_lt (N : Nat) (f : Nat → Nat) (hf : ∀ i, f i < 256) (i : Nat) : withC N f i < 256 := by
  unfold withC
  by_cases h : i < 56
  · rw [if_pos h]; exact hf i
  · rw [if_neg h]; exact Nat.mod_lt _ (by omega)
theorem last_set (n : Nat) (x : Nat → Nat) (i : Nat) : upB (ovl n x zB) n 128 i = lastA n x i := by
  unfold upB ovl lastA zB
  by_cases e : i = n
  · rw [if_pos e, if_neg (by omega), if_pos e]
  · rw [if_neg e]
    by_cases q : i < n
    · rw [if_pos q, if_pos q]
    · rw [if_neg q, if_neg q, if_neg e]
theorem count_byte (C N k : Nat) (hC : C = 8 * N) : ((C : Nat) : Int) / 2 ^ (8 * k) % 256 = (((8 * N) / 256 ^ k % 256 : Nat) : Int) := by
  rw [hC, show (256 : Nat) = 2 ^ 8 by decide, ← Nat.pow_mul]; simp
/-- What finish holds ahead of the count. -/
structure FinM (w w1 : World) (s : St) (f : Nat → Nat) : Prop where
  st : CAt w1 w.heap.size (aW 8 s.get) 121
  res : CAt w1 (w.heap.size + 1) (aW 8 zW) 121
  last : CAt w1 (w.heap.size + 1 + 1) (aB 64 f) 124
  below : Below w.heap.size w w1
set_option maxRecDepth 100000 in
set_option maxHeartbeats 1000000 in
theorem finish_lo (s : St) (p : Option Addr) (n c : Nat) (x : Nat → Nat) (C N : Nat) (w : World) (hC : C = 8 * N) (hn : n ≤ 63) (hx : StrAt w p n x) (hb : ∀ i, i < n → x i < 256) (hp : ∀ a, p = some a → 0 < n → a.block < w.heap.size) (h56 : n < 56) :
    Calls Tryz.prog 77 #[.agg (aW 8 s.get), .slice p n c, .int .u64 ((C : Nat) : Int)] w fun e w' => e = .returned (.agg (aW 8 (fin s n x N).get)) ∧ Below w.heap.size w w' := by
  have HX : Hid (∀ i, i < n → x i < 256) := hb
  have HC := hid hC
  clear hC
  have hz1 : (w.alloc (.cells (aW 8 s.get) 121)).heap.size = w.heap.size + 1 := by simp
  have hz2 : ((w.alloc (.cells (aW 8 s.get) 121)).alloc (.cells (aW 8 zW) 121)).heap.size = w.heap.size + 1 + 1 := by simp
  have d0 := CAt.new' ((w.alloc (.cells (aW 8 s.get) 121)).alloc (.cells (aW 8 zW) 121)) (aB 64 zB) 124 _ hz2
  have d1 := (CAt.new' (w.alloc (.cells (aW 8 s.get) 121)) (aW 8 zW) 121 _ hz1).alloc (.cells (aB 64 zB) 124)
  have d2 := ((CAt.new w (aW 8 s.get) 121).alloc (.cells (aW 8 zW) 121)).alloc (.cells (aB 64 zB) 124)
  have d3 : Below w.heap.size w (((w.alloc (.cells (aW 8 s.get) 121)).alloc (.cells (aW 8 zW) 121)).alloc (.cells (aB 64 zB) 124)) :=
    (((Below.refl _ _).alloc (by omega) _).alloc (by rw [hz1]; omega) _).alloc (by rw [hz2]; omega) _
  have hx2 : StrAt (((w.alloc (.cells (aW 8 s.get) 121)).alloc (.cells (aW 8 zW) 121)).alloc (.cells (aB 64 zB) 124)) p n x := by
    rcases hx with h | ⟨b, o, rfl, hr⟩
    · exact .inl h
    · rcases Nat.eq_zero_or_pos n with h0 | h0
      · exact .inl h0
      · exact .inr ⟨b, o, rfl, hr.below d3 (hp _ rfl h0)⟩
  have hcp := run_copy_blk _ _ 64 _ zB p n c x d0 hx2
  have hmin : min n 64 = n := by omega
  rw [hmin] at hcp
  have M1 : FinM w ((((w.alloc (.cells (aW 8 s.get) 121)).alloc (.cells (aW 8 zW) 121)).alloc (.cells (aB 64 zB) 124)).setRow (w.heap.size + 1 + 1) (aB 64 (ovl n x zB))) s (ovl n x zB) :=
    ⟨d2.rowOther _ (by omega), d1.rowOther _ (by omega), d0.row _, below_setRow d3 (by omega) _⟩
  have HM := hid M1
  clear M1 d0 d1 d2 d3 hx hx2 hb hp hz1 hz2 hmin
  have hn' : (n : Int) < 64 := by omega
  have h56' : (n : Int) < 56 := by omega
  go_enter Tryz.func77, Tryz.ntmps77
  go_upto_region 3 with (first
    | refine wpList_alloc_row rfl 121 rfl _ zero8 ?_
    | refine wpList_alloc_row rfl 124 rfl _ zero64B ?_)
  generalize ((((w.alloc (.cells (aW 8 s.get) 121)).alloc (.cells (aW 8 zW) 121)).alloc (.cells (aB 64 zB) 124)).setRow (w.heap.size + 1 + 1) (aB 64 (ovl n x zB))) = w1 at *
  clear hcp
  have c1 := HM.out.last.cellB n (by omega)
  have c2 := HM.out.last.free n
  have M2 : FinM w (w1.setCell ⟨w.heap.size + 1 + 1, n, none⟩ (.int .u8 128)) s (lastA n x) :=
    ⟨HM.out.st.other _ _ (by simp; omega), HM.out.res.other _ _ (by simp), (HM.out.last.setB n 128).congr (aB_congr 64 fun i _ => last_set n x i), HM.out.below.setCell (by simp; omega) _⟩
  have HM := hid M2
  clear M2
  go_wp2
  go_loopw [22] (fun v wr => ∃ k : Nat, k ≤ 8 ∧ v = .int .i64 k ∧ FinM w wr s (cTo N (lastA n x) k)) (fun v _ => (8 - intOf v).toNat)
  case atStart => exact ⟨0, by omega, rfl, HM.out.st, HM.out.res, HM.out.last.congr (aB_congr 64 fun i hi => cTo_zero N _ i hi), HM.out.below⟩
  case round =>
    clear HM
    obtain ⟨k, hk, rfl, hm⟩ := hrel
    by_cases hlt : k < 8
    · have c1 := hm.last.cellB (63 - k) (by omega)
      have c2 := hm.last.free (63 - k)
      have hv := count_byte C N k HC.out
      have hlt' : (k : Int) < 8 := by omega
      have HM := hid hm
      clear hm
      go_wp2
      go_roundw
      case rel => exact ⟨k + 1, by omega, by go_num, HM.out.st.other _ _ (by simp; omega), HM.out.res.other _ _ (by simp), (HM.out.last.setB (63 - k) _).congr (aB_congr 64 fun i hi => cTo_step N _ k i hlt hi), HM.out.below.setCell (by simp; omega) _⟩
      case measure => simp [intOf]; omega
    · have e : k = 8 := by omega
      have hm2 : FinM w wr s (withC N (lastA n x)) := ⟨hm.st, hm.res, hm.last.congr (aB_congr 64 fun i _ => (by rw [e]; exact cTo_end N _ i)), hm.below⟩
      have HM := hid hm2
      have hge : ¬ (k : Int) < 8 := by omega
      have HL : Hid (∀ i, withC N (lastA n x) i < 256) := fun i => withC_lt N _ (lastA_lt n x HX.out) i
      clear hm hm2 e
      go_wp2_with (first
        | refine wpList_load_row rfl 121 _ rfl _ rfl _ _ _ _ HM.out.st Tryz.underlying121 rfl (size8 _) ?_
        | refine wpList_load_row rfl 124 _ rfl _ rfl _ _ _ _ HM.out.last Tryz.underlying124 rfl (size64B _) ?_
        | (go_at_call 75; refine (mix_any _ _ (fun i _ => HL.out i) _).mono ?_; rintro e w2 ⟨rfl, hbw⟩; have HR := hid (HM.out.res.below hbw HM.out.res.lt); have HB := hid (HM.out.below.trans (hbw.mono HM.out.below.size)); clear hbw)
        | refine wpList_store_row rfl 121 _ _ rfl _ _ rfl rfl _ _ HR.out (size8 _) (by rw [aW_size, aW_size]) (aW_one _ _) ?_)
      have hfin : comp s (withC N (lastA n x)) = fin s n x N := by unfold fin; rw [if_pos h56]
      refine ret_row rfl _ _ _ _ _ rfl rfl (HR.out.row _) Tryz.underlying121 rfl (size8 _) ⟨?_, below_setRow HB.out (by omega) _⟩
      rw [hfin]
set_option maxRecDepth 100000 in
set_option maxHeartbeats 1000000 in
theorem finish_hi (s : St) (p : Option Addr) (n c : Nat) (x : Nat → Nat) (C N : Nat) (w : World) (hC : C = 8 * N) (hn : n ≤ 63) (hx : StrAt w p n x) (hb : ∀ i, i < n → x i < 256) (hp : ∀ a, p = some a → 0 < n → a.block < w.heap.size) (h56 : ¬ n < 56) :
    Calls Tryz.prog 77 #[.agg (aW 8 s.get), .slice p n c, .int .u64 ((C : Nat) : Int)] w fun e w' => e = .returned (.agg (aW 8 (fin s n x N).get)) ∧ Below w.heap.size w w' := by
  have HX : Hid (∀ i, i < n → x i < 256) := hb
  have HC := hid hC
  clear hC
  have hz1 : (w.alloc (.cells (aW 8 s.get) 121)).heap.size = w.heap.size + 1 := by simp
  have hz2 : ((w.alloc (.cells (aW 8 s.get) 121)).alloc (.cells (aW 8 zW) 121)).heap.size = w.heap.size + 1 + 1 := by simp
  have d0 := CAt.new' ((w.alloc (.cells (aW 8 s.get) 121)).alloc (.cells (aW 8 zW) 121)) (aB 64 zB) 124 _ hz2
  have d1 := (CAt.new' (w.alloc (.cells (aW 8 s.get) 121)) (aW 8 zW) 121 _ hz1).alloc (.cells (aB 64 zB) 124)
  have d2 := ((CAt.new w (aW 8 s.get) 121).alloc (.cells (aW 8 zW) 121)).alloc (.cells (aB 64 zB) 124)
  have d3 : Below w.heap.size w (((w.alloc (.cells (aW 8 s.get) 121)).alloc (.cells (aW 8 zW) 121)).alloc (.cells (aB 64 zB) 124)) :=
    (((Below.refl _ _).alloc (by omega) _).alloc (by rw [hz1]; omega) _).alloc (by rw [hz2]; omega) _
  have hx2 : StrAt (((w.alloc (.cells (aW 8 s.get) 121)).alloc (.cells (aW 8 zW) 121)).alloc (.cells (aB 64 zB) 124)) p n x := by
    rcases hx with h | ⟨b, o, rfl, hr⟩
    · exact .inl h
    · rcases Nat.eq_zero_or_pos n with h0 | h0
      · exact .inl h0
      · exact .inr ⟨b, o, rfl, hr.below d3 (hp _ rfl h0)⟩
  have hcp := run_copy_blk _ _ 64 _ zB p n c x d0 hx2
  have hmin : min n 64 = n := by omega
  rw [hmin] at hcp
  have M1 : FinM w ((((w.alloc (.cells (aW 8 s.get) 121)).alloc (.cells (aW 8 zW) 121)).alloc (.cells (aB 64 zB) 124)).setRow (w.heap.size + 1 + 1) (aB 64 (ovl n x zB))) s (ovl n x zB) :=
    ⟨d2.rowOther _ (by omega), d1.rowOther _ (by omega), d0.row _, below_setRow d3 (by omega) _⟩
  have HM := hid M1
  clear M1 d0 d1 d2 d3 hx hx2 hb hp hz1 hz2 hmin
  have hn' : (n : Int) < 64 := by omega
  have h56' : ¬ (n : Int) < 56 := by omega
  go_enter Tryz.func77, Tryz.ntmps77
  go_upto_region 3 with (first
    | refine wpList_alloc_row rfl 121 rfl _ zero8 ?_
    | refine wpList_alloc_row rfl 124 rfl _ zero64B ?_)
  generalize ((((w.alloc (.cells (aW 8 s.get) 121)).alloc (.cells (aW 8 zW) 121)).alloc (.cells (aB 64 zB) 124)).setRow (w.heap.size + 1 + 1) (aB 64 (ovl n x zB))) = w1 at *
  clear hcp
  have c1 := HM.out.last.cellB n (by omega)
  have c2 := HM.out.last.free n
  have M2 : FinM w (w1.setCell ⟨w.heap.size + 1 + 1, n, none⟩ (.int .u8 128)) s (lastA n x) :=
    ⟨HM.out.st.other _ _ (by simp; omega), HM.out.res.other _ _ (by simp), (HM.out.last.setB n 128).congr (aB_congr 64 fun i _ => last_set n x i), HM.out.below.setCell (by simp; omega) _⟩
  have HM := hid M2
  clear M2
  go_wp2_with (first
    | refine wpList_load_row rfl 121 _ rfl _ rfl _ _ _ _ HM.out.st Tryz.underlying121 rfl (size8 _) ?_
    | refine wpList_load_row rfl 124 _ rfl _ rfl _ _ _ _ HM.out.last Tryz.underlying124 rfl (size64B _) ?_
    | (go_at_call 75; refine (mix_any _ _ (fun i _ => lastA_lt n x HX.out i) _).mono ?_; rintro e w2 ⟨rfl, hbw⟩; have HM := hid (FinM.mk (HM.out.st.below hbw HM.out.st.lt) (HM.out.res.below hbw HM.out.res.lt) (HM.out.last.below hbw HM.out.last.lt) (HM.out.below.trans (hbw.mono HM.out.below.size))); clear hbw)
    | (refine wpList_store_row rfl 121 _ _ rfl _ _ rfl rfl _ _ HM.out.st (size8 _) (by rw [aW_size, aW_size]) (aW_one _ _) ?_; have HM := hid (FinM.mk (HM.out.st.row (aW 8 (comp s (lastA n x)).get)) (HM.out.res.rowOther _ (by omega)) (HM.out.last.rowOther _ (by omega)) (below_setRow HM.out.below (by omega) _)))
    | refine wpList_build_to rfl 124 _ rfl (aB 64 zB) (by kernel_rfl) ?_
    | (refine wpList_store_row rfl 124 _ _ rfl _ _ rfl rfl _ _ HM.out.last (size64B _) (by rw [aB_size, aB_size]) (aB_one _ _) ?_; have HM := hid (FinM.mk (HM.out.st.rowOther (aB 64 zB) (by omega)) (HM.out.res.rowOther _ (by omega)) (HM.out.last.row _) (below_setRow HM.out.below (by omega) _))))
  go_loopw [22] (fun v wr => ∃ k : Nat, k ≤ 8 ∧ v = .int .i64 k ∧ FinM w wr (comp s (lastA n x)) (cTo N zB k)) (fun v _ => (8 - intOf v).toNat)
  case atStart => exact ⟨0, by omega, rfl, HM.out.st, HM.out.res, HM.out.last.congr (aB_congr 64 fun i hi => cTo_zero N _ i hi), HM.out.below⟩
  case round =>
    clear HM
    obtain ⟨k, hk, rfl, hm⟩ := hrel
    by_cases hlt : k < 8
    · have c1 := hm.last.cellB (63 - k) (by omega)
      have c2 := hm.last.free (63 - k)
      have hv := count_byte C N k HC.out
      have hlt' : (k : Int) < 8 := by omega
      have HM := hid hm
      clear hm
      go_wp2
      go_roundw
      case rel => exact ⟨k + 1, by omega, by go_num, HM.out.st.other _ _ (by simp; omega), HM.out.res.other _ _ (by simp), (HM.out.last.setB (63 - k) _).congr (aB_congr 64 fun i hi => cTo_step N _ k i hlt hi), HM.out.below.setCell (by simp; omega) _⟩
      case measure => simp [intOf]; omega
    · have e : k = 8 := by omega
      have hm2 : FinM w wr (comp s (lastA n x)) (withC N zB) := ⟨hm.st, hm.res, hm.last.congr (aB_congr 64 fun i _ => (by rw [e]; exact cTo_end N _ i)), hm.below⟩
      have HM := hid hm2
      have hge : ¬ (k : Int) < 8 := by omega
      have HL : Hid (∀ i, withC N zB i < 256) := fun i => withC_lt N _ (fun _ => by unfold zB; omega) i
      clear hm hm2 e
      go_wp2_with (first
        | refine wpList_load_row rfl 121 _ rfl _ rfl _ _ _ _ HM.out.st Tryz.underlying121 rfl (size8 _) ?_
        | refine wpList_load_row rfl 124 _ rfl _ rfl _ _ _ _ HM.out.last Tryz.underlying124 rfl (size64B _) ?_
        | (go_at_call 75; refine (mix_any _ _ (fun i _ => HL.out i) _).mono ?_; rintro e w2 ⟨rfl, hbw⟩; have HR := hid (HM.out.res.below hbw HM.out.res.lt); have HB := hid (HM.out.below.trans (hbw.mono HM.out.below.size)); clear hbw)
        | refine wpList_store_row rfl 121 _ _ rfl _ _ rfl rfl _ _ HR.out (size8 _) (by rw [aW_size, aW_size]) (aW_one _ _) ?_)
      have hfin : comp (comp s (lastA n x)) (withC N zB) = fin s n x N := by unfold fin; rw [if_neg h56]; rfl
      refine ret_row rfl _ _ _ _ _ rfl rfl (HR.out.row _) Tryz.underlying121 rfl (size8 _) ⟨?_, below_setRow HB.out (by omega) _⟩
      rw [hfin]
theorem finish_any (s : St) (p : Option Addr) (n c : Nat) (x : Nat → Nat) (C N : Nat) (w : World) (hC : C = 8 * N) (hn : n ≤ 63) (hx : StrAt w p n x) (hb : ∀ i, i < n → x i < 256) (hp : ∀ a, p = some a → 0 < n → a.block < w.heap.size) :
    Calls Tryz.prog 77 #[.agg (aW 8 s.get), .slice p n c, .int .u64 ((C : Nat) : Int)] w fun e w' => e = .returned (.agg (aW 8 (fin s n x N).get)) ∧ Below w.heap.size w w' := by
  by_cases h : n < 56
  · exact finish_lo s p n c x C N w hC hn hx hb hp h
  · exact finish_hi s p n c x C N w hC hn hx hb hp h
end Go.Proofs.YtelkijiphhoacaaGreatDoor.H

/- Contract of Sum of package digest: the digest of any bytes; what was there is as it was. -/
namespace Go.Proofs.YtelkijiphhoacaaGreatDoor.H
open Go Go.RowKit

theorem add_plain' (b o l : Nat) : (⟨b, o, none⟩ : Addr).add l = ⟨b, o + l, none⟩ := by unfold Addr.add; split <;> simp_all
theorem StrAt.drop {w : World} {p p2 : Option Addr} {n c l : Nat} {x : Nat → Nat} (h : StrAt w p n x) (hc : n ≤ c) (hp : ∀ b o, p = some ⟨b, o, none⟩ → l < c → p2 = some ⟨b, o + l, none⟩) : StrAt w p2 (n - l) (fun j => x (l + j)) := by
  by_cases h0 : n - l = 0
  · exact .inl h0
  · rcases h with h | ⟨b, o, rfl, hr⟩
    · omega
    · exact .inr ⟨b, o + l, hp b o rfl (by omega), fun i hi => by rw [Nat.add_assoc]; exact hr (l + i) (by omega)⟩
theorem StrAt.congr {w : World} {p : Option Addr} {n : Nat} {x y : Nat → Nat} (h : StrAt w p n x) (e : ∀ j, j < n → x j = y j) : StrAt w p n y := by
  rcases h with h | ⟨b, o, rfl, hr⟩
  · exact .inl h
  · exact .inr ⟨b, o, rfl, fun i hi => by rw [← e i hi]; exact hr i hi⟩
theorem cell_lt {w : World} {a : Addr} {v : Value} (h : w.cell? a = some v) : a.block < w.heap.size := by
  rcases Nat.lt_or_ge a.block w.heap.size with h1 | h1
  · exact h1
  · simp [World.cell?, Array.getElem?_eq_none h1] at h
theorem StrAt.lt {w : World} {p : Option Addr} {n : Nat} {x : Nat → Nat} (h : StrAt w p n x) (a : Addr) (ha : p = some a) (hn : 0 < n) : a.block < w.heap.size := by
  rcases h with h | ⟨b, o, rfl, hr⟩
  · omega
  · cases ha; exact cell_lt (hr 0 hn)
theorem StrAt.below {w w' : World} {p : Option Addr} {n : Nat} {x : Nat → Nat} (h : StrAt w p n x) (hb : Below w.heap.size w w') : StrAt w' p n x := by
  rcases Nat.eq_zero_or_pos n with h0 | h0
  · exact .inl h0
  · have hl := h.lt
    rcases h with h | ⟨b, o, rfl, hr⟩
    · exact .inl h
    · exact .inr ⟨b, o, rfl, hr.below hb (hl _ rfl h0)⟩
def lenV : Value → Nat | .slice _ n _ => n | _ => 0
structure SumM (w wr : World) (g3 g5 : Nat) (s : St) : Prop where
  st : CAt wr g3 (aW 8 s.get) 121
  blk : ∃ y, CAt wr g5 (aB 64 y) 124
  res : CAt wr w.heap.size (aB 32 zB) 66
  below : Below w.heap.size w wr
  h3 : w.heap.size < g3
  h5 : g3 < g5
set_option maxRecDepth 100000 in
set_option maxHeartbeats 1000000 in
theorem sum_any (p : Option Addr) (n c : Nat) (x : Nat → Nat) (w : World) (hn : n ≤ 1000000) (hc : n ≤ c) (hx : StrAt w p n x) (hb : ∀ i, i < n → x i < 256) :
    Calls Tryz.prog 51 #[.slice p n c] w fun e w' => e = .returned (.agg (aB 32 (sha n x))) ∧ Below w.heap.size w w' := by
  have HX := hid hx
  have HBX := hid hb
  have HCC := hid hc
  clear hx hb hc
  have hn' : (n : Int) ≤ 1000000 := by omega
  go_enter Tryz.func51, Tryz.ntmps51
  go_upto_region 2 with (first
    | refine wpList_alloc_row rfl 66 rfl _ zero32 ?_
    | refine wpList_alloc_row rfl 121 rfl _ zero8 ?_
    | (go_at_call 74; refine (firstWords_any _).mono ?_; rintro e w1 ⟨rfl, hbw⟩)
    | refine wpList_store_row rfl 121 _ _ rfl _ _ rfl rfl _ _ (CAt.new _ _ _) (size8 _) (by rw [aW_size, aW_size]) (aW_one _ _) ?_)
  have hz : (w.alloc (.cells (aB 32 zB) 66)).heap.size = w.heap.size + 1 := by simp
  have r0 : CAt w1 w.heap.size (aB 32 zB) 66 := (CAt.new w (aB 32 zB) 66).below hbw (by rw [hz]; omega)
  have b0 : Below w.heap.size w w1 := ((Below.refl _ _).alloc (by omega) _).trans (hbw.mono (by rw [hz]; omega))
  have g0 : w.heap.size < w1.heap.size := by have := hbw.size; rw [hz] at this; omega
  have hz3 : ((w1.alloc (.cells (aW 8 zW) 121)).setRow w1.heap.size (aW 8 st0.get)).heap.size = w1.heap.size + 1 := by simp
  have r1 : CAt ((w1.alloc (.cells (aW 8 zW) 121)).setRow w1.heap.size (aW 8 st0.get)) w1.heap.size (aW 8 st0.get) 121 := (CAt.new w1 (aW 8 zW) 121).row _
  have r2 := ((r0.alloc (.cells (aW 8 zW) 121)).rowOther (k := w1.heap.size) (aW 8 st0.get) (by omega))
  have b2 : Below w.heap.size w ((w1.alloc (.cells (aW 8 zW) 121)).setRow w1.heap.size (aW 8 st0.get)) := below_setRow (b0.alloc (by omega) _) (by omega) _
  clear r0 b0 hbw hz
  generalize ((w1.alloc (.cells (aW 8 zW) 121)).setRow w1.heap.size (aW 8 st0.get)) = w3 at *
  generalize w1.heap.size = g3 at *
  have M0 : SumM w (w3.alloc (.cells (aB 64 zB) 124)) g3 (g3 + 1) (hs x 0) := ⟨r1.alloc _, ⟨zB, CAt.new' w3 (aB 64 zB) 124 _ hz3⟩, r2.alloc _, b2.alloc (by omega) _, g0, by omega⟩
  have HM := hid M0
  have HZ3 := hid hz3
  clear M0 r1 r2 b2 g0
  simp only [Act.put, List.setIfInBounds_toArray, List.set_cons_succ, List.set_cons_zero]
  go_wp2_with (refine wpList_alloc_row rfl 124 rfl _ zero64B ?_)
  obtain ⟨C, hC⟩ : ∃ C, C = 8 * n := ⟨_, rfl⟩
  have hCn : (n : Int) * 8 = (C : Int) := by omega
  have hz4 := HZ3.out
  simp only [Act.put, List.setIfInBounds_toArray, List.set_cons_succ, List.set_cons_zero, hCn, hz4]
  have HC := hid hC
  clear hC hCn hz3 hz4 HZ3
  go_loopw [0] (fun v wr => ∃ (q : Nat) (p' : Option Addr) (m c' : Nat), 64 * q + m = n ∧ v = .slice p' m c' ∧ m ≤ c' ∧ StrAt w p' m (fun i => x (64 * q + i)) ∧ SumM w wr g3 (g3 + 1) (hs x q)) (fun v _ => lenV v)
  case atStart => exact ⟨0, p, n, c, by omega, rfl, HCC.out, HX.out.congr (fun j _ => by simp), HM.out⟩
  case round =>
    clear HM HX HCC
    obtain ⟨q, p', m, c', hqm, rfl, hmc, hstr, hm⟩ := hrel
    have HQ := hid hqm
    have HMC := hid hmc
    have hm6 : (m : Int) ≤ 1000000 := by omega
    by_cases hge : 64 ≤ m
    · obtain ⟨y, hy⟩ := hm.blk
      have hcp := run_copy_blk wr (g3 + 1) 64 124 y p' m c' _ hy (hstr.below hm.below)
      rw [show min m 64 = 64 by omega] at hcp
      have M1 : SumM w (wr.setRow (g3 + 1) (aB 64 (ovl 64 (fun i => x (64 * q + i)) y))) g3 (g3 + 1) (hs x q) :=
        ⟨hm.st.rowOther _ (by omega), ⟨_, hy.row _⟩, hm.res.rowOther _ (by have := hm.h3; omega), below_setRow hm.below (by have := hm.h3; omega) _, hm.h3, hm.h5⟩
      have B1 : CAt (wr.setRow (g3 + 1) (aB 64 (ovl 64 (fun i => x (64 * q + i)) y))) (g3 + 1) (aB 64 (fun i => x (64 * q + i))) 124 :=
        (hy.row _).congr (aB_congr 64 fun i hi => by unfold ovl; rw [if_pos hi])
      have HS : Hid (StrAt w (if c' = 64 then p' else Option.map (fun a => { block := a.block, off := a.off + 64 }) p') (m - 64) (fun i => x (64 * (q + 1) + i))) :=
        (hstr.drop (l := 64) hmc (fun b o e h => by subst e; rw [if_neg (by omega)]; rfl)).congr (fun j _ => by congr 1; omega)
      have HM := hid M1
      have HB := hid B1
      have hge' : (64 : Int) ≤ (m : Int) := by omega
      clear M1 B1 hm hy hstr hqm hmc
      go_upto_region 6 with fail
      clear hcp
      generalize (wr.setRow (g3 + 1) (aB 64 (ovl 64 (fun i => x (64 * q + i)) y))) = w4 at *
      have HLT : Hid (∀ i, i < 64 → x (64 * q + i) < 256) := fun i hi => HBX.out _ (by have := HQ.out; omega)
      go_wp2_with (first
        | refine wpList_load_row rfl 121 _ rfl _ rfl _ _ _ _ HM.out.st Tryz.underlying121 rfl (size8 _) ?_
        | refine wpList_load_row rfl 124 _ rfl _ rfl _ _ _ _ HB.out Tryz.underlying124 rfl (size64B _) ?_
        | (go_at_call 75; refine (mix_any _ _ HLT.out _).mono ?_; rintro e w5 ⟨rfl, hbw⟩; have HM5 := hid (SumM.mk (HM.out.st.below hbw HM.out.st.lt) ⟨_, HB.out.below hbw HB.out.lt⟩ (HM.out.res.below hbw HM.out.res.lt) (HM.out.below.trans (hbw.mono HM.out.below.size)) HM.out.h3 HM.out.h5); clear hbw)
        | refine wpList_store_row rfl 121 _ _ rfl _ _ rfl rfl _ _ HM5.out.st (size8 _) (by rw [aW_size, aW_size]) (aW_one _ _) ?_)
      go_roundw
      case rel =>
        refine ⟨q + 1, _, m - 64, c' - 64, by have := HQ.out; omega, rfl, by have := HMC.out; omega, HS.out, ?_⟩
        obtain ⟨y2, hy2⟩ := HM5.out.blk
        exact ⟨HM5.out.st.row _, ⟨_, hy2.rowOther _ (by omega)⟩, HM5.out.res.rowOther _ (by have := HM5.out.h3; omega), below_setRow HM5.out.below (by have := HM5.out.h3; omega) _, HM5.out.h3, HM5.out.h5⟩
      case measure => simp [lenV]; omega
    · have hlt' : ¬ (64 : Int) ≤ (m : Int) := by omega
      have HM := hid hm
      have HS := hid hstr
      have HS2 := hid (hstr.below hm.below)
      have hq : q = n / 64 := by omega
      have hm3 : m = n % 64 := by omega
      have hf : fin (hs x q) m (fun i => x (64 * q + i)) n = shaSt n x := by
        rw [hq, hm3]; unfold fin
        by_cases h : n % 64 < 56
        · rw [if_pos h, shaSt_short n x h]
        · rw [if_neg h, shaSt_long n x (by omega)]
      have HF := hid hf
      have HM63 : Hid (m ≤ 63) := by show m ≤ 63; omega
      clear hm hstr hqm hmc hq hm3 hf
      go_wp2_with (first
        | refine wpList_load_row rfl 121 _ rfl _ rfl _ _ _ _ HM.out.st Tryz.underlying121 rfl (size8 _) ?_
        | (go_at_call 77; refine (finish_any _ _ _ _ _ _ n _ HC.out HM63.out HS2.out (fun i hi => HBX.out _ (by have := HQ.out; omega)) (fun a ha hpos => HS2.out.lt a ha hpos)).mono ?_; rintro e w5 ⟨rfl, hbw⟩; rw [HF.out]; have HR := hid (HM.out.res.below hbw HM.out.res.lt); have HB5 := hid (HM.out.below.trans (hbw.mono HM.out.below.size)); clear hbw)
        | (go_at_call 76; refine (written_any _ _).mono ?_; rintro e w6 ⟨rfl, hbw⟩; have HR6 := hid (HR.out.below hbw HR.out.lt); have HB6 := hid (HB5.out.trans (hbw.mono HB5.out.size)); clear hbw)
        | refine wpList_store_row rfl 66 _ _ rfl _ _ rfl rfl _ _ HR6.out (size32 _) (by rw [aB_size, aB_size]) (aB_one _ _) ?_)
      exact ret_row rfl _ _ _ _ _ rfl rfl (HR6.out.row _) Tryz.underlying66 rfl (size32 _) ⟨rfl, below_setRow HB6.out (by omega) _⟩
end Go.Proofs.YtelkijiphhoacaaGreatDoor.H

/- Contract of block of the document's own answer: the eight numbers behind a block that stands in a list from a place on. -/
namespace Go.Proofs.YtelkijiphhoacaaGreatDoor.H
open Go Go.RowKit

theorem zero8r : (Tryz.prog.info? 91).map (·.zero) = some (some (.agg (aW 8 zW))) := by kernel_rfl
theorem size8r (f : Nat → BitVec 32) : (Tryz.prog.info? 91).map (·.size) = some (aW 8 f).size := by rw [aW_size]; kernel_rfl
structure BlkM (w wr : World) (s : St) (f : Nat → BitVec 32) : Prop where
  h : CAt wr w.heap.size (aW 8 s.get) 91
  k : CAt wr (w.heap.size + 1) (aW 64 kk) 93
  r : CAt wr (w.heap.size + 1 + 1) (aW 8 zW) 91
  v : CAt wr (w.heap.size + 1 + 1 + 1) (aW 64 f) 93
  below : Below w.heap.size w wr
theorem BlkM.drewN {w wr : World} {s : St} {f : Nat → BitVec 32} (h : BlkM w wr s f) (m : Nat) : BlkM w (wr.drewN m) s f :=
  ⟨h.h.drewN m, h.k.drewN m, h.r.drewN m, h.v.drewN m, Below.drewN' h.below m⟩
theorem BlkM.set {w wr : World} {s : St} {f : Nat → BitVec 32} (h : BlkM w wr s f) (i : Nat) (u : BitVec 32) : BlkM w (wr.setCell ⟨w.heap.size + 1 + 1 + 1, i, none⟩ (.int .u32 (wv u))) s (upW f i u) :=
  ⟨h.h.other _ _ (by show w.heap.size ≠ w.heap.size + 1 + 1 + 1; omega), h.k.other _ _ (by show w.heap.size + 1 ≠ w.heap.size + 1 + 1 + 1; omega), h.r.other _ _ (by show w.heap.size + 1 + 1 ≠ w.heap.size + 1 + 1 + 1; omega), h.v.setW i u, h.below.setCell (by show w.heap.size ≤ w.heap.size + 1 + 1 + 1; omega) _⟩
theorem BlkM.congr {w wr : World} {s : St} {f g : Nat → BitVec 32} (h : BlkM w wr s f) (e : ∀ i, i < 64 → f i = g i) : BlkM w wr s g := ⟨h.h, h.k, h.r, h.v.congr (aW_congr 64 e), h.below⟩
theorem BlkM.alloc {w wr : World} {s : St} {f : Nat → BitVec 32} (h : BlkM w wr s f) (o : Obj) : BlkM w (wr.alloc o) s f :=
  ⟨h.h.alloc o, h.k.alloc o, h.r.alloc o, h.v.alloc o, h.below.alloc h.below.size o⟩
theorem BlkM.row {w wr : World} {s : St} {f : Nat → BitVec 32} (h : BlkM w wr s f) (g : Nat) (hg : w.heap.size + 1 + 1 + 1 < g) (cs : Array Value) : BlkM w (wr.setRow g cs) s f :=
  ⟨h.h.rowOther _ (by omega), h.k.rowOther _ (by omega), h.r.rowOther _ (by omega), h.v.rowOther _ (by omega), below_setRow h.below (by omega) _⟩
theorem upW_zero (y : Nat → Nat) (t i : Nat) : schTo y t i = upW (schTo y t) t (wpart y t 0) i := by
  unfold upW; by_cases e : i = t
  · rw [if_pos e, e]; unfold schTo; rw [if_neg (by omega)]; rfl
  · rw [if_neg e]
theorem upW_up (f : Nat → BitVec 32) (t : Nat) (a b : BitVec 32) (i : Nat) : upW (upW f t a) t b i = upW f t b i := by
  unfold upW; by_cases e : i = t
  · rw [if_pos e, if_pos e]
  · rw [if_neg e, if_neg e, if_neg e]
theorem upW_word (y : Nat → Nat) (t : Nat) (ht : t < 16) (i : Nat) : upW (schTo y t) t (wpart y t 4) i = schTo y (t + 1) i := by
  unfold upW schTo; by_cases e : i = t
  · rw [if_pos e, if_pos (by omega), e, sch_low y t ht]; rfl
  · rw [if_neg e]
    by_cases q : i < t
    · rw [if_pos q, if_pos (by omega)]
    · rw [if_neg q, if_neg (by omega)]
set_option maxRecDepth 100000 in
set_option maxHeartbeats 4000000 in
theorem rblock_any (s : St) (b o n c at' : Nat) (x : Nat → Nat) (w : World) (hn : n ≤ 2000000) (hr : RowAt w b o n x) (hb : ∀ i, i < n → x i < 256) (hat : at' + 64 ≤ n) :
    Calls Tryz.prog 43 #[.agg (aW 8 s.get), .agg (aW 64 kk), .slice (some ⟨b, o, none⟩) n c, .int .i64 (at' : Int)] w fun e w' => e = .returned (.agg (aW 8 (comp s (fun i => x (at' + i))).get)) ∧ Below w.heap.size w w' := by
  have hbl : b < w.heap.size := cell_lt (hr 0 (by omega))
  have HR := hid hr
  have HX := hid hb
  have hat2 : (at' : Int) + 64 ≤ (n : Int) := by omega
  have hn2 : (n : Int) ≤ 2000000 := by omega
  clear hr hb
  obtain ⟨y, hy⟩ : ∃ y : Nat → Nat, y = fun i => x (at' + i) := ⟨_, rfl⟩
  have HY := hid hy
  rw [← hy]
  clear hy
  have M0 : BlkM w ((((w.alloc (.cells (aW 8 s.get) 91)).alloc (.cells (aW 64 kk) 93)).alloc (.cells (aW 8 zW) 91)).alloc (.cells (aW 64 zW) 93)) s (schTo y 0) :=
    ⟨(((CAt.new w _ _).alloc _).alloc _).alloc _, ((CAt.new' (w.alloc _) _ _ _ (by simp)).alloc _).alloc _, (CAt.new' ((w.alloc _).alloc _) _ _ _ (by simp)).alloc _,
      (CAt.new' (((w.alloc _).alloc _).alloc _) (aW 64 zW) _ _ (by simp)).congr (aW_congr 64 fun i _ => by unfold schTo zW; rw [if_neg (by omega)]), ((((Below.refl _ _).alloc (by omega) _).alloc (by simp) _).alloc (by simp; omega) _).alloc (by simp; omega) _⟩
  have HM := hid M0
  clear M0
  go_enter Tryz.func43, Tryz.ntmps43
  go_wp2_with (first
    | refine wpList_alloc_row rfl 91 rfl _ zero8r ?_
    | refine wpList_alloc_row rfl 93 rfl _ zero64 ?_)
  go_loopw [10] (fun v wr => ∃ t : Nat, t ≤ 64 ∧ v = .int .i64 t ∧ BlkM w wr s (schTo y t)) (fun v _ => (64 - intOf v).toNat)
  case atStart => exact ⟨0, by omega, rfl, HM.out⟩
  case round =>
    clear HM
    obtain ⟨t, ht, rfl, hm⟩ := hrel
    by_cases hlt : t < 64
    · have hlt' : (t : Int) < 64 := by omega
      by_cases h16 : t < 16
      · have h16' : (t : Int) < 16 := by omega
        have HM := hid hm
        clear hm
        go_wp2
        go_loopw [11] (fun v wr => ∃ i : Nat, i ≤ 4 ∧ v = .int .i64 i ∧ BlkM w wr s (upW (schTo y t) t (wpart y t i))) (fun v _ => (4 - intOf v).toNat)
        case atStart => exact ⟨0, by omega, rfl, HM.out.congr (fun i _ => upW_zero y t i)⟩
        case round =>
          clear HM
          obtain ⟨i, hi, rfl, hm⟩ := hrel
          by_cases hl4 : i < 4
          · have hl4' : (i : Int) < 4 := by omega
            have c1 := hm.v.cellW t hlt
            have e0 : upW (schTo y t) t (wpart y t i) t = wpart y t i := by unfold upW; rw [if_pos rfl]
            rw [e0] at c1
            have c2 := hm.v.free t
            have c3 := (HR.out.below hm.below hbl) (at' + 4 * t + i) (by omega)
            have hxb := byte_word (x (at' + 4 * t + i)) (HX.out _ (by omega))
            rw [hxb] at c3
            clear hxb
            generalize hW : wpart y t i = W at *
            have HW := hid hW
            obtain ⟨Z, hZ⟩ : ∃ Z : BitVec 32, Z = BitVec.ofNat 32 (x (at' + 4 * t + i)) := ⟨_, rfl⟩
            rw [← hZ] at c3
            have HZ := hid hZ
            have a1 := wshl W 8
            have a1' := wshlW W 8
            simp only [Int.reducePow] at a1 a1'
            have a2 := wmod Z
            have a2' := wmodW Z
            have a3 := wor (W <<< 8) Z
            have HM := hid hm
            clear hm hW hZ e0
            go_wp2_with fail
            refine wp_region_last_lit (by kernel_rfl) (by kernel_rfl) ?_
            dsimp only [List.dropLast, List.getLast]
            repeat (go_big_quiet_step (fail))
            refine wpQuiet_nil ?_
            intro nr
            have HM := hid (HM.out.drewN nr)
            clear c1 c2 c3
            generalize wr.drewN nr = w6 at *
            have c9 := HM.out.v.free t
            have c10 := HM.out.v.cellW t hlt
            go_wp2
            go_roundw
            case rel =>
              refine ⟨i + 1, by omega, by go_num, (HM.out.set t _).congr (fun j _ => ?_)⟩
              have hyy : y (4 * t + i) = x (at' + 4 * t + i) := by
                rw [HY.out]
                show x (at' + (4 * t + i)) = _
                rw [Nat.add_assoc]
              rw [upW_up, wpart, HW.out, HZ.out, hyy]
            case measure => simp [intOf]; omega
          · have e : i = 4 := by omega
            have hl4' : ¬ (i : Int) < 4 := by omega
            have hm2 : BlkM w wr s (schTo y (t + 1)) := hm.congr (fun j _ => by rw [e]; exact upW_word y t h16 j)
            have HM := hid hm2
            clear hm hm2 e
            go_wp2
            go_roundw
            case rel => exact ⟨t + 1, by omega, by go_num, HM.out⟩
            case measure => simp [intOf]; omega
      · have h16' : ¬ (t : Int) < 16 := by omega
        have c1 := hm.v.cellW (t - 2) (by omega)
        have c2 := hm.v.cellW (t - 7) (by omega)
        have c3 := hm.v.cellW (t - 15) (by omega)
        have c4 := hm.v.cellW (t - 16) (by omega)
        have h16n : 16 ≤ t := by omega
        have HM := hid hm
        clear hm
        go_wp2_with fail
        have a1 := wadd
        have a1' := waddW
        have a2 := wxor
        have a3 := wshr (schTo y t (t - 2)) 10
        have a4 := wshr (schTo y t (t - 15)) 3
        simp only [Int.reducePow] at a3 a4
        go_quiet ((go_at_call 59; refine Calls.quiet_of (rright_i _ _ (by decide) (by decide) _)))
        have HM := hid (HM.out.drewN nq)
        clear c1 c2 c3 c4
        generalize wr.drewN nq = w4 at *
        have c1 := HM.out.v.cellW (t - 2) (by omega)
        go_wp2_with fail
        go_quiet ((go_at_call 59; refine Calls.quiet_of (rright_i _ _ (by decide) (by decide) _)))
        have HM := hid (HM.out.drewN nq)
        clear c1
        generalize w4.drewN nq = w5 at *
        have c2 := HM.out.v.cellW (t - 7) (by omega)
        have c4 := HM.out.v.cellW (t - 16) (by omega)
        have c9 := HM.out.v.free t
        go_wp2_with fail
        refine wp_region_last_lit (by kernel_rfl) (by kernel_rfl) ?_
        dsimp only [List.dropLast, List.getLast]
        repeat (go_big_quiet_step (fail))
        refine wpQuiet_nil ?_
        intro nr
        have HM := hid (HM.out.drewN nr)
        clear c2 c4 c9
        generalize w5.drewN nr = w6 at *
        have c9 := HM.out.v.free t
        have c10 := HM.out.v.cellW t hlt
        go_wp2
        go_roundw
        case rel => exact ⟨t + 1, by omega, by go_num, (HM.out.set t _).congr (fun j _ => schTo_step y t h16n j)⟩
        case measure => simp [intOf]; omega
    · have e : t = 64 := by omega
      have hge : ¬ (t : Int) < 64 := by omega
      have hm2 : BlkM w wr s (sch y) := hm.congr (fun j hj => schTo_at y t j (by omega))
      have HM := hid hm2
      clear hm hm2 e
      go_upto_region 14 with (first
        | refine wpList_load_row rfl 91 _ rfl _ rfl _ _ _ _ HM.out.h Tryz.underlying91 rfl (size8r _) ?_
        | refine wpList_alloc_row rfl 91 rfl _ zero8r ?_
        | refine wpList_store_row rfl 91 _ _ rfl _ _ rfl rfl _ _ (CAt.new _ _ _) (size8r _) (by simp only [aW_size]) (aW_one _ _) ?_)
      have hg4 : w.heap.size + 1 + 1 + 1 < wr.heap.size := HM.out.v.lt
      have M4 := (HM.out.alloc (.cells (aW 8 zW) 91)).row wr.heap.size hg4 (aW 8 s.get)
      have X4 : CAt ((wr.alloc (.cells (aW 8 zW) 91)).setRow wr.heap.size (aW 8 s.get)) wr.heap.size (aW 8 (rnds s y 0).get) 91 := (CAt.new _ _ _).row _
      have HM := hid M4
      have HX4 := hid X4
      have HG := hid hg4
      clear M4 X4 hg4
      simp only [Act.put, List.setIfInBounds_toArray, List.set_cons_succ, List.set_cons_zero]
      generalize ((wr.alloc (.cells (aW 8 zW) 91)).setRow wr.heap.size (aW 8 s.get)) = w4 at *
      generalize wr.heap.size = gx at *
      go_wp2
      go_loopw [15] (fun v wr => ∃ t : Nat, t ≤ 64 ∧ v = .int .i64 t ∧ BlkM w wr s (sch y) ∧ CAt wr gx (aW 8 (rnds s y t).get) 91) (fun v _ => (64 - intOf v).toNat)
      case atStart => exact ⟨0, by omega, rfl, HM.out, HX4.out⟩
      case round =>
        clear HM HX4
        obtain ⟨j, hj, rfl, hm, hx4⟩ := hrel
        generalize hr : rnds s y j = r at *
        have HRR := hid hr
        clear hr
        by_cases hlj : j < 64
        · have hlj' : (j : Int) < 64 := by omega
          have d0 : wr.cell? ⟨gx, 0, none⟩ = some (.int .u32 (wv r.a)) := hx4.cellW 0 (by omega)
          have d1 : wr.cell? ⟨gx, 1, none⟩ = some (.int .u32 (wv r.b)) := hx4.cellW 1 (by omega)
          have d2 : wr.cell? ⟨gx, 2, none⟩ = some (.int .u32 (wv r.c)) := hx4.cellW 2 (by omega)
          have d3 : wr.cell? ⟨gx, 3, none⟩ = some (.int .u32 (wv r.d)) := hx4.cellW 3 (by omega)
          have d4 : wr.cell? ⟨gx, 4, none⟩ = some (.int .u32 (wv r.e)) := hx4.cellW 4 (by omega)
          have d5 : wr.cell? ⟨gx, 5, none⟩ = some (.int .u32 (wv r.f)) := hx4.cellW 5 (by omega)
          have d6 : wr.cell? ⟨gx, 6, none⟩ = some (.int .u32 (wv r.g)) := hx4.cellW 6 (by omega)
          have d7 : wr.cell? ⟨gx, 7, none⟩ = some (.int .u32 (wv r.h)) := hx4.cellW 7 (by omega)
          have c1 := hm.k.cellW j hlj
          have c2 := hm.v.cellW j hlj
          generalize hkt : kk j = kt at *
          generalize hwt : sch y j = wt at *
          have HK := hid hkt
          have HW := hid hwt
          have HM := hid hm
          have HX4 := hid hx4
          clear hm hx4 hkt hwt
          go_wp2_with fail
          have a1 := wadd
          have a1' := waddW
          have a2 := wxor
          have a3 := wand
          have a4 := wnot
          go_quiet ((go_at_call 59; refine Calls.quiet_of (rright_i _ _ (by decide) (by decide) _)))
          have HM := hid (HM.out.drewN nq)
          have HX4 := hid (HX4.out.drewN nq)
          clear d0 d1 d2 d3 d4 d5 d6 d7 c1 c2
          generalize wr.drewN nq = w5 at *
          have d0 : w5.cell? ⟨gx, 0, none⟩ = some (.int .u32 (wv r.a)) := HX4.out.cellW 0 (by omega)
          have d1 : w5.cell? ⟨gx, 1, none⟩ = some (.int .u32 (wv r.b)) := HX4.out.cellW 1 (by omega)
          have d2 : w5.cell? ⟨gx, 2, none⟩ = some (.int .u32 (wv r.c)) := HX4.out.cellW 2 (by omega)
          go_wp2_with fail
          go_quiet ((go_at_call 59; refine Calls.quiet_of (rright_i _ _ (by decide) (by decide) _)))
          have HM := hid (HM.out.drewN nq)
          have HX4 := hid (HX4.out.drewN nq)
          clear d0 d1 d2
          generalize w5.drewN nq = w6 at *
          have d0 : w6.cell? ⟨gx, 0, none⟩ = some (.int .u32 (wv r.a)) := HX4.out.cellW 0 (by omega)
          have d1 : w6.cell? ⟨gx, 1, none⟩ = some (.int .u32 (wv r.b)) := HX4.out.cellW 1 (by omega)
          have d2 : w6.cell? ⟨gx, 2, none⟩ = some (.int .u32 (wv r.c)) := HX4.out.cellW 2 (by omega)
          have d3 : w6.cell? ⟨gx, 3, none⟩ = some (.int .u32 (wv r.d)) := HX4.out.cellW 3 (by omega)
          have d4 : w6.cell? ⟨gx, 4, none⟩ = some (.int .u32 (wv r.e)) := HX4.out.cellW 4 (by omega)
          have d5 : w6.cell? ⟨gx, 5, none⟩ = some (.int .u32 (wv r.f)) := HX4.out.cellW 5 (by omega)
          have d6 : w6.cell? ⟨gx, 6, none⟩ = some (.int .u32 (wv r.g)) := HX4.out.cellW 6 (by omega)
          have hr8 : (#[.int .u32 (wv (t1f r kt wt + t2f r)), .int .u32 (wv r.a), .int .u32 (wv r.b), .int .u32 (wv r.c), .int .u32 (wv (r.d + t1f r kt wt)), .int .u32 (wv r.e), .int .u32 (wv r.f), .int .u32 (wv r.g)] : Array Value) = aW 8 (rnd r kt wt).get := (aW_st (rnd r kt wt)).symm
          have HR8 := hid hr8
          clear hr8
          go_wp2_with (refine wpList_store_row rfl 91 _ _ rfl _ _ rfl (congrArg Value.agg HR8.out) _ _ HX4.out (size8r _) (by simp only [aW_size]) (aW_one _ _) ?_)
          go_roundw
          case rel =>
            have e : rnds s y (j + 1) = rnd r kt wt := by rw [rnds, HRR.out, HK.out, HW.out]
            exact ⟨j + 1, by omega, by go_num, HM.out.row gx HG.out _, by rw [e]; exact HX4.out.row _⟩
          case measure => simp [intOf]; omega
        · have e : j = 64 := by omega
          have hgj : ¬ (j : Int) < 64 := by omega
          have HS : Hid (rnds s y 64 = r) := by rw [← e]; exact HRR.out
          have HM := hid hm
          have HX4 := hid hx4
          clear hm hx4 e HRR
          go_wp2
          go_loopw [18] (fun v wr => ∃ k : Nat, k ≤ 8 ∧ v = .int .i64 k ∧ CAt wr w.heap.size (aW 8 (addTo s r k)) 91 ∧ CAt wr (w.heap.size + 1 + 1) (aW 8 zW) 91 ∧ CAt wr gx (aW 8 r.get) 91 ∧ Below w.heap.size w wr) (fun v _ => (8 - intOf v).toNat)
          case atStart => exact ⟨0, by omega, rfl, HM.out.h.congr (aW_congr 8 fun i _ => by unfold addTo; rw [if_neg (by omega)]), HM.out.r, HX4.out, HM.out.below⟩
          case round =>
            clear HM HX4
            obtain ⟨k, hk, rfl, hc, hz, hx4, hb⟩ := hrel
            by_cases hlk : k < 8
            · have c1 := hc.cellW k hlk
              have c2 := hx4.cellW k hlk
              have c3 := hc.free k
              have a1 := wadd
              have a1' := waddW
              have hlk' : (k : Int) < 8 := by omega
              have HC := hid hc
              have HZ := hid hz
              have HX4 := hid hx4
              have HB := hid hb
              clear hc hz hx4 hb
              go_wp2_with fail
              refine wp_region_last_lit (by kernel_rfl) (by kernel_rfl) ?_
              dsimp only [List.dropLast, List.getLast]
              repeat (go_big_quiet_step (fail))
              refine wpQuiet_nil ?_
              intro nr
              have HC := hid (HC.out.drewN nr)
              have HZ := hid (HZ.out.drewN nr)
              have HX4 := hid (HX4.out.drewN nr)
              have HB := hid (Below.drewN' HB.out nr)
              clear c1 c2 c3
              generalize wr.drewN nr = w6 at *
              have c9 := HC.out.free k
              have c10 := HC.out.cellW k hlk
              go_wp2
              go_roundw
              case rel =>
                have hg := HG.out
                exact ⟨k + 1, by omega, by go_num, (HC.out.setW k _).congr (aW_congr 8 fun i _ => addTo_step s r k i), HZ.out.other _ _ (by show w.heap.size + 1 + 1 ≠ w.heap.size; omega), HX4.out.other _ _ (by show gx ≠ w.heap.size; omega), HB.out.setCell (by show w.heap.size ≤ w.heap.size; omega) _⟩
              case measure => simp [intOf]; omega
            · have e : k = 8 := by omega
              have hc2 := hc.congr (cs' := aW 8 (comp s y).get) (aW_congr 8 fun i hi => (by rw [comp_get, HS.out]; unfold addTo; rw [if_pos (by omega)]))
              have HC := hid hc2
              have HZ := hid hz
              have HB := hid hb
              have hgk : ¬ (k : Int) < 8 := by omega
              clear hc hc2 hz hb e hx4
              go_wp2_with (first
                | refine wpList_load_row rfl 91 _ rfl _ rfl _ _ _ _ HC.out Tryz.underlying91 rfl (size8r _) ?_
                | refine wpList_store_row rfl 91 _ _ rfl _ _ rfl rfl _ _ HZ.out (size8r _) (by simp only [aW_size]) (aW_one _ _) ?_)
              exact ret_row rfl _ _ _ _ _ rfl rfl (HZ.out.row _) Tryz.underlying91 rfl (size8r _) ⟨rfl, below_setRow HB.out (by omega) _⟩
end Go.Proofs.YtelkijiphhoacaaGreatDoor.H
