/- Texts laid into one, cut to what is needed: the remark ahead of each part says what is proved there. -/
import Derived.Test.YtelkijiphhoacaaDoorLam
import Derived.Deep.CutRange
import Derived.Maps.AppendAt
import Derived.Laws.AppendOwnNone
import Derived.Test.YtelkijiphhoacaaDoorLaa
import Derived.Test.YtelkijiphhoacaaDoorLaj
import Derived.Test.YtelkijiphhoacaaDoorLai
import Derived.Lib.SlBytesConst
import Derived.Deep.QuietTactic
import Derived.BigQuiet
/- Contract of finish of package digest: the bytes that are left are filled up and mixed in, with the count. -/
namespace Go.Proofs.YtelkijiphhoacaaDoor.H
open Go Go.RowKit

theorem zero64B : (Tryd.prog.info? 96).map (·.zero) = some (some (.agg (aB 64 zB))) := by kernel_rfl
/-- The count's lowest k bytes at a block's end. -/
def cTo (N : Nat) (f : Nat → Nat) (k i : Nat) : Nat := if i < 64 - k then f i else (8 * N) / 256 ^ (63 - i) % 256
theorem cTo_step (N : Nat) (f : Nat → Nat) (k i : Nat) (hk : k < 8) (hi : i < 64) : upB (cTo N f k) (63 - k) ((8 * N) / 256 ^ k % 256) i = cTo N f (k + 1) i := by
  unfold upB cTo
  by_cases e : i = 63 - k
  · rw [if_pos e, if_neg (by omega), show 63 - i = k by omega]
  · rw [if_neg e]
    by_cases q : i < 64 - k
    · rw [if_pos q, if_pos (by omega)]
    · rw [if_neg q, if_neg (by omega)]
theorem cTo_zero (N : Nat) (f : Nat → Nat) (i : Nat) (hi : i < 64) : f i = cTo N f 0 i := by unfold cTo; rw [if_pos (by omega)]
theorem cTo_end (N : Nat) (f : Nat → Nat) (i : Nat) : cTo N f 8 i = withC N f i := rfl
def fin (s : St) (n : Nat) (x : Nat → Nat) (N : Nat) : St := if n < 56 then comp s (withC N (lastA n x)) else comp (comp s (lastA n x)) (withC N (fun _ => 0))
theorem lastA_lt (n : Nat) (x : Nat → Nat) (hx : ∀ i, i < n → x i < 256) (i : Nat) : lastA n x i < 256 := by
  unfold lastA
  by_cases h : i < n
  · rw [if_pos h]; exact hx i h
  · rw [if_neg h]; split <;> omega
theorem withC_lt (N : Nat) (f : Nat → Nat) (hf : ∀ i, f i < 256) (i : Nat) : withC N f i < 256 := by
  unfold withC
  by_cases h : i < 56
  · rw [if_pos h]; exact hf i
  · rw [if_neg h]; exact Nat.mod_lt _ (by omega)
theorem last_set (n : Nat) (x : Nat → Nat) (i : Nat) : upB (ovl n x zB) n 128 i = lastA n x i := by
  unfold upB ovl lastA zB
  by_cases e : i = n
  · rw [if_pos e, if_neg (by omega), if_pos e]
  · rw [if_neg e]
    by_cases q : i < n
    · rw [if_pos q, if_pos q]
    · rw [if_neg q, if_neg q, if_neg e]
theorem count_byte (C N k : Nat) (hC : C = 8 * N) : ((C : Nat) : Int) / 2 ^ (8 * k) % 256 = (((8 * N) / 256 ^ k % 256 : Nat) : Int) := by
  rw [hC, show (256 : Nat) = 2 ^ 8 by decide, ← Nat.pow_mul]; simp
/-- What finish holds ahead of the count. -/
structure FinM (w w1 : World) (s : St) (f : Nat → Nat) : Prop where
  st : CAt w1 w.heap.size (aW 8 s.get) 92
  res : CAt w1 (w.heap.size + 1) (aW 8 zW) 92
  last : CAt w1 (w.heap.size + 1 + 1) (aB 64 f) 96
  below : Below w.heap.size w w1
set_option maxRecDepth 100000 in
set_option maxHeartbeats 1000000 in
theorem finish_lo (s : St) (p : Option Addr) (n c : Nat) (x : Nat → Nat) (C N : Nat) (w : World) (hC : C = 8 * N) (hn : n ≤ 63) (hx : StrAt w p n x) (hb : ∀ i, i < n → x i < 256) (hp : ∀ a, p = some a → 0 < n → a.block < w.heap.size) (h56 : n < 56) :
    Calls Tryd.prog 44 #[.agg (aW 8 s.get), .slice p n c, .int .u64 ((C : Nat) : Int)] w fun e w' => e = .returned (.agg (aW 8 (fin s n x N).get)) ∧ Below w.heap.size w w' := by
  have HX : Hid (∀ i, i < n → x i < 256) := hb
  have HC := hid hC
  clear hC
  have hz1 : (w.alloc (.cells (aW 8 s.get) 92)).heap.size = w.heap.size + 1 := by simp
  have hz2 : ((w.alloc (.cells (aW 8 s.get) 92)).alloc (.cells (aW 8 zW) 92)).heap.size = w.heap.size + 1 + 1 := by simp
  have d0 := CAt.new' ((w.alloc (.cells (aW 8 s.get) 92)).alloc (.cells (aW 8 zW) 92)) (aB 64 zB) 96 _ hz2
  have d1 := (CAt.new' (w.alloc (.cells (aW 8 s.get) 92)) (aW 8 zW) 92 _ hz1).alloc (.cells (aB 64 zB) 96)
  have d2 := ((CAt.new w (aW 8 s.get) 92).alloc (.cells (aW 8 zW) 92)).alloc (.cells (aB 64 zB) 96)
  have d3 : Below w.heap.size w (((w.alloc (.cells (aW 8 s.get) 92)).alloc (.cells (aW 8 zW) 92)).alloc (.cells (aB 64 zB) 96)) :=
    (((Below.refl _ _).alloc (by omega) _).alloc (by rw [hz1]; omega) _).alloc (by rw [hz2]; omega) _
  have hx2 : StrAt (((w.alloc (.cells (aW 8 s.get) 92)).alloc (.cells (aW 8 zW) 92)).alloc (.cells (aB 64 zB) 96)) p n x := by
    rcases hx with h | ⟨b, o, rfl, hr⟩
    · exact .inl h
    · rcases Nat.eq_zero_or_pos n with h0 | h0
      · exact .inl h0
      · exact .inr ⟨b, o, rfl, hr.below d3 (hp _ rfl h0)⟩
  have hcp := run_copy_blk _ _ 64 _ zB p n c x d0 hx2
  have hmin : min n 64 = n := by omega
  rw [hmin] at hcp
  have M1 : FinM w ((((w.alloc (.cells (aW 8 s.get) 92)).alloc (.cells (aW 8 zW) 92)).alloc (.cells (aB 64 zB) 96)).setRow (w.heap.size + 1 + 1) (aB 64 (ovl n x zB))) s (ovl n x zB) :=
    ⟨d2.rowOther _ (by omega), d1.rowOther _ (by omega), d0.row _, below_setRow d3 (by omega) _⟩
  have HM := hid M1
  clear M1 d0 d1 d2 d3 hx hx2 hb hp hz1 hz2 hmin
  have hn' : (n : Int) < 64 := by omega
  have h56' : (n : Int) < 56 := by omega
  go_enter Tryd.func44, Tryd.ntmps44
  go_upto_region 3 with (first
    | refine wpList_alloc_row rfl 92 rfl _ zero8 ?_
    | refine wpList_alloc_row rfl 96 rfl _ zero64B ?_)
  generalize ((((w.alloc (.cells (aW 8 s.get) 92)).alloc (.cells (aW 8 zW) 92)).alloc (.cells (aB 64 zB) 96)).setRow (w.heap.size + 1 + 1) (aB 64 (ovl n x zB))) = w1 at *
  clear hcp
  have c1 := HM.out.last.cellB n (by omega)
  have c2 := HM.out.last.free n
  have M2 : FinM w (w1.setCell ⟨w.heap.size + 1 + 1, n, none⟩ (.int .u8 128)) s (lastA n x) :=
    ⟨HM.out.st.other _ _ (by simp; omega), HM.out.res.other _ _ (by simp), (HM.out.last.setB n 128).congr (aB_congr 64 fun i _ => last_set n x i), HM.out.below.setCell (by simp; omega) _⟩
  have HM := hid M2
  clear M2
  go_wp2
  go_loopw [22] (fun v wr => ∃ k : Nat, k ≤ 8 ∧ v = .int .i64 k ∧ FinM w wr s (cTo N (lastA n x) k)) (fun v _ => (8 - intOf v).toNat)
  case atStart => exact ⟨0, by omega, rfl, HM.out.st, HM.out.res, HM.out.last.congr (aB_congr 64 fun i hi => cTo_zero N _ i hi), HM.out.below⟩
  case round =>
    clear HM
    obtain ⟨k, hk, rfl, hm⟩ := hrel
    by_cases hlt : k < 8
    · have c1 := hm.last.cellB (63 - k) (by omega)
      have c2 := hm.last.free (63 - k)
      have hv := count_byte C N k HC.out
      have hlt' : (k : Int) < 8 := by omega
      have HM := hid hm
      clear hm
      go_wp2
      go_roundw
      case rel => exact ⟨k + 1, by omega, by go_num, HM.out.st.other _ _ (by simp; omega), HM.out.res.other _ _ (by simp), (HM.out.last.setB (63 - k) _).congr (aB_congr 64 fun i hi => cTo_step N _ k i hlt hi), HM.out.below.setCell (by simp; omega) _⟩
      case measure => simp [intOf]; omega
    · have e : k = 8 := by omega
      have hm2 : FinM w wr s (withC N (lastA n x)) := ⟨hm.st, hm.res, hm.last.congr (aB_congr 64 fun i _ => (by rw [e]; exact cTo_end N _ i)), hm.below⟩
      have HM := hid hm2
      have hge : ¬ (k : Int) < 8 := by omega
      have HL : Hid (∀ i, withC N (lastA n x) i < 256) := fun i => withC_lt N _ (lastA_lt n x HX.out) i
      clear hm hm2 e
      go_wp2_with (first
        | refine wpList_load_row rfl 92 _ rfl _ rfl _ _ _ _ HM.out.st Tryd.underlying92 rfl (size8 _) ?_
        | refine wpList_load_row rfl 96 _ rfl _ rfl _ _ _ _ HM.out.last Tryd.underlying96 rfl (size64B _) ?_
        | (go_at_call 42; refine (mix_any _ _ (fun i _ => HL.out i) _).mono ?_; rintro e w2 ⟨rfl, hbw⟩; have HR := hid (HM.out.res.below hbw HM.out.res.lt); have HB := hid (HM.out.below.trans (hbw.mono HM.out.below.size)); clear hbw)
        | refine wpList_store_row rfl 92 _ _ rfl _ _ rfl rfl _ _ HR.out (size8 _) (by rw [aW_size, aW_size]) (aW_one _ _) ?_)
      have hfin : comp s (withC N (lastA n x)) = fin s n x N := by unfold fin; rw [if_pos h56]
      refine ret_row rfl _ _ _ _ _ rfl rfl (HR.out.row _) Tryd.underlying92 rfl (size8 _) ⟨?_, below_setRow HB.out (by omega) _⟩
      rw [hfin]
set_option maxRecDepth 100000 in
set_option maxHeartbeats 1000000 in
theorem finish_hi (s : St) (p : Option Addr) (n c : Nat) (x : Nat → Nat) (C N : Nat) (w : World) (hC : C = 8 * N) (hn : n ≤ 63) (hx : StrAt w p n x) (hb : ∀ i, i < n → x i < 256) (hp : ∀ a, p = some a → 0 < n → a.block < w.heap.size) (h56 : ¬ n < 56) :
    Calls Tryd.prog 44 #[.agg (aW 8 s.get), .slice p n c, .int .u64 ((C : Nat) : Int)] w fun e w' => e = .returned (.agg (aW 8 (fin s n x N).get)) ∧ Below w.heap.size w w' := by
  have HX : Hid (∀ i, i < n → x i < 256) := hb
  have HC := hid hC
  clear hC
  have hz1 : (w.alloc (.cells (aW 8 s.get) 92)).heap.size = w.heap.size + 1 := by simp
  have hz2 : ((w.alloc (.cells (aW 8 s.get) 92)).alloc (.cells (aW 8 zW) 92)).heap.size = w.heap.size + 1 + 1 := by simp
  have d0 := CAt.new' ((w.alloc (.cells (aW 8 s.get) 92)).alloc (.cells (aW 8 zW) 92)) (aB 64 zB) 96 _ hz2
  have d1 := (CAt.new' (w.alloc (.cells (aW 8 s.get) 92)) (aW 8 zW) 92 _ hz1).alloc (.cells (aB 64 zB) 96)
  have d2 := ((CAt.new w (aW 8 s.get) 92).alloc (.cells (aW 8 zW) 92)).alloc (.cells (aB 64 zB) 96)
  have d3 : Below w.heap.size w (((w.alloc (.cells (aW 8 s.get) 92)).alloc (.cells (aW 8 zW) 92)).alloc (.cells (aB 64 zB) 96)) :=
    (((Below.refl _ _).alloc (by omega) _).alloc (by rw [hz1]; omega) _).alloc (by rw [hz2]; omega) _
  have hx2 : StrAt (((w.alloc (.cells (aW 8 s.get) 92)).alloc (.cells (aW 8 zW) 92)).alloc (.cells (aB 64 zB) 96)) p n x := by
    rcases hx with h | ⟨b, o, rfl, hr⟩
    · exact .inl h
    · rcases Nat.eq_zero_or_pos n with h0 | h0
      · exact .inl h0
      · exact .inr ⟨b, o, rfl, hr.below d3 (hp _ rfl h0)⟩
  have hcp := run_copy_blk _ _ 64 _ zB p n c x d0 hx2
  have hmin : min n 64 = n := by omega
  rw [hmin] at hcp
  have M1 : FinM w ((((w.alloc (.cells (aW 8 s.get) 92)).alloc (.cells (aW 8 zW) 92)).alloc (.cells (aB 64 zB) 96)).setRow (w.heap.size + 1 + 1) (aB 64 (ovl n x zB))) s (ovl n x zB) :=
    ⟨d2.rowOther _ (by omega), d1.rowOther _ (by omega), d0.row _, below_setRow d3 (by omega) _⟩
  have HM := hid M1
  clear M1 d0 d1 d2 d3 hx hx2 hb hp hz1 hz2 hmin
  have hn' : (n : Int) < 64 := by omega
  have h56' : ¬ (n : Int) < 56 := by omega
  go_enter Tryd.func44, Tryd.ntmps44
  go_upto_region 3 with (first
    | refine wpList_alloc_row rfl 92 rfl _ zero8 ?_
    | refine wpList_alloc_row rfl 96 rfl _ zero64B ?_)
  generalize ((((w.alloc (.cells (aW 8 s.get) 92)).alloc (.cells (aW 8 zW) 92)).alloc (.cells (aB 64 zB) 96)).setRow (w.heap.size + 1 + 1) (aB 64 (ovl n x zB))) = w1 at *
  clear hcp
  have c1 := HM.out.last.cellB n (by omega)
  have c2 := HM.out.last.free n
  have M2 : FinM w (w1.setCell ⟨w.heap.size + 1 + 1, n, none⟩ (.int .u8 128)) s (lastA n x) :=
    ⟨HM.out.st.other _ _ (by simp; omega), HM.out.res.other _ _ (by simp), (HM.out.last.setB n 128).congr (aB_congr 64 fun i _ => last_set n x i), HM.out.below.setCell (by simp; omega) _⟩
  have HM := hid M2
  clear M2
  go_wp2_with (first
    | refine wpList_load_row rfl 92 _ rfl _ rfl _ _ _ _ HM.out.st Tryd.underlying92 rfl (size8 _) ?_
    | refine wpList_load_row rfl 96 _ rfl _ rfl _ _ _ _ HM.out.last Tryd.underlying96 rfl (size64B _) ?_
    | (go_at_call 42; refine (mix_any _ _ (fun i _ => lastA_lt n x HX.out i) _).mono ?_; rintro e w2 ⟨rfl, hbw⟩; have HM := hid (FinM.mk (HM.out.st.below hbw HM.out.st.lt) (HM.out.res.below hbw HM.out.res.lt) (HM.out.last.below hbw HM.out.last.lt) (HM.out.below.trans (hbw.mono HM.out.below.size))); clear hbw)
    | (refine wpList_store_row rfl 92 _ _ rfl _ _ rfl rfl _ _ HM.out.st (size8 _) (by rw [aW_size, aW_size]) (aW_one _ _) ?_; have HM := hid (FinM.mk (HM.out.st.row (aW 8 (comp s (lastA n x)).get)) (HM.out.res.rowOther _ (by omega)) (HM.out.last.rowOther _ (by omega)) (below_setRow HM.out.below (by omega) _)))
    | refine wpList_build_to rfl 96 _ rfl (aB 64 zB) (by kernel_rfl) ?_
    | (refine wpList_store_row rfl 96 _ _ rfl _ _ rfl rfl _ _ HM.out.last (size64B _) (by rw [aB_size, aB_size]) (aB_one _ _) ?_; have HM := hid (FinM.mk (HM.out.st.rowOther (aB 64 zB) (by omega)) (HM.out.res.rowOther _ (by omega)) (HM.out.last.row _) (below_setRow HM.out.below (by omega) _))))
  go_loopw [22] (fun v wr => ∃ k : Nat, k ≤ 8 ∧ v = .int .i64 k ∧ FinM w wr (comp s (lastA n x)) (cTo N zB k)) (fun v _ => (8 - intOf v).toNat)
  case atStart => exact ⟨0, by omega, rfl, HM.out.st, HM.out.res, HM.out.last.congr (aB_congr 64 fun i hi => cTo_zero N _ i hi), HM.out.below⟩
  case round =>
    clear HM
    obtain ⟨k, hk, rfl, hm⟩ := hrel
    by_cases hlt : k < 8
    · have c1 := hm.last.cellB (63 - k) (by omega)
      have c2 := hm.last.free (63 - k)
      have hv := count_byte C N k HC.out
      have hlt' : (k : Int) < 8 := by omega
      have HM := hid hm
      clear hm
      go_wp2
      go_roundw
      case rel => exact ⟨k + 1, by omega, by go_num, HM.out.st.other _ _ (by simp; omega), HM.out.res.other _ _ (by simp), (HM.out.last.setB (63 - k) _).congr (aB_congr 64 fun i hi => cTo_step N _ k i hlt hi), HM.out.below.setCell (by simp; omega) _⟩
      case measure => simp [intOf]; omega
    · have e : k = 8 := by omega
      have hm2 : FinM w wr (comp s (lastA n x)) (withC N zB) := ⟨hm.st, hm.res, hm.last.congr (aB_congr 64 fun i _ => (by rw [e]; exact cTo_end N _ i)), hm.below⟩
      have HM := hid hm2
      have hge : ¬ (k : Int) < 8 := by omega
      have HL : Hid (∀ i, withC N zB i < 256) := fun i => withC_lt N _ (fun _ => by unfold zB; omega) i
      clear hm hm2 e
      go_wp2_with (first
        | refine wpList_load_row rfl 92 _ rfl _ rfl _ _ _ _ HM.out.st Tryd.underlying92 rfl (size8 _) ?_
        | refine wpList_load_row rfl 96 _ rfl _ rfl _ _ _ _ HM.out.last Tryd.underlying96 rfl (size64B _) ?_
        | (go_at_call 42; refine (mix_any _ _ (fun i _ => HL.out i) _).mono ?_; rintro e w2 ⟨rfl, hbw⟩; have HR := hid (HM.out.res.below hbw HM.out.res.lt); have HB := hid (HM.out.below.trans (hbw.mono HM.out.below.size)); clear hbw)
        | refine wpList_store_row rfl 92 _ _ rfl _ _ rfl rfl _ _ HR.out (size8 _) (by rw [aW_size, aW_size]) (aW_one _ _) ?_)
      have hfin : comp (comp s (lastA n x)) (withC N zB) = fin s n x N := by unfold fin; rw [if_neg h56]; rfl
      refine ret_row rfl _ _ _ _ _ rfl rfl (HR.out.row _) Tryd.underlying92 rfl (size8 _) ⟨?_, below_setRow HB.out (by omega) _⟩
      rw [hfin]
theorem finish_any (s : St) (p : Option Addr) (n c : Nat) (x : Nat → Nat) (C N : Nat) (w : World) (hC : C = 8 * N) (hn : n ≤ 63) (hx : StrAt w p n x) (hb : ∀ i, i < n → x i < 256) (hp : ∀ a, p = some a → 0 < n → a.block < w.heap.size) :
    Calls Tryd.prog 44 #[.agg (aW 8 s.get), .slice p n c, .int .u64 ((C : Nat) : Int)] w fun e w' => e = .returned (.agg (aW 8 (fin s n x N).get)) ∧ Below w.heap.size w w' := by
  by_cases h : n < 56
  · exact finish_lo s p n c x C N w hC hn hx hb hp h
  · exact finish_hi s p n c x C N w hC hn hx hb hp h
end Go.Proofs.YtelkijiphhoacaaDoor.H

/- Contract of Sum of package digest: the digest of any bytes; what was there is as it was. -/
namespace Go.Proofs.YtelkijiphhoacaaDoor.H
open Go Go.RowKit

theorem StrAt.drop {w : World} {p p2 : Option Addr} {n c l : Nat} {x : Nat → Nat} (h : StrAt w p n x) (hc : n ≤ c) (hp : ∀ b o, p = some ⟨b, o, none⟩ → l < c → p2 = some ⟨b, o + l, none⟩) : StrAt w p2 (n - l) (fun j => x (l + j)) := by
  by_cases h0 : n - l = 0
  · exact .inl h0
  · rcases h with h | ⟨b, o, rfl, hr⟩
    · omega
    · exact .inr ⟨b, o + l, hp b o rfl (by omega), fun i hi => by rw [Nat.add_assoc]; exact hr (l + i) (by omega)⟩
theorem StrAt.congr {w : World} {p : Option Addr} {n : Nat} {x y : Nat → Nat} (h : StrAt w p n x) (e : ∀ j, j < n → x j = y j) : StrAt w p n y := by
  rcases h with h | ⟨b, o, rfl, hr⟩
  · exact .inl h
  · exact .inr ⟨b, o, rfl, fun i hi => by rw [← e i hi]; exact hr i hi⟩
theorem cell_lt {w : World} {a : Addr} {v : Value} (h : w.cell? a = some v) : a.block < w.heap.size := by
  rcases Nat.lt_or_ge a.block w.heap.size with h1 | h1
  · exact h1
  · simp [World.cell?, Array.getElem?_eq_none h1] at h
theorem StrAt.lt {w : World} {p : Option Addr} {n : Nat} {x : Nat → Nat} (h : StrAt w p n x) (a : Addr) (ha : p = some a) (hn : 0 < n) : a.block < w.heap.size := by
  rcases h with h | ⟨b, o, rfl, hr⟩
  · omega
  · cases ha; exact cell_lt (hr 0 hn)
theorem StrAt.below {w w' : World} {p : Option Addr} {n : Nat} {x : Nat → Nat} (h : StrAt w p n x) (hb : Below w.heap.size w w') : StrAt w' p n x := by
  rcases Nat.eq_zero_or_pos n with h0 | h0
  · exact .inl h0
  · have hl := h.lt
    rcases h with h | ⟨b, o, rfl, hr⟩
    · exact .inl h
    · exact .inr ⟨b, o, rfl, hr.below hb (hl _ rfl h0)⟩
def lenV : Value → Nat | .slice _ n _ => n | _ => 0
structure SumM (w wr : World) (g3 g5 : Nat) (s : St) : Prop where
  st : CAt wr g3 (aW 8 s.get) 92
  blk : ∃ y, CAt wr g5 (aB 64 y) 96
  res : CAt wr w.heap.size (aB 32 zB) 57
  below : Below w.heap.size w wr
  h3 : w.heap.size < g3
  h5 : g3 < g5
set_option maxRecDepth 100000 in
set_option maxHeartbeats 1000000 in
theorem sum_any (p : Option Addr) (n c : Nat) (x : Nat → Nat) (w : World) (hn : n ≤ 1000000) (hc : n ≤ c) (hx : StrAt w p n x) (hb : ∀ i, i < n → x i < 256) :
    Calls Tryd.prog 23 #[.slice p n c] w fun e w' => e = .returned (.agg (aB 32 (sha n x))) ∧ Below w.heap.size w w' := by
  have HX := hid hx
  have HBX := hid hb
  have HCC := hid hc
  clear hx hb hc
  have hn' : (n : Int) ≤ 1000000 := by omega
  go_enter Tryd.func23, Tryd.ntmps23
  go_upto_region 2 with (first
    | refine wpList_alloc_row rfl 57 rfl _ zero32 ?_
    | refine wpList_alloc_row rfl 92 rfl _ zero8 ?_
    | (go_at_call 41; refine (firstWords_any _).mono ?_; rintro e w1 ⟨rfl, hbw⟩)
    | refine wpList_store_row rfl 92 _ _ rfl _ _ rfl rfl _ _ (CAt.new _ _ _) (size8 _) (by rw [aW_size, aW_size]) (aW_one _ _) ?_)
  have hz : (w.alloc (.cells (aB 32 zB) 57)).heap.size = w.heap.size + 1 := by simp
  have r0 : CAt w1 w.heap.size (aB 32 zB) 57 := (CAt.new w (aB 32 zB) 57).below hbw (by rw [hz]; omega)
  have b0 : Below w.heap.size w w1 := ((Below.refl _ _).alloc (by omega) _).trans (hbw.mono (by rw [hz]; omega))
  have g0 : w.heap.size < w1.heap.size := by have := hbw.size; rw [hz] at this; omega
  have hz3 : ((w1.alloc (.cells (aW 8 zW) 92)).setRow w1.heap.size (aW 8 st0.get)).heap.size = w1.heap.size + 1 := by simp
  have r1 : CAt ((w1.alloc (.cells (aW 8 zW) 92)).setRow w1.heap.size (aW 8 st0.get)) w1.heap.size (aW 8 st0.get) 92 := (CAt.new w1 (aW 8 zW) 92).row _
  have r2 := ((r0.alloc (.cells (aW 8 zW) 92)).rowOther (k := w1.heap.size) (aW 8 st0.get) (by omega))
  have b2 : Below w.heap.size w ((w1.alloc (.cells (aW 8 zW) 92)).setRow w1.heap.size (aW 8 st0.get)) := below_setRow (b0.alloc (by omega) _) (by omega) _
  clear r0 b0 hbw hz
  generalize ((w1.alloc (.cells (aW 8 zW) 92)).setRow w1.heap.size (aW 8 st0.get)) = w3 at *
  generalize w1.heap.size = g3 at *
  have M0 : SumM w (w3.alloc (.cells (aB 64 zB) 96)) g3 (g3 + 1) (hs x 0) := ⟨r1.alloc _, ⟨zB, CAt.new' w3 (aB 64 zB) 96 _ hz3⟩, r2.alloc _, b2.alloc (by omega) _, g0, by omega⟩
  have HM := hid M0
  have HZ3 := hid hz3
  clear M0 r1 r2 b2 g0
  simp only [Act.put, List.setIfInBounds_toArray, List.set_cons_succ, List.set_cons_zero]
  go_wp2_with (refine wpList_alloc_row rfl 96 rfl _ zero64B ?_)
  obtain ⟨C, hC⟩ : ∃ C, C = 8 * n := ⟨_, rfl⟩
  have hCn : (n : Int) * 8 = (C : Int) := by omega
  have hz4 := HZ3.out
  simp only [Act.put, List.setIfInBounds_toArray, List.set_cons_succ, List.set_cons_zero, hCn, hz4]
  have HC := hid hC
  clear hC hCn hz3 hz4 HZ3
  go_loopw [0] (fun v wr => ∃ (q : Nat) (p' : Option Addr) (m c' : Nat), 64 * q + m = n ∧ v = .slice p' m c' ∧ m ≤ c' ∧ StrAt w p' m (fun i => x (64 * q + i)) ∧ SumM w wr g3 (g3 + 1) (hs x q)) (fun v _ => lenV v)
  case atStart => exact ⟨0, p, n, c, by omega, rfl, HCC.out, HX.out.congr (fun j _ => by simp), HM.out⟩
  case round =>
    clear HM HX HCC
    obtain ⟨q, p', m, c', hqm, rfl, hmc, hstr, hm⟩ := hrel
    have HQ := hid hqm
    have HMC := hid hmc
    have hm6 : (m : Int) ≤ 1000000 := by omega
    by_cases hge : 64 ≤ m
    · obtain ⟨y, hy⟩ := hm.blk
      have hcp := run_copy_blk wr (g3 + 1) 64 96 y p' m c' _ hy (hstr.below hm.below)
      rw [show min m 64 = 64 by omega] at hcp
      have M1 : SumM w (wr.setRow (g3 + 1) (aB 64 (ovl 64 (fun i => x (64 * q + i)) y))) g3 (g3 + 1) (hs x q) :=
        ⟨hm.st.rowOther _ (by omega), ⟨_, hy.row _⟩, hm.res.rowOther _ (by have := hm.h3; omega), below_setRow hm.below (by have := hm.h3; omega) _, hm.h3, hm.h5⟩
      have B1 : CAt (wr.setRow (g3 + 1) (aB 64 (ovl 64 (fun i => x (64 * q + i)) y))) (g3 + 1) (aB 64 (fun i => x (64 * q + i))) 96 :=
        (hy.row _).congr (aB_congr 64 fun i hi => by unfold ovl; rw [if_pos hi])
      have HS : Hid (StrAt w (if c' = 64 then p' else Option.map (fun a => { block := a.block, off := a.off + 64 }) p') (m - 64) (fun i => x (64 * (q + 1) + i))) :=
        (hstr.drop (l := 64) hmc (fun b o e h => by subst e; rw [if_neg (by omega)]; rfl)).congr (fun j _ => by congr 1; omega)
      have HM := hid M1
      have HB := hid B1
      have hge' : (64 : Int) ≤ (m : Int) := by omega
      clear M1 B1 hm hy hstr hqm hmc
      go_upto_region 6 with fail
      clear hcp
      generalize (wr.setRow (g3 + 1) (aB 64 (ovl 64 (fun i => x (64 * q + i)) y))) = w4 at *
      have HLT : Hid (∀ i, i < 64 → x (64 * q + i) < 256) := fun i hi => HBX.out _ (by have := HQ.out; omega)
      go_wp2_with (first
        | refine wpList_load_row rfl 92 _ rfl _ rfl _ _ _ _ HM.out.st Tryd.underlying92 rfl (size8 _) ?_
        | refine wpList_load_row rfl 96 _ rfl _ rfl _ _ _ _ HB.out Tryd.underlying96 rfl (size64B _) ?_
        | (go_at_call 42; refine (mix_any _ _ HLT.out _).mono ?_; rintro e w5 ⟨rfl, hbw⟩; have HM5 := hid (SumM.mk (HM.out.st.below hbw HM.out.st.lt) ⟨_, HB.out.below hbw HB.out.lt⟩ (HM.out.res.below hbw HM.out.res.lt) (HM.out.below.trans (hbw.mono HM.out.below.size)) HM.out.h3 HM.out.h5); clear hbw)
        | refine wpList_store_row rfl 92 _ _ rfl _ _ rfl rfl _ _ HM5.out.st (size8 _) (by rw [aW_size, aW_size]) (aW_one _ _) ?_)
      go_roundw
      case rel =>
        refine ⟨q + 1, _, m - 64, c' - 64, by have := HQ.out; omega, rfl, by have := HMC.out; omega, HS.out, ?_⟩
        obtain ⟨y2, hy2⟩ := HM5.out.blk
        exact ⟨HM5.out.st.row _, ⟨_, hy2.rowOther _ (by omega)⟩, HM5.out.res.rowOther _ (by have := HM5.out.h3; omega), below_setRow HM5.out.below (by have := HM5.out.h3; omega) _, HM5.out.h3, HM5.out.h5⟩
      case measure => simp [lenV]; omega
    · have hlt' : ¬ (64 : Int) ≤ (m : Int) := by omega
      have HM := hid hm
      have HS := hid hstr
      have HS2 := hid (hstr.below hm.below)
      have hq : q = n / 64 := by omega
      have hm3 : m = n % 64 := by omega
      have hf : fin (hs x q) m (fun i => x (64 * q + i)) n = shaSt n x := by
        rw [hq, hm3]; unfold fin
        by_cases h : n % 64 < 56
        · rw [if_pos h, shaSt_short n x h]
        · rw [if_neg h, shaSt_long n x (by omega)]
      have HF := hid hf
      have HM63 : Hid (m ≤ 63) := by show m ≤ 63; omega
      clear hm hstr hqm hmc hq hm3 hf
      go_wp2_with (first
        | refine wpList_load_row rfl 92 _ rfl _ rfl _ _ _ _ HM.out.st Tryd.underlying92 rfl (size8 _) ?_
        | (go_at_call 44; refine (finish_any _ _ _ _ _ _ n _ HC.out HM63.out HS2.out (fun i hi => HBX.out _ (by have := HQ.out; omega)) (fun a ha hpos => HS2.out.lt a ha hpos)).mono ?_; rintro e w5 ⟨rfl, hbw⟩; rw [HF.out]; have HR := hid (HM.out.res.below hbw HM.out.res.lt); have HB5 := hid (HM.out.below.trans (hbw.mono HM.out.below.size)); clear hbw)
        | (go_at_call 43; refine (written_any _ _).mono ?_; rintro e w6 ⟨rfl, hbw⟩; have HR6 := hid (HR.out.below hbw HR.out.lt); have HB6 := hid (HB5.out.trans (hbw.mono HB5.out.size)); clear hbw)
        | refine wpList_store_row rfl 57 _ _ rfl _ _ rfl rfl _ _ HR6.out (size32 _) (by rw [aB_size, aB_size]) (aB_one _ _) ?_)
      exact ret_row rfl _ _ _ _ _ rfl rfl (HR6.out.row _) Tryd.underlying57 rfl (size32 _) ⟨rfl, below_setRow HB6.out (by omega) _⟩
end Go.Proofs.YtelkijiphhoacaaDoor.H

/- A buffer of bytes that a call fills by append. -/
namespace Go.Proofs.YtelkijiphhoacaaDoor.H
open Go Go.RowKit

def Buf (B : Nat) (w : World) (v : Value) (n : Nat) (x : Nat → Nat) : Prop := w.ownsRow B 5 1 v n (valN n x)
end Go.Proofs.YtelkijiphhoacaaDoor.H

/- Digests of bytes in slices, by lists. -/
namespace Go.Proofs.YtelkijiphhoacaaDoor
open Go Go.RowKit

/-- The digest's 32 bytes. -/
def dig (x : List Nat) : List Nat := (List.range 32).map fun i => H.sha x.length (fun j => x.getD j 0) i
theorem dig_len (x : List Nat) : (dig x).length = 32 := by simp [dig]
theorem dig_lt (x : List Nat) : ∀ z ∈ dig x, z < 256 := fun z hz => by
  obtain ⟨i, _, rfl⟩ := List.mem_map.1 hz
  exact H.sha_lt _ _ _
theorem dig_arr (x : List Nat) : H.aB 32 (H.sha x.length fun j => x.getD j 0) = ((dig x).map u8).toArray := by
  unfold H.aB dig
  apply Array.ext
  · simp
  · intro i h1 h2
    simp [u8]
theorem BL.str {w : World} {po : Option Addr} {x : List Nat} (h : BL w po x) : H.StrAt w po x.length fun j => x.getD j 0 := by
  rcases h with rfl | ⟨b, o, e, h⟩
  · exact Or.inl rfl
  · exact Or.inr ⟨b, o, e, fun i hi => h i hi⟩
theorem get256 {x : List Nat} (h8 : ∀ z ∈ x, z < 256) (i : Nat) (hi : i < x.length) : x.getD i 0 < 256 := by
  rw [List.getD_eq_getElem?_getD, List.getElem?_eq_getElem hi]; exact h8 _ (List.getElem_mem hi)
/-- digest.Sum -/
theorem dsum_any (po : Option Addr) (c : Nat) (x : List Nat) (w : World) (hn : x.length ≤ 1000000) (hc : x.length ≤ c) (h : BL w po x) (h8 : ∀ z ∈ x, z < 256) :
    Calls Tryd.prog 23 #[.slice po x.length c] w fun e w' => e = .returned (.agg ((dig x).map u8).toArray) ∧ Below w.heap.size w w' := by
  rw [← dig_arr]
  exact H.sum_any po x.length c _ w hn hc h.str (get256 h8)
end Go.Proofs.YtelkijiphhoacaaDoor

/- journal.Bytes. -/
namespace Go.Proofs.YtelkijiphhoacaaDoor
open Go Go.RowKit

theorem under5' : Tryd.prog.underlying 5 = some (.int .u8) := by kernel_rfl
/-- append to bytes that have no room. -/
theorem grow_buf (W : World) (g : Nat) (old : List Nat) (hold : ∀ j, j < old.length → W.cell? ⟨g, j, none⟩ = some (u8 (old.getD j 0))) (po : Option Addr) (c : Nat) (L : List Nat) (hL : BL W po L) (hne : L ≠ []) (hn : old.length + L.length ≤ 2000000) :
    ∃ v w', (Builtin.append_ #[29, 29] 29 #[.slice (some ⟨g, 0, none⟩) old.length old.length, .slice po L.length c]).run Tryd.prog W = .ok v w' ∧ Buf W.heap.size w' v (old ++ L) ∧ Below W.heap.size W w' := by
  obtain ⟨i0, hi0, hz0, hz1, hz2⟩ := info_parts Tryd.info5
  have hlen : 0 < L.length := List.length_pos_iff.2 hne
  rcases hL with h | ⟨b, o, rfl, hL⟩
  · exact absurd h hne
  have hget : ∀ (M : List Nat) (j : Nat) (v : Value), (M.map u8)[j]? = some v → j < M.length ∧ v = u8 (M.getD j 0) := fun M j v hj => by
    have hjl : j < M.length := by
      rcases Nat.lt_or_ge j M.length with q | q
      · exact q
      · rw [List.getElem?_eq_none (by simpa using q)] at hj; cases hj
    simp [hjl] at hj
    exact ⟨hjl, by rw [← hj]; simp [List.getD, hjl]⟩
  have hr := run_append_grow (P := Tryd.prog) W 29 29 5 i0 (.int .u8 0) Tryd.underlying29 hi0 hz0 ⟨g, 0, none⟩ old.length old.length (old.map u8) (by rw [hz1]; simp) (fun j v hj => by
      obtain ⟨h1, rfl⟩ := hget old j v hj
      rw [add_none, Nat.zero_add]; exact hold j h1) ⟨b, o, none⟩ L.length c (L.map u8) (by rw [hz1]; simp) (fun j v hj => by
      obtain ⟨h1, rfl⟩ := hget L j v hj
      rw [add_none]; exact hL j h1) (by omega) (by omega) (by rw [hz2]; exact growslice_fits (by omega) (by omega))
  refine ⟨_, _, hr, ⟨by simp, Or.inr ⟨W.heap.size, grownCap W (old.length + L.length) old.length 5, _, by rw [List.length_append], Nat.le_refl _, heap_alloc_new W.drew _, by rw [List.length_append]; exact grownCap_ge W _ _ _, grownCap_le_maxLen W _ _ _ (by unfold maxLen; omega), ?_, ?_⟩⟩, below_on (below_drew _) (below_al _ _)⟩
  · have := grownCap_ge W (old.length + L.length) old.length 5
    simp [Builtin.zeroCells, Value.cells]
    omega
  · have e : ((old.map u8).toArray ++ (L.map u8).toArray ++ Builtin.zeroCells (Value.int .u8 0).cells (grownCap W (old.length + L.length) old.length 5 - (old.length + L.length))).toList = (old ++ L).map u8 ++ (Builtin.zeroCells (Value.int .u8 0).cells (grownCap W (old.length + L.length) old.length 5 - (old.length + L.length))).toList := by simp
    rw [e, Nat.mul_one, List.take_left' (by simp)]
theorem zeroDg : (Tryd.prog.info? 57).map (·.zero) = some (some (.agg (sumC zeroD))) := by kernel_rfl
theorem wpList_allocD {ops : Array Oper} {rest : List Oper} {o : Oper} {a : Act} {w : World} {Q : Exit → Act → World → Prop} (hg : o.guard = none) (ho : o.op = .alloc 57)
    (h : ∀ w1 g, CAt w1 g (sumC zeroD) 57 → Below w.heap.size w w1 → w.heap.size = g → wpList Tryd.prog ops Q rest (a.put o.dst (ptr g)) w1) : wpList Tryd.prog ops Q (o :: rest) a w := by
  refine wpList_plain hg fun _ hK => ?_
  obtain ⟨i, hq, hz'⟩ := Option.map_eq_some_iff.1 zeroDg
  unfold Oper.wp execOp
  simp only [ho, Instr.alloc, zeroValue, typeInfo, Sem.run_bind, newVar, newRow]
  generalize sumC zeroD = C at h hz'
  simp [hq, hz', Value.cells]
  exact hK _ _ (h _ _ (CAt.made _ _ _) (below_al _ _) rfl)
theorem run_storeD {w : World} {g : Nat} {x y : List Nat} (hx : x.length = 32) (hy : y.length = 32) (hb : CAt w g (sumC x) 57) : (Instr.storeAt 57 (.pointer (some ⟨g, 0, none⟩)) (.agg (sumC y))).run Tryd.prog w = .ok () (w.setRow g (sumC y)) ∧ CAt (w.setRow g (sumC y)) g (sumC y) 57 := by
  have e := run_storeVar_row (P := Tryd.prog) w g 57 57 (sumC x) (sumC y) hb (by rw [sumC_size, hy]; exact sizeD) (by rw [sumC_size, sumC_size, hx, hy]) (by rw [Array.all_eq_true_iff_forall_mem]; intro v hv; unfold sumC at hv; simp only [List.mem_toArray, List.mem_map] at hv; obtain ⟨k, _, rfl⟩ := hv; rfl)
  refine ⟨?_, setRow_heap w g (sumC x) (sumC y) _ _ hb⟩
  simp only [Instr.storeAt, Instr.sureAddr, Sem.run_bind, Sem.run_pure, Result.andThen_ok, e]
theorem wpList_storeD {ops : Array Oper} {rest : List Oper} {o : Oper} {a : Act} {w : World} {Q : Exit → Act → World → Prop} (hg : o.guard = none) (hdst : o.dst = none) (x y : Operand) (ho : o.op = .store 57 x y) (g : Nat) (hx : a.eval x = ptr g) {m n : List Nat} (hy : a.eval y = .agg (sumC n)) (hm : m.length = 32) (hn : n.length = 32) (hb : CAt w g (sumC m) 57)
    (h : ∀ w1, CAt w1 g (sumC n) 57 → Only (fun b => b = g) w w1 → wpList Tryd.prog ops Q rest a w1) : wpList Tryd.prog ops Q (o :: rest) a w := by
  refine wpList_plain hg fun _ hK => ?_
  obtain ⟨e1, e2⟩ := run_storeD hm hn hb
  unfold Oper.wp execOp
  simp only [ho, hx, hy, ptr, Sem.run_bind, e1, Result.andThen_ok, Sem.run_pure]
  refine hK (a.put o.dst undef) _ ?_
  rw [hdst]
  exact h _ e2 (only_setRow _ _ _ rfl)
theorem run_dig (g : Nat) (w : World) : (Instr.sliceAt 57 (.pointer (some ⟨g, 0, none⟩)) none none none).run Tryd.prog w = .ok (.slice (some ⟨g, 0, none⟩) 32 32) w := by kernel_rfl
theorem CAt.bl {w : World} {g : Nat} {x : List Nat} {t : TypeId} (h : CAt w g (sumC x) t) : BL w (some ⟨g, 0, none⟩) x := Or.inr ⟨g, 0, rfl, fun i hi => by rw [Nat.zero_add, h.cell, sumC_get hi]⟩
abbrev c3 : Array Value := #[.int .u8 83, .int .u8 74, .int .u8 49]
theorem c3_cells (w : World) (fz : Nat × Nat) : ∀ j, j < [83, 74, 49].length → (w.alloc (.cells c3 5 fz)).cell? ⟨w.heap.size, j, none⟩ = some (u8 ([83, 74, 49].getD j 0)) := fun j hj => by
  have h := heap_alloc_new w (.cells c3 5 fz)
  simp only [World.cell?, h]
  match j, hj with
  | 0, _ | 1, _ | 2, _ => rfl
theorem rsB_take {l : List Rc} {k : Nat} {x : Rc} (h : l[k]? = some x) : rsB (l.take (k + 1)) = rsB (l.take k) ++ rcB x := by
  have hk := (List.getElem?_eq_some_iff.1 h).1
  have e := (List.getElem?_eq_some_iff.1 h).2
  rw [List.take_succ_eq_append_getElem hk, e]
  simp [rsB]
theorem rsB_len {l : List Rp} (hok : ∀ x ∈ l, x.r.ok) (h : (rcs l).all okRc = true) : ∀ k, k ≤ l.length → (rsB ((rcs l).take k)).length ≤ k * 1000
  | 0, _ => by simp [rsB]
  | k + 1, hk => by
    obtain ⟨x, hx⟩ : ∃ x, l[k]? = some x := ⟨_, List.getElem?_eq_getElem (by omega)⟩
    have hxr : (rcs l)[k]? = some x.rc := by rw [rcs_get, hx]; rfl
    rw [rsB_take hxr, List.length_append]
    have := rsB_len hok h k (by omega)
    have hm := List.mem_of_getElem? hx
    have := rcB_len x.r (hok x hm) x.ps (List.all_eq_true.1 h x.rc (List.mem_of_getElem? hxr))
    have e : (rcB x.rc).length ≤ 1000 := this
    omega
theorem rsB_byte {l : List Rp} (hok : ∀ x ∈ l, x.r.ok) : ∀ z ∈ rsB (rcs l), z < 256 := fun z hz => by
  unfold rsB rcs at hz
  rw [List.map_map] at hz
  obtain ⟨b, hb, hz⟩ := List.mem_flatten.1 hz
  obtain ⟨x, hx, rfl⟩ := List.mem_map.1 hb
  exact rcB_byte x.r (hok x hx) x.ps z hz
/-- What stands ahead of the records. -/
def hdJ (s : Int) (n : Nat) : List Nat := [83, 74, 49] ++ ib s ++ nb n
theorem jBody_hd (s : Int) (l : List Rp) : jBody ⟨s, rcs l⟩ = hdJ s l.length ++ rsB (rcs l) := by unfold jBody hdJ; simp only [rcs_len]
theorem hdJ_len {s : Int} {n : Nat} (hs : s ≤ 1099511627776) (hn : n ≤ 64) : (hdJ s n).length ≤ 15 := by
  unfold hdJ
  have h1 := ib_le (n := s) (by omega)
  have h2 := nb_le (n := n) (by omega)
  simp only [List.length_append, List.length_cons, List.length_nil]
  omega
theorem hdJ_byte (s : Int) (n : Nat) : ∀ z ∈ hdJ s n, z < 256 := fun z hz => by
  unfold hdJ ib at hz
  simp only [List.mem_append, List.mem_cons, List.not_mem_nil, or_false] at hz
  rcases hz with ((rfl | rfl | rfl) | h) | h
  · decide
  · decide
  · decide
  · exact nb_byte _ z h
  · exact nb_byte _ z h
end Go.Proofs.YtelkijiphhoacaaDoor

/- bytes.Equal, HasPrefix; what looks at a journal's sign and digest. -/
namespace Go.Proofs.YtelkijiphhoacaaDoor
open Go Go.RowKit

theorem lst_eq_ba {A B : List Nat} (hA : ∀ z ∈ A, z < 256) (hB : ∀ z ∈ B, z < 256) : ((ba A).toList == (ba B).toList) = decide (A = B) := by
  rw [lst_beq, lst_ba hA, lst_ba hB]
theorem equalB_any (po qo : Option Addr) (c d : Nat) (A B : List Nat) (w : World) (hA : BL w po A) (hB : BL w qo B) (a8 : ∀ z ∈ A, z < 256) (b8 : ∀ z ∈ B, z < 256) : Calls Tryd.prog 66 #[.slice po A.length c, .slice qo B.length d] w fun e w' => e = .returned (.bool (decide (A = B))) ∧ w' = w := by
  have h1 := hA.conv c
  have h2 := hB.conv d
  have HE := hid (lst_eq_ba a8 b8)
  generalize ba A = SA at h1 HE
  generalize ba B = SB at h2 HE
  clear hA hB a8 b8
  go_enter Tryd.func66, Tryd.ntmps66
  go_wp2
  go_ret
  exact ⟨by rw [← HE.out]; rfl, rfl⟩
theorem run_head8n (po : Option Addr) (n c h : Nat) (hh : h ≤ c) (w : World) : (Instr.slice 29 (.slice po n c) none (some (.int .i64 (h : Int))) none).run Tryd.prog w = .ok (.slice po h c) w := by
  rw [run_slice_h (P := Tryd.prog) w 29 po n c underE8 .i64 (h : Int) (by omega) (by omega), elem8]
  cases po with
  | none => simp [Result.andThen, sliced]
  | some a =>
    by_cases h0 : c = 0
    · simp [Result.andThen, sliced, h0]
    · simp [Result.andThen, sliced, h0, add_zero']
theorem len_take {L : List Nat} {k : Nat} (h : k ≤ L.length) : (L.take k).length = k := by rw [List.length_take]; omega
theorem prefix_any (po qo : Option Addr) (c d : Nat) (A B : List Nat) (w : World) (hA : BL w po A) (hB : BL w qo B) (a8 : ∀ z ∈ A, z < 256) (b8 : ∀ z ∈ B, z < 256) (hl : B.length ≤ A.length) (hc : A.length ≤ c) : Calls Tryd.prog 65 #[.slice po A.length c, .slice qo B.length d] w fun e w' => e = .returned (.bool (decide (A.take B.length = B))) ∧ w' = w := by
  have hs := run_head8n po A.length c B.length (by omega)
  have hE := equalB_any po qo c d (A.take B.length) B w (hA.take B.length) hB (fun z hz => a8 z (List.mem_of_mem_take hz)) b8
  rw [len_take hl] at hE
  generalize decide (A.take B.length = B) = Q at hE
  have HE := hid hE
  have hl' : (B.length : Int) ≤ (A.length : Int) := by omega
  clear hE hA hB a8 b8
  go_enter Tryd.func65, Tryd.ntmps65
  go_wp2_with (go_at_call 66; refine HE.out.mono ?_; rintro e w1 ⟨rfl, hw1⟩; have hw2 := hw1.symm; subst hw2)
  go_ret
  exact ⟨rfl, rfl⟩
/-- What is left of bytes, and what was read of them so far: its cells. -/
def rC (l : Value) (n s : Int) (r : Value) : Array Value := #[l, i64 n, i64 s, r]
structure RdC (w : World) (p : Nat) (po : Option Addr) (L : List Nat) (c : Nat) (n s : Int) (r : Value) : Prop where
  at_ : CAt w p (rC (.slice po L.length c) n s r) 76
  bl : BL w po L
  ap : L ≠ [] → ∀ a, po = some a → a.block ≠ p
  le : L.length ≤ c
  lt : L.length ≤ 100000
  b8 : ∀ z ∈ L, z < 256
section
variable {w : World} {p : Nat} {po : Option Addr} {L : List Nat} {c : Nat} {n s : Int} {r : Value} (h : RdC w p po L c n s r)
include h
theorem RdC.below {w' : World} (hb : Below w.heap.size w w') : RdC w' p po L c n s r := ⟨h.at_.below hb, h.bl.below hb, h.ap, h.le, h.lt, h.b8⟩
theorem RdC.c0 : w.cell? ⟨p, 0, none⟩ = some (.slice po L.length c) := by rw [h.at_.cell]; rfl
theorem RdC.c1 : w.cell? ⟨p, 1, none⟩ = some (i64 n) := by rw [h.at_.cell]; rfl
theorem RdC.c2 : w.cell? ⟨p, 2, none⟩ = some (i64 s) := by rw [h.at_.cell]; rfl
theorem RdC.c3 : w.cell? ⟨p, 3, none⟩ = some r := by rw [h.at_.cell]; rfl
end
theorem sign_bl (w : World) (fz : Nat × Nat) : BL (w.alloc (.cells c3 5 fz)) (some ⟨w.heap.size, 0, none⟩) [83, 74, 49] := Or.inr ⟨_, _, rfl, fun i hi => by rw [Nat.zero_add]; exact c3_cells w fz i hi⟩
set_option maxRecDepth 100000 in
set_option maxHeartbeats 1000000 in
theorem sign_any (p : Nat) (po : Option Addr) (L : List Nat) (c : Nat) (n s : Int) (r : Value) (w : World) (a0 a1 : Addr) (h : RdC w p po L c n s r) (he : Ers w a0 a1) : Calls Tryd.prog 50 #[ptr p] w fun e w' => e = .returned (if L.length < 35 ∨ L.take 3 ≠ [83, 74, 49] then eV a1 else .nilIface) ∧ Below w.heap.size w w' := by
  obtain ⟨R, hR⟩ : ∃ R : Value, (if L.length < 35 ∨ L.take 3 ≠ [83, 74, 49] then eV a1 else .nilIface) = R := ⟨_, rfl⟩
  rw [hR]
  have HRR := hid hR
  clear hR
  have c0 := h.c0
  have HH := hid h
  have HER := hid he
  clear h he
  by_cases hl : L.length < 35
  · have hl' : (L.length : Int) < 35 := by omega
    have e1 := HER.out.c1
    go_enter Tryd.func50, Tryd.ntmps50
    go_wp2
    go_ret
    exact ⟨by rw [← HRR.out, if_pos (Or.inl hl)]; rfl, Below.refl _ _⟩
  · have hl' : ¬ (L.length : Int) < 35 := by omega
    have hcv := fun (w : World) (C : Array Value) (n c : Nat) => Go.Lib.run_convert_bytes_const (P := Tryd.prog) w 29 5 C n c Tryd.underlying29 under5'
    have hP := prefix_any po (some ⟨w.heap.size, 0, none⟩) c 3 L [83, 74, 49] (w.alloc (.cells c3 5 (3, 4))) (HH.out.bl.below (below_al _ _)) (sign_bl w (3, 4)) HH.out.b8 (by decide) (by simp only [List.length_cons, List.length_nil]; omega) HH.out.le
    have HP : Hid (Calls Tryd.prog 65 #[.slice po L.length c, .slice (some ⟨w.heap.size, 0, none⟩) 3 3] (w.alloc (.cells c3 5 (3, 4))) fun e w' => e = .returned (.bool (decide (L.take 3 = [83, 74, 49]))) ∧ w' = w.alloc (.cells c3 5 (3, 4))) := hid hP
    clear hP
    have HBW := hid (below_al w (.cells c3 5 (3, 4)))
    by_cases hq : L.take 3 = [83, 74, 49]
    · rw [decide_eq_true hq] at HP
      go_enter Tryd.func50, Tryd.ntmps50
      go_wp2_with (go_at_call 65; refine HP.out.mono ?_; rintro e w1 ⟨rfl, hw1⟩; have hw2 := hw1.symm; subst hw2)
      go_ret
      exact ⟨by rw [← HRR.out, if_neg (by rintro (k | k); exact hl k; exact k hq)]; rfl, HBW.out⟩
    · rw [decide_eq_false hq] at HP
      have e1 := (HER.out.below HBW.out).c1
      go_enter Tryd.func50, Tryd.ntmps50
      go_wp2_with (go_at_call 65; refine HP.out.mono ?_; rintro e w1 ⟨rfl, hw1⟩; have hw2 := hw1.symm; subst hw2)
      go_ret
      exact ⟨by rw [← HRR.out, if_pos (Or.inr hq)]; rfl, HBW.out⟩
end Go.Proofs.YtelkijiphhoacaaDoor
