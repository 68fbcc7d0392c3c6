/- Contract of Sum of package digest: the digest of any bytes; what was there is as it was. -/
import Derived.Test.YtgmehiidnclgmaaSg
namespace Go.Proofs.Ytgmehiidnclgmaa
open Go Go.RowKit

theorem size41 (w : World) : (sizeOf (Try.prog.elem 22)).run Try.prog w = .ok 1 w := by
  rw [show Try.prog.elem 22 = 5 by kernel_rfl]
  kernel_rfl
theorem under41 : Try.prog.underlying 22 = some (.slice (Try.prog.elem 22)) := by kernel_rfl
theorem add_plain' (b o l : Nat) : (⟨b, o, none⟩ : Addr).add l = ⟨b, o + l, none⟩ := by unfold Addr.add; split <;> simp_all
/-- A part of a list from l on. -/
theorem run_lo22 (p : Option Addr) (n c l : Nat) (hl : l ≤ n) : ∃ p2 : Option Addr, (∀ w : World, (Instr.slice 22 (.slice p n c) (some (.int .i64 (l : Int))) none none).run Try.prog w = .ok (.slice p2 (n - l) (c - l)) w) ∧ (∀ b o, p = some ⟨b, o, none⟩ → l < c → p2 = some ⟨b, o + l, none⟩) := by
  have hr : ∀ w, (Instr.slice 22 (.slice p n c) (some (.int .i64 (l : Int))) none none).run Try.prog w = .ok (sliced p l n c 1) w := fun w => by
    rw [run_slice_l (P := Try.prog) w 22 p n c under41 .i64 (l : Int) (by omega) (by omega), size41]
    simp [Result.andThen]
  cases p with
  | none => exact ⟨none, fun w => by rw [hr]; simp [sliced], fun b o e => by cases e⟩
  | some a =>
    by_cases e : c = l
    · exact ⟨some a, fun w => by rw [hr]; simp [sliced, e], fun b o _ q => by omega⟩
    · refine ⟨some (a.add l), fun w => by rw [hr]; simp [sliced, e], fun b o q _ => ?_⟩
      cases q
      rw [add_plain']
theorem StrAt.drop {w : World} {p p2 : Option Addr} {n c l : Nat} {x : Nat → Nat} (h : StrAt w p n x) (hc : n ≤ c) (hp : ∀ b o, p = some ⟨b, o, none⟩ → l < c → p2 = some ⟨b, o + l, none⟩) : StrAt w p2 (n - l) (fun j => x (l + j)) := by
  by_cases h0 : n - l = 0
  · exact .inl h0
  · rcases h with h | ⟨b, o, rfl, hr⟩
    · omega
    · exact .inr ⟨b, o + l, hp b o rfl (by omega), fun i hi => by rw [Nat.add_assoc]; exact hr (l + i) (by omega)⟩
theorem StrAt.short {w : World} {p : Option Addr} {n n' : Nat} {x : Nat → Nat} (h : StrAt w p n x) (hn : n' ≤ n) : StrAt w p n' x := by
  by_cases h0 : n' = 0
  · exact .inl h0
  · rcases h with h | ⟨b, o, rfl, hr⟩
    · omega
    · exact .inr ⟨b, o, rfl, fun i hi => hr i (by omega)⟩
theorem StrAt.congr {w : World} {p : Option Addr} {n : Nat} {x y : Nat → Nat} (h : StrAt w p n x) (e : ∀ j, j < n → x j = y j) : StrAt w p n y := by
  rcases h with h | ⟨b, o, rfl, hr⟩
  · exact .inl h
  · exact .inr ⟨b, o, rfl, fun i hi => by rw [← e i hi]; exact hr i hi⟩
theorem cell_lt {w : World} {a : Addr} {v : Value} (h : w.cell? a = some v) : a.block < w.heap.size := by
  rcases Nat.lt_or_ge a.block w.heap.size with h1 | h1
  · exact h1
  · simp [World.cell?, Array.getElem?_eq_none h1] at h
theorem StrAt.lt {w : World} {p : Option Addr} {n : Nat} {x : Nat → Nat} (h : StrAt w p n x) (a : Addr) (ha : p = some a) (hn : 0 < n) : a.block < w.heap.size := by
  rcases h with h | ⟨b, o, rfl, hr⟩
  · omega
  · cases ha; exact cell_lt (hr 0 hn)
theorem StrAt.below {w w' : World} {p : Option Addr} {n : Nat} {x : Nat → Nat} (h : StrAt w p n x) (hb : Below w.heap.size w w') : StrAt w' p n x := by
  rcases Nat.eq_zero_or_pos n with h0 | h0
  · exact .inl h0
  · have hl := h.lt
    rcases h with h | ⟨b, o, rfl, hr⟩
    · exact .inl h
    · exact .inr ⟨b, o, rfl, hr.below hb (hl _ rfl h0)⟩
def lenV : Value → Nat | .slice _ n _ => n | _ => 0
structure SumM (w wr : World) (g3 g5 : Nat) (s : St) : Prop where
  st : CAt wr g3 (aW 8 s.get) 75
  blk : ∃ y, CAt wr g5 (aB 64 y) 79
  res : CAt wr w.heap.size (aB 32 zB) 61
  below : Below w.heap.size w wr
  h3 : w.heap.size < g3
  h5 : g3 < g5
set_option maxRecDepth 100000 in
set_option maxHeartbeats 1000000 in
theorem sum_any (p : Option Addr) (n c : Nat) (x : Nat → Nat) (w : World) (hn : n ≤ 1000000) (hc : n ≤ c) (hx : StrAt w p n x) (hb : ∀ i, i < n → x i < 256) :
    Calls Try.prog 36 #[.slice p n c] w fun e w' => e = .returned (.agg (aB 32 (sha n x))) ∧ Below w.heap.size w w' := by
  have HX := hid hx
  have HBX := hid hb
  have HCC := hid hc
  clear hx hb hc
  have hn' : (n : Int) ≤ 1000000 := by omega
  go_enter Try.func36, Try.ntmps36
  go_upto_region 2 with (first
    | refine wpList_alloc_row rfl 61 rfl _ zero32 ?_
    | refine wpList_alloc_row rfl 75 rfl _ zero8 ?_
    | (go_at_call 49; refine (firstWords_any _).mono ?_; rintro e w1 ⟨rfl, hbw⟩)
    | refine wpList_store_row rfl 75 _ _ rfl _ _ rfl rfl _ _ (CAt.new _ _ _) (size8 _) (by rw [aW_size, aW_size]) (aW_one _ _) ?_)
  have hz : (w.alloc (.cells (aB 32 zB) 61)).heap.size = w.heap.size + 1 := by simp
  have r0 : CAt w1 w.heap.size (aB 32 zB) 61 := (CAt.new w (aB 32 zB) 61).below hbw (by rw [hz]; omega)
  have b0 : Below w.heap.size w w1 := ((Below.refl _ _).alloc (by omega) _).trans (hbw.mono (by rw [hz]; omega))
  have g0 : w.heap.size < w1.heap.size := by have := hbw.size; rw [hz] at this; omega
  have hz3 : ((w1.alloc (.cells (aW 8 zW) 75)).setRow w1.heap.size (aW 8 st0.get)).heap.size = w1.heap.size + 1 := by simp
  have r1 : CAt ((w1.alloc (.cells (aW 8 zW) 75)).setRow w1.heap.size (aW 8 st0.get)) w1.heap.size (aW 8 st0.get) 75 := (CAt.new w1 (aW 8 zW) 75).row _
  have r2 := ((r0.alloc (.cells (aW 8 zW) 75)).rowOther (k := w1.heap.size) (aW 8 st0.get) (by omega))
  have b2 : Below w.heap.size w ((w1.alloc (.cells (aW 8 zW) 75)).setRow w1.heap.size (aW 8 st0.get)) := below_setRow (b0.alloc (by omega) _) (by omega) _
  clear r0 b0 hbw hz
  generalize ((w1.alloc (.cells (aW 8 zW) 75)).setRow w1.heap.size (aW 8 st0.get)) = w3 at *
  generalize w1.heap.size = g3 at *
  have M0 : SumM w (w3.alloc (.cells (aB 64 zB) 79)) g3 (g3 + 1) (hs x 0) := ⟨r1.alloc _, ⟨zB, CAt.new' w3 (aB 64 zB) 79 _ hz3⟩, r2.alloc _, b2.alloc (by omega) _, g0, by omega⟩
  have HM := hid M0
  have HZ3 := hid hz3
  clear M0 r1 r2 b2 g0
  simp only [Act.put, List.setIfInBounds_toArray, List.set_cons_succ, List.set_cons_zero]
  go_wp2_with (refine wpList_alloc_row rfl 79 rfl _ zero64B ?_)
  obtain ⟨C, hC⟩ : ∃ C, C = 8 * n := ⟨_, rfl⟩
  have hCn : (n : Int) * 8 = (C : Int) := by omega
  have hz4 := HZ3.out
  simp only [Act.put, List.setIfInBounds_toArray, List.set_cons_succ, List.set_cons_zero, hCn, hz4]
  have HC := hid hC
  clear hC hCn hz3 hz4 HZ3
  go_loopw [0] (fun v wr => ∃ (q : Nat) (p' : Option Addr) (m c' : Nat), 64 * q + m = n ∧ v = .slice p' m c' ∧ m ≤ c' ∧ StrAt w p' m (fun i => x (64 * q + i)) ∧ SumM w wr g3 (g3 + 1) (hs x q)) (fun v _ => lenV v)
  case atStart => exact ⟨0, p, n, c, by omega, rfl, HCC.out, HX.out.congr (fun j _ => by simp), HM.out⟩
  case round =>
    clear HM HX HCC
    obtain ⟨q, p', m, c', hqm, rfl, hmc, hstr, hm⟩ := hrel
    have HQ := hid hqm
    have HMC := hid hmc
    have hm6 : (m : Int) ≤ 1000000 := by omega
    by_cases hge : 64 ≤ m
    · obtain ⟨y, hy⟩ := hm.blk
      have hcp := run_copy_blk wr (g3 + 1) 64 79 y p' m c' _ hy (hstr.below hm.below)
      rw [show min m 64 = 64 by omega] at hcp
      have M1 : SumM w (wr.setRow (g3 + 1) (aB 64 (ovl 64 (fun i => x (64 * q + i)) y))) g3 (g3 + 1) (hs x q) :=
        ⟨hm.st.rowOther _ (by omega), ⟨_, hy.row _⟩, hm.res.rowOther _ (by have := hm.h3; omega), below_setRow hm.below (by have := hm.h3; omega) _, hm.h3, hm.h5⟩
      have B1 : CAt (wr.setRow (g3 + 1) (aB 64 (ovl 64 (fun i => x (64 * q + i)) y))) (g3 + 1) (aB 64 (fun i => x (64 * q + i))) 79 :=
        (hy.row _).congr (aB_congr 64 fun i hi => by unfold ovl; rw [if_pos hi])
      have HS : Hid (StrAt w (if c' = 64 then p' else Option.map (fun a => { block := a.block, off := a.off + 64 }) p') (m - 64) (fun i => x (64 * (q + 1) + i))) :=
        (hstr.drop (l := 64) hmc (fun b o e h => by subst e; rw [if_neg (by omega)]; rfl)).congr (fun j _ => by congr 1; omega)
      have HM := hid M1
      have HB := hid B1
      have hge' : (64 : Int) ≤ (m : Int) := by omega
      clear M1 B1 hm hy hstr hqm hmc
      go_upto_region 6 with fail
      clear hcp
      generalize (wr.setRow (g3 + 1) (aB 64 (ovl 64 (fun i => x (64 * q + i)) y))) = w4 at *
      have HLT : Hid (∀ i, i < 64 → x (64 * q + i) < 256) := fun i hi => HBX.out _ (by have := HQ.out; omega)
      go_wp2_with (first
        | refine wpList_load_row rfl 75 _ rfl _ rfl _ _ _ _ HM.out.st Try.underlying75 rfl (size8 _) ?_
        | refine wpList_load_row rfl 79 _ rfl _ rfl _ _ _ _ HB.out Try.underlying79 rfl (size64B _) ?_
        | (go_at_call 50; refine (mix_any _ _ HLT.out _).mono ?_; rintro e w5 ⟨rfl, hbw⟩; have HM5 := hid (SumM.mk (HM.out.st.below hbw HM.out.st.lt) ⟨_, HB.out.below hbw HB.out.lt⟩ (HM.out.res.below hbw HM.out.res.lt) (HM.out.below.trans (hbw.mono HM.out.below.size)) HM.out.h3 HM.out.h5); clear hbw)
        | refine wpList_store_row rfl 75 _ _ rfl _ _ rfl rfl _ _ HM5.out.st (size8 _) (by rw [aW_size, aW_size]) (aW_one _ _) ?_)
      go_roundw
      case rel =>
        refine ⟨q + 1, _, m - 64, c' - 64, by have := HQ.out; omega, rfl, by have := HMC.out; omega, HS.out, ?_⟩
        obtain ⟨y2, hy2⟩ := HM5.out.blk
        exact ⟨HM5.out.st.row _, ⟨_, hy2.rowOther _ (by omega)⟩, HM5.out.res.rowOther _ (by have := HM5.out.h3; omega), below_setRow HM5.out.below (by have := HM5.out.h3; omega) _, HM5.out.h3, HM5.out.h5⟩
      case measure => simp [lenV]; omega
    · have hlt' : ¬ (64 : Int) ≤ (m : Int) := by omega
      have HM := hid hm
      have HS := hid hstr
      have HS2 := hid (hstr.below hm.below)
      have hq : q = n / 64 := by omega
      have hm3 : m = n % 64 := by omega
      have hf : fin (hs x q) m (fun i => x (64 * q + i)) n = shaSt n x := by
        rw [hq, hm3]; unfold fin
        by_cases h : n % 64 < 56
        · rw [if_pos h, shaSt_short n x h]
        · rw [if_neg h, shaSt_long n x (by omega)]
      have HF := hid hf
      have HM63 : Hid (m ≤ 63) := by show m ≤ 63; omega
      clear hm hstr hqm hmc hq hm3 hf
      go_wp2_with (first
        | refine wpList_load_row rfl 75 _ rfl _ rfl _ _ _ _ HM.out.st Try.underlying75 rfl (size8 _) ?_
        | (go_at_call 52; refine (finish_any _ _ _ _ _ _ n _ HC.out HM63.out HS2.out (fun i hi => HBX.out _ (by have := HQ.out; omega)) (fun a ha hpos => HS2.out.lt a ha hpos)).mono ?_; rintro e w5 ⟨rfl, hbw⟩; rw [HF.out]; have HR := hid (HM.out.res.below hbw HM.out.res.lt); have HB5 := hid (HM.out.below.trans (hbw.mono HM.out.below.size)); clear hbw)
        | (go_at_call 51; refine (written_any _ _).mono ?_; rintro e w6 ⟨rfl, hbw⟩; have HR6 := hid (HR.out.below hbw HR.out.lt); have HB6 := hid (HB5.out.trans (hbw.mono HB5.out.size)); clear hbw)
        | refine wpList_store_row rfl 61 _ _ rfl _ _ rfl rfl _ _ HR6.out (size32 _) (by rw [aB_size, aB_size]) (aB_one _ _) ?_)
      exact ret_row rfl _ _ _ _ _ rfl rfl (HR6.out.row _) Try.underlying61 rfl (size32 _) ⟨rfl, below_setRow HB6.out (by omega) _⟩
end Go.Proofs.Ytgmehiidnclgmaa
