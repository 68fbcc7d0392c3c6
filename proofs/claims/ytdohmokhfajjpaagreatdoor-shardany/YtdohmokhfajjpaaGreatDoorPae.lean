/- Texts laid into one, cut to what is needed: the remark ahead of each part says what is proved there. -/
import Derived.Test.YtdohmokhfajjpaaGreatDoorPad
import Derived.Test.YtdohmokhfajjpaaGreatDoorPac
import Derived.Deep.CutRange
import Derived.Maps.AppendAt
import Derived.Laws.AppendOwnNone
/- Contract of mix of package digest: what the words become by a block; what was there is as it was. -/
namespace Go.Proofs.YtdohmokhfajjpaaGreatDoor.H
open Go Go.RowKit

theorem zero8 : (Tryz.prog.info? 80).map (·.zero) = some (some (.agg (aW 8 zW))) := by kernel_rfl
theorem size8 (f : Nat → BitVec 32) : (Tryz.prog.info? 80).map (·.size) = some (aW 8 f).size := by rw [aW_size]; kernel_rfl
def MixM (H gp gq : Nat) (s : St) (x : Nat → Nat) (w w' : World) : Prop :=
 CAt w' gp (aW 64 kk) 117 ∧ CAt w' gq (aW 64 (sch x)) 117 ∧ CAt w' H (aW 8 s.get) 80 ∧ CAt w' (H + 1 + 1) (aW 8 zW) 80 ∧ Below H w w'
theorem MixM.drewN {H gp gq : Nat} {s : St} {x : Nat → Nat} {w w' : World} (h : MixM H gp gq s x w w') (m : Nat) : MixM H gp gq s x w (w'.drewN m) :=
 ⟨h.1.drewN m, h.2.1.drewN m, h.2.2.1.drewN m, h.2.2.2.1.drewN m, Below.drewN' h.2.2.2.2 m⟩
def addTo (s r : St) (k i : Nat) : BitVec 32 := if i < k then s.get i + r.get i else s.get i
theorem addTo_step (s r : St) (k i : Nat) : upW (addTo s r k) k (addTo s r k k + r.get k) i = addTo s r (k + 1) i := by
 unfold upW addTo
 by_cases e : i = k
 ·rw [if_pos e, if_neg (by omega), if_pos (by omega), e]
 ·rw [if_neg e]
  by_cases q : i < k
  ·rw [if_pos q, if_pos (by omega)]
  ·rw [if_neg q, if_neg (by omega)]
theorem run_index_st (r : St) (k : Nat) (hk : k < 8) (w : World) : (Instr.index 80 (.agg (aW 8 r.get)) (.int .i64 (k : Int))).run Tryz.prog w = .ok (.int .u32 (wv (r.get k))) w :=
 run_index_row 80 78 8 _ k _ Tryz.underlying80 hk (aW_get 8 r.get k hk) (by kernel_rfl) (fun _ => by kernel_rfl) w
set_option maxRecDepth 100000 in
set_option maxHeartbeats 1000000 in
theorem mix_any (s : St) (x : Nat → Nat) (hx : ∀ i, i < 64 → x i < 256) (w : World) :
  Calls Tryz.prog 36 #[.agg (aW 8 s.get), .agg (aB 64 x)] w fun e w' => e = .returned (.agg (aW 8 (comp s x).get)) ∧ Below w.heap.size w w' := by
 have HX := hid hx
 clear hx
 go_enter Tryz.func36, Tryz.ntmps36
 go_wp2_with (refine wpList_alloc_row rfl 80 rfl _ zero8 ?_)
 refine wp_region_any (by kernel_rfl) ?_
 refine region_two_at 20 21 22 5 6 3 117 84 (aW 64 kk) (aB 64 x) (aW 64 (sch x)) (aW 64 zW) 55 56 (w.heap.size + 1)
  (by decide +kernel) (by decide +kernel) rfl (by decide) 123 rfl (by decide) rfl rfl rfl rfl rfl rfl rfl rfl rfl rfl rfl rfl rfl rfl rfl (fun _ _ => by kernel_rfl) rfl (fun _ _ => by kernel_rfl) rfl rfl rfl rfl
  constants_any (spread_any x HX.out) rfl (tb := 84) ?_ rfl Tryz.underlying84 (size64B x) zero64 (by rw [aW_size, aW_size]) (by rw [aW_size, aW_size]) (size64 _) (aW_one _ _) (aW_one _ _) ?_
 ·exact (CAt.new' (w.alloc (.cells (aW 8 s.get) 80)) (aB 64 x) 84 _ (by simp)).alloc _
 intro gp gq w' hb hk hs hgp hgq hne
 have hz : (((w.alloc (.cells (aW 8 s.get) 80)).alloc (.cells (aB 64 x) 84)).alloc (.cells (aW 8 zW) 80)).heap.size = w.heap.size + 1 + 1 + 1 := by simp
 have hz2 : ((w.alloc (.cells (aW 8 s.get) 80)).alloc (.cells (aB 64 x) 84)).heap.size = w.heap.size + 1 + 1 := by simp
 have hb' : Below (w.heap.size + 1 + 1 + 1) (((w.alloc (.cells (aW 8 s.get) 80)).alloc (.cells (aB 64 x) 84)).alloc (.cells (aW 8 zW) 80)) w' :=
  ⟨hb.os, hb.tape, hb.output, hb.size, fun k hk => hb.block k (by rw [← hz] at hk; exact hk)⟩
 have M0 : MixM w.heap.size gp gq s x w w' := by
  refine ⟨hk, hs, ?_, ?_, ?_⟩
  ·exact CAt.below (((CAt.new w (aW 8 s.get) 80).alloc _).alloc _) hb' (by omega)
  ·exact CAt.below (CAt.new' ((w.alloc (.cells (aW 8 s.get) 80)).alloc (.cells (aB 64 x) 84)) (aW 8 zW) 80 _ hz2) hb' (by omega)
  ·exact Below.trans ((((Below.refl _ _).alloc (by omega) _).alloc (by simp) _).alloc (by rw [hz2]; omega) _) (hb'.mono (by omega))
 have hgp : w.heap.size + 1 + 1 + 1 ≤ gp := by rw [← hz]; exact hgp
 have hgq : w.heap.size + 1 + 1 + 1 ≤ gq := by rw [← hz]; exact hgq
 have HN := hid hne
 have HG : Hid (w.heap.size + 1 + 1 < gp ∧ w.heap.size + 1 + 1 < gq) := ⟨by omega, by omega⟩
 clear hb hb' hk hs hgp hgq hne hz
 have c0 : w'.cell? ⟨w.heap.size, 0, none⟩ = some (.int .u32 (wv s.a)) := M0.2.2.1.cellW 0 (by omega)
 have c1 : w'.cell? ⟨w.heap.size, 1, none⟩ = some (.int .u32 (wv s.b)) := M0.2.2.1.cellW 1 (by omega)
 have c2 : w'.cell? ⟨w.heap.size, 2, none⟩ = some (.int .u32 (wv s.c)) := M0.2.2.1.cellW 2 (by omega)
 have c3 : w'.cell? ⟨w.heap.size, 3, none⟩ = some (.int .u32 (wv s.d)) := M0.2.2.1.cellW 3 (by omega)
 have c4 : w'.cell? ⟨w.heap.size, 4, none⟩ = some (.int .u32 (wv s.e)) := M0.2.2.1.cellW 4 (by omega)
 have c5 : w'.cell? ⟨w.heap.size, 5, none⟩ = some (.int .u32 (wv s.f)) := M0.2.2.1.cellW 5 (by omega)
 have c6 : w'.cell? ⟨w.heap.size, 6, none⟩ = some (.int .u32 (wv s.g)) := M0.2.2.1.cellW 6 (by omega)
 have c7 : w'.cell? ⟨w.heap.size, 7, none⟩ = some (.int .u32 (wv s.h)) := M0.2.2.1.cellW 7 (by omega)
 have HM := hid M0
 clear M0
 simp only [fr5, Act.put, List.setIfInBounds_toArray, List.set_cons_succ, List.set_cons_zero, hz2]
 clear hz2
 go_wp2_with fail
 go_quiet (fail)
 have HM := hid (HM.out.drewN nq)
 clear c0 c1 c2 c3 c4 c5 c6 c7
 generalize w'.drewN nq = w1 at *
 go_wp2
 go_loopw [7, 8, 9, 10, 11, 12, 13, 14, 39] (fun a b c d e f g h v wr => ∃ t : Nat, t ≤ 64 ∧ v = .int .i64 t ∧ a = .int .u32 (wv (rnds s x t).a) ∧ b = .int .u32 (wv (rnds s x t).b) ∧ c = .int .u32 (wv (rnds s x t).c) ∧ d = .int .u32 (wv (rnds s x t).d) ∧ e = .int .u32 (wv (rnds s x t).e) ∧ f = .int .u32 (wv (rnds s x t).f) ∧ g = .int .u32 (wv (rnds s x t).g) ∧ h = .int .u32 (wv (rnds s x t).h) ∧ MixM w.heap.size gp gq s x w wr) (fun _ _ _ _ _ _ _ _ v _ => (64 - intOf v).toNat)
 case atStart => exact ⟨0, by omega, rfl, rfl, rfl, rfl, rfl, rfl, rfl, rfl, rfl, HM.out⟩
 case round =>
  clear HM
  obtain ⟨t, ht, rfl, q1, q2, q3, q4, q5, q6, q7, q8, hm⟩ := hrel
  generalize hr : rnds s x t = r at *
  subst q1 q2 q3 q4 q5 q6 q7 q8
  have HR := hid hr
  clear hr
  by_cases hlt : t < 64
  ·have c1 := hm.1.cellW t hlt
   have c2 := hm.2.1.cellW t hlt
   generalize hkt : kk t = kt at *
   generalize hwt : sch x t = wt at *
   have HK := hid hkt
   have HW := hid hwt
   have HM := hid hm
   clear hm hkt hwt
   have hlt' : (t : Int) < 64 := by omega
   go_wp2_with fail
   have a1 := wadd
   have a1' := waddW
   have a2 := wxor
   have a3 := wand
   have a4 := wnot
   refine wp_region_quiet_lit (by kernel_rfl) (by kernel_rfl) ?_
   repeat (go_big_quiet_step ((go_at_call 57; refine Calls.quiet_of_same (right_i _ _ (by decide) (by decide) _))))
   refine wpQuiet_nil ?_
   rintro _ ⟨nr, rfl⟩
   have HM := hid (HM.out.drewN nr)
   clear c1 c2
   generalize wr.drewN nr = w2 at *
   go_wp2_with (go_at_call 57; refine (right_i _ _ (by decide) (by decide) _).mono ?_; rintro e w' ⟨rfl, rfl⟩)
   go_roundw
   case rel =>
    have e : rnds s x (t + 1) = rnd r kt wt := by rw [rnds, HR.out, HK.out, HW.out]
    exact ⟨t + 1, by omega, by go_num, by rw [e]; rfl, by rw [e]; rfl, by rw [e]; rfl, by rw [e]; rfl, by rw [e]; rfl, by rw [e]; rfl, by rw [e]; rfl, by rw [e]; rfl, HM.out⟩
   case measure => simp [intOf]; omega
  ·have e : t = 64 := by omega
   have HS : Hid (rnds s x 64 = r) := by rw [← e]; exact HR.out
   have HM := hid hm
   clear hm e HR
   have hge : ¬ (t : Int) < 64 := by omega
   go_wp2
   go_loopw [111] (fun v wr => ∃ k : Nat, k ≤ 8 ∧ v = .int .i64 k ∧ CAt wr w.heap.size (aW 8 (addTo s r k)) 80 ∧ CAt wr (w.heap.size + 1 + 1) (aW 8 zW) 80 ∧ Below w.heap.size w wr) (fun v _ => (8 - intOf v).toNat)
   case atStart => exact ⟨0, by omega, rfl, HM.out.2.2.1.congr (aW_congr 8 fun i _ => by unfold addTo; rw [if_neg (by omega)]), HM.out.2.2.2.1, HM.out.2.2.2.2⟩
   case round =>
    clear HM
    obtain ⟨k, hk, rfl, hc, hz, hb⟩ := hrel
    by_cases hlk : k < 8
    ·have hix := run_index_st r k hlk
     simp only [aW_st] at hix
     have c1 := hc.cellW k hlk
     have c2 := hc.free k
     have a1 := wadd
     have hlk' : (k : Int) < 8 := by omega
     have HC := hid hc
     have HZ := hid hz
     have HB := hid hb
     clear hc hz hb
     go_wp2
     go_roundw
     case rel => exact ⟨k + 1, by omega, by go_num, (HC.out.setW k _).congr (aW_congr 8 fun i _ => addTo_step s r k i), HZ.out.other _ _ (by simp; omega), HB.out.setCell (by simp) _⟩
     case measure => simp [intOf]; omega
    ·have e : k = 8 := by omega
     have hc2 := hc.congr (cs' := aW 8 (comp s x).get) (aW_congr 8 fun i hi => (by rw [comp_get, HS.out]; unfold addTo; rw [if_pos (by omega)]))
     have HC := hid hc2
     have HZ := hid hz
     have HB := hid hb
     have hgk : ¬ (k : Int) < 8 := by omega
     clear hc hc2 hz hb e
     go_wp2_with (first
      | refine wpList_load_row rfl 80 _ rfl _ rfl _ _ _ _ HC.out Tryz.underlying80 rfl (size8 _) ?_
      | refine wpList_store_row rfl 80 _ _ rfl _ _ rfl rfl _ _ HZ.out (size8 _) (by rw [aW_size, aW_size]) (aW_one _ _) ?_)
     exact ret_row rfl _ _ _ _ _ rfl rfl (HZ.out.row _) Tryz.underlying80 rfl (size8 _) ⟨rfl, below_setRow HB.out (by omega) _⟩
end Go.Proofs.YtdohmokhfajjpaaGreatDoor.H

/- Contract of written of package digest: the words' bytes. -/
namespace Go.Proofs.YtdohmokhfajjpaaGreatDoor.H
open Go Go.RowKit

theorem zero32 : (Tryz.prog.info? 41).map (·.zero) = some (some (.agg (aB 32 zB))) := by kernel_rfl
theorem size32 (x : Nat → Nat) : (Tryz.prog.info? 41).map (·.size) = some (aB 32 x).size := by rw [aB_size]; kernel_rfl
def upTo (f : Nat → Nat) (k i : Nat) : Nat := if i < k then f i else 0
theorem upTo_step (f : Nat → Nat) (k i : Nat) : upB (upTo f k) k (f k) i = upTo f (k + 1) i := by
 unfold upB upTo
 by_cases e : i = k
 ·rw [if_pos e, if_pos (by omega), e]
 ·rw [if_neg e]
  by_cases q : i < k
  ·rw [if_pos q, if_pos (by omega)]
  ·rw [if_neg q, if_neg (by omega)]
theorem upTo_zero (f : Nat → Nat) (i : Nat) : zB i = upTo f 0 i := by unfold zB upTo; rw [if_neg (by omega)]
theorem upTo_at (f : Nat → Nat) (k i : Nat) (h : i < k) : upTo f k i = f i := by unfold upTo; rw [if_pos h]
theorem out_byte (s : St) (k : Nat) (sw : BitVec 32) (h : s.get (k / 4) = sw) : wv sw / 2 ^ (24 - k % 4 * 8) % 256 = ((outB s k : Nat) : Int) := by
 unfold outB wv; rw [h, Nat.mul_comm (k % 4) 8]; simp
set_option maxRecDepth 100000 in
set_option maxHeartbeats 400000 in
theorem written_any (s : St) (w : World) :
  Calls Tryz.prog 37 #[.agg (aW 8 s.get)] w fun e w' => e = .returned (.agg (aB 32 (outB s))) ∧ Below w.heap.size w w' := by
 go_enter Tryz.func37, Tryz.ntmps37
 go_wp2_with (refine wpList_alloc_row rfl 41 rfl _ zero32 ?_)
 go_loopw [5] (fun v wr => ∃ k : Nat, k ≤ 32 ∧ v = .int .i64 k ∧ CAt wr w.heap.size (aW 8 s.get) 80 ∧ CAt wr (w.heap.size + 1) (aB 32 zB) 41 ∧ CAt wr (w.heap.size + 1 + 1) (aB 32 (upTo (outB s) k)) 41 ∧ Below w.heap.size w wr) (fun v _ => (32 - intOf v).toNat)
 case atStart =>
  refine ⟨0, by omega, rfl, ((CAt.new w (aW 8 s.get) 80).alloc _).alloc _, (CAt.new' (w.alloc (.cells (aW 8 s.get) 80)) (aB 32 zB) 41 _ (by simp)).alloc _, ?_, (((Below.refl _ _).alloc (by omega) _).alloc (by simp) _).alloc (by simp; omega) _⟩
  exact (CAt.new' ((w.alloc (.cells (aW 8 s.get) 80)).alloc (.cells (aB 32 zB) 41)) (aB 32 zB) 41 _ (by simp)).congr (aB_congr 32 fun i _ => upTo_zero _ i)
 case round =>
  obtain ⟨k, hk, rfl, hs, hz, hc, hb⟩ := hrel
  by_cases hlt : k < 32
  ·have c1 := hs.cellW (k / 4) (by omega)
   have c2 := hc.cellB k hlt
   have c3 := hc.free k
   generalize hsw : s.get (k / 4) = sw at *
   have HS := hid hs
   have HZ := hid hz
   have HC := hid hc
   have HB := hid hb
   have HSW := hid hsw
   have hlt' : (k : Int) < 32 := by omega
   clear hs hz hc hb hsw
   have hv := out_byte s k sw HSW.out
   go_wp2
   go_roundw
   case rel =>
    exact ⟨k + 1, by omega, by go_num, HS.out.other _ _ (by simp; omega), HZ.out.other _ _ (by simp), (HC.out.setB k _).congr (aB_congr 32 fun i _ => upTo_step _ k i), HB.out.setCell (by simp; omega) _⟩
   case measure => simp [intOf]; omega
  ·have e : k = 32 := by omega
   have hc2 := hc.congr (cs' := aB 32 (outB s)) (aB_congr 32 fun i hi => upTo_at _ _ _ (by omega))
   have HZ := hid hz
   have HC := hid hc2
   have HB := hid hb
   have hge : ¬ (k : Int) < 32 := by omega
   clear hs hz hc hb hc2 e
   go_wp2_with (first
    | refine wpList_load_row rfl 41 _ rfl _ rfl _ _ _ _ HC.out Tryz.underlying41 rfl (size32 _) ?_
    | refine wpList_store_row rfl 41 _ _ rfl _ _ rfl rfl _ _ HZ.out (size32 _) (by rw [aB_size, aB_size]) (aB_one _ _) ?_)
   exact ret_row rfl _ _ _ _ _ rfl rfl (HZ.out.row _) Tryz.underlying41 rfl (size32 _) ⟨rfl, below_setRow HB.out (by omega) _⟩
end Go.Proofs.YtdohmokhfajjpaaGreatDoor.H

/- Contract of finish of package digest: the bytes that are left are filled up and mixed in, with the count. -/
namespace Go.Proofs.YtdohmokhfajjpaaGreatDoor.H
open Go Go.RowKit

theorem zero64B : (Tryz.prog.info? 84).map (·.zero) = some (some (.agg (aB 64 zB))) := by kernel_rfl
/-- The count's lowest k bytes at a block's end. -/
def cTo (N : Nat) (f : Nat → Nat) (k i : Nat) : Nat := if i < 64 - k then f i else (8 * N) / 256 ^ (63 - i) % 256
theorem cTo_step (N : Nat) (f : Nat → Nat) (k i : Nat) (hk : k < 8) (hi : i < 64) : upB (cTo N f k) (63 - k) ((8 * N) / 256 ^ k % 256) i = cTo N f (k + 1) i := by
 unfold upB cTo
 by_cases e : i = 63 - k
 ·rw [if_pos e, if_neg (by omega), show 63 - i = k by omega]
 ·rw [if_neg e]
  by_cases q : i < 64 - k
  ·rw [if_pos q, if_pos (by omega)]
  ·rw [if_neg q, if_neg (by omega)]
theorem cTo_zero (N : Nat) (f : Nat → Nat) (i : Nat) (hi : i < 64) : f i = cTo N f 0 i := by unfold cTo; rw [if_pos (by omega)]
theorem cTo_end (N : Nat) (f : Nat → Nat) (i : Nat) : cTo N f 8 i = withC N f i := rfl
def fin (s : St) (n : Nat) (x : Nat → Nat) (N : Nat) : St := if n < 56 then comp s (withC N (lastA n x)) else comp (comp s (lastA n x)) (withC N (fun _ => 0))
theorem lastA_lt (n : Nat) (x : Nat → Nat) (hx : ∀ i, i < n → x i < 256) (i : Nat) : lastA n x i < 256 := by
 unfold lastA
 by_cases h : i < n
 ·rw [if_pos h]; exact hx i h
 ·rw [if_neg h]; split <;> omega
theorem withC_lt (N : Nat) (f : Nat → Nat) (hf : ∀ i, f i < 256) (i : Nat) : withC N f i < 256 := by
 unfold withC
 by_cases h : i < 56
 ·rw [if_pos h]; exact hf i
 ·rw [if_neg h]; exact Nat.mod_lt _ (by omega)
theorem last_set (n : Nat) (x : Nat → Nat) (i : Nat) : upB (ovl n x zB) n 128 i = lastA n x i := by
 unfold upB ovl lastA zB
 by_cases e : i = n
 ·rw [if_pos e, if_neg (by omega), if_pos e]
 ·rw [if_neg e]
  by_cases q : i < n
  ·rw [if_pos q, if_pos q]
  ·rw [if_neg q, if_neg q, if_neg e]
theorem count_byte (C N k : Nat) (hC : C = 8 * N) : ((C : Nat) : Int) / 2 ^ (8 * k) % 256 = (((8 * N) / 256 ^ k % 256 : Nat) : Int) := by
 rw [hC, show (256 : Nat) = 2 ^ 8 by decide, ← Nat.pow_mul]; simp
/-- What finish holds ahead of the count. -/
structure FinM (w w1 : World) (s : St) (f : Nat → Nat) : Prop where
 st : CAt w1 w.heap.size (aW 8 s.get) 80
 res : CAt w1 (w.heap.size + 1) (aW 8 zW) 80
 last : CAt w1 (w.heap.size + 1 + 1) (aB 64 f) 84
 below : Below w.heap.size w w1
set_option maxRecDepth 100000 in
set_option maxHeartbeats 1000000 in
theorem finish_lo (s : St) (p : Option Addr) (n c : Nat) (x : Nat → Nat) (C N : Nat) (w : World) (hC : C = 8 * N) (hn : n ≤ 63) (hx : StrAt w p n x) (hb : ∀ i, i < n → x i < 256) (hp : ∀ a, p = some a → 0 < n → a.block < w.heap.size) (h56 : n < 56) :
  Calls Tryz.prog 38 #[.agg (aW 8 s.get), .slice p n c, .int .u64 ((C : Nat) : Int)] w fun e w' => e = .returned (.agg (aW 8 (fin s n x N).get)) ∧ Below w.heap.size w w' := by
 have HX : Hid (∀ i, i < n → x i < 256) := hb
 have HC := hid hC
 clear hC
 have hz1 : (w.alloc (.cells (aW 8 s.get) 80)).heap.size = w.heap.size + 1 := by simp
 have hz2 : ((w.alloc (.cells (aW 8 s.get) 80)).alloc (.cells (aW 8 zW) 80)).heap.size = w.heap.size + 1 + 1 := by simp
 have d0 := CAt.new' ((w.alloc (.cells (aW 8 s.get) 80)).alloc (.cells (aW 8 zW) 80)) (aB 64 zB) 84 _ hz2
 have d1 := (CAt.new' (w.alloc (.cells (aW 8 s.get) 80)) (aW 8 zW) 80 _ hz1).alloc (.cells (aB 64 zB) 84)
 have d2 := ((CAt.new w (aW 8 s.get) 80).alloc (.cells (aW 8 zW) 80)).alloc (.cells (aB 64 zB) 84)
 have d3 : Below w.heap.size w (((w.alloc (.cells (aW 8 s.get) 80)).alloc (.cells (aW 8 zW) 80)).alloc (.cells (aB 64 zB) 84)) :=
  (((Below.refl _ _).alloc (by omega) _).alloc (by rw [hz1]; omega) _).alloc (by rw [hz2]; omega) _
 have hx2 : StrAt (((w.alloc (.cells (aW 8 s.get) 80)).alloc (.cells (aW 8 zW) 80)).alloc (.cells (aB 64 zB) 84)) p n x := by
  rcases hx with h | ⟨b, o, rfl, hr⟩
  ·exact .inl h
  ·rcases Nat.eq_zero_or_pos n with h0 | h0
   ·exact .inl h0
   ·exact .inr ⟨b, o, rfl, hr.below d3 (hp _ rfl h0)⟩
 have hcp := run_copy_blk _ _ 64 _ zB p n c x d0 hx2
 have hmin : min n 64 = n := by omega
 rw [hmin] at hcp
 have M1 : FinM w ((((w.alloc (.cells (aW 8 s.get) 80)).alloc (.cells (aW 8 zW) 80)).alloc (.cells (aB 64 zB) 84)).setRow (w.heap.size + 1 + 1) (aB 64 (ovl n x zB))) s (ovl n x zB) :=
  ⟨d2.rowOther _ (by omega), d1.rowOther _ (by omega), d0.row _, below_setRow d3 (by omega) _⟩
 have HM := hid M1
 clear M1 d0 d1 d2 d3 hx hx2 hb hp hz1 hz2 hmin
 have hn' : (n : Int) < 64 := by omega
 have h56' : (n : Int) < 56 := by omega
 go_enter Tryz.func38, Tryz.ntmps38
 go_upto_region 3 with (first
  | refine wpList_alloc_row rfl 80 rfl _ zero8 ?_
  | refine wpList_alloc_row rfl 84 rfl _ zero64B ?_)
 generalize ((((w.alloc (.cells (aW 8 s.get) 80)).alloc (.cells (aW 8 zW) 80)).alloc (.cells (aB 64 zB) 84)).setRow (w.heap.size + 1 + 1) (aB 64 (ovl n x zB))) = w1 at *
 clear hcp
 have c1 := HM.out.last.cellB n (by omega)
 have c2 := HM.out.last.free n
 have M2 : FinM w (w1.setCell ⟨w.heap.size + 1 + 1, n, none⟩ (.int .u8 128)) s (lastA n x) :=
  ⟨HM.out.st.other _ _ (by simp; omega), HM.out.res.other _ _ (by simp), (HM.out.last.setB n 128).congr (aB_congr 64 fun i _ => last_set n x i), HM.out.below.setCell (by simp; omega) _⟩
 have HM := hid M2
 clear M2
 go_wp2
 go_loopw [22] (fun v wr => ∃ k : Nat, k ≤ 8 ∧ v = .int .i64 k ∧ FinM w wr s (cTo N (lastA n x) k)) (fun v _ => (8 - intOf v).toNat)
 case atStart => exact ⟨0, by omega, rfl, HM.out.st, HM.out.res, HM.out.last.congr (aB_congr 64 fun i hi => cTo_zero N _ i hi), HM.out.below⟩
 case round =>
  clear HM
  obtain ⟨k, hk, rfl, hm⟩ := hrel
  by_cases hlt : k < 8
  ·have c1 := hm.last.cellB (63 - k) (by omega)
   have c2 := hm.last.free (63 - k)
   have hv := count_byte C N k HC.out
   have hlt' : (k : Int) < 8 := by omega
   have HM := hid hm
   clear hm
   go_wp2
   go_roundw
   case rel => exact ⟨k + 1, by omega, by go_num, HM.out.st.other _ _ (by simp; omega), HM.out.res.other _ _ (by simp), (HM.out.last.setB (63 - k) _).congr (aB_congr 64 fun i hi => cTo_step N _ k i hlt hi), HM.out.below.setCell (by simp; omega) _⟩
   case measure => simp [intOf]; omega
  ·have e : k = 8 := by omega
   have hm2 : FinM w wr s (withC N (lastA n x)) := ⟨hm.st, hm.res, hm.last.congr (aB_congr 64 fun i _ => (by rw [e]; exact cTo_end N _ i)), hm.below⟩
   have HM := hid hm2
   have hge : ¬ (k : Int) < 8 := by omega
   have HL : Hid (∀ i, withC N (lastA n x) i < 256) := fun i => withC_lt N _ (lastA_lt n x HX.out) i
   clear hm hm2 e
   go_wp2_with (first
    | refine wpList_load_row rfl 80 _ rfl _ rfl _ _ _ _ HM.out.st Tryz.underlying80 rfl (size8 _) ?_
    | refine wpList_load_row rfl 84 _ rfl _ rfl _ _ _ _ HM.out.last Tryz.underlying84 rfl (size64B _) ?_
    | (go_at_call 36; refine (mix_any _ _ (fun i _ => HL.out i) _).mono ?_; rintro e w2 ⟨rfl, hbw⟩; have HR := hid (HM.out.res.below hbw HM.out.res.lt); have HB := hid (HM.out.below.trans (hbw.mono HM.out.below.size)); clear hbw)
    | refine wpList_store_row rfl 80 _ _ rfl _ _ rfl rfl _ _ HR.out (size8 _) (by rw [aW_size, aW_size]) (aW_one _ _) ?_)
   have hfin : comp s (withC N (lastA n x)) = fin s n x N := by unfold fin; rw [if_pos h56]
   refine ret_row rfl _ _ _ _ _ rfl rfl (HR.out.row _) Tryz.underlying80 rfl (size8 _) ⟨?_, below_setRow HB.out (by omega) _⟩
   rw [hfin]
set_option maxRecDepth 100000 in
set_option maxHeartbeats 1000000 in
theorem finish_hi (s : St) (p : Option Addr) (n c : Nat) (x : Nat → Nat) (C N : Nat) (w : World) (hC : C = 8 * N) (hn : n ≤ 63) (hx : StrAt w p n x) (hb : ∀ i, i < n → x i < 256) (hp : ∀ a, p = some a → 0 < n → a.block < w.heap.size) (h56 : ¬ n < 56) :
  Calls Tryz.prog 38 #[.agg (aW 8 s.get), .slice p n c, .int .u64 ((C : Nat) : Int)] w fun e w' => e = .returned (.agg (aW 8 (fin s n x N).get)) ∧ Below w.heap.size w w' := by
 have HX : Hid (∀ i, i < n → x i < 256) := hb
 have HC := hid hC
 clear hC
 have hz1 : (w.alloc (.cells (aW 8 s.get) 80)).heap.size = w.heap.size + 1 := by simp
 have hz2 : ((w.alloc (.cells (aW 8 s.get) 80)).alloc (.cells (aW 8 zW) 80)).heap.size = w.heap.size + 1 + 1 := by simp
 have d0 := CAt.new' ((w.alloc (.cells (aW 8 s.get) 80)).alloc (.cells (aW 8 zW) 80)) (aB 64 zB) 84 _ hz2
 have d1 := (CAt.new' (w.alloc (.cells (aW 8 s.get) 80)) (aW 8 zW) 80 _ hz1).alloc (.cells (aB 64 zB) 84)
 have d2 := ((CAt.new w (aW 8 s.get) 80).alloc (.cells (aW 8 zW) 80)).alloc (.cells (aB 64 zB) 84)
 have d3 : Below w.heap.size w (((w.alloc (.cells (aW 8 s.get) 80)).alloc (.cells (aW 8 zW) 80)).alloc (.cells (aB 64 zB) 84)) :=
  (((Below.refl _ _).alloc (by omega) _).alloc (by rw [hz1]; omega) _).alloc (by rw [hz2]; omega) _
 have hx2 : StrAt (((w.alloc (.cells (aW 8 s.get) 80)).alloc (.cells (aW 8 zW) 80)).alloc (.cells (aB 64 zB) 84)) p n x := by
  rcases hx with h | ⟨b, o, rfl, hr⟩
  ·exact .inl h
  ·rcases Nat.eq_zero_or_pos n with h0 | h0
   ·exact .inl h0
   ·exact .inr ⟨b, o, rfl, hr.below d3 (hp _ rfl h0)⟩
 have hcp := run_copy_blk _ _ 64 _ zB p n c x d0 hx2
 have hmin : min n 64 = n := by omega
 rw [hmin] at hcp
 have M1 : FinM w ((((w.alloc (.cells (aW 8 s.get) 80)).alloc (.cells (aW 8 zW) 80)).alloc (.cells (aB 64 zB) 84)).setRow (w.heap.size + 1 + 1) (aB 64 (ovl n x zB))) s (ovl n x zB) :=
  ⟨d2.rowOther _ (by omega), d1.rowOther _ (by omega), d0.row _, below_setRow d3 (by omega) _⟩
 have HM := hid M1
 clear M1 d0 d1 d2 d3 hx hx2 hb hp hz1 hz2 hmin
 have hn' : (n : Int) < 64 := by omega
 have h56' : ¬ (n : Int) < 56 := by omega
 go_enter Tryz.func38, Tryz.ntmps38
 go_upto_region 3 with (first
  | refine wpList_alloc_row rfl 80 rfl _ zero8 ?_
  | refine wpList_alloc_row rfl 84 rfl _ zero64B ?_)
 generalize ((((w.alloc (.cells (aW 8 s.get) 80)).alloc (.cells (aW 8 zW) 80)).alloc (.cells (aB 64 zB) 84)).setRow (w.heap.size + 1 + 1) (aB 64 (ovl n x zB))) = w1 at *
 clear hcp
 have c1 := HM.out.last.cellB n (by omega)
 have c2 := HM.out.last.free n
 have M2 : FinM w (w1.setCell ⟨w.heap.size + 1 + 1, n, none⟩ (.int .u8 128)) s (lastA n x) :=
  ⟨HM.out.st.other _ _ (by simp; omega), HM.out.res.other _ _ (by simp), (HM.out.last.setB n 128).congr (aB_congr 64 fun i _ => last_set n x i), HM.out.below.setCell (by simp; omega) _⟩
 have HM := hid M2
 clear M2
 go_wp2_with (first
  | refine wpList_load_row rfl 80 _ rfl _ rfl _ _ _ _ HM.out.st Tryz.underlying80 rfl (size8 _) ?_
  | refine wpList_load_row rfl 84 _ rfl _ rfl _ _ _ _ HM.out.last Tryz.underlying84 rfl (size64B _) ?_
  | (go_at_call 36; refine (mix_any _ _ (fun i _ => lastA_lt n x HX.out i) _).mono ?_; rintro e w2 ⟨rfl, hbw⟩; have HM := hid (FinM.mk (HM.out.st.below hbw HM.out.st.lt) (HM.out.res.below hbw HM.out.res.lt) (HM.out.last.below hbw HM.out.last.lt) (HM.out.below.trans (hbw.mono HM.out.below.size))); clear hbw)
  | (refine wpList_store_row rfl 80 _ _ rfl _ _ rfl rfl _ _ HM.out.st (size8 _) (by rw [aW_size, aW_size]) (aW_one _ _) ?_; have HM := hid (FinM.mk (HM.out.st.row (aW 8 (comp s (lastA n x)).get)) (HM.out.res.rowOther _ (by omega)) (HM.out.last.rowOther _ (by omega)) (below_setRow HM.out.below (by omega) _)))
  | refine wpList_build_to rfl 84 _ rfl (aB 64 zB) (by kernel_rfl) ?_
  | (refine wpList_store_row rfl 84 _ _ rfl _ _ rfl rfl _ _ HM.out.last (size64B _) (by rw [aB_size, aB_size]) (aB_one _ _) ?_; have HM := hid (FinM.mk (HM.out.st.rowOther (aB 64 zB) (by omega)) (HM.out.res.rowOther _ (by omega)) (HM.out.last.row _) (below_setRow HM.out.below (by omega) _))))
 go_loopw [22] (fun v wr => ∃ k : Nat, k ≤ 8 ∧ v = .int .i64 k ∧ FinM w wr (comp s (lastA n x)) (cTo N zB k)) (fun v _ => (8 - intOf v).toNat)
 case atStart => exact ⟨0, by omega, rfl, HM.out.st, HM.out.res, HM.out.last.congr (aB_congr 64 fun i hi => cTo_zero N _ i hi), HM.out.below⟩
 case round =>
  clear HM
  obtain ⟨k, hk, rfl, hm⟩ := hrel
  by_cases hlt : k < 8
  ·have c1 := hm.last.cellB (63 - k) (by omega)
   have c2 := hm.last.free (63 - k)
   have hv := count_byte C N k HC.out
   have hlt' : (k : Int) < 8 := by omega
   have HM := hid hm
   clear hm
   go_wp2
   go_roundw
   case rel => exact ⟨k + 1, by omega, by go_num, HM.out.st.other _ _ (by simp; omega), HM.out.res.other _ _ (by simp), (HM.out.last.setB (63 - k) _).congr (aB_congr 64 fun i hi => cTo_step N _ k i hlt hi), HM.out.below.setCell (by simp; omega) _⟩
   case measure => simp [intOf]; omega
  ·have e : k = 8 := by omega
   have hm2 : FinM w wr (comp s (lastA n x)) (withC N zB) := ⟨hm.st, hm.res, hm.last.congr (aB_congr 64 fun i _ => (by rw [e]; exact cTo_end N _ i)), hm.below⟩
   have HM := hid hm2
   have hge : ¬ (k : Int) < 8 := by omega
   have HL : Hid (∀ i, withC N zB i < 256) := fun i => withC_lt N _ (fun _ => by unfold zB; omega) i
   clear hm hm2 e
   go_wp2_with (first
    | refine wpList_load_row rfl 80 _ rfl _ rfl _ _ _ _ HM.out.st Tryz.underlying80 rfl (size8 _) ?_
    | refine wpList_load_row rfl 84 _ rfl _ rfl _ _ _ _ HM.out.last Tryz.underlying84 rfl (size64B _) ?_
    | (go_at_call 36; refine (mix_any _ _ (fun i _ => HL.out i) _).mono ?_; rintro e w2 ⟨rfl, hbw⟩; have HR := hid (HM.out.res.below hbw HM.out.res.lt); have HB := hid (HM.out.below.trans (hbw.mono HM.out.below.size)); clear hbw)
    | refine wpList_store_row rfl 80 _ _ rfl _ _ rfl rfl _ _ HR.out (size8 _) (by rw [aW_size, aW_size]) (aW_one _ _) ?_)
   have hfin : comp (comp s (lastA n x)) (withC N zB) = fin s n x N := by unfold fin; rw [if_neg h56]; rfl
   refine ret_row rfl _ _ _ _ _ rfl rfl (HR.out.row _) Tryz.underlying80 rfl (size8 _) ⟨?_, below_setRow HB.out (by omega) _⟩
   rw [hfin]
theorem finish_any (s : St) (p : Option Addr) (n c : Nat) (x : Nat → Nat) (C N : Nat) (w : World) (hC : C = 8 * N) (hn : n ≤ 63) (hx : StrAt w p n x) (hb : ∀ i, i < n → x i < 256) (hp : ∀ a, p = some a → 0 < n → a.block < w.heap.size) :
  Calls Tryz.prog 38 #[.agg (aW 8 s.get), .slice p n c, .int .u64 ((C : Nat) : Int)] w fun e w' => e = .returned (.agg (aW 8 (fin s n x N).get)) ∧ Below w.heap.size w w' := by
 by_cases h : n < 56
 ·exact finish_lo s p n c x C N w hC hn hx hb hp h
 ·exact finish_hi s p n c x C N w hC hn hx hb hp h
end Go.Proofs.YtdohmokhfajjpaaGreatDoor.H

/- Contract of Sum of package digest: the digest of any bytes; what was there is as it was. -/
namespace Go.Proofs.YtdohmokhfajjpaaGreatDoor.H
open Go Go.RowKit

theorem size41 (w : World) : (sizeOf (Tryz.prog.elem 22)).run Tryz.prog w = .ok 1 w := by
 rw [show Tryz.prog.elem 22 = 5 by kernel_rfl]
 kernel_rfl
theorem under41 : Tryz.prog.underlying 22 = some (.slice (Tryz.prog.elem 22)) := by kernel_rfl
theorem add_plain' (b o l : Nat) : (⟨b, o, none⟩ : Addr).add l = ⟨b, o + l, none⟩ := by unfold Addr.add; split <;> simp_all
/-- A part of a list from l on. -/
theorem run_lo22 (p : Option Addr) (n c l : Nat) (hl : l ≤ n) : ∃ p2 : Option Addr, (∀ w : World, (Instr.slice 22 (.slice p n c) (some (.int .i64 (l : Int))) none none).run Tryz.prog w = .ok (.slice p2 (n - l) (c - l)) w) ∧ (∀ b o, p = some ⟨b, o, none⟩ → l < c → p2 = some ⟨b, o + l, none⟩) := by
 have hr : ∀ w, (Instr.slice 22 (.slice p n c) (some (.int .i64 (l : Int))) none none).run Tryz.prog w = .ok (sliced p l n c 1) w := fun w => by
  rw [run_slice_l (P := Tryz.prog) w 22 p n c under41 .i64 (l : Int) (by omega) (by omega), size41]
  simp [Result.andThen]
 cases p with
 | none => exact ⟨none, fun w => by rw [hr]; simp [sliced], fun b o e => by cases e⟩
 | some a =>
  by_cases e : c = l
  ·exact ⟨some a, fun w => by rw [hr]; simp [sliced, e], fun b o _ q => by omega⟩
  ·refine ⟨some (a.add l), fun w => by rw [hr]; simp [sliced, e], fun b o q _ => ?_⟩
   cases q
   rw [add_plain']
theorem StrAt.drop {w : World} {p p2 : Option Addr} {n c l : Nat} {x : Nat → Nat} (h : StrAt w p n x) (hc : n ≤ c) (hp : ∀ b o, p = some ⟨b, o, none⟩ → l < c → p2 = some ⟨b, o + l, none⟩) : StrAt w p2 (n - l) (fun j => x (l + j)) := by
 by_cases h0 : n - l = 0
 ·exact .inl h0
 ·rcases h with h | ⟨b, o, rfl, hr⟩
  ·omega
  ·exact .inr ⟨b, o + l, hp b o rfl (by omega), fun i hi => by rw [Nat.add_assoc]; exact hr (l + i) (by omega)⟩
theorem StrAt.short {w : World} {p : Option Addr} {n n' : Nat} {x : Nat → Nat} (h : StrAt w p n x) (hn : n' ≤ n) : StrAt w p n' x := by
 by_cases h0 : n' = 0
 ·exact .inl h0
 ·rcases h with h | ⟨b, o, rfl, hr⟩
  ·omega
  ·exact .inr ⟨b, o, rfl, fun i hi => hr i (by omega)⟩
theorem StrAt.congr {w : World} {p : Option Addr} {n : Nat} {x y : Nat → Nat} (h : StrAt w p n x) (e : ∀ j, j < n → x j = y j) : StrAt w p n y := by
 rcases h with h | ⟨b, o, rfl, hr⟩
 ·exact .inl h
 ·exact .inr ⟨b, o, rfl, fun i hi => by rw [← e i hi]; exact hr i hi⟩
theorem cell_lt {w : World} {a : Addr} {v : Value} (h : w.cell? a = some v) : a.block < w.heap.size := by
 rcases Nat.lt_or_ge a.block w.heap.size with h1 | h1
 ·exact h1
 ·simp [World.cell?, Array.getElem?_eq_none h1] at h
theorem StrAt.lt {w : World} {p : Option Addr} {n : Nat} {x : Nat → Nat} (h : StrAt w p n x) (a : Addr) (ha : p = some a) (hn : 0 < n) : a.block < w.heap.size := by
 rcases h with h | ⟨b, o, rfl, hr⟩
 ·omega
 ·cases ha; exact cell_lt (hr 0 hn)
theorem StrAt.below {w w' : World} {p : Option Addr} {n : Nat} {x : Nat → Nat} (h : StrAt w p n x) (hb : Below w.heap.size w w') : StrAt w' p n x := by
 rcases Nat.eq_zero_or_pos n with h0 | h0
 ·exact .inl h0
 ·have hl := h.lt
  rcases h with h | ⟨b, o, rfl, hr⟩
  ·exact .inl h
  ·exact .inr ⟨b, o, rfl, hr.below hb (hl _ rfl h0)⟩
def lenV : Value → Nat | .slice _ n _ => n | _ => 0
structure SumM (w wr : World) (g3 g5 : Nat) (s : St) : Prop where
 st : CAt wr g3 (aW 8 s.get) 80
 blk : ∃ y, CAt wr g5 (aB 64 y) 84
 res : CAt wr w.heap.size (aB 32 zB) 41
 below : Below w.heap.size w wr
 h3 : w.heap.size < g3
 h5 : g3 < g5
set_option maxRecDepth 100000 in
set_option maxHeartbeats 1000000 in
theorem sum_any (p : Option Addr) (n c : Nat) (x : Nat → Nat) (w : World) (hn : n ≤ 1000000) (hc : n ≤ c) (hx : StrAt w p n x) (hb : ∀ i, i < n → x i < 256) :
  Calls Tryz.prog 22 #[.slice p n c] w fun e w' => e = .returned (.agg (aB 32 (sha n x))) ∧ Below w.heap.size w w' := by
 have HX := hid hx
 have HBX := hid hb
 have HCC := hid hc
 clear hx hb hc
 have hn' : (n : Int) ≤ 1000000 := by omega
 go_enter Tryz.func22, Tryz.ntmps22
 go_upto_region 2 with (first
  | refine wpList_alloc_row rfl 41 rfl _ zero32 ?_
  | refine wpList_alloc_row rfl 80 rfl _ zero8 ?_
  | (go_at_call 35; refine (firstWords_any _).mono ?_; rintro e w1 ⟨rfl, hbw⟩)
  | refine wpList_store_row rfl 80 _ _ rfl _ _ rfl rfl _ _ (CAt.new _ _ _) (size8 _) (by rw [aW_size, aW_size]) (aW_one _ _) ?_)
 have hz : (w.alloc (.cells (aB 32 zB) 41)).heap.size = w.heap.size + 1 := by simp
 have r0 : CAt w1 w.heap.size (aB 32 zB) 41 := (CAt.new w (aB 32 zB) 41).below hbw (by rw [hz]; omega)
 have b0 : Below w.heap.size w w1 := ((Below.refl _ _).alloc (by omega) _).trans (hbw.mono (by rw [hz]; omega))
 have g0 : w.heap.size < w1.heap.size := by have := hbw.size; rw [hz] at this; omega
 have hz3 : ((w1.alloc (.cells (aW 8 zW) 80)).setRow w1.heap.size (aW 8 st0.get)).heap.size = w1.heap.size + 1 := by simp
 have r1 : CAt ((w1.alloc (.cells (aW 8 zW) 80)).setRow w1.heap.size (aW 8 st0.get)) w1.heap.size (aW 8 st0.get) 80 := (CAt.new w1 (aW 8 zW) 80).row _
 have r2 := ((r0.alloc (.cells (aW 8 zW) 80)).rowOther (k := w1.heap.size) (aW 8 st0.get) (by omega))
 have b2 : Below w.heap.size w ((w1.alloc (.cells (aW 8 zW) 80)).setRow w1.heap.size (aW 8 st0.get)) := below_setRow (b0.alloc (by omega) _) (by omega) _
 clear r0 b0 hbw hz
 generalize ((w1.alloc (.cells (aW 8 zW) 80)).setRow w1.heap.size (aW 8 st0.get)) = w3 at *
 generalize w1.heap.size = g3 at *
 have M0 : SumM w (w3.alloc (.cells (aB 64 zB) 84)) g3 (g3 + 1) (hs x 0) := ⟨r1.alloc _, ⟨zB, CAt.new' w3 (aB 64 zB) 84 _ hz3⟩, r2.alloc _, b2.alloc (by omega) _, g0, by omega⟩
 have HM := hid M0
 have HZ3 := hid hz3
 clear M0 r1 r2 b2 g0
 simp only [Act.put, List.setIfInBounds_toArray, List.set_cons_succ, List.set_cons_zero]
 go_wp2_with (refine wpList_alloc_row rfl 84 rfl _ zero64B ?_)
 obtain ⟨C, hC⟩ : ∃ C, C = 8 * n := ⟨_, rfl⟩
 have hCn : (n : Int) * 8 = (C : Int) := by omega
 have hz4 := HZ3.out
 simp only [Act.put, List.setIfInBounds_toArray, List.set_cons_succ, List.set_cons_zero, hCn, hz4]
 have HC := hid hC
 clear hC hCn hz3 hz4 HZ3
 go_loopw [0] (fun v wr => ∃ (q : Nat) (p' : Option Addr) (m c' : Nat), 64 * q + m = n ∧ v = .slice p' m c' ∧ m ≤ c' ∧ StrAt w p' m (fun i => x (64 * q + i)) ∧ SumM w wr g3 (g3 + 1) (hs x q)) (fun v _ => lenV v)
 case atStart => exact ⟨0, p, n, c, by omega, rfl, HCC.out, HX.out.congr (fun j _ => by simp), HM.out⟩
 case round =>
  clear HM HX HCC
  obtain ⟨q, p', m, c', hqm, rfl, hmc, hstr, hm⟩ := hrel
  have HQ := hid hqm
  have HMC := hid hmc
  have hm6 : (m : Int) ≤ 1000000 := by omega
  by_cases hge : 64 ≤ m
  ·obtain ⟨y, hy⟩ := hm.blk
   have hcp := run_copy_blk wr (g3 + 1) 64 84 y p' m c' _ hy (hstr.below hm.below)
   rw [show min m 64 = 64 by omega] at hcp
   have M1 : SumM w (wr.setRow (g3 + 1) (aB 64 (ovl 64 (fun i => x (64 * q + i)) y))) g3 (g3 + 1) (hs x q) :=
    ⟨hm.st.rowOther _ (by omega), ⟨_, hy.row _⟩, hm.res.rowOther _ (by have := hm.h3; omega), below_setRow hm.below (by have := hm.h3; omega) _, hm.h3, hm.h5⟩
   have B1 : CAt (wr.setRow (g3 + 1) (aB 64 (ovl 64 (fun i => x (64 * q + i)) y))) (g3 + 1) (aB 64 (fun i => x (64 * q + i))) 84 :=
    (hy.row _).congr (aB_congr 64 fun i hi => by unfold ovl; rw [if_pos hi])
   have HS : Hid (StrAt w (if c' = 64 then p' else Option.map (fun a => { block := a.block, off := a.off + 64 }) p') (m - 64) (fun i => x (64 * (q + 1) + i))) :=
    (hstr.drop (l := 64) hmc (fun b o e h => by subst e; rw [if_neg (by omega)]; rfl)).congr (fun j _ => by congr 1; omega)
   have HM := hid M1
   have HB := hid B1
   have hge' : (64 : Int) ≤ (m : Int) := by omega
   clear M1 B1 hm hy hstr hqm hmc
   go_upto_region 6 with fail
   clear hcp
   generalize (wr.setRow (g3 + 1) (aB 64 (ovl 64 (fun i => x (64 * q + i)) y))) = w4 at *
   have HLT : Hid (∀ i, i < 64 → x (64 * q + i) < 256) := fun i hi => HBX.out _ (by have := HQ.out; omega)
   go_wp2_with (first
    | refine wpList_load_row rfl 80 _ rfl _ rfl _ _ _ _ HM.out.st Tryz.underlying80 rfl (size8 _) ?_
    | refine wpList_load_row rfl 84 _ rfl _ rfl _ _ _ _ HB.out Tryz.underlying84 rfl (size64B _) ?_
    | (go_at_call 36; refine (mix_any _ _ HLT.out _).mono ?_; rintro e w5 ⟨rfl, hbw⟩; have HM5 := hid (SumM.mk (HM.out.st.below hbw HM.out.st.lt) ⟨_, HB.out.below hbw HB.out.lt⟩ (HM.out.res.below hbw HM.out.res.lt) (HM.out.below.trans (hbw.mono HM.out.below.size)) HM.out.h3 HM.out.h5); clear hbw)
    | refine wpList_store_row rfl 80 _ _ rfl _ _ rfl rfl _ _ HM5.out.st (size8 _) (by rw [aW_size, aW_size]) (aW_one _ _) ?_)
   go_roundw
   case rel =>
    refine ⟨q + 1, _, m - 64, c' - 64, by have := HQ.out; omega, rfl, by have := HMC.out; omega, HS.out, ?_⟩
    obtain ⟨y2, hy2⟩ := HM5.out.blk
    exact ⟨HM5.out.st.row _, ⟨_, hy2.rowOther _ (by omega)⟩, HM5.out.res.rowOther _ (by have := HM5.out.h3; omega), below_setRow HM5.out.below (by have := HM5.out.h3; omega) _, HM5.out.h3, HM5.out.h5⟩
   case measure => simp [lenV]; omega
  ·have hlt' : ¬ (64 : Int) ≤ (m : Int) := by omega
   have HM := hid hm
   have HS := hid hstr
   have HS2 := hid (hstr.below hm.below)
   have hq : q = n / 64 := by omega
   have hm3 : m = n % 64 := by omega
   have hf : fin (hs x q) m (fun i => x (64 * q + i)) n = shaSt n x := by
    rw [hq, hm3]; unfold fin
    by_cases h : n % 64 < 56
    ·rw [if_pos h, shaSt_short n x h]
    ·rw [if_neg h, shaSt_long n x (by omega)]
   have HF := hid hf
   have HM63 : Hid (m ≤ 63) := by show m ≤ 63; omega
   clear hm hstr hqm hmc hq hm3 hf
   go_wp2_with (first
    | refine wpList_load_row rfl 80 _ rfl _ rfl _ _ _ _ HM.out.st Tryz.underlying80 rfl (size8 _) ?_
    | (go_at_call 38; refine (finish_any _ _ _ _ _ _ n _ HC.out HM63.out HS2.out (fun i hi => HBX.out _ (by have := HQ.out; omega)) (fun a ha hpos => HS2.out.lt a ha hpos)).mono ?_; rintro e w5 ⟨rfl, hbw⟩; rw [HF.out]; have HR := hid (HM.out.res.below hbw HM.out.res.lt); have HB5 := hid (HM.out.below.trans (hbw.mono HM.out.below.size)); clear hbw)
    | (go_at_call 37; refine (written_any _ _).mono ?_; rintro e w6 ⟨rfl, hbw⟩; have HR6 := hid (HR.out.below hbw HR.out.lt); have HB6 := hid (HB5.out.trans (hbw.mono HB5.out.size)); clear hbw)
    | refine wpList_store_row rfl 41 _ _ rfl _ _ rfl rfl _ _ HR6.out (size32 _) (by rw [aB_size, aB_size]) (aB_one _ _) ?_)
   exact ret_row rfl _ _ _ _ _ rfl rfl (HR6.out.row _) Tryz.underlying41 rfl (size32 _) ⟨rfl, below_setRow HB6.out (by omega) _⟩
end Go.Proofs.YtdohmokhfajjpaaGreatDoor.H

/- A buffer of bytes that a call fills by append. -/
namespace Go.Proofs.YtdohmokhfajjpaaGreatDoor.H
open Go Go.RowKit

def Buf (B : Nat) (w : World) (v : Value) (n : Nat) (x : Nat → Nat) : Prop := w.ownsRow B 5 1 v n (valN n x)
theorem Buf.nil (B : Nat) (w : World) (x : Nat → Nat) : Buf B w (.slice none 0 0) 0 x := by
 have := World.ownsRow_nil w B 5 1
 unfold Buf valN; simpa using this
theorem valN_congr (n : Nat) {x y : Nat → Nat} (h : ∀ i, i < n → x i = y i) : valN n x = valN n y := by
 unfold valN; apply List.map_congr_left; intro i hi; rw [h i (List.mem_range.1 hi)]
theorem Buf.congr {B : Nat} {w : World} {v : Value} {n : Nat} {x y : Nat → Nat} (h : Buf B w v n x) (e : ∀ i, i < n → x i = y i) : Buf B w v n y := by
 unfold Buf at *; rwa [← valN_congr n e]
theorem Buf.below {B : Nat} {w w' : World} {v : Value} {n : Nat} {x : Nat → Nat} (h : Buf B w v n x) (hb : Below w.heap.size w w') : Buf B w' v n x := by
 obtain ⟨hl, h | ⟨g, cap, cur, rfl, hB, hg, hc, hm, hs, ht⟩⟩ := h
 ·exact ⟨hl, .inl h⟩
 ·refine ⟨hl, .inr ⟨g, cap, cur, rfl, hB, ?_, hc, hm, hs, ht⟩⟩
  exact (hb.block g (CAt.lt hg)).trans hg
theorem valN_app (n l : Nat) (x y : Nat → Nat) : valN n x ++ valN l y = valN (n + l) (fun i => if i < n then x i else y (i - n)) := by
 apply List.ext_getElem?
 intro i
 by_cases h : i < n
 ·rw [List.getElem?_append_left (by rw [valN_len]; exact h), valN_get _ _ _ h, valN_get _ _ _ (by omega), if_pos h]
 ·rw [List.getElem?_append_right (by rw [valN_len]; omega), valN_len]
  by_cases h2 : i < n + l
  ·rw [valN_get _ _ _ (by omega), valN_get _ _ _ h2, if_neg h]
  ·rw [List.getElem?_eq_none (by rw [valN_len]; omega), List.getElem?_eq_none (by rw [valN_len]; omega)]
theorem Buf.app {B : Nat} {w : World} {v : Value} {n : Nat} {x : Nat → Nat} (hv : Buf B w v n x) (p : Option Addr) (l c : Nat) (y : Nat → Nat) (hy : StrAt w p l y) (hp : p = none → l = 0 ∧ c = 0) (hn : n + l ≤ 2000000) (hB : B ≤ w.heap.size) :
  ∃ v' w', (Builtin.append_ #[22, 22] 22 #[v, .slice p l c]).run Tryz.prog w = .ok v' w' ∧ Buf B w' v' (n + l) (fun i => if i < n then x i else y (i - n)) ∧ Below B w w' := by
 obtain ⟨i0, hi0, hz0, hz1, hz2⟩ := info_parts Tryz.info5
 cases p with
 | none =>
  obtain ⟨rfl, rfl⟩ := hp rfl
  refine ⟨v, w, run_append_owned_none (P := Tryz.prog) (w := w) B 22 22 5 i0 1 Tryz.underlying22 hi0 v n _ hv, ?_, Below.refl _ _⟩
  exact hv.congr (fun i hi => by rw [if_pos hi])
 | some a =>
  obtain ⟨v', w', hr, h2, h3, _, _⟩ := run_append_own_at (P := Tryz.prog) w B 22 22 5 i0 (.int .u8 0) 1 1 Tryz.underlying22 hi0 hz0 hz1 hz2 rfl (by decide) v n (valN n x) hv a l c (valN l y) (by rw [valN_len, Nat.mul_one])
   (fun j u hj => by
    have hlt : j < l := by
     rcases Nat.lt_or_ge j l with h | h
     ·exact h
     ·rw [List.getElem?_eq_none (by rw [valN_len]; exact h)] at hj; cases hj
    rw [valN_get _ _ _ hlt] at hj
    cases hj
    rcases hy with h | ⟨b, o, e, hr⟩
    ·omega
    ·cases e
     rw [add_plain']; exact hr j hlt)
   (fun u hu => by
    simp only [valN, List.mem_map] at hu
    obtain ⟨i, _, rfl⟩ := hu; rfl) (by unfold maxLen; omega) (by omega) hB
  refine ⟨v', w', hr, ?_, (Below.refl _ _).grown h3 hB (fun k hk => (hv.lt k hk).1)⟩
  unfold Buf
  rw [← valN_app]; exact h2

theorem wpList_append_eq {P : Program} {w : World} {ops : Array Oper} {rest : List Oper} {o : Oper} {a : Act} {Q : Exit → Act → World → Prop} (hgd : o.guard = none) (s x : Operand) (t : TypeId)
  (ho : o.op = .call { callee := .builtin .append, args := #[s, x], argTypes := #[t, t] }) (v y : Value) (hs : a.eval s = v) (hx : a.eval x = y) (v' : Value) (w' : World)
  (hr : (Builtin.append_ #[t, t] o.type #[v, y]).run P w = .ok v' w') (h : wpList P ops Q rest (a.put o.dst v') w') : wpList P ops Q (o :: rest) a w := by
 refine wpList_plain hgd fun K hK => ?_
 unfold Oper.wp
 simp [execOp, ho, resolve, invoke, builtin, hs, hx, hr, Result.andThen]
 exact hK _ _ h
end Go.Proofs.YtdohmokhfajjpaaGreatDoor.H

/- Contract of block of the document's own answer: the eight numbers behind a block that stands in a list from a place on. -/
namespace Go.Proofs.YtdohmokhfajjpaaGreatDoor.H
open Go Go.RowKit

structure BlkM (w wr : World) (s : St) (f : Nat → BitVec 32) : Prop where
 h : CAt wr w.heap.size (aW 8 s.get) 79
 k : CAt wr (w.heap.size + 1) (aW 64 kk) 117
 r : CAt wr (w.heap.size + 1 + 1) (aW 8 zW) 79
 v : CAt wr (w.heap.size + 1 + 1 + 1) (aW 64 f) 117
 below : Below w.heap.size w wr
theorem BlkM.drewN {w wr : World} {s : St} {f : Nat → BitVec 32} (h : BlkM w wr s f) (m : Nat) : BlkM w (wr.drewN m) s f :=
 ⟨h.h.drewN m, h.k.drewN m, h.r.drewN m, h.v.drewN m, Below.drewN' h.below m⟩
theorem BlkM.set {w wr : World} {s : St} {f : Nat → BitVec 32} (h : BlkM w wr s f) (i : Nat) (u : BitVec 32) : BlkM w (wr.setCell ⟨w.heap.size + 1 + 1 + 1, i, none⟩ (.int .u32 (wv u))) s (upW f i u) :=
 ⟨h.h.other _ _ (by show w.heap.size ≠ w.heap.size + 1 + 1 + 1; omega), h.k.other _ _ (by show w.heap.size + 1 ≠ w.heap.size + 1 + 1 + 1; omega), h.r.other _ _ (by show w.heap.size + 1 + 1 ≠ w.heap.size + 1 + 1 + 1; omega), h.v.setW i u, h.below.setCell (by show w.heap.size ≤ w.heap.size + 1 + 1 + 1; omega) _⟩
theorem BlkM.congr {w wr : World} {s : St} {f g : Nat → BitVec 32} (h : BlkM w wr s f) (e : ∀ i, i < 64 → f i = g i) : BlkM w wr s g := ⟨h.h, h.k, h.r, h.v.congr (aW_congr 64 e), h.below⟩
theorem BlkM.alloc {w wr : World} {s : St} {f : Nat → BitVec 32} (h : BlkM w wr s f) (o : Obj) : BlkM w (wr.alloc o) s f :=
 ⟨h.h.alloc o, h.k.alloc o, h.r.alloc o, h.v.alloc o, h.below.alloc h.below.size o⟩
theorem BlkM.row {w wr : World} {s : St} {f : Nat → BitVec 32} (h : BlkM w wr s f) (g : Nat) (hg : w.heap.size + 1 + 1 + 1 < g) (cs : Array Value) : BlkM w (wr.setRow g cs) s f :=
 ⟨h.h.rowOther _ (by omega), h.k.rowOther _ (by omega), h.r.rowOther _ (by omega), h.v.rowOther _ (by omega), below_setRow h.below (by omega) _⟩
end Go.Proofs.YtdohmokhfajjpaaGreatDoor.H
