/- Texts laid into one: the remark ahead of each part says what is proved there. -/
import Derived.Test.YtkiojnledimihaaPaa
import Derived.Test.YtkiojnledimihaaPab
import Derived.Test.YtkiojnledimihaaPac
import Derived.Test.YtkiojnledimihaaPad
import Derived.Test.YtkiojnledimihaaPae
import Derived.Test.YtkiojnledimihaaPaf
import Derived.Test.YtkiojnledimihaaPag
import Derived.Test.YtkiojnledimihaaPah
import Derived.Test.YtkiojnledimihaaPai
import Derived.Test.YtkiojnledimihaaPaj
import Derived.Test.YtkiojnledimihaaPak
import Derived.Test.YtkiojnledimihaaPal
import Derived.WalkKit
import Derived.WalkSpells
import Derived.WalkLawsBesides
import Derived.Laws.BitsAllLaws
import Derived.Laws.Closers25b
import Derived.Laws.IdiomCopy
import Derived.Deep.RegionHeld3
import Derived.Deep.QuietTactic
import Derived.Laws.Rows
import Derived.Laws.CopyOwn
import Derived.Maps.AppendAt
import Derived.Laws.AppendOwnNone
import Derived.Lib.ConvBytes
/- Acts and bools that came in. -/
namespace Go.Proofs.Ytkiojnledimihaa
open Go Go.RowKit

section
variable {H : Type} {enc : TypeId × Value → H} {w : World} {held : Bool} {fuel : Nat}
theorem wf64 {k : Int} (h : (Lit.int .i64 k).wf = true) : -9223372036854775808 ≤ k ∧ k ≤ 9223372036854775807 := by
  simp [Lit.wf, IntKind.min, IntKind.max, IntKind.signed, IntKind.bits] at h; omega
end

end Go.Proofs.Ytkiojnledimihaa

/- Words of 32 bits, SHA-256's rounds and blocks as plain mathematics, and the walk's own spelling of sums and bits against it. -/
namespace Go.Proofs.Ytkiojnledimihaa.H
open Go.RowKit

theorem wshlW (x : BitVec 32) (k : Nat) : IntKind.u32.wrap (wv x * 2 ^ k) = wv (x <<< k) := by rw [IntKind.wrap_u32, wshl]
theorem wrap64_small (n : Int) (h0 : -9223372036854775808 ≤ n) (h1 : n ≤ 9223372036854775807) : IntKind.i64.wrap n = n := by
  simp [IntKind.wrap, IntKind.bits, IntKind.signed]; split <;> omega
theorem rright_any (x : BitVec 32) (i : Int) (n : Nat) (hi : i = (n : Int)) (h0 : 1 ≤ n) (h1 : n ≤ 31) (w : World) :
    Calls Try.prog 45 #[.int .u32 (wv x), .int .i64 i] w fun e w' => e = .returned (.int .u32 (wv (rr x n))) ∧ ∃ m, w' = w.drewN m := by
  subst hi
  have k1 : (n : Int) ≤ 31 := by omega
  have k2 : (0 : Int) ≤ n := by omega
  have k3 : IntKind.i64.wrap (32 - (n : Int)) = 32 - (n : Int) := wrap64_small _ (by omega) (by omega)
  have k4 : (0 : Int) ≤ 32 - (n : Int) := by omega
  go_enter Try.func45, Try.ntmps45
  go_wp2_with fail
  go_quiet (fail)
  go_wp2
  go_ret
  refine ⟨?_, _, rfl⟩
  show Ending.returned (.int .u32 _) = _
  first | rw [wshlW, wshr, wor] | rw [wshl, wshr, wor]
  rfl

theorem rright_i (x : BitVec 32) (i : Int) (h0 : 1 ≤ i) (h1 : i ≤ 31) (w : World) :
    Calls Try.prog 45 #[.int .u32 (wv x), .int .i64 i] w fun e w' => e = .returned (.int .u32 (wv (rr x i.toNat))) ∧ ∃ m, w' = w.drewN m :=
  rright_any x i i.toNat (by omega) (by omega) (by omega) w
end Go.Proofs.Ytkiojnledimihaa.H

/- Arrays of words and of bytes as the model has them. -/
namespace Go.Proofs.Ytkiojnledimihaa.H
open Go.RowKit

theorem wmodW (x : BitVec 32) : IntKind.u32.wrap (wv x) = wv x := by rw [IntKind.wrap_u32, wmod]
theorem begin_any (w : World) : Calls Try.prog 36 #[] w fun e w' => e = .returned (.agg (aW 8 st0.get)) ∧ Below w.heap.size w w' := by
  go_enter Try.func36, Try.ntmps36
  go_wp2
  refine ret_row rfl _ _ _ _ _ rfl rfl (heap_alloc_new _ _) Try.underlying53 rfl (by kernel_rfl) ⟨?_, (Below.refl _ _).alloc (by omega) _⟩
  rw [aW_st]; rfl
theorem table_any (w : World) : Calls Try.prog 37 #[] w fun e w' => e = .returned (.agg (aW 64 kk)) ∧ Below w.heap.size w w' := by
  go_enter Try.func37, Try.ntmps37
  go_wp2_with (first
    | refine wpList_alloc_row rfl 63 rfl _ zero64 ?_
    | refine wpList_build_to rfl 63 _ rfl (aW 64 kk) (by kernel_rfl) ?_
    | refine wpList_store_row rfl 63 _ _ rfl _ _ rfl rfl _ _ (heap_alloc_new _ _) (size64 _) (by rw [aW_size, aW_size]) (aW_one _ _) ?_)
  refine ret_row rfl _ _ _ _ _ rfl rfl (setRow_heap _ _ _ _ _ _ (heap_alloc_new _ _)) Try.underlying63 rfl (size64 _) ⟨rfl, below_setRow ((Below.refl _ _).alloc (by omega) _) (by omega) _⟩

end Go.Proofs.Ytkiojnledimihaa.H

/- Bytes in memory; contracts of SameBytes, LentBytes and KeptBytes of the statements' kit. -/
namespace Go.Proofs.Ytkiojnledimihaa.H
open Go.RowKit

theorem Try.info5 : (Try.prog.info? 5).map (fun i => (i.zero, i.size, i.bytes)) = some (some (.int .u8 0), 1, 1) := by kernel_rfl

end Go.Proofs.Ytkiojnledimihaa.H

/- Contract of SameBytes of the statements' kit: of two slices that read alike it returns true, and leaves the world as it was. -/
namespace Go.Proofs.Ytkiojnledimihaa.H
open Go.RowKit

end Go.Proofs.Ytkiojnledimihaa.H

/- Contract of LentBytes of the statements' kit: a copy of the bytes lies in a new block, with three marked bytes of spare room behind it; what was there is as it was. -/
namespace Go.Proofs.Ytkiojnledimihaa.H
open Go.RowKit

end Go.Proofs.Ytkiojnledimihaa.H

/- Contract of KeptBytes of the statements' kit: it returns true of a lent list that reads as it was lent. -/
namespace Go.Proofs.Ytkiojnledimihaa.H
open Go.RowKit

end Go.Proofs.Ytkiojnledimihaa.H

/- Contract of block of the document's own answer: the eight numbers behind a block that stands in a list from a place on. -/
namespace Go.Proofs.Ytkiojnledimihaa.H
open Go Go.RowKit

theorem zero8r : (Try.prog.info? 53).map (·.zero) = some (some (.agg (aW 8 zW))) := by kernel_rfl
theorem size8r (f : Nat → BitVec 32) : (Try.prog.info? 53).map (·.size) = some (aW 8 f).size := by rw [aW_size]; kernel_rfl
theorem BlkM.congr {w wr : World} {s : St} {f g : Nat → BitVec 32} (h : BlkM w wr s f) (e : ∀ i, i < 64 → f i = g i) : BlkM w wr s g := ⟨h.h, h.k, h.r, h.v.congr (aW_congr 64 e), h.below⟩
theorem BlkM.alloc {w wr : World} {s : St} {f : Nat → BitVec 32} (h : BlkM w wr s f) (o : Obj) : BlkM w (wr.alloc o) s f :=
  ⟨h.h.alloc o, h.k.alloc o, h.r.alloc o, h.v.alloc o, h.below.alloc h.below.size o⟩
theorem upW_zero (y : Nat → Nat) (t i : Nat) : schTo y t i = upW (schTo y t) t (wpart y t 0) i := by
  unfold upW; by_cases e : i = t
  · rw [if_pos e, e]; unfold schTo; rw [if_neg (by omega)]; rfl
  · rw [if_neg e]
theorem upW_up (f : Nat → BitVec 32) (t : Nat) (a b : BitVec 32) (i : Nat) : upW (upW f t a) t b i = upW f t b i := by
  unfold upW; by_cases e : i = t
  · rw [if_pos e, if_pos e]
  · rw [if_neg e, if_neg e, if_neg e]
theorem upW_word (y : Nat → Nat) (t : Nat) (ht : t < 16) (i : Nat) : upW (schTo y t) t (wpart y t 4) i = schTo y (t + 1) i := by
  unfold upW schTo; by_cases e : i = t
  · rw [if_pos e, if_pos (by omega), e, sch_low y t ht]; rfl
  · rw [if_neg e]
    by_cases q : i < t
    · rw [if_pos q, if_pos (by omega)]
    · rw [if_neg q, if_neg (by omega)]
set_option maxRecDepth 100000 in
set_option maxHeartbeats 4000000 in
theorem rblock_any (s : St) (b o n c at' : Nat) (x : Nat → Nat) (w : World) (hn : n ≤ 2000000) (hr : RowAt w b o n x) (hb : ∀ i, i < n → x i < 256) (hat : at' + 64 ≤ n) :
    Calls Try.prog 38 #[.agg (aW 8 s.get), .agg (aW 64 kk), .slice (some ⟨b, o, none⟩) n c, .int .i64 (at' : Int)] w fun e w' => e = .returned (.agg (aW 8 (comp s (fun i => x (at' + i))).get)) ∧ Below w.heap.size w w' := by
  have hbl : b < w.heap.size := cell_lt (hr 0 (by omega))
  have HR := hid hr
  have HX := hid hb
  have hat2 : (at' : Int) + 64 ≤ (n : Int) := by omega
  have hn2 : (n : Int) ≤ 2000000 := by omega
  clear hr hb
  obtain ⟨y, hy⟩ : ∃ y : Nat → Nat, y = fun i => x (at' + i) := ⟨_, rfl⟩
  have HY := hid hy
  rw [← hy]
  clear hy
  have M0 : BlkM w ((((w.alloc (.cells (aW 8 s.get) 53)).alloc (.cells (aW 64 kk) 63)).alloc (.cells (aW 8 zW) 53)).alloc (.cells (aW 64 zW) 63)) s (schTo y 0) :=
    ⟨(((CAt.new w _ _).alloc _).alloc _).alloc _, ((CAt.new' (w.alloc _) _ _ _ (by simp)).alloc _).alloc _, (CAt.new' ((w.alloc _).alloc _) _ _ _ (by simp)).alloc _,
      (CAt.new' (((w.alloc _).alloc _).alloc _) (aW 64 zW) _ _ (by simp)).congr (aW_congr 64 fun i _ => by unfold schTo zW; rw [if_neg (by omega)]), ((((Below.refl _ _).alloc (by omega) _).alloc (by simp) _).alloc (by simp; omega) _).alloc (by simp; omega) _⟩
  have HM := hid M0
  clear M0
  go_enter Try.func38, Try.ntmps38
  go_wp2_with (first
    | refine wpList_alloc_row rfl 53 rfl _ zero8r ?_
    | refine wpList_alloc_row rfl 63 rfl _ zero64 ?_)
  go_loopw [10] (fun v wr => ∃ t : Nat, t ≤ 64 ∧ v = .int .i64 t ∧ BlkM w wr s (schTo y t)) (fun v _ => (64 - intOf v).toNat)
  case atStart => exact ⟨0, by omega, rfl, HM.out⟩
  case round =>
    clear HM
    obtain ⟨t, ht, rfl, hm⟩ := hrel
    by_cases hlt : t < 64
    · have hlt' : (t : Int) < 64 := by omega
      by_cases h16 : t < 16
      · have h16' : (t : Int) < 16 := by omega
        have HM := hid hm
        clear hm
        go_wp2
        go_loopw [11] (fun v wr => ∃ i : Nat, i ≤ 4 ∧ v = .int .i64 i ∧ BlkM w wr s (upW (schTo y t) t (wpart y t i))) (fun v _ => (4 - intOf v).toNat)
        case atStart => exact ⟨0, by omega, rfl, HM.out.congr (fun i _ => upW_zero y t i)⟩
        case round =>
          clear HM
          obtain ⟨i, hi, rfl, hm⟩ := hrel
          by_cases hl4 : i < 4
          · have hl4' : (i : Int) < 4 := by omega
            have c1 := hm.v.cellW t hlt
            have e0 : upW (schTo y t) t (wpart y t i) t = wpart y t i := by unfold upW; rw [if_pos rfl]
            rw [e0] at c1
            have c2 := hm.v.free t
            have c3 := (HR.out.below hm.below hbl) (at' + 4 * t + i) (by omega)
            have hxb := byte_word (x (at' + 4 * t + i)) (HX.out _ (by omega))
            rw [hxb] at c3
            clear hxb
            generalize hW : wpart y t i = W at *
            have HW := hid hW
            obtain ⟨Z, hZ⟩ : ∃ Z : BitVec 32, Z = BitVec.ofNat 32 (x (at' + 4 * t + i)) := ⟨_, rfl⟩
            rw [← hZ] at c3
            have HZ := hid hZ
            have a1 := wshl W 8
            have a1' := wshlW W 8
            simp only [Int.reducePow] at a1 a1'
            have a2 := wmod Z
            have a2' := wmodW Z
            have a3 := wor (W <<< 8) Z
            have HM := hid hm
            clear hm hW hZ e0
            go_wp2_with fail
            refine wp_region_last_lit (by kernel_rfl) (by kernel_rfl) ?_
            dsimp only [List.dropLast, List.getLast]
            repeat (go_big_quiet_step (fail))
            refine wpQuiet_nil ?_
            intro nr
            have HM := hid (HM.out.drewN nr)
            clear c1 c2 c3
            generalize wr.drewN nr = w6 at *
            have c9 := HM.out.v.free t
            have c10 := HM.out.v.cellW t hlt
            go_wp2
            go_roundw
            case rel =>
              refine ⟨i + 1, by omega, by go_num, (HM.out.set t _).congr (fun j _ => ?_)⟩
              have hyy : y (4 * t + i) = x (at' + 4 * t + i) := by
                rw [HY.out]
                show x (at' + (4 * t + i)) = _
                rw [Nat.add_assoc]
              rw [upW_up, wpart, HW.out, HZ.out, hyy]
            case measure => simp [intOf]; omega
          · have e : i = 4 := by omega
            have hl4' : ¬ (i : Int) < 4 := by omega
            have hm2 : BlkM w wr s (schTo y (t + 1)) := hm.congr (fun j _ => by rw [e]; exact upW_word y t h16 j)
            have HM := hid hm2
            clear hm hm2 e
            go_wp2
            go_roundw
            case rel => exact ⟨t + 1, by omega, by go_num, HM.out⟩
            case measure => simp [intOf]; omega
      · have h16' : ¬ (t : Int) < 16 := by omega
        have c1 := hm.v.cellW (t - 2) (by omega)
        have c2 := hm.v.cellW (t - 7) (by omega)
        have c3 := hm.v.cellW (t - 15) (by omega)
        have c4 := hm.v.cellW (t - 16) (by omega)
        have h16n : 16 ≤ t := by omega
        have HM := hid hm
        clear hm
        go_wp2_with fail
        have a1 := wadd
        have a1' := waddW
        have a2 := wxor
        have a3 := wshr (schTo y t (t - 2)) 10
        have a4 := wshr (schTo y t (t - 15)) 3
        simp only [Int.reducePow] at a3 a4
        go_quiet ((go_at_call 45; refine Calls.quiet_of (rright_i _ _ (by decide) (by decide) _)))
        have HM := hid (HM.out.drewN nq)
        clear c1 c2 c3 c4
        generalize wr.drewN nq = w4 at *
        have c1 := HM.out.v.cellW (t - 2) (by omega)
        go_wp2_with fail
        go_quiet ((go_at_call 45; refine Calls.quiet_of (rright_i _ _ (by decide) (by decide) _)))
        have HM := hid (HM.out.drewN nq)
        clear c1
        generalize w4.drewN nq = w5 at *
        have c2 := HM.out.v.cellW (t - 7) (by omega)
        have c4 := HM.out.v.cellW (t - 16) (by omega)
        have c9 := HM.out.v.free t
        go_wp2_with fail
        refine wp_region_last_lit (by kernel_rfl) (by kernel_rfl) ?_
        dsimp only [List.dropLast, List.getLast]
        repeat (go_big_quiet_step (fail))
        refine wpQuiet_nil ?_
        intro nr
        have HM := hid (HM.out.drewN nr)
        clear c2 c4 c9
        generalize w5.drewN nr = w6 at *
        have c9 := HM.out.v.free t
        have c10 := HM.out.v.cellW t hlt
        go_wp2
        go_roundw
        case rel => exact ⟨t + 1, by omega, by go_num, (HM.out.set t _).congr (fun j _ => schTo_step y t h16n j)⟩
        case measure => simp [intOf]; omega
    · have e : t = 64 := by omega
      have hge : ¬ (t : Int) < 64 := by omega
      have hm2 : BlkM w wr s (sch y) := hm.congr (fun j hj => schTo_at y t j (by omega))
      have HM := hid hm2
      clear hm hm2 e
      go_upto_region 14 with (first
        | refine wpList_load_row rfl 53 _ rfl _ rfl _ _ _ _ HM.out.h Try.underlying53 rfl (size8r _) ?_
        | refine wpList_alloc_row rfl 53 rfl _ zero8r ?_
        | refine wpList_store_row rfl 53 _ _ rfl _ _ rfl rfl _ _ (CAt.new _ _ _) (size8r _) (by simp only [aW_size]) (aW_one _ _) ?_)
      have hg4 : w.heap.size + 1 + 1 + 1 < wr.heap.size := HM.out.v.lt
      have M4 := (HM.out.alloc (.cells (aW 8 zW) 53)).row wr.heap.size hg4 (aW 8 s.get)
      have X4 : CAt ((wr.alloc (.cells (aW 8 zW) 53)).setRow wr.heap.size (aW 8 s.get)) wr.heap.size (aW 8 (rnds s y 0).get) 53 := (CAt.new _ _ _).row _
      have HM := hid M4
      have HX4 := hid X4
      have HG := hid hg4
      clear M4 X4 hg4
      simp only [Act.put, List.setIfInBounds_toArray, List.set_cons_succ, List.set_cons_zero]
      generalize ((wr.alloc (.cells (aW 8 zW) 53)).setRow wr.heap.size (aW 8 s.get)) = w4 at *
      generalize wr.heap.size = gx at *
      go_wp2
      go_loopw [15] (fun v wr => ∃ t : Nat, t ≤ 64 ∧ v = .int .i64 t ∧ BlkM w wr s (sch y) ∧ CAt wr gx (aW 8 (rnds s y t).get) 53) (fun v _ => (64 - intOf v).toNat)
      case atStart => exact ⟨0, by omega, rfl, HM.out, HX4.out⟩
      case round =>
        clear HM HX4
        obtain ⟨j, hj, rfl, hm, hx4⟩ := hrel
        generalize hr : rnds s y j = r at *
        have HRR := hid hr
        clear hr
        by_cases hlj : j < 64
        · have hlj' : (j : Int) < 64 := by omega
          have d0 : wr.cell? ⟨gx, 0, none⟩ = some (.int .u32 (wv r.a)) := hx4.cellW 0 (by omega)
          have d1 : wr.cell? ⟨gx, 1, none⟩ = some (.int .u32 (wv r.b)) := hx4.cellW 1 (by omega)
          have d2 : wr.cell? ⟨gx, 2, none⟩ = some (.int .u32 (wv r.c)) := hx4.cellW 2 (by omega)
          have d3 : wr.cell? ⟨gx, 3, none⟩ = some (.int .u32 (wv r.d)) := hx4.cellW 3 (by omega)
          have d4 : wr.cell? ⟨gx, 4, none⟩ = some (.int .u32 (wv r.e)) := hx4.cellW 4 (by omega)
          have d5 : wr.cell? ⟨gx, 5, none⟩ = some (.int .u32 (wv r.f)) := hx4.cellW 5 (by omega)
          have d6 : wr.cell? ⟨gx, 6, none⟩ = some (.int .u32 (wv r.g)) := hx4.cellW 6 (by omega)
          have d7 : wr.cell? ⟨gx, 7, none⟩ = some (.int .u32 (wv r.h)) := hx4.cellW 7 (by omega)
          have c1 := hm.k.cellW j hlj
          have c2 := hm.v.cellW j hlj
          generalize hkt : kk j = kt at *
          generalize hwt : sch y j = wt at *
          have HK := hid hkt
          have HW := hid hwt
          have HM := hid hm
          have HX4 := hid hx4
          clear hm hx4 hkt hwt
          go_wp2_with fail
          have a1 := wadd
          have a1' := waddW
          have a2 := wxor
          have a3 := wand
          have a4 := wnot
          go_quiet ((go_at_call 45; refine Calls.quiet_of (rright_i _ _ (by decide) (by decide) _)))
          have HM := hid (HM.out.drewN nq)
          have HX4 := hid (HX4.out.drewN nq)
          clear d0 d1 d2 d3 d4 d5 d6 d7 c1 c2
          generalize wr.drewN nq = w5 at *
          have d0 : w5.cell? ⟨gx, 0, none⟩ = some (.int .u32 (wv r.a)) := HX4.out.cellW 0 (by omega)
          have d1 : w5.cell? ⟨gx, 1, none⟩ = some (.int .u32 (wv r.b)) := HX4.out.cellW 1 (by omega)
          have d2 : w5.cell? ⟨gx, 2, none⟩ = some (.int .u32 (wv r.c)) := HX4.out.cellW 2 (by omega)
          go_wp2_with fail
          go_quiet ((go_at_call 45; refine Calls.quiet_of (rright_i _ _ (by decide) (by decide) _)))
          have HM := hid (HM.out.drewN nq)
          have HX4 := hid (HX4.out.drewN nq)
          clear d0 d1 d2
          generalize w5.drewN nq = w6 at *
          have d0 : w6.cell? ⟨gx, 0, none⟩ = some (.int .u32 (wv r.a)) := HX4.out.cellW 0 (by omega)
          have d1 : w6.cell? ⟨gx, 1, none⟩ = some (.int .u32 (wv r.b)) := HX4.out.cellW 1 (by omega)
          have d2 : w6.cell? ⟨gx, 2, none⟩ = some (.int .u32 (wv r.c)) := HX4.out.cellW 2 (by omega)
          have d3 : w6.cell? ⟨gx, 3, none⟩ = some (.int .u32 (wv r.d)) := HX4.out.cellW 3 (by omega)
          have d4 : w6.cell? ⟨gx, 4, none⟩ = some (.int .u32 (wv r.e)) := HX4.out.cellW 4 (by omega)
          have d5 : w6.cell? ⟨gx, 5, none⟩ = some (.int .u32 (wv r.f)) := HX4.out.cellW 5 (by omega)
          have d6 : w6.cell? ⟨gx, 6, none⟩ = some (.int .u32 (wv r.g)) := HX4.out.cellW 6 (by omega)
          have hr8 : (#[.int .u32 (wv (t1f r kt wt + t2f r)), .int .u32 (wv r.a), .int .u32 (wv r.b), .int .u32 (wv r.c), .int .u32 (wv (r.d + t1f r kt wt)), .int .u32 (wv r.e), .int .u32 (wv r.f), .int .u32 (wv r.g)] : Array Value) = aW 8 (rnd r kt wt).get := (aW_st (rnd r kt wt)).symm
          have HR8 := hid hr8
          clear hr8
          go_wp2_with (refine wpList_store_row rfl 53 _ _ rfl _ _ rfl (congrArg Value.agg HR8.out) _ _ HX4.out (size8r _) (by simp only [aW_size]) (aW_one _ _) ?_)
          go_roundw
          case rel =>
            have e : rnds s y (j + 1) = rnd r kt wt := by rw [rnds, HRR.out, HK.out, HW.out]
            exact ⟨j + 1, by omega, by go_num, HM.out.row gx HG.out _, by rw [e]; exact HX4.out.row _⟩
          case measure => simp [intOf]; omega
        · have e : j = 64 := by omega
          have hgj : ¬ (j : Int) < 64 := by omega
          have HS : Hid (rnds s y 64 = r) := by rw [← e]; exact HRR.out
          have HM := hid hm
          have HX4 := hid hx4
          clear hm hx4 e HRR
          go_wp2
          go_loopw [18] (fun v wr => ∃ k : Nat, k ≤ 8 ∧ v = .int .i64 k ∧ CAt wr w.heap.size (aW 8 (addTo s r k)) 53 ∧ CAt wr (w.heap.size + 1 + 1) (aW 8 zW) 53 ∧ CAt wr gx (aW 8 r.get) 53 ∧ Below w.heap.size w wr) (fun v _ => (8 - intOf v).toNat)
          case atStart => exact ⟨0, by omega, rfl, HM.out.h.congr (aW_congr 8 fun i _ => by unfold addTo; rw [if_neg (by omega)]), HM.out.r, HX4.out, HM.out.below⟩
          case round =>
            clear HM HX4
            obtain ⟨k, hk, rfl, hc, hz, hx4, hb⟩ := hrel
            by_cases hlk : k < 8
            · have c1 := hc.cellW k hlk
              have c2 := hx4.cellW k hlk
              have c3 := hc.free k
              have a1 := wadd
              have a1' := waddW
              have hlk' : (k : Int) < 8 := by omega
              have HC := hid hc
              have HZ := hid hz
              have HX4 := hid hx4
              have HB := hid hb
              clear hc hz hx4 hb
              go_wp2_with fail
              refine wp_region_last_lit (by kernel_rfl) (by kernel_rfl) ?_
              dsimp only [List.dropLast, List.getLast]
              repeat (go_big_quiet_step (fail))
              refine wpQuiet_nil ?_
              intro nr
              have HC := hid (HC.out.drewN nr)
              have HZ := hid (HZ.out.drewN nr)
              have HX4 := hid (HX4.out.drewN nr)
              have HB := hid (Below.drewN' HB.out nr)
              clear c1 c2 c3
              generalize wr.drewN nr = w6 at *
              have c9 := HC.out.free k
              have c10 := HC.out.cellW k hlk
              go_wp2
              go_roundw
              case rel =>
                have hg := HG.out
                exact ⟨k + 1, by omega, by go_num, (HC.out.setW k _).congr (aW_congr 8 fun i _ => addTo_step s r k i), HZ.out.other _ _ (by show w.heap.size + 1 + 1 ≠ w.heap.size; omega), HX4.out.other _ _ (by show gx ≠ w.heap.size; omega), HB.out.setCell (by show w.heap.size ≤ w.heap.size; omega) _⟩
              case measure => simp [intOf]; omega
            · have e : k = 8 := by omega
              have hc2 := hc.congr (cs' := aW 8 (comp s y).get) (aW_congr 8 fun i hi => (by rw [comp_get, HS.out]; unfold addTo; rw [if_pos (by omega)]))
              have HC := hid hc2
              have HZ := hid hz
              have HB := hid hb
              have hgk : ¬ (k : Int) < 8 := by omega
              clear hc hc2 hz hb e hx4
              go_wp2_with (first
                | refine wpList_load_row rfl 53 _ rfl _ rfl _ _ _ _ HC.out Try.underlying53 rfl (size8r _) ?_
                | refine wpList_store_row rfl 53 _ _ rfl _ _ rfl rfl _ _ HZ.out (size8r _) (by simp only [aW_size]) (aW_one _ _) ?_)
              exact ret_row rfl _ _ _ _ _ rfl rfl (HZ.out.row _) Try.underlying53 rfl (size8r _) ⟨rfl, below_setRow HB.out (by omega) _⟩
end Go.Proofs.Ytkiojnledimihaa.H

/- A buffer of bytes that a call fills by append. -/
namespace Go.Proofs.Ytkiojnledimihaa.H
open Go Go.RowKit

theorem valN_congr (n : Nat) {x y : Nat → Nat} (h : ∀ i, i < n → x i = y i) : valN n x = valN n y := by
  unfold valN; apply List.map_congr_left; intro i hi; rw [h i (List.mem_range.1 hi)]
theorem Buf.congr {B : Nat} {w : World} {v : Value} {n : Nat} {x y : Nat → Nat} (h : Buf B w v n x) (e : ∀ i, i < n → x i = y i) : Buf B w v n y := by
  unfold Buf at *; rwa [← valN_congr n e]
theorem Buf.str {B : Nat} {w : World} {v : Value} {n : Nat} {x : Nat → Nat} (h : Buf B w v n x) : ∃ p c, v = .slice p n c ∧ n ≤ c ∧ StrAt w p n x ∧ (p = none → n = 0 ∧ c = 0) := by
  have h0 : w.ownsRow B 5 1 v n (valN n x) := h
  obtain ⟨hl, h | ⟨g, cap, cur, rfl, hB, hg, hc, _, hs, ht⟩⟩ := h0
  · obtain ⟨rfl, rfl⟩ := h
    exact ⟨none, 0, rfl, by omega, .inl rfl, fun _ => ⟨rfl, rfl⟩⟩
  · refine ⟨some ⟨g, 0, none⟩, cap, rfl, hc, .inr ⟨g, 0, rfl, fun i hi => ?_⟩, fun e => by cases e⟩
    have h1 : w.ownsRow B 5 1 (.slice (some ⟨g, 0, none⟩) n cap) n (valN n x) := h
    have h2 := h1.cellAt i (by omega)
    rw [Nat.zero_add, h2, valN_get n x i hi]
theorem valN_app (n l : Nat) (x y : Nat → Nat) : valN n x ++ valN l y = valN (n + l) (fun i => if i < n then x i else y (i - n)) := by
  apply List.ext_getElem?
  intro i
  by_cases h : i < n
  · rw [List.getElem?_append_left (by rw [valN_len]; exact h), valN_get _ _ _ h, valN_get _ _ _ (by omega), if_pos h]
  · rw [List.getElem?_append_right (by rw [valN_len]; omega), valN_len]
    by_cases h2 : i < n + l
    · rw [valN_get _ _ _ (by omega), valN_get _ _ _ h2, if_neg h]
    · rw [List.getElem?_eq_none (by rw [valN_len]; omega), List.getElem?_eq_none (by rw [valN_len]; omega)]
theorem Buf.app {B : Nat} {w : World} {v : Value} {n : Nat} {x : Nat → Nat} (hv : Buf B w v n x) (p : Option Addr) (l c : Nat) (y : Nat → Nat) (hy : StrAt w p l y) (hp : p = none → l = 0 ∧ c = 0) (hn : n + l ≤ 2000000) (hB : B ≤ w.heap.size) :
    ∃ v' w', (Builtin.append_ #[44, 44] 44 #[v, .slice p l c]).run Try.prog w = .ok v' w' ∧ Buf B w' v' (n + l) (fun i => if i < n then x i else y (i - n)) ∧ Below B w w' := by
  obtain ⟨i0, hi0, hz0, hz1, hz2⟩ := info_parts Try.info5
  cases p with
  | none =>
    obtain ⟨rfl, rfl⟩ := hp rfl
    refine ⟨v, w, run_append_owned_none (P := Try.prog) (w := w) B 44 44 5 i0 1 Try.underlying44 hi0 v n _ hv, ?_, Below.refl _ _⟩
    exact hv.congr (fun i hi => by rw [if_pos hi])
  | some a =>
    obtain ⟨v', w', hr, h2, h3, _, _⟩ := run_append_own_at (P := Try.prog) w B 44 44 5 i0 (.int .u8 0) 1 1 Try.underlying44 hi0 hz0 hz1 hz2 rfl (by decide) v n (valN n x) hv a l c (valN l y) (by rw [valN_len, Nat.mul_one])
      (fun j u hj => by
        have hlt : j < l := by
          rcases Nat.lt_or_ge j l with h | h
          · exact h
          · rw [List.getElem?_eq_none (by rw [valN_len]; exact h)] at hj; cases hj
        rw [valN_get _ _ _ hlt] at hj
        cases hj
        rcases hy with h | ⟨b, o, e, hr⟩
        · omega
        · cases e
          rw [add_plain']; exact hr j hlt)
      (fun u hu => by
        simp only [valN, List.mem_map] at hu
        obtain ⟨i, _, rfl⟩ := hu; rfl) (by unfold maxLen; omega) (by omega) hB
    refine ⟨v', w', hr, ?_, (Below.refl _ _).grown h3 hB (fun k hk => (hv.lt k hk).1)⟩
    unfold Buf
    rw [← valN_app]; exact h2

theorem wpList_append_eq {P : Program} {w : World} {ops : Array Oper} {rest : List Oper} {o : Oper} {a : Act} {Q : Exit → Act → World → Prop} (hgd : o.guard = none) (s x : Operand) (t : TypeId)
    (ho : o.op = .call { callee := .builtin .append, args := #[s, x], argTypes := #[t, t] }) (v y : Value) (hs : a.eval s = v) (hx : a.eval x = y) (v' : Value) (w' : World)
    (hr : (Builtin.append_ #[t, t] o.type #[v, y]).run P w = .ok v' w') (h : wpList P ops Q rest (a.put o.dst v') w') : wpList P ops Q (o :: rest) a w := by
  refine wpList_plain hgd fun K hK => ?_
  unfold Oper.wp
  simp [execOp, ho, resolve, invoke, builtin, hs, hx, hr, Result.andThen]
  exact hK _ _ h
end Go.Proofs.Ytkiojnledimihaa.H

/- Contracts of Eight and Sum of the document's own answer: a number's eight bytes; the digest of bytes. -/
namespace Go.Proofs.Ytkiojnledimihaa.H
open Go Go.RowKit

def be8 (C i : Nat) : Nat := C / 2 ^ (56 - 8 * i) % 256
theorem be8_int (C k : Nat) : ((C : Nat) : Int) / 2 ^ (56 - 8 * k) % 256 = ((be8 C k : Nat) : Int) := by unfold be8; simp
def EightAt (w : World) (C : Nat) (e : Ending) (w' : World) : Prop := ∃ v, e = .returned v ∧ Buf w.heap.size w' v 8 (be8 C) ∧ Below w.heap.size w w'
/-- One byte behind a buffer. -/
theorem Buf.push {B : Nat} {w : World} {v : Value} {n : Nat} {x : Nat → Nat} (hv : Buf B w v n x) (u : Nat) (hn : n ≤ 1000000) (hB : B ≤ w.heap.size) :
    ∃ v' w', (Builtin.append_ #[44, 44] 44 #[v, .slice (some ⟨w.heap.size, 0, none⟩) 1 1]).run Try.prog (w.alloc (.cells #[.int .u8 ((u : Nat) : Int)] 5)) = .ok v' w' ∧ Buf B w' v' (n + 1) (fun i => if i < n then x i else u) ∧ Below B w w' := by
  have hb : Below w.heap.size w (w.alloc (.cells #[.int .u8 ((u : Nat) : Int)] 5)) := (Below.refl _ _).alloc (by omega) _
  have hs : StrAt (w.alloc (.cells #[.int .u8 ((u : Nat) : Int)] 5)) (some ⟨w.heap.size, 0, none⟩) 1 (fun _ => u) := .inr ⟨_, _, rfl, fun i hi => by
    have e : i = 0 := by omega
    subst e
    rw [cell_of_row _ _ _ _ 5 _ (heap_alloc_new _ _)]; rfl⟩
  obtain ⟨v', w', h1, h2, h3⟩ := (hv.below hb).app _ 1 1 _ hs (fun e => by cases e) (by omega) (Nat.le_trans hB hb.size)
  exact ⟨v', w', h1, h2, (hb.mono hB).trans h3⟩
set_option maxRecDepth 100000 in
set_option maxHeartbeats 1000000 in
theorem eight_any (C : Nat) (w : World) : Calls Try.prog 35 #[.int .u64 (C : Int)] w fun e w' => EightAt w C e w' := by
  go_enter Try.func35, Try.ntmps35
  go_wp2
  go_loopw [3, 4] (fun v i wr => ∃ k : Nat, k ≤ 8 ∧ i = .int .i64 k ∧ Buf w.heap.size wr v k (be8 C) ∧ Below w.heap.size w wr) (fun _ i _ => (8 - intOf i).toNat)
  case atStart => exact ⟨0, by omega, rfl, Buf.nil _ _ _, Below.refl _ _⟩
  case round =>
    obtain ⟨k, hk, rfl, hf, hb⟩ := hrel
    by_cases hlt : k < 8
    · have hlt' : (k : Int) < 8 := by omega
      obtain ⟨v', w2, hr, hf2, hb2⟩ := hf.push (be8 C k) (by omega) hb.size
      have HR := hid hr
      have HF := hid (hf2.congr (y := be8 C) (fun i hi => by
        by_cases q : i < k
        · rw [if_pos q]
        · rw [if_neg q, show i = k by omega]))
      have HB := hid (hb.trans hb2)
      have hv := be8_int C k
      clear hr hf2 hb2 hf hb
      go_wp2_with (refine wpList_append_eq rfl _ _ 44 rfl _ _ rfl rfl _ _ HR.out ?_)
      go_roundw
      case rel => exact ⟨k + 1, by omega, by go_num, HF.out, HB.out⟩
      case measure => simp [intOf]; omega
    · have e : k = 8 := by omega
      have hge : ¬ (k : Int) < 8 := by omega
      have hf8 := hf
      rw [e] at hf8
      have HF := hid hf8
      have HB := hid hb
      clear hf hf8 hb e
      go_wp2
      go_ret
      exact ⟨_, rfl, HF.out, HB.out⟩
theorem Buf.empty (B : Nat) (w : World) (hB : B ≤ w.heap.size) (x : Nat → Nat) : Buf B (w.alloc (.cells #[] 5)) (.slice (some ⟨w.heap.size, 0, none⟩) 0 0) 0 x :=
  ⟨by simp [valN], .inr ⟨w.heap.size, 0, #[], rfl, hB, heap_alloc_new _ _, by omega, by unfold maxLen; omega, rfl, by simp [valN]⟩⟩
/-- The bytes, a byte 128 and noughts. -/
def pz (n : Nat) (x : Nat → Nat) (i : Nat) : Nat := if i < n then x i else if i = n then 128 else 0
theorem pz_lt (n : Nat) (x : Nat → Nat) (hx : ∀ i, i < n → x i < 256) (i : Nat) : pz n x i < 256 := by
  unfold pz; by_cases h : i < n
  · rw [if_pos h]; exact hx i h
  · rw [if_neg h]; split <;> omega
theorem padF_lt (n : Nat) (x : Nat → Nat) (hx : ∀ i, i < n → x i < 256) (i : Nat) : padF n x i < 256 := by
  unfold padF; by_cases h : i < n
  · rw [if_pos h]; exact hx i h
  · rw [if_neg h]; split
    · omega
    · split
      · omega
      · exact Nat.mod_lt _ (by omega)
theorem pad_join (n : Nat) (x : Nat → Nat) (i : Nat) (hi : i < 64 * nbl n - 8 + 8) : (if i < 64 * nbl n - 8 then pz n x i else be8 (8 * n) (i - (64 * nbl n - 8))) = padF n x i := by
  have hq : 64 * nbl n ≤ n + 72 ∧ n + 72 < 64 * nbl n + 64 := by unfold nbl; omega
  unfold padF pz be8
  by_cases h : i < 64 * nbl n - 8
  · rw [if_pos h]
    by_cases h1 : i < n
    · rw [if_pos h1, if_pos h1]
    · rw [if_neg h1, if_neg h1]
      by_cases h2 : i = n
      · rw [if_pos h2, if_pos h2]
      · rw [if_neg h2, if_neg h2, if_pos h]
  · rw [if_neg h, if_neg (by omega), if_neg (by omega), if_neg h]
    rw [show (256 : Nat) = 2 ^ 8 by decide, ← Nat.pow_mul, show 8 * (64 * nbl n - 1 - i) = 56 - 8 * (i - (64 * nbl n - 8)) by omega]
theorem out_byte2 (s : St) (k : Nat) (sw : BitVec 32) (h : s.get (k / 4) = sw) : wv sw / 2 ^ (24 - 8 * (k % 4)) % 256 = ((outB s k : Nat) : Int) := by
  unfold outB wv; rw [h]; simp
theorem row_setRow {w : World} {b o n g : Nat} {x : Nat → Nat} (h : RowAt w b o n x) (hne : b ≠ g) (cs : Array Value) : RowAt (w.setRow g cs) b o n x := fun i hi => by
  rw [cell_setRow_other _ _ _ _ (by exact hne)]; exact h i hi
set_option maxRecDepth 100000 in
set_option maxHeartbeats 4000000 in
theorem rsum_any (p : Option Addr) (n c : Nat) (x : Nat → Nat) (w : World) (hn : n ≤ 500000) (hp : p = none → n = 0 ∧ c = 0) (hx : StrAt w p n x) (hb : ∀ i, i < n → x i < 256) :
    Calls Try.prog 25 #[.slice p n c] w fun e w' => e = .returned (.agg (aB 32 (sha n x))) ∧ Below w.heap.size w w' := by
  have hq : 64 * nbl n ≤ n + 72 ∧ n + 72 < 64 * nbl n + 64 := by unfold nbl; omega
  have HBX := hid hb
  have hn' : (n : Int) ≤ 500000 := by omega
  have hz1 : (w.alloc (.cells (aB 32 zB) 42)).heap.size = w.heap.size + 1 := by simp
  have b1 : Below w.heap.size w (w.alloc (.cells (aB 32 zB) 42)) := (Below.refl _ _).alloc (by omega) _
  have b2 : Below w.heap.size w ((w.alloc (.cells (aB 32 zB) 42)).alloc (.cells #[] 5)) := b1.alloc (by rw [hz1]; omega) _
  have f0 := Buf.empty (w.heap.size + 1) (w.alloc (.cells (aB 32 zB) 42)) (by omega) x
  rw [hz1] at f0
  obtain ⟨v1, w1, hr1, f1, bb1⟩ := f0.app p n c x (hx.below b2) hp (by omega) (by simp)
  have m1 : RsM w w1 v1 (0 + n) x := ⟨f1.congr (fun i hi => by rw [if_neg (by omega)]; simp), ((CAt.new w (aB 32 zB) 42).alloc _).below bb1 (by omega), b2.trans (bb1.mono (by omega))⟩
  rw [Nat.zero_add] at m1
  obtain ⟨v2, w2, hr2, f2, bb2⟩ := m1.buf.push 128 (by omega) m1.size
  have m2 : RsM w w2 v2 (n + 1) (pz n x) := ⟨f2.congr (fun i hi => by
    unfold pz
    by_cases q : i < n
    · rw [if_pos q, if_pos q]
    · rw [if_neg q, if_neg q, if_pos (by omega)]), m1.res.below bb2 (by omega), m1.below.trans (bb2.mono (by omega))⟩
  have HR1 := hid hr1
  have HR2 := hid hr2
  have HM2 := hid m2
  have HQ := hid hq
  clear hx hp hb hz1 b1 b2 f0 f1 bb1 hr1 m1 f2 bb2 hr2 m2 hq
  go_enter Try.func25, Try.ntmps25
  go_wp2_with (first
    | refine wpList_alloc_row rfl 42 rfl _ zero32 ?_
    | refine wpList_append_eq rfl _ _ 44 rfl _ _ rfl rfl _ _ HR1.out ?_
    | refine wpList_append_eq rfl _ _ 44 rfl _ _ rfl rfl _ _ HR2.out ?_)
  go_loopw [3] (fun v wr => ∃ m : Nat, n + 1 ≤ m ∧ m ≤ 64 * nbl n - 8 ∧ RsM w wr v m (pz n x)) (fun v _ => 64 * nbl n - lenV v)
  case atStart => exact ⟨n + 1, by omega, by have := HQ.out; omega, HM2.out⟩
  case round =>
    clear HM2 HR1 HR2
    obtain ⟨m, hm0, hm1, hm⟩ := hrel
    have hQ := HQ.out
    have hm' : (m : Int) ≤ 600000 := by omega
    by_cases hne : m % 64 = 56
    · have hne' : (m : Int) % 64 = 56 := by omega
      have hmM : m = 64 * nbl n - 8 := by omega
      obtain ⟨C, hC⟩ : ∃ C, C = 8 * n := ⟨_, rfl⟩
      have hCn : 8 * (n : Int) = (C : Int) := by omega
      have HC := hid hC
      obtain ⟨pv, cv, rfl, hcv, hst, hpn⟩ := hm.buf.str
      have HM := hid hm
      have HMM := hid hmM
      clear hm hC hst hpn hcv hQ hmM hne
      go_upto_region 6 with (first
        | (go_at_call 35; refine (eight_any C _).mono ?_; rintro e w3 ⟨v8, rfl, hf8, hb8⟩; obtain ⟨p8, c8, rfl, hc8, hs8, hp8⟩ := hf8.str; obtain ⟨v9, w4, hr9, hf9, hb9⟩ := (HM.out.buf.below hb8).app p8 8 c8 _ hs8 hp8 (by have := HMM.out; omega) (Nat.le_trans HM.out.size hb8.size); have HR9 := hid hr9; have HM4 := hid (RsM.mk hf9 ((HM.out.res.below hb8 HM.out.res.lt).below hb9 (by omega)) ((HM.out.below.trans (hb8.mono HM.out.below.size)).trans (hb9.mono (by omega)))); clear hr9 hf9 hb9 hf8 hb8 hs8 hp8 hc8)
        | refine wpList_append_eq rfl _ _ 44 rfl _ _ rfl rfl _ _ HR9.out ?_)
      have hpz : Buf (w.heap.size + 1) w4 v9 (64 * nbl n) (padF n x) := by
        have h1 := HM4.out.buf
        rw [HMM.out, HC.out] at h1
        have h2 := h1.congr (y := padF n x) (fun i hi => pad_join n x i hi)
        have hQ2 := HQ.out
        rwa [show 64 * nbl n - 8 + 8 = 64 * nbl n by omega] at h2
      have hres := HM4.out.res
      have hbel := HM4.out.below
      obtain ⟨pa, ca, rfl, hca, hsa, _⟩ := hpz.str
      have hpos : 0 < 64 * nbl n := by have := HQ.out; omega
      obtain ⟨ba, oa, rfl, hra⟩ : ∃ b o, pa = some ⟨b, o, none⟩ ∧ RowAt w4 b o (64 * nbl n) (padF n x) := by
        rcases hsa with h | h
        · omega
        · exact h
      have hlba : ba < w4.heap.size := cell_lt (hra 0 hpos)
      have HRES := hid hres
      have HBEL := hid hbel
      have HRA := hid hra
      have HLB := hid hlba
      have hM6 : ((64 * nbl n : Nat) : Int) ≤ 600000 := by have := HQ.out; omega
      clear hpz hres hbel hsa hra hlba hca HM4 HM HR9 hm0 hm1 hm' hne' hCn HMM
      generalize hM : 64 * nbl n = M at *
      have HMn := hid hM
      clear hM
      go_upto_region 8 with (first
        | refine wpList_alloc_row rfl 53 rfl _ zero8r ?_
        | refine wpList_alloc_row rfl 63 rfl _ zero64 ?_
        | (go_at_call 36; refine (begin_any _).mono ?_; rintro e w5 ⟨rfl, hb5⟩)
        | (go_at_call 37; refine (table_any _).mono ?_; rintro e w6 ⟨rfl, hb6⟩)
        | refine wpList_store_row rfl 53 _ _ rfl _ _ rfl rfl _ _ (CAt.new _ _ _) (size8r _) (by simp only [aW_size]) (aW_one _ _) ?_
        | refine wpList_store_row rfl 63 _ _ rfl _ _ rfl rfl _ _ (CAt.new _ _ _) (size64 _) (by simp only [aW_size]) (aW_one _ _) ?_)
      have hz5 : ((w5.alloc (.cells (aW 8 zW) 53)).setRow w5.heap.size (aW 8 st0.get)).heap.size = w5.heap.size + 1 := by simp
      have hl5 : ba < w5.heap.size := Nat.lt_of_lt_of_le HLB.out hb5.size
      have r5 := HRES.out.below hb5 HRES.out.lt
      have hH5 : w.heap.size < w5.heap.size := r5.lt
      have e5 : Below w.heap.size w ((w5.alloc (.cells (aW 8 zW) 53)).setRow w5.heap.size (aW 8 st0.get)) := below_setRow ((HBEL.out.trans (hb5.mono HBEL.out.size)).alloc (by omega) _) (by omega) _
      have c5 : CAt ((w5.alloc (.cells (aW 8 zW) 53)).setRow w5.heap.size (aW 8 st0.get)) w5.heap.size (aW 8 st0.get) 53 := (CAt.new _ _ _).row _
      have r6 := ((r5.alloc (.cells (aW 8 zW) 53)).rowOther (k := w5.heap.size) (aW 8 st0.get) (by omega)).below hb6 (by rw [hz5]; omega)
      have c6 := c5.below hb6 c5.lt
      have ra5 : RowAt ((w5.alloc (.cells (aW 8 zW) 53)).setRow w5.heap.size (aW 8 st0.get)) ba oa M (padF n x) := row_setRow ((HRA.out.below hb5 HLB.out).below ((Below.refl w5.heap.size w5).alloc (by omega) _) hl5) (by omega) _
      have ra6 := ra5.below hb6 (by rw [hz5]; omega)
      have e6 := e5.trans (hb6.mono (by rw [hz5]; omega))
      have h56 : w5.heap.size < w6.heap.size := by have := hb6.size; rw [hz5] at this; omega
      have m6 : LpM w ((w6.alloc (.cells (aW 64 zW) 63)).setRow w6.heap.size (aW 64 kk)) w5.heap.size w6.heap.size ba oa M (padF n x) (hs (padF n x) 0) :=
        ⟨(c6.alloc _).rowOther _ (by omega), (CAt.new _ _ _).row _, row_setRow (ra6.below ((Below.refl w6.heap.size w6).alloc (by omega) _) (by omega)) (by omega) _, (r6.alloc _).rowOther _ (by omega), below_setRow (e6.alloc (by omega) _) (by omega) _⟩
      have HM6 := hid m6
      have HORD : Hid (ba < w5.heap.size ∧ w5.heap.size < w6.heap.size ∧ w.heap.size < w5.heap.size) := ⟨hl5, h56, hH5⟩
      clear hz5 hl5 r5 hH5 e5 c5 r6 c6 ra5 ra6 e6 h56 m6 hb5 hb6 HRES HBEL HRA HLB
      simp only [Act.put, List.setIfInBounds_toArray, List.set_cons_succ, List.set_cons_zero]
      generalize ((w6.alloc (.cells (aW 64 zW) 63)).setRow w6.heap.size (aW 64 kk)) = w7 at *
      generalize w6.heap.size = gk at *
      generalize w5.heap.size = gh at *
      go_wp2
      go_loopw [6] (fun v wr => ∃ q a : Nat, q ≤ nbl n ∧ a = 64 * q ∧ v = .int .i64 a ∧ LpM w wr gh gk ba oa M (padF n x) (hs (padF n x) q)) (fun v _ => (M - intOf v).toNat)
      case atStart => exact ⟨0, 0, by omega, rfl, rfl, HM6.out⟩
      case round =>
        clear HM6
        obtain ⟨q, a, hqn, ha, rfl, hlp⟩ := hrel
        have HA := hid ha
        have hM1 := HMn.out
        by_cases hlq : q < nbl n
        · have hlt' : (a : Int) < (M : Int) := by omega
          have ha6 : (a : Int) ≤ 600000 := by omega
          have HAM : Hid (a + 64 ≤ M ∧ M ≤ 2000000) := by constructor <;> omega
          have HL := hid hlp
          clear hlp ha hM1
          go_wp2_with (first
            | refine wpList_load_row rfl 53 _ rfl _ rfl _ _ _ _ HL.out.h Try.underlying53 rfl (size8r _) ?_
            | refine wpList_load_row rfl 63 _ rfl _ rfl _ _ _ _ HL.out.k Try.underlying63 rfl (size64 _) ?_
            | (go_at_call 38; refine (rblock_any _ _ _ _ _ _ (padF n x) _ HAM.out.2 HL.out.row (fun i _ => padF_lt n x HBX.out i) HAM.out.1).mono ?_; rintro e w8 ⟨rfl, hb8⟩; have HL8 := hid (HL.out.on hpos hb8); clear hb8)
            | refine wpList_store_row rfl 53 _ _ rfl _ _ rfl rfl _ _ HL8.out.h (size8r _) (by simp only [aW_size]) (aW_one _ _) ?_)
          go_roundw
          case rel =>
            have ho := HORD.out
            refine ⟨q + 1, a + 64, by omega, by have := HA.out; omega, by go_num, HL8.out.h.row _ |>.congr ?_, HL8.out.k.rowOther _ (by omega), row_setRow HL8.out.row (by omega) _, HL8.out.res.rowOther _ (by omega), below_setRow HL8.out.below (by omega) _⟩
            rw [hs, HA.out]
          case measure => simp [intOf]; omega
        · have hge : ¬ (a : Int) < (M : Int) := by omega
          have hq2 : q = nbl n := by omega
          have HS : Hid (hs (padF n x) q = shaSt n x) := by rw [hq2]; rfl
          have HL := hid hlp
          clear hlp ha hM1 hq2 hqn
          go_wp2_with (refine wpList_alloc_row rfl 42 rfl _ zero32 ?_)
          have hl9 : w.heap.size < wr.heap.size := HL.out.res.lt
          have hh9 : gh < wr.heap.size := HL.out.h.lt
          have m9 : CAt (wr.alloc (.cells (aB 32 zB) 42)) gh (aW 8 (shaSt n x).get) 53 := by rw [← HS.out]; exact HL.out.h.alloc _
          have n9 := HL.out.res.alloc (.cells (aB 32 zB) 42)
          have b9 := HL.out.below.alloc HL.out.below.size (.cells (aB 32 zB) 42)
          have o9 : CAt (wr.alloc (.cells (aB 32 zB) 42)) wr.heap.size (aB 32 (upTo (outB (shaSt n x)) 0)) 42 := (CAt.new wr (aB 32 zB) 42).congr (aB_congr 32 fun i _ => upTo_zero _ i)
          have HM9 := hid m9
          have HN9 := hid n9
          have HB9 := hid b9
          have HO9 := hid o9
          have HORD2 : Hid (w.heap.size < wr.heap.size ∧ gh < wr.heap.size) := ⟨hl9, hh9⟩
          clear m9 n9 b9 o9 HL HS hl9 hh9
          generalize (wr.alloc (.cells (aB 32 zB) 42)) = w9 at *
          generalize wr.heap.size = go at *
          generalize hsf : shaSt n x = sf at *
          have HSF := hid hsf
          clear hsf
          go_loopw [8] (fun v wr => ∃ k : Nat, k ≤ 32 ∧ v = .int .i64 k ∧ CAt wr gh (aW 8 sf.get) 53 ∧ CAt wr w.heap.size (aB 32 zB) 42 ∧ CAt wr go (aB 32 (upTo (outB sf) k)) 42 ∧ Below w.heap.size w wr) (fun v _ => (32 - intOf v).toNat)
          case atStart => exact ⟨0, by omega, rfl, HM9.out, HN9.out, HO9.out, HB9.out⟩
          case round =>
            clear HM9 HN9 HO9 HB9
            obtain ⟨k, hk, rfl, hs, hz, hc, hb⟩ := hrel
            by_cases hlk : k < 32
            · have c1 := hs.cellW (k / 4) (by omega)
              have c2 := hc.cellB k hlk
              have c3 := hc.free k
              generalize hsw : sf.get (k / 4) = sw at *
              have hv := out_byte2 sf k sw hsw
              have HS := hid hs
              have HZ := hid hz
              have HCC := hid hc
              have HB := hid hb
              have hlk' : (k : Int) < 32 := by omega
              clear hs hz hc hb hsw
              go_wp2
              go_roundw
              case rel =>
                have ho := HORD2.out
                exact ⟨k + 1, by omega, by go_num, HS.out.other _ _ (by show gh ≠ go; omega), HZ.out.other _ _ (by show w.heap.size ≠ go; omega), (HCC.out.setB k _).congr (aB_congr 32 fun i _ => upTo_step _ k i), HB.out.setCell (by show w.heap.size ≤ go; omega) _⟩
              case measure => simp [intOf]; omega
            · have e : k = 32 := by omega
              have hc2 := hc.congr (cs' := aB 32 (outB sf)) (aB_congr 32 fun i hi => upTo_at _ _ _ (by omega))
              have HZ := hid hz
              have HCC := hid hc2
              have HB := hid hb
              have hgk : ¬ (k : Int) < 32 := by omega
              clear hs hz hc hb hc2 e
              go_wp2_with (first
                | refine wpList_load_row rfl 42 _ rfl _ rfl _ _ _ _ HCC.out Try.underlying42 rfl (size32 _) ?_
                | refine wpList_store_row rfl 42 _ _ rfl _ _ rfl rfl _ _ HZ.out (size32 _) (by simp only [aB_size]) (aB_one _ _) ?_)
              have hfin : aB 32 (outB sf) = aB 32 (sha n x) := aB_congr 32 fun i _ => by unfold sha; rw [HSF.out]
              refine ret_row rfl _ _ _ _ _ rfl rfl (HZ.out.row _) Try.underlying42 rfl (size32 _) ⟨?_, below_setRow HB.out (by omega) _⟩
              rw [hfin]
    · have hne' : ¬ (m : Int) % 64 = 56 := by omega
      obtain ⟨v', w5, hr5, hf5, hb5⟩ := hm.buf.push 0 (by omega) hm.size
      have m5 : RsM w w5 v' (m + 1) (pz n x) := ⟨hf5.congr (fun i hi => by
        by_cases q : i < m
        · rw [if_pos q]
        · rw [if_neg q]; unfold pz; rw [if_neg (by omega), if_neg (by omega)]), hm.res.below hb5 (by omega), hm.below.trans (hb5.mono (by omega))⟩
      obtain ⟨pv, cv, rfl, hcv, hst, hpn⟩ := hm.buf.str
      obtain ⟨p5, c5, e5, _, _, _⟩ := m5.buf.str
      have HR5 := hid hr5
      have HM5 := hid m5
      have HE5 := hid e5
      clear hm hr5 hf5 hb5 m5 e5 hcv hst hpn hQ hne
      go_wp2_with (refine wpList_append_eq rfl _ _ 44 rfl _ _ rfl rfl _ _ HR5.out ?_)
      go_roundw
      case rel => exact ⟨m + 1, by omega, by have := HQ.out; omega, HM5.out⟩
      case measure => rw [HE5.out]; simp only [lenV]; have := HQ.out; omega
end Go.Proofs.Ytkiojnledimihaa.H

/- The number and the set of a path: the mathematics; the document's Hash and Set. -/
namespace Go.Proofs.Ytkiojnledimihaa
open Go Go.RowKit Go.Shelf

set_option maxRecDepth 100000 in
theorem rmay13_any (s : Nm) (hs : s.length ≤ maxLen) (w : World) : Calls Try.prog 24 #[sv s] w fun e w' => e = .returned (.bool (okP s)) ∧ w' = w := by
  unfold okP maxLen at *
  by_cases h1 : 1 ≤ (s.length : Int)
  · by_cases h2 : (s.length : Int) ≤ 400
    · rw [decide_eq_true (show 1 ≤ s.length ∧ s.length ≤ 400 by omega)]
      go_enter Try.func24, Try.ntmps24
      go_wp2
      go_ret
      exact ⟨rfl, rfl⟩
    · rw [decide_eq_false (show ¬ (1 ≤ s.length ∧ s.length ≤ 400) by omega)]
      go_enter Try.func24, Try.ntmps24
      go_wp2
      go_ret
      exact ⟨rfl, rfl⟩
  · rw [decide_eq_false (show ¬ (1 ≤ s.length ∧ s.length ≤ 400) by omega)]
    go_enter Try.func24, Try.ntmps24
    go_wp2
    go_ret
    exact ⟨rfl, rfl⟩
set_option maxHeartbeats 4000000 in
set_option maxRecDepth 100000 in
theorem rhash13_any (s : Nm) (hs : s.length ≤ maxLen) (w : World) : Calls Try.prog 9 #[sv s] w fun e w' => e = .returned (.tuple #[.int .u64 (hsN s : Int), .int .i64 (hsE s : Int)]) ∧ Below w.heap.size w w' := by
  have HMY := hid (rmay13_any s hs w)
  unfold hsN hsE
  have hb0 := Below.refl w.heap.size w
  cases hok : okP s with
  | false =>
    rw [hok] at HMY
    rw [if_neg (by decide), if_neg (by decide)]
    have HB0 := hid hb0
    go_enter Try.func9, Try.ntmps9
    go_wp2_with (go_at_call 24; refine HMY.out.mono ?_; rintro e w1 ⟨rfl, hw⟩; have hw2 := hw.symm; subst hw2)
    go_ret2
    exact ⟨rfl, HB0.out⟩
  | true =>
    rw [hok] at HMY
    rw [if_pos rfl, if_pos rfl]
    have hl : s.length ≤ 400 := by unfold okP at hok; simp at hok; omega
    obtain ⟨cc, w1, hconv, hb1, hbl, hcc⟩ := toB13 s w
    have HS : Hid (Calls Try.prog 25 #[.slice (some ⟨w.heap.size, 0, none⟩) s.length cc] w1 fun e w' => e = .returned (.agg (H.aB 32 (dgF s))) ∧ Below w1.heap.size w1 w') := hid (H.rsum_any (some ⟨w.heap.size, 0, none⟩) s.length cc (byN s) w1 (by omega) (fun e => by cases e) hbl (fun i _ => byN_lt s i))
    have HD := hid (dgF_lt s)
    have HB1 := hid hb1
    generalize dgF s = d at *
    have HSM := hid (fun k (hk : k < 8) => hsP_64 (f := d) HD.out hk)
    clear hbl hcc hb1 hb0
    go_enter Try.func9, Try.ntmps9
    go_wp2_with (first
      | (go_at_call 24; refine HMY.out.mono ?_; rintro e w2 ⟨rfl, hw⟩; have hw2 := hw.symm; subst hw2)
      | (go_at_call 25; refine HS.out.mono ?_; rintro e w3 ⟨rfl, hb3⟩; have HB3 := hid (below_on _ _ HB1.out hb3); clear hb3)
      | refine wpList_store_row rfl 42 _ _ rfl _ _ rfl rfl _ _ (H.CAt.new _ _ _) (H.size32 _) (by rw [H.aB_size]; rfl) (H.aB_one _ _) ?_)
    have HC6 : Hid (∀ o, H.CAt ((w3.alloc (.cells o 42)).setRow w3.heap.size (H.aB 32 d)) w3.heap.size (H.aB 32 d) 42) := hid (fun o => (H.CAt.new _ _ _).row _)
    have HB6 : Hid (∀ o, Below w.heap.size w ((w3.alloc (.cells o 42)).setRow w3.heap.size (H.aB 32 d))) := hid (fun o => below_setRow (HB3.out.alloc HB3.out.size _) HB3.out.size _)
    have HG := hid HB3.out.size
    generalize w3.heap.size = g at *
    clear HB3 HS HMY hconv HB1
    go_loopg [5, 6] 8 (fun gg n v wr => ∃ k : Nat, k ≤ 8 ∧ 8 - k ≤ gg ∧ n = .int .u64 (hsP d k : Int) ∧ v = .int .i64 (k : Int) ∧ H.CAt wr g (H.aB 32 d) 42 ∧ Below w.heap.size w wr)
    case atStart => exact ⟨0, by omega, by omega, rfl, rfl, HC6.out _, HB6.out _⟩
    case round =>
      clear HC6 HB6
      obtain ⟨k, hk, hgg, rfl, rfl, hc, hb⟩ := hrel
      have HC := hid hc
      have HB := hid hb
      clear hc hb
      by_cases hlt : k < 8
      · have hlt' : (k : Int) < 8 := by omega
        have y0 : wr.cell? ⟨g, k, none⟩ = some (.int .u8 (d k : Int)) := HC.out.cellB k (by omega)
        have hd := HD.out k
        have hs8 := HSM.out k hlt
        have HN : Hid (hsP d (k + 1) = hsP d k * 256 + d k) := hid rfl
        generalize d k = z at *
        generalize hsP d k = m at *
        go_wp2

        go_roundg (8 - (k + 1))
        case measure => omega
        case rel => exact ⟨k + 1, by omega, by omega, by rw [HN.out]; go_num, by go_num, HC.out, HB.out⟩
      · have hlt' : ¬ (k : Int) < 8 := by omega
        have e : k = 8 := by omega
        subst e
        go_wp2
        go_ret2
        exact ⟨rfl, HB.out⟩
set_option maxHeartbeats 4000000 in
set_option maxRecDepth 100000 in
theorem rset13_any (s : Nm) (hs : s.length ≤ maxLen) (n : Int) (hn : -9223372036854775808 ≤ n ∧ n ≤ 9223372036854775807) (w : World) : Calls Try.prog 11 #[sv s, .int .i64 n] w fun e w' => e = .returned (.tuple #[.int .i64 (stN s n : Int), .int .i64 (stE s n : Int)]) ∧ Below w.heap.size w w' := by
  have HH := hid (rhash13_any s hs w)
  have hlt := hsN_lt s
  unfold stN stE okS hsE at *
  cases hok : okP s with
  | false =>
    rw [hok] at HH
    simp only [Bool.false_and, Bool.false_eq_true, if_false] at *
    go_enter Try.func11, Try.ntmps11
    go_wp2_with (go_at_call 9; refine HH.out.mono ?_; rintro e w2 ⟨rfl, hb⟩; have HB := hid hb; clear hb)
    go_ret2
    exact ⟨rfl, HB.out⟩
  | true =>
    rw [hok] at HH
    simp only [if_true, Bool.true_and] at *
    generalize hsN s = m at *
    by_cases h1 : n < 1
    · rw [decide_eq_false (show ¬ (1 ≤ n ∧ n ≤ 4) by omega)]
      simp only [Bool.false_eq_true, if_false]
      go_enter Try.func11, Try.ntmps11
      go_wp2_with (go_at_call 9; refine HH.out.mono ?_; rintro e w2 ⟨rfl, hb⟩; have HB := hid hb; clear hb)
      go_ret2
      exact ⟨rfl, HB.out⟩
    · by_cases h4 : 4 < n
      · rw [decide_eq_false (show ¬ (1 ≤ n ∧ n ≤ 4) by omega)]
        simp only [Bool.false_eq_true, if_false]
        go_enter Try.func11, Try.ntmps11
        go_wp2_with (go_at_call 9; refine HH.out.mono ?_; rintro e w2 ⟨rfl, hb⟩; have HB := hid hb; clear hb)
        go_ret2
        exact ⟨rfl, HB.out⟩
      · rw [decide_eq_true (show 1 ≤ n ∧ n ≤ 4 by omega)]
        simp only [if_true]
        obtain ⟨k, rfl⟩ : ∃ k : Nat, n = (k : Int) := ⟨n.toNat, by omega⟩
        have hmod : m % k < k := Nat.mod_lt _ (by omega)
        have e1 : ((k : Int)).toNat = k := by omega
        rw [e1]
        have HM : Hid (((m : Int).tmod (k : Int)) = ((m % k : Nat) : Int)) := hid (by rw [Int.ofNat_tmod])
        go_enter Try.func11, Try.ntmps11
        go_wp2_with (go_at_call 9; refine HH.out.mono ?_; rintro e w2 ⟨rfl, hb⟩; have HB := hid hb; clear hb)
        go_ret2
        exact ⟨rfl, HB.out⟩
end Go.Proofs.Ytkiojnledimihaa

/- Lists that are being filled, in a row; the document's Parts. -/
namespace Go.Proofs.Ytkiojnledimihaa
open Go Go.RowKit Go.Shelf

theorem step_run_val13 {P : Program} {w : World} {ops : Array Oper} {o : Oper} {a : Act} {K : Act → World → Prop} {Q : Exit → Act → World → Prop} {E : Prop} (hgd : o.guard = none) (v : Value) (w' : World)
    (hr : (execOp a.eval o).run P w = .ok (.value v) w') (h : K (a.put o.dst v) w') : if Region.wanted o (yielded ops a.tmps) = true then Oper.wp P o a w K Q else E := by
  rw [if_pos (by simp [Region.wanted, hgd])]
  unfold Oper.wp
  rw [hr]
  exact h
theorem exec_bsT {a : Act} {o : Oper} {x : Operand} {s : Nm} {W : World} (ho : o.op = .buildSlice 30 1 #[(0, x)]) (hx : a.eval x = sv s) : (execOp a.eval o).run Try.prog W = .ok (.value (.slice (some ⟨W.heap.size, 0, none⟩) 1 1)) (W.alloc (.cells #[sv s] 9)) := by
  have h : (Instr.buildSlice 30 1 #[(0, sv s)]).run Try.prog W = .ok (.slice (some ⟨W.heap.size, 0, none⟩) 1 1) (W.alloc (.cells #[sv s] 9)) := by kernel_rfl
  unfold execOp
  simp only [ho, List.map_toArray, List.map_cons, List.map_nil, hx, Sem.run_bind, h, Result.andThen_ok, Sem.run_pure]
theorem exec_app13 {a : Act} {o : Oper} {s x : Operand} {t t2 : TypeId} {v xv v' : Value} {W W' : World} (ho : o.op = .call { callee := .builtin .append, args := #[s, x], argTypes := #[t, t2] }) (hs : a.eval s = v) (hx : a.eval x = xv) (hr : (Builtin.append_ #[t, t2] o.type #[v, xv]).run Try.prog W = .ok v' W') : (execOp a.eval o).run Try.prog W = .ok (.value v') W' := by
  unfold execOp
  simp only [ho, resolve, invoke, builtin, Sem.run_bind, Sem.run_pure, Result.andThen_ok, List.map_toArray, List.map_cons, List.map_nil, hs, hx, hr]
/-- One cell that may be written is stored in a region that draws. -/
theorem step_storeF13 (ty : TypeId) {w : World} {ops : Array Oper} {o : Oper} {a : Act} {K : Act → World → Prop} {Q : Exit → Act → World → Prop} {E : Prop} (hgd : o.guard = none) (hdst : o.dst = none) (x y : Operand) (ho : o.op = .store ty x y) (g off : Nat) (hx : a.eval x = .pointer (some ⟨g, off, none⟩)) (v : Value) (hy : a.eval y = v) (hv : v.cells = #[v])
    (hi : (Try.prog.info? ty).map (·.size) = some 1) (h1 : v.oneCell' = true) {u : Value} (hc : w.cell? ⟨g, off, none⟩ = some u) (hf : w.frozen? ⟨g, off, none⟩ = false) (h : K a (w.setCell ⟨g, off, none⟩ v)) : if Region.wanted o (yielded ops a.tmps) = true then Oper.wp Try.prog o a w K Q else E := by
  have e1 : (Instr.storeAt ty (.pointer (some ⟨g, off, none⟩)) v).run Try.prog w = .ok () (w.setCells g off [v]) := by
    have := run_storeCells_cells (P := Try.prog) g off [v] 0 w (fun j hj => by simp at hj; subst hj; exact hc ▸ rfl) (fun j hj => by simp at hj; subst hj; exact hf)
      (fun z hz => by simp at hz; subst hz; exact h1)
    cases hq : Try.prog.info? ty with
    | none => simp [hq] at hi
    | some i =>
      have hs : 1 = i.size := by simp [hq] at hi; omega
      simp only [Nat.add_zero] at this
      simp [Instr.storeAt, Instr.sureAddr, storeVar, sizeOf, typeInfo, hq, hv, ← hs, this]
  rw [if_pos (by simp [Region.wanted, hgd])]
  unfold Oper.wp execOp
  simp only [ho, hx, hy, Sem.run_bind, e1, Result.andThen_ok, Sem.run_pure]
  show K (a.put o.dst undef) _
  rw [hdst]
  exact h
section
variable {W0 W W' : World} {g n : Nat} {vs : Nat → Value} {ps : Nat → List Nm}
end
set_option maxRecDepth 100000 in
theorem rparts13_no {w : World} (po : Option Addr) (c m : Nat) (n : Int) (h : n < 1 ∨ 4 < n) :
    Calls Try.prog 16 #[.slice po m c, .int .i64 n] w fun e w' => e = .returned (.tuple #[.slice none 0 0, .int .i64 2]) ∧ Below w.heap.size w w' := by
  have HB := hid (Below.refl w.heap.size w)
  by_cases h1 : n < 1
  · clear h
    go_enter Try.func16, Try.ntmps16
    go_wp2
    go_ret2
    exact ⟨rfl, HB.out⟩
  · have h4 : 4 < n := by omega
    clear h
    go_enter Try.func16, Try.ntmps16
    go_wp2
    go_ret2
    exact ⟨rfl, HB.out⟩
set_option maxRecDepth 100000 in
theorem rparts13_long {w : World} (po : Option Addr) (c m : Nat) (n : Int) (h : ¬ n < 1) (h4 : ¬ 4 < n) (hm : (10000 : Int) < (m : Int)) :
    Calls Try.prog 16 #[.slice po m c, .int .i64 n] w fun e w' => e = .returned (.tuple #[.slice none 0 0, .int .i64 3]) ∧ Below w.heap.size w w' := by
  have HB := hid (Below.refl w.heap.size w)
  go_enter Try.func16, Try.ntmps16
  go_wp2
  go_ret2
  exact ⟨rfl, HB.out⟩
set_option maxHeartbeats 8000000 in
set_option maxRecDepth 100000 in
theorem rparts13_go {w : World} {po : Option Addr} {ns : List Nm} (h : TxO w po ns) (c : Nat) (hn : ns.length ≤ 10000) (hls : ∀ x ∈ ns, x.length ≤ maxLen) (n : Nat) (h1 : 1 ≤ n) (h4 : n ≤ 4) :
    Calls Try.prog 16 #[.slice po ns.length c, .int .i64 (n : Int)] w (PrR w ns n) := by
  have HT := hid (fun W (hb : Below w.heap.size w W) => h.below hb)
  have HLS : Hid (∀ j, j < ns.length → (ns.getD j []).length ≤ maxLen) := hid (fun j hj => hls _ (by rw [getD_in _ _ _ hj]; exact List.getElem_mem hj))
  have hmk := run_makeTs n (by omega)
  have HOK : Hid (∀ W g vs, (∀ j, j < ns.length → okP (ns.getD j []) = true) → PtM w W g n vs (ptS ns n) → PrR w ns n (.returned (.tuple #[.slice (some ⟨g, 0, none⟩) n n, .int .i64 0])) W) := hid (fun W g vs hok hp => by
    have he : prE ns n = 0 := by
      unfold prE
      rw [if_pos (by omega), if_neg (by omega), if_pos (List.all_eq_true.2 fun x hx => by obtain ⟨j, hj, rfl⟩ := List.mem_iff_getElem.1 hx; have := hok j hj; rwa [getD_in _ _ _ hj] at this)]
    exact .inl ⟨he, g, vs, by rw [Int.toNat_natCast], by rw [Int.toNat_natCast]; exact hp⟩)
  have HNO : Hid (∀ W j, j < ns.length → okP (ns.getD j []) = false → Below w.heap.size w W → PrR w ns n (.returned (.tuple #[.slice none 0 0, .int .i64 2])) W) := hid (fun W j hj hno hb => by
    have he : prE ns n = 2 := by
      unfold prE
      rw [if_pos (by omega), if_neg (by omega), if_neg (fun h => by have := List.all_eq_true.1 h (ns.getD j []) (by rw [getD_in _ _ _ hj]; exact List.getElem_mem hj); rw [hno] at this; cases this)]
    exact .inr ⟨by rw [he]; decide, by rw [he]; rfl, hb⟩)
  have H0 : Hid (PtM w (w.alloc (.cells (madeCells #[.slice none 0 0] n) 30)) w.heap.size n (fun _ => .slice none 0 0) (ptS (ns.take 0) n)) := hid (PtM.start w n)
  have HLN : Hid (∀ i j, (ptS (ns.take i) n j).length ≤ 10000) := hid (fun i j => by
    have a := List.length_filter_le (fun s => stN s (n : Int) == j) (ns.take i)
    rw [List.length_take] at a
    unfold ptS; omega)
  have HST := hid (fun i (hi : i < ns.length) => ptS_step ns n i hi)
  have HLT := hid (fun s (e : okS s n = true) => stN_lt e)
  generalize PrR w ns n = PP at *
  clear h hls
  have h1' : ¬ (n : Int) < 1 := by omega
  have h4' : ¬ (4 : Int) < (n : Int) := by omega
  have hn' : ¬ (10000 : Int) < (ns.length : Int) := by omega
  go_enter Try.func16, Try.ntmps16
  go_wp2_with fail
  clear hmk
  generalize w.alloc (.cells (madeCells #[.slice none 0 0] n) 30) = w1 at *
  go_loopg [7] ns.length (fun gg v wr => ∃ (i : Nat) (vs : Nat → Value), i ≤ ns.length ∧ ns.length - i ≤ gg ∧ v = .int .i64 (i : Int) ∧ PtM w wr w.heap.size n vs (ptS (ns.take i) n) ∧ Hid (∀ j, j < i → okP (ns.getD j []) = true))
  case atStart => exact ⟨0, _, Nat.zero_le _, by omega, rfl, H0.out, hid fun j hj => absurd hj (Nat.not_lt_zero _)⟩
  case round =>
    clear H0
    obtain ⟨i, vs, hi, hgi, rfl, hp, HJ⟩ := hrel
    have HP := hid hp
    clear hp
    by_cases hlt : i < ns.length
    · have hlt' : (i : Int) < (ns.length : Int) := by omega
      obtain ⟨b, o, hpo, z1⟩ := (HT.out wr HP.out.be).cell hlt
      subst hpo
      have HSE := hid (rset13_any (ns.getD i []) (HLS.out i hlt) n (by omega) wr)
      obtain ⟨b', o', e', z0⟩ := (HT.out w (Below.refl _ _)).cell hlt
      cases e'
      have HCB : Hid (∀ W, Below w.heap.size w W → W.cell? ⟨b, o + i, none⟩ = some (sv (ns.getD i []))) := hid (fun W hb => (World.cell?_of_block (a := ⟨b, o + i, none⟩) (hb.block b (cell_lt2 z0))).trans z0)
      clear z0
      have HN2 := hid (fun W (e : okP (ns.getD i []) = false) hb => HNO.out W i hlt e hb)
      have HS2 := hid (HST.out i hlt)
      have HL2 := hid (HLT.out (ns.getD i []))
      have HJ2 : Hid (okP (ns.getD i []) = true → ∀ j, j < i + 1 → okP (ns.getD j []) = true) := hid (fun e j hj => if e2 : j = i then (by rw [e2]; exact e) else HJ.out j (by omega))
      have HLN2 := hid (HLN.out i)
      clear HJ HNO HST HLT HLS HOK HLN HT
      generalize ns.getD i [] = s at *
      cases hok : okP s with
      | false =>
        have HN3 := hid (fun W => HN2.out W hok)
        have he : stE s n = 2 := by unfold stE okS; rw [hok]; simp
        rw [he] at HSE
        have HBE := hid HP.out.be
        clear HN2 HS2 HL2 HJ2 HLN2 HP he
        go_wp2_with (go_at_call 11; refine HSE.out.mono ?_; rintro e w2 ⟨rfl, hb2⟩; have HB2 := hid (below_on _ _ HBE.out hb2); clear hb2)
        exact HN3.out _ HB2.out
      | true =>
        have ho2 : okS s (n : Int) = true := by unfold okS; rw [hok]; simp; omega
        have H5 : Hid (s.length ≤ 512) := hid (by unfold okP at hok; simp at hok; omega)
        have he : stE s n = 0 := by unfold stE; rw [ho2]; rfl
        rw [he] at HSE
        have hk := HL2.out ho2
        rw [Int.toNat_natCast] at hk
        have HS3 := hid HS2.out
        have HJ3 := hid (HJ2.out hok)
        clear HN2 HS2 HL2 HJ2 he ho2
        generalize stN s n = k at *
        have HL3 := hid (HLN2.out k)
        have hk' : (k : Int) < (n : Int) := by omega
        clear HLN2
        have HBE := hid HP.out.be
        go_wp2_with (go_at_call 11; refine HSE.out.mono ?_; rintro e w2 ⟨rfl, hb2⟩; have HP2 := hid (HP.out.below hb2); have HB2 := hid (below_on _ _ HBE.out hb2); clear hb2)
        have HAP : Hid (∀ W4, Below w2.heap.size w2 W4 → ∃ v' w', (Builtin.append_ #[30, 30] 30 #[vs k, .slice (some ⟨W4.heap.size, 0, none⟩) 1 1]).run Try.prog (W4.alloc (.cells #[sv s] 9)) = .ok v' w' ∧
            ((∃ vp vc, v' = .slice vp ((ptS (ns.take i) n k).length + 1) vc) ∧ (w'.cell? ⟨w.heap.size, k, none⟩ = some (vs k) ∧ w'.cell? ⟨b, o + i, none⟩ = some (sv s)) ∧ w'.frozen? ⟨w.heap.size, k, none⟩ = false ∧ PtM w (w'.setCell ⟨w.heap.size, k, none⟩ v') w.heap.size n (upd vs k v') (ptS (ns.take (i + 1)) n))) := hid (fun W4 hb4 => by
          obtain ⟨v', w', hr, hf, hbw, hcs, hfz, hpm⟩ := (HP2.out.below hb4).add hk s H5.out (by have := HL3.out; omega)
          rw [← HS3.out] at hpm
          exact ⟨v', w', hr, hf, ⟨hcs k hk, HCB.out w' hbw⟩, hfz, hpm⟩)
        have HSX := hid (fun W4 (hb4 : Below w2.heap.size w2 W4) => HCB.out W4 (below_on _ _ HB2.out hb4))
        have HD3 : Hid (Below w2.heap.size w2 w2.drew) := hid ((Below.refl _ _).drew)
        refine wp_region_held_drew (S := fun W' : World => W'.cell? ⟨b, o + i, none⟩ = some (sv s)) (by kernel_rfl) (HSX.out _ HD3.out) ?_
        generalize w2.drew = w3 at HD3 ⊢
        have HB4 : Hid (Below w2.heap.size w2 (w3.alloc (.cells #[sv s] 9))) := hid (below_on _ _ HD3.out ((Below.refl _ _).alloc (Nat.le_refl _) _))
        have k4 : w3.cell? ⟨w.heap.size, k, none⟩ = some (vs k) := (HP2.out.below HD3.out).cell hk
        have k4b : (w3.alloc (.cells #[sv s] 9)).cell? ⟨w.heap.size, k, none⟩ = some (vs k) := (HP2.out.below HB4.out).cell hk
        obtain ⟨v5, w5, hr5, ⟨vp, vc, hv5⟩, ⟨hc5, hd5⟩, hf5, hp5⟩ := HAP.out w3 HD3.out
        subst hv5
        have HR5 := hid hr5
        have HP5 := hid hp5
        have HC5 := hid (And.intro hc5 (And.intro hf5 hd5))
        have HE5 : Hid ((w5.setCell ⟨w.heap.size, k, none⟩ (.slice vp ((ptS (ns.take i) n k).length + 1) vc)).cell? ⟨b, o + i, none⟩ = some (sv s)) := hid (HCB.out _ HP5.out.be)
        generalize (ptS (ns.take i) n k).length + 1 = ln at *
        clear hr5 hp5 hc5 hf5 hd5 HAP
        intro hHeld
        refine wpAnyH_take (i := 0) (v := .slice (some ⟨w.heap.size, 0, none⟩) n n) rfl (by kernel_rfl) (by kernel_rfl) (by kernel_rfl) (fun _ _ _ h => h) (Or.inl ⟨by kernel_rfl, by intro W hW; go_simp⟩) hHeld ?_
        refine wpAnyH_take (i := 1) (v := .int .i64 (k : Int)) rfl (by kernel_rfl) (by kernel_rfl) (by kernel_rfl) (fun _ _ _ h => h) (Or.inl ⟨by kernel_rfl, by intro W hW; go_simp⟩) hHeld ?_
        refine wpAnyH_take (i := 2) (v := .slice (some ⟨w.heap.size, 0, none⟩) n n) rfl (by kernel_rfl) (by kernel_rfl) (by kernel_rfl) (fun _ _ _ h => h) (Or.inl ⟨by kernel_rfl, by intro W hW; go_simp⟩) hHeld ?_
        refine wpAnyH_take (i := 3) (v := .int .i64 (k : Int)) rfl (by kernel_rfl) (by kernel_rfl) (by kernel_rfl) (fun _ _ _ h => h) (Or.inl ⟨by kernel_rfl, by intro W hW; go_simp⟩) hHeld ?_
        refine wpAnyH_take (i := 4) (v := .pointer (some ⟨w.heap.size, k, none⟩)) rfl (by kernel_rfl) (by kernel_rfl) (by kernel_rfl) (fun _ _ _ h => h) (Or.inl ⟨by kernel_rfl, by intro W hW; go_simp⟩) hHeld ?_
        refine wpAnyH_take (i := 6) (v := .slice (some ⟨b, o, none⟩) ns.length c) rfl (by kernel_rfl) (by kernel_rfl) (by kernel_rfl) (fun _ _ _ h => h) (Or.inl ⟨by kernel_rfl, by intro W hW; go_simp⟩) hHeld ?_
        refine wpAnyH_take (i := 7) (v := .int .i64 (i : Int)) rfl (by kernel_rfl) (by kernel_rfl) (by kernel_rfl) (fun _ _ _ h => h) (Or.inl ⟨by kernel_rfl, by intro W hW; go_simp⟩) hHeld ?_
        refine wpAnyH_take (i := 8) (v := .pointer (some ⟨b, o + i, none⟩)) rfl (by kernel_rfl) (by kernel_rfl) (by kernel_rfl) (fun _ _ _ h => h) (Or.inl ⟨by kernel_rfl, by intro W hW; go_simp⟩) hHeld ?_
        refine wpAnyH_take (i := 9) (v := sv s) rfl (by kernel_rfl) (by kernel_rfl) (by kernel_rfl) (fun _ _ _ h => h) (Or.inl ⟨by kernel_rfl, by intro W hW; go_simp⟩) hHeld ?_
        refine wpAnyH_ready (rs := [5, 10]) (by kernel_rfl) (by simp) ?_
        refine AllReadyH.cons rfl (fun K hK => ?_) (AllReadyH.cons rfl (fun K hK => ?_) AllReadyH.nil)
        · go_simp
          refine hK.out _ _ hHeld (fun hHeld => ?_)
          clear hK K
          refine wpAnyH_ready (rs := [10]) (by kernel_rfl) (by simp) ?_
          refine AllReadyH.cons rfl (fun K hK => ?_) AllReadyH.nil
          with_reducible refine step_run_val13 ?_ (.slice (some ⟨w3.heap.size, 0, none⟩) 1 1) (w3.alloc (.cells #[sv s] 9)) ?_ ?_
          · exact rfl
          · exact exec_bsT rfl (by kernel_rfl)
          refine hK.out _ _ (HSX.out _ HB4.out) (fun hHeld => ?_)
          clear hK K
          refine wpAnyH_ready (rs := [11]) (by kernel_rfl) (by simp) ?_
          refine AllReadyH.cons rfl (fun K hK => ?_) AllReadyH.nil
          with_reducible refine step_run_val13 ?_ (.slice vp ln vc) w5 ?_ ?_
          · exact rfl
          · exact exec_app13 rfl (by kernel_rfl) (by kernel_rfl) HR5.out
          refine hK.out _ _ HC5.out.2.2 (fun hHeld => ?_)
          clear hK K
          refine wpAnyH_take (i := 12) (v := .pointer (some ⟨w.heap.size, k, none⟩)) rfl (by kernel_rfl) (by kernel_rfl) (by kernel_rfl) (fun _ _ _ h => h) (Or.inl ⟨by kernel_rfl, by intro W hW; go_simp⟩) hHeld ?_
          refine wpAnyH_ready (rs := [13]) (by kernel_rfl) (by simp) ?_
          refine AllReadyH.cons rfl (fun K hK => ?_) AllReadyH.nil
          with_reducible refine step_storeF13 30 ?_ ?_ (.tmp 51) (.tmp 50) ?_ w.heap.size k ?_ (.slice vp ln vc) ?_ ?_ ?_ ?_ HC5.out.1 HC5.out.2.1 ?_
          · exact rfl
          · exact rfl
          · exact rfl
          · kernel_rfl
          · kernel_rfl
          · exact rfl
          · kernel_rfl
          · exact rfl
          refine hK.out _ _ HE5.out (fun _ => ?_)
          clear hK K
          refine wpAnyH_done (by kernel_rfl) ?_ _
          go_wp2_with fail
          go_roundg (ns.length - (i + 1))
          case measure => omega
          case rel => exact ⟨i + 1, _, by omega, by omega, by go_num, HP5.out, HJ3⟩
        · with_reducible refine step_run_val13 ?_ (.slice (some ⟨w3.heap.size, 0, none⟩) 1 1) (w3.alloc (.cells #[sv s] 9)) ?_ ?_
          · exact rfl
          · exact exec_bsT rfl (by kernel_rfl)
          refine hK.out _ _ (HSX.out _ HB4.out) (fun hHeld => ?_)
          clear hK K
          refine wpAnyH_ready (rs := [5]) (by kernel_rfl) (by simp) ?_
          refine AllReadyH.cons rfl (fun K hK => ?_) AllReadyH.nil
          go_simp
          refine hK.out _ _ (HSX.out _ HB4.out) (fun hHeld => ?_)
          clear hK K
          refine wpAnyH_ready (rs := [11]) (by kernel_rfl) (by simp) ?_
          refine AllReadyH.cons rfl (fun K hK => ?_) AllReadyH.nil
          with_reducible refine step_run_val13 ?_ (.slice vp ln vc) w5 ?_ ?_
          · exact rfl
          · exact exec_app13 rfl (by kernel_rfl) (by kernel_rfl) HR5.out
          refine hK.out _ _ HC5.out.2.2 (fun hHeld => ?_)
          clear hK K
          refine wpAnyH_take (i := 12) (v := .pointer (some ⟨w.heap.size, k, none⟩)) rfl (by kernel_rfl) (by kernel_rfl) (by kernel_rfl) (fun _ _ _ h => h) (Or.inl ⟨by kernel_rfl, by intro W hW; go_simp⟩) hHeld ?_
          refine wpAnyH_ready (rs := [13]) (by kernel_rfl) (by simp) ?_
          refine AllReadyH.cons rfl (fun K hK => ?_) AllReadyH.nil
          with_reducible refine step_storeF13 30 ?_ ?_ (.tmp 51) (.tmp 50) ?_ w.heap.size k ?_ (.slice vp ln vc) ?_ ?_ ?_ ?_ HC5.out.1 HC5.out.2.1 ?_
          · exact rfl
          · exact rfl
          · exact rfl
          · kernel_rfl
          · kernel_rfl
          · exact rfl
          · kernel_rfl
          · exact rfl
          refine hK.out _ _ HE5.out (fun _ => ?_)
          clear hK K
          refine wpAnyH_done (by kernel_rfl) ?_ _
          go_wp2_with fail
          go_roundg (ns.length - (i + 1))
          case measure => omega
          case rel => exact ⟨i + 1, _, by omega, by omega, by go_num, HP5.out, HJ3⟩
    · have hlt' : ¬ (i : Int) < (ns.length : Int) := by omega
      have e : i = ns.length := by omega
      subst e
      have HE := hid (HOK.out wr w.heap.size vs HJ.out (by have := HP.out; rw [List.take_length] at this; exact this))
      clear HOK
      go_wp2
      exact HE.out
theorem rparts13_any {w : World} {po : Option Addr} {ns : List Nm} (h : TxO w po ns) (c : Nat) (hls : ∀ x ∈ ns, x.length ≤ maxLen) (n : Int) :
    Calls Try.prog 16 #[.slice po ns.length c, .int .i64 n] w (PrR w ns n) := by
  by_cases hn : n < 1 ∨ 4 < n
  · have he : prE ns n = 2 := by unfold prE; rw [if_neg (by omega)]
    refine (rparts13_no po c ns.length n hn).mono ?_
    rintro e w' ⟨h1, h2⟩
    exact .inr ⟨by rw [he]; decide, by rw [he]; exact h1, h2⟩
  · by_cases hl : 10000 < ns.length
    · have he : prE ns n = 3 := by unfold prE; rw [if_pos (by omega), if_pos hl]
      refine (rparts13_long po c ns.length n (by omega) (by omega) (by omega)).mono ?_
      rintro e w' ⟨h1, h2⟩
      exact .inr ⟨by rw [he]; decide, by rw [he]; exact h1, h2⟩
    · obtain ⟨k, rfl⟩ : ∃ k : Nat, n = (k : Int) := ⟨n.toNat, by omega⟩
      exact rparts13_go h c (by omega) hls k (by omega) (by omega)
end Go.Proofs.Ytkiojnledimihaa

/- Texts, and lists of texts, that came in. -/
namespace Go.Proofs.Ytkiojnledimihaa
open Go Go.RowKit Go.Shelf

def IsTx (w : World) (v : Value) (ns : List Nm) : Prop := ∃ po c, v = .slice po ns.length c ∧ ns.length ≤ maxLen ∧ TxO w po ns ∧ (∀ x ∈ ns, x.length ≤ maxLen) ∧ Rm po ns.length c
section
variable {H : Type} {enc : TypeId × Value → H} {w : World} {held : Bool} {fuel : Nat}
theorem tx_read13 {cs : List Value} {x : DataW H × List MemPlace} (h : DataW.trod enc Try.prog w 0 (fun _ => true) held fuel 30 cs = some x) : ∃ v ns, cs = [v] ∧ IsTx w v ns := by
  obtain ⟨po, c, ns, hcs, ht, hl⟩ := texts_read10 h
  have hn := slice_len Try.underlying30 (by rw [← hcs]; exact h)
  exact ⟨_, ns, hcs, po, c, rfl, hn.1, ht, hl, hn.2.1, fun e => (hn.2.2 e).2⟩
end
end Go.Proofs.Ytkiojnledimihaa

/- PlaceParts, over the contracts of package place. -/
namespace Go.Proofs.Ytkiojnledimihaa
open Go Go.RowKit Go.Shelf

section
variable {w W W' : World} {g0 ga gb n i B2 : Nat} {va vb : Nat → Value} {ns : List Nm}
/-- Behind both calls. -/
theorem PpI.start {w1 w2 w3 : World} (hb1 : Below w.heap.size w w1) (hl : LnT w1 g0 ns) (h2 : PtM w1 w2 ga n va (ptS ns n)) (h3 : PtM w2 w3 gb n vb (ptS ns n)) : PpI w g0 ga gb n 0 w2.heap.size va vb ns w3 := by
  have z1 := hb1.size
  refine ⟨below_on _ _ (below_on _ _ hb1 h2.be) h3.be, (hl.below h2.be).below h3.be, fun j hj => ?_, fun j hj => h3.cell hj, fun j _ hj => ((h2.tx j hj).below h3.be).base z1, fun j hj => h3.tx j hj, fun j hj b hb => ?_, h2.dj, h3.ge⟩
  · exact (World.cell?_of_block (a := ⟨ga, j, none⟩) (h3.be.block ga h2.row.lt)).trans (h2.cell hj)
  · have h1 := own_ge (h2.tx j hj).t b hb
    have := hl.lt
    exact ⟨by omega, h1.2, h2.ap j hj b hb, by omega⟩
end
theorem ptS_len (ns : List Nm) (n j : Nat) : (ptS ns n j).length ≤ ns.length := List.length_filter_le _ _
set_option maxHeartbeats 8000000 in
set_option maxRecDepth 100000 in
theorem placeParts_core (hP : PlC) (v : Value) (ns : List Nm) (n : Int) (w : World) (hx : IsTx w v ns) (hn : -9223372036854775808 ≤ n ∧ n ≤ 9223372036854775807) :
    Calls Try.prog 4 #[v, .int .i64 n] w fun e w' => e = .returned (.bool true) ∧ Below w.heap.size w w' := by
  obtain ⟨po, c, rfl, hln, htx, hls, hrm⟩ := hx
  have HLG := hid (long13_any htx c hln hls 200)
  have HB0 := hid (Below.refl w.heap.size w)
  cases hlg : lgB ns 200 && decide (ns.length ≠ 10001) with
  | true =>
    have h1 : lgB ns 200 = true := by revert hlg; cases lgB ns 200 <;> simp
    have h2 : ¬ (ns.length : Int) = 10001 := by rw [h1] at hlg; simp at hlg; omega
    rw [h1] at HLG
    unfold maxLen at hln
    clear hP hlg htx hls hrm
    go_enter Try.func4, Try.ntmps4
    go_wp2_with (go_at_call 13; refine HLG.out.mono ?_; rintro e w1 ⟨rfl, hw⟩; have hw2 := hw.symm; subst hw2)
    go_ret
    exact ⟨rfl, HB0.out⟩
  | false =>
    have hn1 : ns.length ≤ 10001 := by
      cases h1 : lgB ns 200 with
      | false => have := (lg_le (n := 200) h1).1; omega
      | true => rw [h1] at hlg; simp at hlg; omega
    have HGO : Hid (lgB ns 200 = false ∨ ns.length = 10001) := hid (by
      cases h1 : lgB ns 200 with
      | false => exact .inl rfl
      | true => rw [h1] at hlg; simp at hlg; exact .inr hlg)
    have HLT := hid (lentT13 htx c (by omega))
    have HTX := hid (fun W (hb : Below w.heap.size w W) => htx.below hb)
    have HPA := hid (fun W g (h : LnT W g ns) => hP.parts (ns.length + 3) n h.tx ⟨by omega, fun e => by cases e⟩ hln hls hn)
    have HRP := hid (fun W (h : TxO W po ns) => rparts13_any h c hls n)
    have HKE := hid (fun W g (h : LnT W g ns) (h2 : TxO W po ns) => keptT13 h h2 c (by omega))
    have HAW := hid (fun W => awake13_any hP W)
    have hr : lgB ns 200 = true → (ns.length : Int) = 10001 := fun e => by
      rcases HGO.out with h1 | h1
      · rw [e] at h1; cases h1
      · omega
    clear hlg HGO hrm
    unfold maxLen at hln
    by_cases hz : prE ns n = 0
    · obtain ⟨k, hk⟩ : ∃ k : Nat, n = (k : Int) ∧ k ≤ 4 := by
        unfold prE at hz
        split at hz
        · exact ⟨n.toNat, by omega, by omega⟩
        · cases hz
      obtain ⟨rfl, hk4⟩ := hk
      have HP1 : Hid (∀ W g, LnT W g ns → Calls Try.prog 15 #[.slice (some ⟨g, 0, none⟩) ns.length (ns.length + 3), .int .i64 (k : Int)] W fun e w' => ∃ ga va, e = .returned (.tuple #[.slice (some ⟨ga, 0, none⟩) k k, .int .i64 0]) ∧ PtM W w' ga k va (ptS ns k)) := hid (fun W g h => (HPA.out W g h).mono fun e w' hq => by
        rcases hq with ⟨_, ga, va, h1, h2⟩ | ⟨h1, _⟩
        · rw [Int.toNat_natCast] at h1 h2; exact ⟨ga, va, h1, h2⟩
        · exact absurd hz h1)
      have HP2 : Hid (∀ W, TxO W po ns → Calls Try.prog 16 #[.slice po ns.length c, .int .i64 (k : Int)] W fun e w' => ∃ gb vb, e = .returned (.tuple #[.slice (some ⟨gb, 0, none⟩) k k, .int .i64 0]) ∧ PtM W w' gb k vb (ptS ns k)) := hid (fun W h => (HRP.out W h).mono fun e w' hq => by
        rcases hq with ⟨_, gb, vb, h1, h2⟩ | ⟨h1, _⟩
        · rw [Int.toNat_natCast] at h1 h2; exact ⟨gb, vb, h1, h2⟩
        · exact absurd hz h1)
      have HPL := hid (fun j => ptS_len ns k j)
      clear HPA HRP hz htx hls hP HB0
      generalize lgB ns 200 = r at *
      cases r
      all_goals
        try have hr1 := hr rfl
        clear hr
        go_enter Try.func4, Try.ntmps4
        go_wp2_with (first
          | (go_at_call 13; refine HLG.out.mono ?_; rintro e w1 ⟨rfl, hw⟩; have hw2 := hw.symm; subst hw2)
          | (go_at_call 14; refine HLT.out.mono ?_; rintro e w1 ⟨rfl, hl1, hb1, hs1⟩; have HL1 := hid hl1; have HB1 := hid hb1; clear hl1 hb1 hs1)
          | (go_at_call 15; refine (HP1.out _ _ HL1.out).mono ?_; rintro e w2 ⟨ga, va, rfl, hq2⟩; have HQ2 := hid hq2; clear hq2)
          | (go_at_call 16; refine (HP2.out _ (HTX.out _ (below_on _ _ HB1.out HQ2.out.be))).mono ?_; rintro e w3 ⟨gb, vb, rfl, hq3⟩; have HI0 := hid (PpI.start HB1.out HL1.out HQ2.out hq3); clear hq3))
        clear HP1 HP2 HLG HLT HL1 HB1 HQ2
        generalize w2.heap.size = B2 at *
        go_loopg [10] k (fun gg v wr => ∃ i : Nat, i ≤ k ∧ k - i ≤ gg ∧ v = .int .i64 (i : Int) ∧ PpI w w.heap.size ga gb k i B2 va vb ns wr)
        case atStart => exact ⟨0, Nat.zero_le _, by omega, rfl, HI0.out⟩
        case round =>
          clear HI0
          obtain ⟨i, hi, hgg, rfl, hI⟩ := hrel
          have HI := hid hI
          clear hI
          by_cases hlt : i < k
          · have hlt' : (i : Int) < (k : Int) := by omega
            have hi2 : (i : Int) < 1000 := by omega
            have hS : ∀ W, PpI w w.heap.size ga gb k i B2 va vb ns W → W.cell? ⟨ga, i, none⟩ = some (va i) ∧ W.cell? ⟨gb, i, none⟩ = some (vb i) := fun W h => ⟨h.ra i hlt, h.rb i hlt⟩
            have HS := hid hS
            clear hS
            have HSM : Hid (∀ W, PpI w w.heap.size ga gb k i B2 va vb ns W → Calls Try.prog 17 #[va i, vb i] W fun e w' => e = .returned (.bool true) ∧ Below W.heap.size W w') := hid (fun W h => (sameTexts_true _ _ (ptS ns k i) W (by have := HPL.out i; omega) (h.ta i (Nat.le_refl _) hlt).t.at (h.tb i hlt).t.at).mono fun e w' ⟨h1, q, h2⟩ => ⟨h1, by rw [h2]; exact below_drewN _ _⟩)
            have HOV : Hid (∀ W, PpI w w.heap.size ga gb k i B2 va vb ns W → Calls Try.prog 18 #[va i] W fun e w' => e = .returned (.tuple #[]) ∧ PpI w w.heap.size ga gb k (i + 1) B2 va vb ns w') := hid (fun W h => (overT_row2 (h.ta i (Nat.le_refl _) hlt)).mono fun e w' ⟨h1, h2⟩ => ⟨h1, h.over hlt h2⟩)
            have hc := HS.out wr HI.out
            clear HKE HAW HTX HPL
            go_wp2_with fail
            go_region_held3 (fun w' => w'.cell? ⟨ga, i, none⟩ = some (va i) ∧ w'.cell? ⟨gb, i, none⟩ = some (vb i)) (first | exact hc2 | exact HS.out _ (HI.out.below (below_drewN _ _)) | exact hc) (
              (go_at_call 17; (first | refine (HSM.out _ (HI.out.below (below_drewN _ _))).mono ?_ | refine (HSM.out _ HI.out).mono ?_); rintro e w5 ⟨rfl, hb5⟩; have HI5 := hid (show PpI w w.heap.size ga gb k i B2 va vb ns w5 from (by first | exact (HI.out.below (below_drewN _ _)).below hb5 | exact HI.out.below hb5)); have hc2 := HS.out w5 HI5.out; clear hb5))
            clear hc hc2
            have hd := HS.out w5 HI5.out
            obtain ⟨x0, x1⟩ := hd
            go_wp2_with (go_at_call 18; refine (HOV.out _ HI5.out).mono ?_; rintro e w6 ⟨rfl, hi6⟩; have HI6 := hid hi6; clear hi6)
            go_roundg (k - (i + 1))
            case measure => omega
            case rel => exact ⟨i + 1, by omega, by omega, by go_num, HI6.out⟩
          · have hlt' : ¬ (i : Int) < (k : Int) := by omega
            go_wp2_with (first
              | (go_at_call 19; refine (HKE.out _ _ HI.out.ln (HTX.out _ HI.out.be)).mono ?_; rintro e w8 ⟨rfl, hb8⟩; have HB8 := hid (below_on _ _ HI.out.be hb8); clear hb8)
              | (go_at_call 12; refine (HAW.out _).mono ?_; rintro e w9 ⟨rfl, hb9⟩; have HB9 := hid (below_on _ _ HB8.out hb9); clear hb9))
            go_ret
            exact ⟨rfl, HB9.out⟩
    · have HP1 : Hid (∀ W g, LnT W g ns → Calls Try.prog 15 #[.slice (some ⟨g, 0, none⟩) ns.length (ns.length + 3), .int .i64 n] W fun e w' => e = .returned (.tuple #[.slice none 0 0, .int .i64 (prE ns n : Int)]) ∧ Below W.heap.size W w') := hid (fun W g h => (HPA.out W g h).mono fun e w' hq => by
        rcases hq with ⟨h1, _⟩ | ⟨_, h1, h2⟩
        · exact absurd h1 hz
        · exact ⟨h1, h2⟩)
      have HP2 : Hid (∀ W, TxO W po ns → Calls Try.prog 16 #[.slice po ns.length c, .int .i64 n] W fun e w' => e = .returned (.tuple #[.slice none 0 0, .int .i64 (prE ns n : Int)]) ∧ Below W.heap.size W w') := hid (fun W h => (HRP.out W h).mono fun e w' hq => by
        rcases hq with ⟨h1, _⟩ | ⟨_, h1, h2⟩
        · exact absurd h1 hz
        · exact ⟨h1, h2⟩)
      clear HPA HRP htx hls hP HB0
      generalize prE ns n = E at *
      have hee : ((E : Int) != (E : Int)) = false := by simp
      generalize lgB ns 200 = r at *
      cases r
      all_goals
        try have hr1 := hr rfl
        clear hr hz
        go_enter Try.func4, Try.ntmps4
        go_wp2_with (first
          | (go_at_call 13; refine HLG.out.mono ?_; rintro e w1 ⟨rfl, hw⟩; have hw2 := hw.symm; subst hw2)
          | (go_at_call 14; refine HLT.out.mono ?_; rintro e w1 ⟨rfl, hl1, hb1, hs1⟩; have HL1 := hid hl1; have HB1 := hid hb1; clear hl1 hb1 hs1)
          | (go_at_call 15; refine (HP1.out _ _ HL1.out).mono ?_; rintro e w2 ⟨rfl, hb2⟩; have HL2 := hid (HL1.out.below hb2); have HB2 := hid (below_on _ _ HB1.out hb2); clear hb2)
          | (go_at_call 16; refine (HP2.out _ (HTX.out _ HB2.out)).mono ?_; rintro e w3 ⟨rfl, hb3⟩; have HL3 := hid (HL2.out.below hb3); have HB3 := hid (below_on _ _ HB2.out hb3); clear hb3))
        clear HP1 HP2 HLG HLT HL1 HB1 HL2 HB2
        refine wp_loop_rounds 1 ?_
        rw [rounds_succ]
        go_wp2_with (first
          | (go_at_call 19; refine (HKE.out _ _ HL3.out (HTX.out _ HB3.out)).mono ?_; rintro e w8 ⟨rfl, hb8⟩; have HB8 := hid (below_on _ _ HB3.out hb8); clear hb8)
          | (go_at_call 12; refine (HAW.out _).mono ?_; rintro e w9 ⟨rfl, hb9⟩; have HB9 := hid (below_on _ _ HB8.out hb9); clear hb9))
        go_ret
        exact ⟨rfl, HB9.out⟩
end Go.Proofs.Ytkiojnledimihaa
