/- Contract of block of the document's own answer: the eight numbers behind a block that stands in a list from a place on. -/
import Derived.Test.YtgmehiidnclgmaaSe
import Derived.Test.YtgmehiidnclgmaaSh
namespace Go.Proofs.Ytgmehiidnclgmaa
open Go Go.RowKit

theorem zero8r : (Try.prog.info? 74).map (·.zero) = some (some (.agg (aW 8 zW))) := by kernel_rfl
theorem size8r (f : Nat → BitVec 32) : (Try.prog.info? 74).map (·.size) = some (aW 8 f).size := by rw [aW_size]; kernel_rfl
structure BlkM (w wr : World) (s : St) (f : Nat → BitVec 32) : Prop where
  h : CAt wr w.heap.size (aW 8 s.get) 74
  k : CAt wr (w.heap.size + 1) (aW 64 kk) 85
  r : CAt wr (w.heap.size + 1 + 1) (aW 8 zW) 74
  v : CAt wr (w.heap.size + 1 + 1 + 1) (aW 64 f) 85
  below : Below w.heap.size w wr
theorem BlkM.drewN {w wr : World} {s : St} {f : Nat → BitVec 32} (h : BlkM w wr s f) (m : Nat) : BlkM w (wr.drewN m) s f :=
  ⟨h.h.drewN m, h.k.drewN m, h.r.drewN m, h.v.drewN m, Below.drewN' h.below m⟩
theorem BlkM.set {w wr : World} {s : St} {f : Nat → BitVec 32} (h : BlkM w wr s f) (i : Nat) (u : BitVec 32) : BlkM w (wr.setCell ⟨w.heap.size + 1 + 1 + 1, i, none⟩ (.int .u32 (wv u))) s (upW f i u) :=
  ⟨h.h.other _ _ (by show w.heap.size ≠ w.heap.size + 1 + 1 + 1; omega), h.k.other _ _ (by show w.heap.size + 1 ≠ w.heap.size + 1 + 1 + 1; omega), h.r.other _ _ (by show w.heap.size + 1 + 1 ≠ w.heap.size + 1 + 1 + 1; omega), h.v.setW i u, h.below.setCell (by show w.heap.size ≤ w.heap.size + 1 + 1 + 1; omega) _⟩
theorem BlkM.congr {w wr : World} {s : St} {f g : Nat → BitVec 32} (h : BlkM w wr s f) (e : ∀ i, i < 64 → f i = g i) : BlkM w wr s g := ⟨h.h, h.k, h.r, h.v.congr (aW_congr 64 e), h.below⟩
theorem BlkM.alloc {w wr : World} {s : St} {f : Nat → BitVec 32} (h : BlkM w wr s f) (o : Obj) : BlkM w (wr.alloc o) s f :=
  ⟨h.h.alloc o, h.k.alloc o, h.r.alloc o, h.v.alloc o, h.below.alloc h.below.size o⟩
theorem BlkM.row {w wr : World} {s : St} {f : Nat → BitVec 32} (h : BlkM w wr s f) (g : Nat) (hg : w.heap.size + 1 + 1 + 1 < g) (cs : Array Value) : BlkM w (wr.setRow g cs) s f :=
  ⟨h.h.rowOther _ (by omega), h.k.rowOther _ (by omega), h.r.rowOther _ (by omega), h.v.rowOther _ (by omega), below_setRow h.below (by omega) _⟩
theorem upW_zero (y : Nat → Nat) (t i : Nat) : schTo y t i = upW (schTo y t) t (wpart y t 0) i := by
  unfold upW; by_cases e : i = t
  · rw [if_pos e, e]; unfold schTo; rw [if_neg (by omega)]; rfl
  · rw [if_neg e]
theorem upW_up (f : Nat → BitVec 32) (t : Nat) (a b : BitVec 32) (i : Nat) : upW (upW f t a) t b i = upW f t b i := by
  unfold upW; by_cases e : i = t
  · rw [if_pos e, if_pos e]
  · rw [if_neg e, if_neg e, if_neg e]
theorem upW_word (y : Nat → Nat) (t : Nat) (ht : t < 16) (i : Nat) : upW (schTo y t) t (wpart y t 4) i = schTo y (t + 1) i := by
  unfold upW schTo; by_cases e : i = t
  · rw [if_pos e, if_pos (by omega), e, sch_low y t ht]; rfl
  · rw [if_neg e]
    by_cases q : i < t
    · rw [if_pos q, if_pos (by omega)]
    · rw [if_neg q, if_neg (by omega)]
set_option maxRecDepth 100000 in
set_option maxHeartbeats 4000000 in
theorem rblock_any (s : St) (b o n c at' : Nat) (x : Nat → Nat) (w : World) (hn : n ≤ 2000000) (hr : RowAt w b o n x) (hb : ∀ i, i < n → x i < 256) (hat : at' + 64 ≤ n) :
    Calls Try.prog 56 #[.agg (aW 8 s.get), .agg (aW 64 kk), .slice (some ⟨b, o, none⟩) n c, .int .i64 (at' : Int)] w fun e w' => e = .returned (.agg (aW 8 (comp s (fun i => x (at' + i))).get)) ∧ Below w.heap.size w w' := by
  have hbl : b < w.heap.size := cell_lt (hr 0 (by omega))
  have HR := hid hr
  have HX := hid hb
  have hat2 : (at' : Int) + 64 ≤ (n : Int) := by omega
  have hn2 : (n : Int) ≤ 2000000 := by omega
  clear hr hb
  obtain ⟨y, hy⟩ : ∃ y : Nat → Nat, y = fun i => x (at' + i) := ⟨_, rfl⟩
  have HY := hid hy
  rw [← hy]
  clear hy
  have M0 : BlkM w ((((w.alloc (.cells (aW 8 s.get) 74)).alloc (.cells (aW 64 kk) 85)).alloc (.cells (aW 8 zW) 74)).alloc (.cells (aW 64 zW) 85)) s (schTo y 0) :=
    ⟨(((CAt.new w _ _).alloc _).alloc _).alloc _, ((CAt.new' (w.alloc _) _ _ _ (by simp)).alloc _).alloc _, (CAt.new' ((w.alloc _).alloc _) _ _ _ (by simp)).alloc _,
      (CAt.new' (((w.alloc _).alloc _).alloc _) (aW 64 zW) _ _ (by simp)).congr (aW_congr 64 fun i _ => by unfold schTo zW; rw [if_neg (by omega)]), ((((Below.refl _ _).alloc (by omega) _).alloc (by simp) _).alloc (by simp; omega) _).alloc (by simp; omega) _⟩
  have HM := hid M0
  clear M0
  go_enter Try.func56, Try.ntmps56
  go_wp2_with (first
    | refine wpList_alloc_row rfl 74 rfl _ zero8r ?_
    | refine wpList_alloc_row rfl 85 rfl _ zero64 ?_)
  go_loopw [10] (fun v wr => ∃ t : Nat, t ≤ 64 ∧ v = .int .i64 t ∧ BlkM w wr s (schTo y t)) (fun v _ => (64 - intOf v).toNat)
  case atStart => exact ⟨0, by omega, rfl, HM.out⟩
  case round =>
    clear HM
    obtain ⟨t, ht, rfl, hm⟩ := hrel
    by_cases hlt : t < 64
    · have hlt' : (t : Int) < 64 := by omega
      by_cases h16 : t < 16
      · have h16' : (t : Int) < 16 := by omega
        have HM := hid hm
        clear hm
        go_wp2
        go_loopw [11] (fun v wr => ∃ i : Nat, i ≤ 4 ∧ v = .int .i64 i ∧ BlkM w wr s (upW (schTo y t) t (wpart y t i))) (fun v _ => (4 - intOf v).toNat)
        case atStart => exact ⟨0, by omega, rfl, HM.out.congr (fun i _ => upW_zero y t i)⟩
        case round =>
          clear HM
          obtain ⟨i, hi, rfl, hm⟩ := hrel
          by_cases hl4 : i < 4
          · have hl4' : (i : Int) < 4 := by omega
            have c1 := hm.v.cellW t hlt
            have e0 : upW (schTo y t) t (wpart y t i) t = wpart y t i := by unfold upW; rw [if_pos rfl]
            rw [e0] at c1
            have c2 := hm.v.free t
            have c3 := (HR.out.below hm.below hbl) (at' + 4 * t + i) (by omega)
            have hxb := byte_word (x (at' + 4 * t + i)) (HX.out _ (by omega))
            rw [hxb] at c3
            clear hxb
            generalize hW : wpart y t i = W at *
            have HW := hid hW
            obtain ⟨Z, hZ⟩ : ∃ Z : BitVec 32, Z = BitVec.ofNat 32 (x (at' + 4 * t + i)) := ⟨_, rfl⟩
            rw [← hZ] at c3
            have HZ := hid hZ
            have a1 := wshl W 8
            have a1' := wshlW W 8
            simp only [Int.reducePow] at a1 a1'
            have a2 := wmod Z
            have a2' := wmodW Z
            have a3 := wor (W <<< 8) Z
            have HM := hid hm
            clear hm hW hZ e0
            go_wp2_with fail
            refine wp_region_last_lit (by kernel_rfl) (by kernel_rfl) ?_
            dsimp only [List.dropLast, List.getLast]
            repeat (go_big_quiet_step (fail))
            refine wpQuiet_nil ?_
            intro nr
            have HM := hid (HM.out.drewN nr)
            clear c1 c2 c3
            generalize wr.drewN nr = w6 at *
            have c9 := HM.out.v.free t
            have c10 := HM.out.v.cellW t hlt
            go_wp2
            go_roundw
            case rel =>
              refine ⟨i + 1, by omega, by go_num, (HM.out.set t _).congr (fun j _ => ?_)⟩
              have hyy : y (4 * t + i) = x (at' + 4 * t + i) := by
                rw [HY.out]
                show x (at' + (4 * t + i)) = _
                rw [Nat.add_assoc]
              rw [upW_up, wpart, HW.out, HZ.out, hyy]
            case measure => simp [intOf]; omega
          · have e : i = 4 := by omega
            have hl4' : ¬ (i : Int) < 4 := by omega
            have hm2 : BlkM w wr s (schTo y (t + 1)) := hm.congr (fun j _ => by rw [e]; exact upW_word y t h16 j)
            have HM := hid hm2
            clear hm hm2 e
            go_wp2
            go_roundw
            case rel => exact ⟨t + 1, by omega, by go_num, HM.out⟩
            case measure => simp [intOf]; omega
      · have h16' : ¬ (t : Int) < 16 := by omega
        have c1 := hm.v.cellW (t - 2) (by omega)
        have c2 := hm.v.cellW (t - 7) (by omega)
        have c3 := hm.v.cellW (t - 15) (by omega)
        have c4 := hm.v.cellW (t - 16) (by omega)
        have h16n : 16 ≤ t := by omega
        have HM := hid hm
        clear hm
        go_wp2_with fail
        have a1 := wadd
        have a1' := waddW
        have a2 := wxor
        have a3 := wshr (schTo y t (t - 2)) 10
        have a4 := wshr (schTo y t (t - 15)) 3
        simp only [Int.reducePow] at a3 a4
        go_quiet ((go_at_call 67; refine Calls.quiet_of (rright_i _ _ (by decide) (by decide) _)))
        have HM := hid (HM.out.drewN nq)
        clear c1 c2 c3 c4
        generalize wr.drewN nq = w4 at *
        have c1 := HM.out.v.cellW (t - 2) (by omega)
        go_wp2_with fail
        go_quiet ((go_at_call 67; refine Calls.quiet_of (rright_i _ _ (by decide) (by decide) _)))
        have HM := hid (HM.out.drewN nq)
        clear c1
        generalize w4.drewN nq = w5 at *
        have c2 := HM.out.v.cellW (t - 7) (by omega)
        have c4 := HM.out.v.cellW (t - 16) (by omega)
        have c9 := HM.out.v.free t
        go_wp2_with fail
        refine wp_region_last_lit (by kernel_rfl) (by kernel_rfl) ?_
        dsimp only [List.dropLast, List.getLast]
        repeat (go_big_quiet_step (fail))
        refine wpQuiet_nil ?_
        intro nr
        have HM := hid (HM.out.drewN nr)
        clear c2 c4 c9
        generalize w5.drewN nr = w6 at *
        have c9 := HM.out.v.free t
        have c10 := HM.out.v.cellW t hlt
        go_wp2
        go_roundw
        case rel => exact ⟨t + 1, by omega, by go_num, (HM.out.set t _).congr (fun j _ => schTo_step y t h16n j)⟩
        case measure => simp [intOf]; omega
    · have e : t = 64 := by omega
      have hge : ¬ (t : Int) < 64 := by omega
      have hm2 : BlkM w wr s (sch y) := hm.congr (fun j hj => schTo_at y t j (by omega))
      have HM := hid hm2
      clear hm hm2 e
      go_upto_region 14 with (first
        | refine wpList_load_row rfl 74 _ rfl _ rfl _ _ _ _ HM.out.h Try.underlying74 rfl (size8r _) ?_
        | refine wpList_alloc_row rfl 74 rfl _ zero8r ?_
        | refine wpList_store_row rfl 74 _ _ rfl _ _ rfl rfl _ _ (CAt.new _ _ _) (size8r _) (by simp only [aW_size]) (aW_one _ _) ?_)
      have hg4 : w.heap.size + 1 + 1 + 1 < wr.heap.size := HM.out.v.lt
      have M4 := (HM.out.alloc (.cells (aW 8 zW) 74)).row wr.heap.size hg4 (aW 8 s.get)
      have X4 : CAt ((wr.alloc (.cells (aW 8 zW) 74)).setRow wr.heap.size (aW 8 s.get)) wr.heap.size (aW 8 (rnds s y 0).get) 74 := (CAt.new _ _ _).row _
      have HM := hid M4
      have HX4 := hid X4
      have HG := hid hg4
      clear M4 X4 hg4
      simp only [Act.put, List.setIfInBounds_toArray, List.set_cons_succ, List.set_cons_zero]
      generalize ((wr.alloc (.cells (aW 8 zW) 74)).setRow wr.heap.size (aW 8 s.get)) = w4 at *
      generalize wr.heap.size = gx at *
      go_wp2
      go_loopw [15] (fun v wr => ∃ t : Nat, t ≤ 64 ∧ v = .int .i64 t ∧ BlkM w wr s (sch y) ∧ CAt wr gx (aW 8 (rnds s y t).get) 74) (fun v _ => (64 - intOf v).toNat)
      case atStart => exact ⟨0, by omega, rfl, HM.out, HX4.out⟩
      case round =>
        clear HM HX4
        obtain ⟨j, hj, rfl, hm, hx4⟩ := hrel
        generalize hr : rnds s y j = r at *
        have HRR := hid hr
        clear hr
        by_cases hlj : j < 64
        · have hlj' : (j : Int) < 64 := by omega
          have d0 : wr.cell? ⟨gx, 0, none⟩ = some (.int .u32 (wv r.a)) := hx4.cellW 0 (by omega)
          have d1 : wr.cell? ⟨gx, 1, none⟩ = some (.int .u32 (wv r.b)) := hx4.cellW 1 (by omega)
          have d2 : wr.cell? ⟨gx, 2, none⟩ = some (.int .u32 (wv r.c)) := hx4.cellW 2 (by omega)
          have d3 : wr.cell? ⟨gx, 3, none⟩ = some (.int .u32 (wv r.d)) := hx4.cellW 3 (by omega)
          have d4 : wr.cell? ⟨gx, 4, none⟩ = some (.int .u32 (wv r.e)) := hx4.cellW 4 (by omega)
          have d5 : wr.cell? ⟨gx, 5, none⟩ = some (.int .u32 (wv r.f)) := hx4.cellW 5 (by omega)
          have d6 : wr.cell? ⟨gx, 6, none⟩ = some (.int .u32 (wv r.g)) := hx4.cellW 6 (by omega)
          have d7 : wr.cell? ⟨gx, 7, none⟩ = some (.int .u32 (wv r.h)) := hx4.cellW 7 (by omega)
          have c1 := hm.k.cellW j hlj
          have c2 := hm.v.cellW j hlj
          generalize hkt : kk j = kt at *
          generalize hwt : sch y j = wt at *
          have HK := hid hkt
          have HW := hid hwt
          have HM := hid hm
          have HX4 := hid hx4
          clear hm hx4 hkt hwt
          go_wp2_with fail
          have a1 := wadd
          have a1' := waddW
          have a2 := wxor
          have a3 := wand
          have a4 := wnot
          go_quiet ((go_at_call 67; refine Calls.quiet_of (rright_i _ _ (by decide) (by decide) _)))
          have HM := hid (HM.out.drewN nq)
          have HX4 := hid (HX4.out.drewN nq)
          clear d0 d1 d2 d3 d4 d5 d6 d7 c1 c2
          generalize wr.drewN nq = w5 at *
          have d0 : w5.cell? ⟨gx, 0, none⟩ = some (.int .u32 (wv r.a)) := HX4.out.cellW 0 (by omega)
          have d1 : w5.cell? ⟨gx, 1, none⟩ = some (.int .u32 (wv r.b)) := HX4.out.cellW 1 (by omega)
          have d2 : w5.cell? ⟨gx, 2, none⟩ = some (.int .u32 (wv r.c)) := HX4.out.cellW 2 (by omega)
          go_wp2_with fail
          go_quiet ((go_at_call 67; refine Calls.quiet_of (rright_i _ _ (by decide) (by decide) _)))
          have HM := hid (HM.out.drewN nq)
          have HX4 := hid (HX4.out.drewN nq)
          clear d0 d1 d2
          generalize w5.drewN nq = w6 at *
          have d0 : w6.cell? ⟨gx, 0, none⟩ = some (.int .u32 (wv r.a)) := HX4.out.cellW 0 (by omega)
          have d1 : w6.cell? ⟨gx, 1, none⟩ = some (.int .u32 (wv r.b)) := HX4.out.cellW 1 (by omega)
          have d2 : w6.cell? ⟨gx, 2, none⟩ = some (.int .u32 (wv r.c)) := HX4.out.cellW 2 (by omega)
          have d3 : w6.cell? ⟨gx, 3, none⟩ = some (.int .u32 (wv r.d)) := HX4.out.cellW 3 (by omega)
          have d4 : w6.cell? ⟨gx, 4, none⟩ = some (.int .u32 (wv r.e)) := HX4.out.cellW 4 (by omega)
          have d5 : w6.cell? ⟨gx, 5, none⟩ = some (.int .u32 (wv r.f)) := HX4.out.cellW 5 (by omega)
          have d6 : w6.cell? ⟨gx, 6, none⟩ = some (.int .u32 (wv r.g)) := HX4.out.cellW 6 (by omega)
          have hr8 : (#[.int .u32 (wv (t1f r kt wt + t2f r)), .int .u32 (wv r.a), .int .u32 (wv r.b), .int .u32 (wv r.c), .int .u32 (wv (r.d + t1f r kt wt)), .int .u32 (wv r.e), .int .u32 (wv r.f), .int .u32 (wv r.g)] : Array Value) = aW 8 (rnd r kt wt).get := (aW_st (rnd r kt wt)).symm
          have HR8 := hid hr8
          clear hr8
          go_wp2_with (refine wpList_store_row rfl 74 _ _ rfl _ _ rfl (congrArg Value.agg HR8.out) _ _ HX4.out (size8r _) (by simp only [aW_size]) (aW_one _ _) ?_)
          go_roundw
          case rel =>
            have e : rnds s y (j + 1) = rnd r kt wt := by rw [rnds, HRR.out, HK.out, HW.out]
            exact ⟨j + 1, by omega, by go_num, HM.out.row gx HG.out _, by rw [e]; exact HX4.out.row _⟩
          case measure => simp [intOf]; omega
        · have e : j = 64 := by omega
          have hgj : ¬ (j : Int) < 64 := by omega
          have HS : Hid (rnds s y 64 = r) := by rw [← e]; exact HRR.out
          have HM := hid hm
          have HX4 := hid hx4
          clear hm hx4 e HRR
          go_wp2
          go_loopw [18] (fun v wr => ∃ k : Nat, k ≤ 8 ∧ v = .int .i64 k ∧ CAt wr w.heap.size (aW 8 (addTo s r k)) 74 ∧ CAt wr (w.heap.size + 1 + 1) (aW 8 zW) 74 ∧ CAt wr gx (aW 8 r.get) 74 ∧ Below w.heap.size w wr) (fun v _ => (8 - intOf v).toNat)
          case atStart => exact ⟨0, by omega, rfl, HM.out.h.congr (aW_congr 8 fun i _ => by unfold addTo; rw [if_neg (by omega)]), HM.out.r, HX4.out, HM.out.below⟩
          case round =>
            clear HM HX4
            obtain ⟨k, hk, rfl, hc, hz, hx4, hb⟩ := hrel
            by_cases hlk : k < 8
            · have c1 := hc.cellW k hlk
              have c2 := hx4.cellW k hlk
              have c3 := hc.free k
              have a1 := wadd
              have a1' := waddW
              have hlk' : (k : Int) < 8 := by omega
              have HC := hid hc
              have HZ := hid hz
              have HX4 := hid hx4
              have HB := hid hb
              clear hc hz hx4 hb
              go_wp2_with fail
              refine wp_region_last_lit (by kernel_rfl) (by kernel_rfl) ?_
              dsimp only [List.dropLast, List.getLast]
              repeat (go_big_quiet_step (fail))
              refine wpQuiet_nil ?_
              intro nr
              have HC := hid (HC.out.drewN nr)
              have HZ := hid (HZ.out.drewN nr)
              have HX4 := hid (HX4.out.drewN nr)
              have HB := hid (Below.drewN' HB.out nr)
              clear c1 c2 c3
              generalize wr.drewN nr = w6 at *
              have c9 := HC.out.free k
              have c10 := HC.out.cellW k hlk
              go_wp2
              go_roundw
              case rel =>
                have hg := HG.out
                exact ⟨k + 1, by omega, by go_num, (HC.out.setW k _).congr (aW_congr 8 fun i _ => addTo_step s r k i), HZ.out.other _ _ (by show w.heap.size + 1 + 1 ≠ w.heap.size; omega), HX4.out.other _ _ (by show gx ≠ w.heap.size; omega), HB.out.setCell (by show w.heap.size ≤ w.heap.size; omega) _⟩
              case measure => simp [intOf]; omega
            · have e : k = 8 := by omega
              have hc2 := hc.congr (cs' := aW 8 (comp s y).get) (aW_congr 8 fun i hi => (by rw [comp_get, HS.out]; unfold addTo; rw [if_pos (by omega)]))
              have HC := hid hc2
              have HZ := hid hz
              have HB := hid hb
              have hgk : ¬ (k : Int) < 8 := by omega
              clear hc hc2 hz hb e hx4
              go_wp2_with (first
                | refine wpList_load_row rfl 74 _ rfl _ rfl _ _ _ _ HC.out Try.underlying74 rfl (size8r _) ?_
                | refine wpList_store_row rfl 74 _ _ rfl _ _ rfl rfl _ _ HZ.out (size8r _) (by simp only [aW_size]) (aW_one _ _) ?_)
              exact ret_row rfl _ _ _ _ _ rfl rfl (HZ.out.row _) Try.underlying74 rfl (size8r _) ⟨rfl, below_setRow HB.out (by omega) _⟩
end Go.Proofs.Ytgmehiidnclgmaa
