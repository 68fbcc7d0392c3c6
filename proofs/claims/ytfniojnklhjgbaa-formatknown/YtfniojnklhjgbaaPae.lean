/- Texts laid into one, cut to what is needed: the remark ahead of each part says what is proved there. -/
import Derived.Test.YtfniojnklhjgbaaPac
import Derived.Test.YtfniojnklhjgbaaPad
import Derived.Maps.AppendAt
import Derived.Laws.AppendOwnNone
import Derived.Test.YtfniojnklhjgbaaPab
/- Contract of block of the document's own answer: the eight numbers behind a block that stands in a list from a place on. -/
namespace Go.Proofs.Ytfniojnklhjgbaa.H
open Go Go.RowKit

theorem zero8r : (Try.prog.info? 68).map (·.zero) = some (some (.agg (aW 8 zW))) := by kernel_rfl
theorem size8r (f : Nat → BitVec 32) : (Try.prog.info? 68).map (·.size) = some (aW 8 f).size := by rw [aW_size]; kernel_rfl
structure BlkM (w wr : World) (s : St) (f : Nat → BitVec 32) : Prop where
  h : CAt wr w.heap.size (aW 8 s.get) 68
  k : CAt wr (w.heap.size + 1) (aW 64 kk) 79
  r : CAt wr (w.heap.size + 1 + 1) (aW 8 zW) 68
  v : CAt wr (w.heap.size + 1 + 1 + 1) (aW 64 f) 79
  below : Below w.heap.size w wr
theorem BlkM.drewN {w wr : World} {s : St} {f : Nat → BitVec 32} (h : BlkM w wr s f) (m : Nat) : BlkM w (wr.drewN m) s f :=
  ⟨h.h.drewN m, h.k.drewN m, h.r.drewN m, h.v.drewN m, Below.drewN' h.below m⟩
theorem BlkM.set {w wr : World} {s : St} {f : Nat → BitVec 32} (h : BlkM w wr s f) (i : Nat) (u : BitVec 32) : BlkM w (wr.setCell ⟨w.heap.size + 1 + 1 + 1, i, none⟩ (.int .u32 (wv u))) s (upW f i u) :=
  ⟨h.h.other _ _ (by show w.heap.size ≠ w.heap.size + 1 + 1 + 1; omega), h.k.other _ _ (by show w.heap.size + 1 ≠ w.heap.size + 1 + 1 + 1; omega), h.r.other _ _ (by show w.heap.size + 1 + 1 ≠ w.heap.size + 1 + 1 + 1; omega), h.v.setW i u, h.below.setCell (by show w.heap.size ≤ w.heap.size + 1 + 1 + 1; omega) _⟩
theorem BlkM.congr {w wr : World} {s : St} {f g : Nat → BitVec 32} (h : BlkM w wr s f) (e : ∀ i, i < 64 → f i = g i) : BlkM w wr s g := ⟨h.h, h.k, h.r, h.v.congr (aW_congr 64 e), h.below⟩
theorem BlkM.alloc {w wr : World} {s : St} {f : Nat → BitVec 32} (h : BlkM w wr s f) (o : Obj) : BlkM w (wr.alloc o) s f :=
  ⟨h.h.alloc o, h.k.alloc o, h.r.alloc o, h.v.alloc o, h.below.alloc h.below.size o⟩
theorem BlkM.row {w wr : World} {s : St} {f : Nat → BitVec 32} (h : BlkM w wr s f) (g : Nat) (hg : w.heap.size + 1 + 1 + 1 < g) (cs : Array Value) : BlkM w (wr.setRow g cs) s f :=
  ⟨h.h.rowOther _ (by omega), h.k.rowOther _ (by omega), h.r.rowOther _ (by omega), h.v.rowOther _ (by omega), below_setRow h.below (by omega) _⟩
theorem upW_zero (y : Nat → Nat) (t i : Nat) : schTo y t i = upW (schTo y t) t (wpart y t 0) i := by
  unfold upW; by_cases e : i = t
  · rw [if_pos e, e]; unfold schTo; rw [if_neg (by omega)]; rfl
  · rw [if_neg e]
theorem upW_up (f : Nat → BitVec 32) (t : Nat) (a b : BitVec 32) (i : Nat) : upW (upW f t a) t b i = upW f t b i := by
  unfold upW; by_cases e : i = t
  · rw [if_pos e, if_pos e]
  · rw [if_neg e, if_neg e, if_neg e]
theorem upW_word (y : Nat → Nat) (t : Nat) (ht : t < 16) (i : Nat) : upW (schTo y t) t (wpart y t 4) i = schTo y (t + 1) i := by
  unfold upW schTo; by_cases e : i = t
  · rw [if_pos e, if_pos (by omega), e, sch_low y t ht]; rfl
  · rw [if_neg e]
    by_cases q : i < t
    · rw [if_pos q, if_pos (by omega)]
    · rw [if_neg q, if_neg (by omega)]
set_option maxRecDepth 100000 in
set_option maxHeartbeats 4000000 in
theorem rblock_any (s : St) (b o n c at' : Nat) (x : Nat → Nat) (w : World) (hn : n ≤ 2000000) (hr : RowAt w b o n x) (hb : ∀ i, i < n → x i < 256) (hat : at' + 64 ≤ n) :
    Calls Try.prog 44 #[.agg (aW 8 s.get), .agg (aW 64 kk), .slice (some ⟨b, o, none⟩) n c, .int .i64 (at' : Int)] w fun e w' => e = .returned (.agg (aW 8 (comp s (fun i => x (at' + i))).get)) ∧ Below w.heap.size w w' := by
  have hbl : b < w.heap.size := cell_lt (hr 0 (by omega))
  have HR := hid hr
  have HX := hid hb
  have hat2 : (at' : Int) + 64 ≤ (n : Int) := by omega
  have hn2 : (n : Int) ≤ 2000000 := by omega
  clear hr hb
  obtain ⟨y, hy⟩ : ∃ y : Nat → Nat, y = fun i => x (at' + i) := ⟨_, rfl⟩
  have HY := hid hy
  rw [← hy]
  clear hy
  have M0 : BlkM w ((((w.alloc (.cells (aW 8 s.get) 68)).alloc (.cells (aW 64 kk) 79)).alloc (.cells (aW 8 zW) 68)).alloc (.cells (aW 64 zW) 79)) s (schTo y 0) :=
    ⟨(((CAt.new w _ _).alloc _).alloc _).alloc _, ((CAt.new' (w.alloc _) _ _ _ (by simp)).alloc _).alloc _, (CAt.new' ((w.alloc _).alloc _) _ _ _ (by simp)).alloc _,
      (CAt.new' (((w.alloc _).alloc _).alloc _) (aW 64 zW) _ _ (by simp)).congr (aW_congr 64 fun i _ => by unfold schTo zW; rw [if_neg (by omega)]), ((((Below.refl _ _).alloc (by omega) _).alloc (by simp) _).alloc (by simp; omega) _).alloc (by simp; omega) _⟩
  have HM := hid M0
  clear M0
  go_enter Try.func44, Try.ntmps44
  go_wp2_with (first
    | refine wpList_alloc_row rfl 68 rfl _ zero8r ?_
    | refine wpList_alloc_row rfl 79 rfl _ zero64 ?_)
  go_loopw [10] (fun v wr => ∃ t : Nat, t ≤ 64 ∧ v = .int .i64 t ∧ BlkM w wr s (schTo y t)) (fun v _ => (64 - intOf v).toNat)
  case atStart => exact ⟨0, by omega, rfl, HM.out⟩
  case round =>
    clear HM
    obtain ⟨t, ht, rfl, hm⟩ := hrel
    by_cases hlt : t < 64
    · have hlt' : (t : Int) < 64 := by omega
      by_cases h16 : t < 16
      · have h16' : (t : Int) < 16 := by omega
        have HM := hid hm
        clear hm
        go_wp2
        go_loopw [11] (fun v wr => ∃ i : Nat, i ≤ 4 ∧ v = .int .i64 i ∧ BlkM w wr s (upW (schTo y t) t (wpart y t i))) (fun v _ => (4 - intOf v).toNat)
        case atStart => exact ⟨0, by omega, rfl, HM.out.congr (fun i _ => upW_zero y t i)⟩
        case round =>
          clear HM
          obtain ⟨i, hi, rfl, hm⟩ := hrel
          by_cases hl4 : i < 4
          · have hl4' : (i : Int) < 4 := by omega
            have c1 := hm.v.cellW t hlt
            have e0 : upW (schTo y t) t (wpart y t i) t = wpart y t i := by unfold upW; rw [if_pos rfl]
            rw [e0] at c1
            have c2 := hm.v.free t
            have c3 := (HR.out.below hm.below hbl) (at' + 4 * t + i) (by omega)
            have hxb := byte_word (x (at' + 4 * t + i)) (HX.out _ (by omega))
            rw [hxb] at c3
            clear hxb
            generalize hW : wpart y t i = W at *
            have HW := hid hW
            obtain ⟨Z, hZ⟩ : ∃ Z : BitVec 32, Z = BitVec.ofNat 32 (x (at' + 4 * t + i)) := ⟨_, rfl⟩
            rw [← hZ] at c3
            have HZ := hid hZ
            have a1 := wshl W 8
            have a1' := wshlW W 8
            simp only [Int.reducePow] at a1 a1'
            have a2 := wmod Z
            have a2' := wmodW Z
            have a3 := wor (W <<< 8) Z
            have HM := hid hm
            clear hm hW hZ e0
            go_wp2_with fail
            refine wp_region_last_lit (by kernel_rfl) (by kernel_rfl) ?_
            dsimp only [List.dropLast, List.getLast]
            repeat (go_big_quiet_step (fail))
            refine wpQuiet_nil ?_
            intro nr
            have HM := hid (HM.out.drewN nr)
            clear c1 c2 c3
            generalize wr.drewN nr = w6 at *
            have c9 := HM.out.v.free t
            have c10 := HM.out.v.cellW t hlt
            go_wp2
            go_roundw
            case rel =>
              refine ⟨i + 1, by omega, by go_num, (HM.out.set t _).congr (fun j _ => ?_)⟩
              have hyy : y (4 * t + i) = x (at' + 4 * t + i) := by
                rw [HY.out]
                show x (at' + (4 * t + i)) = _
                rw [Nat.add_assoc]
              rw [upW_up, wpart, HW.out, HZ.out, hyy]
            case measure => simp [intOf]; omega
          · have e : i = 4 := by omega
            have hl4' : ¬ (i : Int) < 4 := by omega
            have hm2 : BlkM w wr s (schTo y (t + 1)) := hm.congr (fun j _ => by rw [e]; exact upW_word y t h16 j)
            have HM := hid hm2
            clear hm hm2 e
            go_wp2
            go_roundw
            case rel => exact ⟨t + 1, by omega, by go_num, HM.out⟩
            case measure => simp [intOf]; omega
      · have h16' : ¬ (t : Int) < 16 := by omega
        have c1 := hm.v.cellW (t - 2) (by omega)
        have c2 := hm.v.cellW (t - 7) (by omega)
        have c3 := hm.v.cellW (t - 15) (by omega)
        have c4 := hm.v.cellW (t - 16) (by omega)
        have h16n : 16 ≤ t := by omega
        have HM := hid hm
        clear hm
        go_wp2_with fail
        have a1 := wadd
        have a1' := waddW
        have a2 := wxor
        have a3 := wshr (schTo y t (t - 2)) 10
        have a4 := wshr (schTo y t (t - 15)) 3
        simp only [Int.reducePow] at a3 a4
        go_quiet ((go_at_call 50; refine Calls.quiet_of (rright_i _ _ (by decide) (by decide) _)))
        have HM := hid (HM.out.drewN nq)
        clear c1 c2 c3 c4
        generalize wr.drewN nq = w4 at *
        have c1 := HM.out.v.cellW (t - 2) (by omega)
        go_wp2_with fail
        go_quiet ((go_at_call 50; refine Calls.quiet_of (rright_i _ _ (by decide) (by decide) _)))
        have HM := hid (HM.out.drewN nq)
        clear c1
        generalize w4.drewN nq = w5 at *
        have c2 := HM.out.v.cellW (t - 7) (by omega)
        have c4 := HM.out.v.cellW (t - 16) (by omega)
        have c9 := HM.out.v.free t
        go_wp2_with fail
        refine wp_region_last_lit (by kernel_rfl) (by kernel_rfl) ?_
        dsimp only [List.dropLast, List.getLast]
        repeat (go_big_quiet_step (fail))
        refine wpQuiet_nil ?_
        intro nr
        have HM := hid (HM.out.drewN nr)
        clear c2 c4 c9
        generalize w5.drewN nr = w6 at *
        have c9 := HM.out.v.free t
        have c10 := HM.out.v.cellW t hlt
        go_wp2
        go_roundw
        case rel => exact ⟨t + 1, by omega, by go_num, (HM.out.set t _).congr (fun j _ => schTo_step y t h16n j)⟩
        case measure => simp [intOf]; omega
    · have e : t = 64 := by omega
      have hge : ¬ (t : Int) < 64 := by omega
      have hm2 : BlkM w wr s (sch y) := hm.congr (fun j hj => schTo_at y t j (by omega))
      have HM := hid hm2
      clear hm hm2 e
      go_upto_region 14 with (first
        | refine wpList_load_row rfl 68 _ rfl _ rfl _ _ _ _ HM.out.h Try.underlying68 rfl (size8r _) ?_
        | refine wpList_alloc_row rfl 68 rfl _ zero8r ?_
        | refine wpList_store_row rfl 68 _ _ rfl _ _ rfl rfl _ _ (CAt.new _ _ _) (size8r _) (by simp only [aW_size]) (aW_one _ _) ?_)
      have hg4 : w.heap.size + 1 + 1 + 1 < wr.heap.size := HM.out.v.lt
      have M4 := (HM.out.alloc (.cells (aW 8 zW) 68)).row wr.heap.size hg4 (aW 8 s.get)
      have X4 : CAt ((wr.alloc (.cells (aW 8 zW) 68)).setRow wr.heap.size (aW 8 s.get)) wr.heap.size (aW 8 (rnds s y 0).get) 68 := (CAt.new _ _ _).row _
      have HM := hid M4
      have HX4 := hid X4
      have HG := hid hg4
      clear M4 X4 hg4
      simp only [Act.put, List.setIfInBounds_toArray, List.set_cons_succ, List.set_cons_zero]
      generalize ((wr.alloc (.cells (aW 8 zW) 68)).setRow wr.heap.size (aW 8 s.get)) = w4 at *
      generalize wr.heap.size = gx at *
      go_wp2
      go_loopw [15] (fun v wr => ∃ t : Nat, t ≤ 64 ∧ v = .int .i64 t ∧ BlkM w wr s (sch y) ∧ CAt wr gx (aW 8 (rnds s y t).get) 68) (fun v _ => (64 - intOf v).toNat)
      case atStart => exact ⟨0, by omega, rfl, HM.out, HX4.out⟩
      case round =>
        clear HM HX4
        obtain ⟨j, hj, rfl, hm, hx4⟩ := hrel
        generalize hr : rnds s y j = r at *
        have HRR := hid hr
        clear hr
        by_cases hlj : j < 64
        · have hlj' : (j : Int) < 64 := by omega
          have d0 : wr.cell? ⟨gx, 0, none⟩ = some (.int .u32 (wv r.a)) := hx4.cellW 0 (by omega)
          have d1 : wr.cell? ⟨gx, 1, none⟩ = some (.int .u32 (wv r.b)) := hx4.cellW 1 (by omega)
          have d2 : wr.cell? ⟨gx, 2, none⟩ = some (.int .u32 (wv r.c)) := hx4.cellW 2 (by omega)
          have d3 : wr.cell? ⟨gx, 3, none⟩ = some (.int .u32 (wv r.d)) := hx4.cellW 3 (by omega)
          have d4 : wr.cell? ⟨gx, 4, none⟩ = some (.int .u32 (wv r.e)) := hx4.cellW 4 (by omega)
          have d5 : wr.cell? ⟨gx, 5, none⟩ = some (.int .u32 (wv r.f)) := hx4.cellW 5 (by omega)
          have d6 : wr.cell? ⟨gx, 6, none⟩ = some (.int .u32 (wv r.g)) := hx4.cellW 6 (by omega)
          have d7 : wr.cell? ⟨gx, 7, none⟩ = some (.int .u32 (wv r.h)) := hx4.cellW 7 (by omega)
          have c1 := hm.k.cellW j hlj
          have c2 := hm.v.cellW j hlj
          generalize hkt : kk j = kt at *
          generalize hwt : sch y j = wt at *
          have HK := hid hkt
          have HW := hid hwt
          have HM := hid hm
          have HX4 := hid hx4
          clear hm hx4 hkt hwt
          go_wp2_with fail
          have a1 := wadd
          have a1' := waddW
          have a2 := wxor
          have a3 := wand
          have a4 := wnot
          go_quiet ((go_at_call 50; refine Calls.quiet_of (rright_i _ _ (by decide) (by decide) _)))
          have HM := hid (HM.out.drewN nq)
          have HX4 := hid (HX4.out.drewN nq)
          clear d0 d1 d2 d3 d4 d5 d6 d7 c1 c2
          generalize wr.drewN nq = w5 at *
          have d0 : w5.cell? ⟨gx, 0, none⟩ = some (.int .u32 (wv r.a)) := HX4.out.cellW 0 (by omega)
          have d1 : w5.cell? ⟨gx, 1, none⟩ = some (.int .u32 (wv r.b)) := HX4.out.cellW 1 (by omega)
          have d2 : w5.cell? ⟨gx, 2, none⟩ = some (.int .u32 (wv r.c)) := HX4.out.cellW 2 (by omega)
          go_wp2_with fail
          go_quiet ((go_at_call 50; refine Calls.quiet_of (rright_i _ _ (by decide) (by decide) _)))
          have HM := hid (HM.out.drewN nq)
          have HX4 := hid (HX4.out.drewN nq)
          clear d0 d1 d2
          generalize w5.drewN nq = w6 at *
          have d0 : w6.cell? ⟨gx, 0, none⟩ = some (.int .u32 (wv r.a)) := HX4.out.cellW 0 (by omega)
          have d1 : w6.cell? ⟨gx, 1, none⟩ = some (.int .u32 (wv r.b)) := HX4.out.cellW 1 (by omega)
          have d2 : w6.cell? ⟨gx, 2, none⟩ = some (.int .u32 (wv r.c)) := HX4.out.cellW 2 (by omega)
          have d3 : w6.cell? ⟨gx, 3, none⟩ = some (.int .u32 (wv r.d)) := HX4.out.cellW 3 (by omega)
          have d4 : w6.cell? ⟨gx, 4, none⟩ = some (.int .u32 (wv r.e)) := HX4.out.cellW 4 (by omega)
          have d5 : w6.cell? ⟨gx, 5, none⟩ = some (.int .u32 (wv r.f)) := HX4.out.cellW 5 (by omega)
          have d6 : w6.cell? ⟨gx, 6, none⟩ = some (.int .u32 (wv r.g)) := HX4.out.cellW 6 (by omega)
          have hr8 : (#[.int .u32 (wv (t1f r kt wt + t2f r)), .int .u32 (wv r.a), .int .u32 (wv r.b), .int .u32 (wv r.c), .int .u32 (wv (r.d + t1f r kt wt)), .int .u32 (wv r.e), .int .u32 (wv r.f), .int .u32 (wv r.g)] : Array Value) = aW 8 (rnd r kt wt).get := (aW_st (rnd r kt wt)).symm
          have HR8 := hid hr8
          clear hr8
          go_wp2_with (refine wpList_store_row rfl 68 _ _ rfl _ _ rfl (congrArg Value.agg HR8.out) _ _ HX4.out (size8r _) (by simp only [aW_size]) (aW_one _ _) ?_)
          go_roundw
          case rel =>
            have e : rnds s y (j + 1) = rnd r kt wt := by rw [rnds, HRR.out, HK.out, HW.out]
            exact ⟨j + 1, by omega, by go_num, HM.out.row gx HG.out _, by rw [e]; exact HX4.out.row _⟩
          case measure => simp [intOf]; omega
        · have e : j = 64 := by omega
          have hgj : ¬ (j : Int) < 64 := by omega
          have HS : Hid (rnds s y 64 = r) := by rw [← e]; exact HRR.out
          have HM := hid hm
          have HX4 := hid hx4
          clear hm hx4 e HRR
          go_wp2
          go_loopw [18] (fun v wr => ∃ k : Nat, k ≤ 8 ∧ v = .int .i64 k ∧ CAt wr w.heap.size (aW 8 (addTo s r k)) 68 ∧ CAt wr (w.heap.size + 1 + 1) (aW 8 zW) 68 ∧ CAt wr gx (aW 8 r.get) 68 ∧ Below w.heap.size w wr) (fun v _ => (8 - intOf v).toNat)
          case atStart => exact ⟨0, by omega, rfl, HM.out.h.congr (aW_congr 8 fun i _ => by unfold addTo; rw [if_neg (by omega)]), HM.out.r, HX4.out, HM.out.below⟩
          case round =>
            clear HM HX4
            obtain ⟨k, hk, rfl, hc, hz, hx4, hb⟩ := hrel
            by_cases hlk : k < 8
            · have c1 := hc.cellW k hlk
              have c2 := hx4.cellW k hlk
              have c3 := hc.free k
              have a1 := wadd
              have a1' := waddW
              have hlk' : (k : Int) < 8 := by omega
              have HC := hid hc
              have HZ := hid hz
              have HX4 := hid hx4
              have HB := hid hb
              clear hc hz hx4 hb
              go_wp2_with fail
              refine wp_region_last_lit (by kernel_rfl) (by kernel_rfl) ?_
              dsimp only [List.dropLast, List.getLast]
              repeat (go_big_quiet_step (fail))
              refine wpQuiet_nil ?_
              intro nr
              have HC := hid (HC.out.drewN nr)
              have HZ := hid (HZ.out.drewN nr)
              have HX4 := hid (HX4.out.drewN nr)
              have HB := hid (Below.drewN' HB.out nr)
              clear c1 c2 c3
              generalize wr.drewN nr = w6 at *
              have c9 := HC.out.free k
              have c10 := HC.out.cellW k hlk
              go_wp2
              go_roundw
              case rel =>
                have hg := HG.out
                exact ⟨k + 1, by omega, by go_num, (HC.out.setW k _).congr (aW_congr 8 fun i _ => addTo_step s r k i), HZ.out.other _ _ (by show w.heap.size + 1 + 1 ≠ w.heap.size; omega), HX4.out.other _ _ (by show gx ≠ w.heap.size; omega), HB.out.setCell (by show w.heap.size ≤ w.heap.size; omega) _⟩
              case measure => simp [intOf]; omega
            · have e : k = 8 := by omega
              have hc2 := hc.congr (cs' := aW 8 (comp s y).get) (aW_congr 8 fun i hi => (by rw [comp_get, HS.out]; unfold addTo; rw [if_pos (by omega)]))
              have HC := hid hc2
              have HZ := hid hz
              have HB := hid hb
              have hgk : ¬ (k : Int) < 8 := by omega
              clear hc hc2 hz hb e hx4
              go_wp2_with (first
                | refine wpList_load_row rfl 68 _ rfl _ rfl _ _ _ _ HC.out Try.underlying68 rfl (size8r _) ?_
                | refine wpList_store_row rfl 68 _ _ rfl _ _ rfl rfl _ _ HZ.out (size8r _) (by simp only [aW_size]) (aW_one _ _) ?_)
              exact ret_row rfl _ _ _ _ _ rfl rfl (HZ.out.row _) Try.underlying68 rfl (size8r _) ⟨rfl, below_setRow HB.out (by omega) _⟩
end Go.Proofs.Ytfniojnklhjgbaa.H

/- A buffer of bytes that a call fills by append. -/
namespace Go.Proofs.Ytfniojnklhjgbaa.H
open Go Go.RowKit

def Buf (B : Nat) (w : World) (v : Value) (n : Nat) (x : Nat → Nat) : Prop := w.ownsRow B 5 1 v n (valN n x)
theorem Buf.nil (B : Nat) (w : World) (x : Nat → Nat) : Buf B w (.slice none 0 0) 0 x := by
  have := World.ownsRow_nil w B 5 1
  unfold Buf valN; simpa using this
theorem valN_congr (n : Nat) {x y : Nat → Nat} (h : ∀ i, i < n → x i = y i) : valN n x = valN n y := by
  unfold valN; apply List.map_congr_left; intro i hi; rw [h i (List.mem_range.1 hi)]
theorem Buf.congr {B : Nat} {w : World} {v : Value} {n : Nat} {x y : Nat → Nat} (h : Buf B w v n x) (e : ∀ i, i < n → x i = y i) : Buf B w v n y := by
  unfold Buf at *; rwa [← valN_congr n e]
theorem Buf.str {B : Nat} {w : World} {v : Value} {n : Nat} {x : Nat → Nat} (h : Buf B w v n x) : ∃ p c, v = .slice p n c ∧ n ≤ c ∧ StrAt w p n x ∧ (p = none → n = 0 ∧ c = 0) := by
  have h0 : w.ownsRow B 5 1 v n (valN n x) := h
  obtain ⟨hl, h | ⟨g, cap, cur, rfl, hB, hg, hc, _, hs, ht⟩⟩ := h0
  · obtain ⟨rfl, rfl⟩ := h
    exact ⟨none, 0, rfl, by omega, .inl rfl, fun _ => ⟨rfl, rfl⟩⟩
  · refine ⟨some ⟨g, 0, none⟩, cap, rfl, hc, .inr ⟨g, 0, rfl, fun i hi => ?_⟩, fun e => by cases e⟩
    have h1 : w.ownsRow B 5 1 (.slice (some ⟨g, 0, none⟩) n cap) n (valN n x) := h
    have h2 := h1.cellAt i (by omega)
    rw [Nat.zero_add, h2, valN_get n x i hi]
theorem Buf.below {B : Nat} {w w' : World} {v : Value} {n : Nat} {x : Nat → Nat} (h : Buf B w v n x) (hb : Below w.heap.size w w') : Buf B w' v n x := by
  obtain ⟨hl, h | ⟨g, cap, cur, rfl, hB, hg, hc, hm, hs, ht⟩⟩ := h
  · exact ⟨hl, .inl h⟩
  · refine ⟨hl, .inr ⟨g, cap, cur, rfl, hB, ?_, hc, hm, hs, ht⟩⟩
    exact (hb.block g (CAt.lt hg)).trans hg
theorem valN_app (n l : Nat) (x y : Nat → Nat) : valN n x ++ valN l y = valN (n + l) (fun i => if i < n then x i else y (i - n)) := by
  apply List.ext_getElem?
  intro i
  by_cases h : i < n
  · rw [List.getElem?_append_left (by rw [valN_len]; exact h), valN_get _ _ _ h, valN_get _ _ _ (by omega), if_pos h]
  · rw [List.getElem?_append_right (by rw [valN_len]; omega), valN_len]
    by_cases h2 : i < n + l
    · rw [valN_get _ _ _ (by omega), valN_get _ _ _ h2, if_neg h]
    · rw [List.getElem?_eq_none (by rw [valN_len]; omega), List.getElem?_eq_none (by rw [valN_len]; omega)]
theorem Buf.app {B : Nat} {w : World} {v : Value} {n : Nat} {x : Nat → Nat} (hv : Buf B w v n x) (p : Option Addr) (l c : Nat) (y : Nat → Nat) (hy : StrAt w p l y) (hp : p = none → l = 0 ∧ c = 0) (hn : n + l ≤ 2000000) (hB : B ≤ w.heap.size) :
    ∃ v' w', (Builtin.append_ #[24, 24] 24 #[v, .slice p l c]).run Try.prog w = .ok v' w' ∧ Buf B w' v' (n + l) (fun i => if i < n then x i else y (i - n)) ∧ Below B w w' := by
  obtain ⟨i0, hi0, hz0, hz1, hz2⟩ := info_parts Try.info5
  cases p with
  | none =>
    obtain ⟨rfl, rfl⟩ := hp rfl
    refine ⟨v, w, run_append_owned_none (P := Try.prog) (w := w) B 24 24 5 i0 1 Try.underlying24 hi0 v n _ hv, ?_, Below.refl _ _⟩
    exact hv.congr (fun i hi => by rw [if_pos hi])
  | some a =>
    obtain ⟨v', w', hr, h2, h3, _, _⟩ := run_append_own_at (P := Try.prog) w B 24 24 5 i0 (.int .u8 0) 1 1 Try.underlying24 hi0 hz0 hz1 hz2 rfl (by decide) v n (valN n x) hv a l c (valN l y) (by rw [valN_len, Nat.mul_one])
      (fun j u hj => by
        have hlt : j < l := by
          rcases Nat.lt_or_ge j l with h | h
          · exact h
          · rw [List.getElem?_eq_none (by rw [valN_len]; exact h)] at hj; cases hj
        rw [valN_get _ _ _ hlt] at hj
        cases hj
        rcases hy with h | ⟨b, o, e, hr⟩
        · omega
        · cases e
          rw [add_plain']; exact hr j hlt)
      (fun u hu => by
        simp only [valN, List.mem_map] at hu
        obtain ⟨i, _, rfl⟩ := hu; rfl) (by unfold maxLen; omega) (by omega) hB
    refine ⟨v', w', hr, ?_, (Below.refl _ _).grown h3 hB (fun k hk => (hv.lt k hk).1)⟩
    unfold Buf
    rw [← valN_app]; exact h2

theorem wpList_append_eq {P : Program} {w : World} {ops : Array Oper} {rest : List Oper} {o : Oper} {a : Act} {Q : Exit → Act → World → Prop} (hgd : o.guard = none) (s x : Operand) (t : TypeId)
    (ho : o.op = .call { callee := .builtin .append, args := #[s, x], argTypes := #[t, t] }) (v y : Value) (hs : a.eval s = v) (hx : a.eval x = y) (v' : Value) (w' : World)
    (hr : (Builtin.append_ #[t, t] o.type #[v, y]).run P w = .ok v' w') (h : wpList P ops Q rest (a.put o.dst v') w') : wpList P ops Q (o :: rest) a w := by
  refine wpList_plain hgd fun K hK => ?_
  unfold Oper.wp
  simp [execOp, ho, resolve, invoke, builtin, hs, hx, hr, Result.andThen]
  exact hK _ _ h
end Go.Proofs.Ytfniojnklhjgbaa.H

/- Contracts of Eight and Sum of the document's own answer: a number's eight bytes; the digest of bytes. -/
namespace Go.Proofs.Ytfniojnklhjgbaa.H
open Go Go.RowKit

def be8 (C i : Nat) : Nat := C / 2 ^ (56 - 8 * i) % 256
theorem be8_int (C k : Nat) : ((C : Nat) : Int) / 2 ^ (56 - 8 * k) % 256 = ((be8 C k : Nat) : Int) := by unfold be8; simp
def EightAt (w : World) (C : Nat) (e : Ending) (w' : World) : Prop := ∃ v, e = .returned v ∧ Buf w.heap.size w' v 8 (be8 C) ∧ Below w.heap.size w w'
/-- One byte behind a buffer. -/
theorem Buf.push {B : Nat} {w : World} {v : Value} {n : Nat} {x : Nat → Nat} (hv : Buf B w v n x) (u : Nat) (hn : n ≤ 1000000) (hB : B ≤ w.heap.size) :
    ∃ v' w', (Builtin.append_ #[24, 24] 24 #[v, .slice (some ⟨w.heap.size, 0, none⟩) 1 1]).run Try.prog (w.alloc (.cells #[.int .u8 ((u : Nat) : Int)] 5)) = .ok v' w' ∧ Buf B w' v' (n + 1) (fun i => if i < n then x i else u) ∧ Below B w w' := by
  have hb : Below w.heap.size w (w.alloc (.cells #[.int .u8 ((u : Nat) : Int)] 5)) := (Below.refl _ _).alloc (by omega) _
  have hs : StrAt (w.alloc (.cells #[.int .u8 ((u : Nat) : Int)] 5)) (some ⟨w.heap.size, 0, none⟩) 1 (fun _ => u) := .inr ⟨_, _, rfl, fun i hi => by
    have e : i = 0 := by omega
    subst e
    rw [cell_of_row _ _ _ _ 5 _ (heap_alloc_new _ _)]; rfl⟩
  obtain ⟨v', w', h1, h2, h3⟩ := (hv.below hb).app _ 1 1 _ hs (fun e => by cases e) (by omega) (Nat.le_trans hB hb.size)
  exact ⟨v', w', h1, h2, (hb.mono hB).trans h3⟩
set_option maxRecDepth 100000 in
set_option maxHeartbeats 1000000 in
theorem eight_any (C : Nat) (w : World) : Calls Try.prog 41 #[.int .u64 (C : Int)] w fun e w' => EightAt w C e w' := by
  go_enter Try.func41, Try.ntmps41
  go_wp2
  go_loopw [3, 4] (fun v i wr => ∃ k : Nat, k ≤ 8 ∧ i = .int .i64 k ∧ Buf w.heap.size wr v k (be8 C) ∧ Below w.heap.size w wr) (fun _ i _ => (8 - intOf i).toNat)
  case atStart => exact ⟨0, by omega, rfl, Buf.nil _ _ _, Below.refl _ _⟩
  case round =>
    obtain ⟨k, hk, rfl, hf, hb⟩ := hrel
    by_cases hlt : k < 8
    · have hlt' : (k : Int) < 8 := by omega
      obtain ⟨v', w2, hr, hf2, hb2⟩ := hf.push (be8 C k) (by omega) hb.size
      have HR := hid hr
      have HF := hid (hf2.congr (y := be8 C) (fun i hi => by
        by_cases q : i < k
        · rw [if_pos q]
        · rw [if_neg q, show i = k by omega]))
      have HB := hid (hb.trans hb2)
      have hv := be8_int C k
      clear hr hf2 hb2 hf hb
      go_wp2_with (refine wpList_append_eq rfl _ _ 24 rfl _ _ rfl rfl _ _ HR.out ?_)
      go_roundw
      case rel => exact ⟨k + 1, by omega, by go_num, HF.out, HB.out⟩
      case measure => simp [intOf]; omega
    · have e : k = 8 := by omega
      have hge : ¬ (k : Int) < 8 := by omega
      have hf8 := hf
      rw [e] at hf8
      have HF := hid hf8
      have HB := hid hb
      clear hf hf8 hb e
      go_wp2
      go_ret
      exact ⟨_, rfl, HF.out, HB.out⟩
theorem Buf.empty (B : Nat) (w : World) (hB : B ≤ w.heap.size) (x : Nat → Nat) : Buf B (w.alloc (.cells #[] 5)) (.slice (some ⟨w.heap.size, 0, none⟩) 0 0) 0 x :=
  ⟨by simp [valN], .inr ⟨w.heap.size, 0, #[], rfl, hB, heap_alloc_new _ _, by omega, by unfold maxLen; omega, rfl, by simp [valN]⟩⟩
/-- The bytes, a byte 128 and noughts. -/
def pz (n : Nat) (x : Nat → Nat) (i : Nat) : Nat := if i < n then x i else if i = n then 128 else 0
theorem pz_lt (n : Nat) (x : Nat → Nat) (hx : ∀ i, i < n → x i < 256) (i : Nat) : pz n x i < 256 := by
  unfold pz; by_cases h : i < n
  · rw [if_pos h]; exact hx i h
  · rw [if_neg h]; split <;> omega
theorem padF_lt (n : Nat) (x : Nat → Nat) (hx : ∀ i, i < n → x i < 256) (i : Nat) : padF n x i < 256 := by
  unfold padF; by_cases h : i < n
  · rw [if_pos h]; exact hx i h
  · rw [if_neg h]; split
    · omega
    · split
      · omega
      · exact Nat.mod_lt _ (by omega)
theorem pad_join (n : Nat) (x : Nat → Nat) (i : Nat) (hi : i < 64 * nbl n - 8 + 8) : (if i < 64 * nbl n - 8 then pz n x i else be8 (8 * n) (i - (64 * nbl n - 8))) = padF n x i := by
  have hq : 64 * nbl n ≤ n + 72 ∧ n + 72 < 64 * nbl n + 64 := by unfold nbl; omega
  unfold padF pz be8
  by_cases h : i < 64 * nbl n - 8
  · rw [if_pos h]
    by_cases h1 : i < n
    · rw [if_pos h1, if_pos h1]
    · rw [if_neg h1, if_neg h1]
      by_cases h2 : i = n
      · rw [if_pos h2, if_pos h2]
      · rw [if_neg h2, if_neg h2, if_pos h]
  · rw [if_neg h, if_neg (by omega), if_neg (by omega), if_neg h]
    rw [show (256 : Nat) = 2 ^ 8 by decide, ← Nat.pow_mul, show 8 * (64 * nbl n - 1 - i) = 56 - 8 * (i - (64 * nbl n - 8)) by omega]
structure RsM (w wr : World) (v : Value) (m : Nat) (f : Nat → Nat) : Prop where
  buf : Buf (w.heap.size + 1) wr v m f
  res : CAt wr w.heap.size (aB 32 zB) 61
  below : Below w.heap.size w wr
theorem RsM.size {w wr : World} {v : Value} {m : Nat} {f : Nat → Nat} (h : RsM w wr v m f) : w.heap.size + 1 ≤ wr.heap.size := h.res.lt
theorem out_byte2 (s : St) (k : Nat) (sw : BitVec 32) (h : s.get (k / 4) = sw) : wv sw / 2 ^ (24 - 8 * (k % 4)) % 256 = ((outB s k : Nat) : Int) := by
  unfold outB wv; rw [h]; simp
structure LpM (w wr : World) (gh gk ba oa M : Nat) (f : Nat → Nat) (s : St) : Prop where
  h : CAt wr gh (aW 8 s.get) 68
  k : CAt wr gk (aW 64 kk) 79
  row : RowAt wr ba oa M f
  res : CAt wr w.heap.size (aB 32 zB) 61
  below : Below w.heap.size w wr
theorem LpM.on {w wr w' : World} {gh gk ba oa M : Nat} {f : Nat → Nat} {s : St} (h : LpM w wr gh gk ba oa M f s) (hM : 0 < M) (hb : Below wr.heap.size wr w') : LpM w w' gh gk ba oa M f s :=
  ⟨h.h.below hb h.h.lt, h.k.below hb h.k.lt, h.row.below hb (cell_lt (h.row 0 hM)), h.res.below hb h.res.lt, h.below.trans (hb.mono h.below.size)⟩
theorem row_setRow {w : World} {b o n g : Nat} {x : Nat → Nat} (h : RowAt w b o n x) (hne : b ≠ g) (cs : Array Value) : RowAt (w.setRow g cs) b o n x := fun i hi => by
  rw [cell_setRow_other _ _ _ _ (by exact hne)]; exact h i hi
set_option maxRecDepth 100000 in
set_option maxHeartbeats 4000000 in
theorem rsum_any (p : Option Addr) (n c : Nat) (x : Nat → Nat) (w : World) (hn : n ≤ 500000) (hp : p = none → n = 0 ∧ c = 0) (hx : StrAt w p n x) (hb : ∀ i, i < n → x i < 256) :
    Calls Try.prog 34 #[.slice p n c] w fun e w' => e = .returned (.agg (aB 32 (sha n x))) ∧ Below w.heap.size w w' := by
  have hq : 64 * nbl n ≤ n + 72 ∧ n + 72 < 64 * nbl n + 64 := by unfold nbl; omega
  have HBX := hid hb
  have hn' : (n : Int) ≤ 500000 := by omega
  have hz1 : (w.alloc (.cells (aB 32 zB) 61)).heap.size = w.heap.size + 1 := by simp
  have b1 : Below w.heap.size w (w.alloc (.cells (aB 32 zB) 61)) := (Below.refl _ _).alloc (by omega) _
  have b2 : Below w.heap.size w ((w.alloc (.cells (aB 32 zB) 61)).alloc (.cells #[] 5)) := b1.alloc (by rw [hz1]; omega) _
  have f0 := Buf.empty (w.heap.size + 1) (w.alloc (.cells (aB 32 zB) 61)) (by omega) x
  rw [hz1] at f0
  obtain ⟨v1, w1, hr1, f1, bb1⟩ := f0.app p n c x (hx.below b2) hp (by omega) (by simp)
  have m1 : RsM w w1 v1 (0 + n) x := ⟨f1.congr (fun i hi => by rw [if_neg (by omega)]; simp), ((CAt.new w (aB 32 zB) 61).alloc _).below bb1 (by omega), b2.trans (bb1.mono (by omega))⟩
  rw [Nat.zero_add] at m1
  obtain ⟨v2, w2, hr2, f2, bb2⟩ := m1.buf.push 128 (by omega) m1.size
  have m2 : RsM w w2 v2 (n + 1) (pz n x) := ⟨f2.congr (fun i hi => by
    unfold pz
    by_cases q : i < n
    · rw [if_pos q, if_pos q]
    · rw [if_neg q, if_neg q, if_pos (by omega)]), m1.res.below bb2 (by omega), m1.below.trans (bb2.mono (by omega))⟩
  have HR1 := hid hr1
  have HR2 := hid hr2
  have HM2 := hid m2
  have HQ := hid hq
  clear hx hp hb hz1 b1 b2 f0 f1 bb1 hr1 m1 f2 bb2 hr2 m2 hq
  go_enter Try.func34, Try.ntmps34
  go_wp2_with (first
    | refine wpList_alloc_row rfl 61 rfl _ zero32 ?_
    | refine wpList_append_eq rfl _ _ 24 rfl _ _ rfl rfl _ _ HR1.out ?_
    | refine wpList_append_eq rfl _ _ 24 rfl _ _ rfl rfl _ _ HR2.out ?_)
  go_loopw [3] (fun v wr => ∃ m : Nat, n + 1 ≤ m ∧ m ≤ 64 * nbl n - 8 ∧ RsM w wr v m (pz n x)) (fun v _ => 64 * nbl n - lenV v)
  case atStart => exact ⟨n + 1, by omega, by have := HQ.out; omega, HM2.out⟩
  case round =>
    clear HM2 HR1 HR2
    obtain ⟨m, hm0, hm1, hm⟩ := hrel
    have hQ := HQ.out
    have hm' : (m : Int) ≤ 600000 := by omega
    by_cases hne : m % 64 = 56
    · have hne' : (m : Int) % 64 = 56 := by omega
      have hmM : m = 64 * nbl n - 8 := by omega
      obtain ⟨C, hC⟩ : ∃ C, C = 8 * n := ⟨_, rfl⟩
      have hCn : 8 * (n : Int) = (C : Int) := by omega
      have HC := hid hC
      obtain ⟨pv, cv, rfl, hcv, hst, hpn⟩ := hm.buf.str
      have HM := hid hm
      have HMM := hid hmM
      clear hm hC hst hpn hcv hQ hmM hne
      go_upto_region 6 with (first
        | (go_at_call 41; refine (eight_any C _).mono ?_; rintro e w3 ⟨v8, rfl, hf8, hb8⟩; obtain ⟨p8, c8, rfl, hc8, hs8, hp8⟩ := hf8.str; obtain ⟨v9, w4, hr9, hf9, hb9⟩ := (HM.out.buf.below hb8).app p8 8 c8 _ hs8 hp8 (by have := HMM.out; omega) (Nat.le_trans HM.out.size hb8.size); have HR9 := hid hr9; have HM4 := hid (RsM.mk hf9 ((HM.out.res.below hb8 HM.out.res.lt).below hb9 (by omega)) ((HM.out.below.trans (hb8.mono HM.out.below.size)).trans (hb9.mono (by omega)))); clear hr9 hf9 hb9 hf8 hb8 hs8 hp8 hc8)
        | refine wpList_append_eq rfl _ _ 24 rfl _ _ rfl rfl _ _ HR9.out ?_)
      have hpz : Buf (w.heap.size + 1) w4 v9 (64 * nbl n) (padF n x) := by
        have h1 := HM4.out.buf
        rw [HMM.out, HC.out] at h1
        have h2 := h1.congr (y := padF n x) (fun i hi => pad_join n x i hi)
        have hQ2 := HQ.out
        rwa [show 64 * nbl n - 8 + 8 = 64 * nbl n by omega] at h2
      have hres := HM4.out.res
      have hbel := HM4.out.below
      obtain ⟨pa, ca, rfl, hca, hsa, _⟩ := hpz.str
      have hpos : 0 < 64 * nbl n := by have := HQ.out; omega
      obtain ⟨ba, oa, rfl, hra⟩ : ∃ b o, pa = some ⟨b, o, none⟩ ∧ RowAt w4 b o (64 * nbl n) (padF n x) := by
        rcases hsa with h | h
        · omega
        · exact h
      have hlba : ba < w4.heap.size := cell_lt (hra 0 hpos)
      have HRES := hid hres
      have HBEL := hid hbel
      have HRA := hid hra
      have HLB := hid hlba
      have hM6 : ((64 * nbl n : Nat) : Int) ≤ 600000 := by have := HQ.out; omega
      clear hpz hres hbel hsa hra hlba hca HM4 HM HR9 hm0 hm1 hm' hne' hCn HMM
      generalize hM : 64 * nbl n = M at *
      have HMn := hid hM
      clear hM
      go_upto_region 8 with (first
        | refine wpList_alloc_row rfl 68 rfl _ zero8r ?_
        | refine wpList_alloc_row rfl 79 rfl _ zero64 ?_
        | (go_at_call 42; refine (begin_any _).mono ?_; rintro e w5 ⟨rfl, hb5⟩)
        | (go_at_call 43; refine (table_any _).mono ?_; rintro e w6 ⟨rfl, hb6⟩)
        | refine wpList_store_row rfl 68 _ _ rfl _ _ rfl rfl _ _ (CAt.new _ _ _) (size8r _) (by simp only [aW_size]) (aW_one _ _) ?_
        | refine wpList_store_row rfl 79 _ _ rfl _ _ rfl rfl _ _ (CAt.new _ _ _) (size64 _) (by simp only [aW_size]) (aW_one _ _) ?_)
      have hz5 : ((w5.alloc (.cells (aW 8 zW) 68)).setRow w5.heap.size (aW 8 st0.get)).heap.size = w5.heap.size + 1 := by simp
      have hl5 : ba < w5.heap.size := Nat.lt_of_lt_of_le HLB.out hb5.size
      have r5 := HRES.out.below hb5 HRES.out.lt
      have hH5 : w.heap.size < w5.heap.size := r5.lt
      have e5 : Below w.heap.size w ((w5.alloc (.cells (aW 8 zW) 68)).setRow w5.heap.size (aW 8 st0.get)) := below_setRow ((HBEL.out.trans (hb5.mono HBEL.out.size)).alloc (by omega) _) (by omega) _
      have c5 : CAt ((w5.alloc (.cells (aW 8 zW) 68)).setRow w5.heap.size (aW 8 st0.get)) w5.heap.size (aW 8 st0.get) 68 := (CAt.new _ _ _).row _
      have r6 := ((r5.alloc (.cells (aW 8 zW) 68)).rowOther (k := w5.heap.size) (aW 8 st0.get) (by omega)).below hb6 (by rw [hz5]; omega)
      have c6 := c5.below hb6 c5.lt
      have ra5 : RowAt ((w5.alloc (.cells (aW 8 zW) 68)).setRow w5.heap.size (aW 8 st0.get)) ba oa M (padF n x) := row_setRow ((HRA.out.below hb5 HLB.out).below ((Below.refl w5.heap.size w5).alloc (by omega) _) hl5) (by omega) _
      have ra6 := ra5.below hb6 (by rw [hz5]; omega)
      have e6 := e5.trans (hb6.mono (by rw [hz5]; omega))
      have h56 : w5.heap.size < w6.heap.size := by have := hb6.size; rw [hz5] at this; omega
      have m6 : LpM w ((w6.alloc (.cells (aW 64 zW) 79)).setRow w6.heap.size (aW 64 kk)) w5.heap.size w6.heap.size ba oa M (padF n x) (hs (padF n x) 0) :=
        ⟨(c6.alloc _).rowOther _ (by omega), (CAt.new _ _ _).row _, row_setRow (ra6.below ((Below.refl w6.heap.size w6).alloc (by omega) _) (by omega)) (by omega) _, (r6.alloc _).rowOther _ (by omega), below_setRow (e6.alloc (by omega) _) (by omega) _⟩
      have HM6 := hid m6
      have HORD : Hid (ba < w5.heap.size ∧ w5.heap.size < w6.heap.size ∧ w.heap.size < w5.heap.size) := ⟨hl5, h56, hH5⟩
      clear hz5 hl5 r5 hH5 e5 c5 r6 c6 ra5 ra6 e6 h56 m6 hb5 hb6 HRES HBEL HRA HLB
      simp only [Act.put, List.setIfInBounds_toArray, List.set_cons_succ, List.set_cons_zero]
      generalize ((w6.alloc (.cells (aW 64 zW) 79)).setRow w6.heap.size (aW 64 kk)) = w7 at *
      generalize w6.heap.size = gk at *
      generalize w5.heap.size = gh at *
      go_wp2
      go_loopw [6] (fun v wr => ∃ q a : Nat, q ≤ nbl n ∧ a = 64 * q ∧ v = .int .i64 a ∧ LpM w wr gh gk ba oa M (padF n x) (hs (padF n x) q)) (fun v _ => (M - intOf v).toNat)
      case atStart => exact ⟨0, 0, by omega, rfl, rfl, HM6.out⟩
      case round =>
        clear HM6
        obtain ⟨q, a, hqn, ha, rfl, hlp⟩ := hrel
        have HA := hid ha
        have hM1 := HMn.out
        by_cases hlq : q < nbl n
        · have hlt' : (a : Int) < (M : Int) := by omega
          have ha6 : (a : Int) ≤ 600000 := by omega
          have HAM : Hid (a + 64 ≤ M ∧ M ≤ 2000000) := by constructor <;> omega
          have HL := hid hlp
          clear hlp ha hM1
          go_wp2_with (first
            | refine wpList_load_row rfl 68 _ rfl _ rfl _ _ _ _ HL.out.h Try.underlying68 rfl (size8r _) ?_
            | refine wpList_load_row rfl 79 _ rfl _ rfl _ _ _ _ HL.out.k Try.underlying79 rfl (size64 _) ?_
            | (go_at_call 44; refine (rblock_any _ _ _ _ _ _ (padF n x) _ HAM.out.2 HL.out.row (fun i _ => padF_lt n x HBX.out i) HAM.out.1).mono ?_; rintro e w8 ⟨rfl, hb8⟩; have HL8 := hid (HL.out.on hpos hb8); clear hb8)
            | refine wpList_store_row rfl 68 _ _ rfl _ _ rfl rfl _ _ HL8.out.h (size8r _) (by simp only [aW_size]) (aW_one _ _) ?_)
          go_roundw
          case rel =>
            have ho := HORD.out
            refine ⟨q + 1, a + 64, by omega, by have := HA.out; omega, by go_num, HL8.out.h.row _ |>.congr ?_, HL8.out.k.rowOther _ (by omega), row_setRow HL8.out.row (by omega) _, HL8.out.res.rowOther _ (by omega), below_setRow HL8.out.below (by omega) _⟩
            rw [hs, HA.out]
          case measure => simp [intOf]; omega
        · have hge : ¬ (a : Int) < (M : Int) := by omega
          have hq2 : q = nbl n := by omega
          have HS : Hid (hs (padF n x) q = shaSt n x) := by rw [hq2]; rfl
          have HL := hid hlp
          clear hlp ha hM1 hq2 hqn
          go_wp2_with (refine wpList_alloc_row rfl 61 rfl _ zero32 ?_)
          have hl9 : w.heap.size < wr.heap.size := HL.out.res.lt
          have hh9 : gh < wr.heap.size := HL.out.h.lt
          have m9 : CAt (wr.alloc (.cells (aB 32 zB) 61)) gh (aW 8 (shaSt n x).get) 68 := by rw [← HS.out]; exact HL.out.h.alloc _
          have n9 := HL.out.res.alloc (.cells (aB 32 zB) 61)
          have b9 := HL.out.below.alloc HL.out.below.size (.cells (aB 32 zB) 61)
          have o9 : CAt (wr.alloc (.cells (aB 32 zB) 61)) wr.heap.size (aB 32 (upTo (outB (shaSt n x)) 0)) 61 := (CAt.new wr (aB 32 zB) 61).congr (aB_congr 32 fun i _ => upTo_zero _ i)
          have HM9 := hid m9
          have HN9 := hid n9
          have HB9 := hid b9
          have HO9 := hid o9
          have HORD2 : Hid (w.heap.size < wr.heap.size ∧ gh < wr.heap.size) := ⟨hl9, hh9⟩
          clear m9 n9 b9 o9 HL HS hl9 hh9
          generalize (wr.alloc (.cells (aB 32 zB) 61)) = w9 at *
          generalize wr.heap.size = go at *
          generalize hsf : shaSt n x = sf at *
          have HSF := hid hsf
          clear hsf
          go_loopw [8] (fun v wr => ∃ k : Nat, k ≤ 32 ∧ v = .int .i64 k ∧ CAt wr gh (aW 8 sf.get) 68 ∧ CAt wr w.heap.size (aB 32 zB) 61 ∧ CAt wr go (aB 32 (upTo (outB sf) k)) 61 ∧ Below w.heap.size w wr) (fun v _ => (32 - intOf v).toNat)
          case atStart => exact ⟨0, by omega, rfl, HM9.out, HN9.out, HO9.out, HB9.out⟩
          case round =>
            clear HM9 HN9 HO9 HB9
            obtain ⟨k, hk, rfl, hs, hz, hc, hb⟩ := hrel
            by_cases hlk : k < 32
            · have c1 := hs.cellW (k / 4) (by omega)
              have c2 := hc.cellB k hlk
              have c3 := hc.free k
              generalize hsw : sf.get (k / 4) = sw at *
              have hv := out_byte2 sf k sw hsw
              have HS := hid hs
              have HZ := hid hz
              have HCC := hid hc
              have HB := hid hb
              have hlk' : (k : Int) < 32 := by omega
              clear hs hz hc hb hsw
              go_wp2
              go_roundw
              case rel =>
                have ho := HORD2.out
                exact ⟨k + 1, by omega, by go_num, HS.out.other _ _ (by show gh ≠ go; omega), HZ.out.other _ _ (by show w.heap.size ≠ go; omega), (HCC.out.setB k _).congr (aB_congr 32 fun i _ => upTo_step _ k i), HB.out.setCell (by show w.heap.size ≤ go; omega) _⟩
              case measure => simp [intOf]; omega
            · have e : k = 32 := by omega
              have hc2 := hc.congr (cs' := aB 32 (outB sf)) (aB_congr 32 fun i hi => upTo_at _ _ _ (by omega))
              have HZ := hid hz
              have HCC := hid hc2
              have HB := hid hb
              have hgk : ¬ (k : Int) < 32 := by omega
              clear hs hz hc hb hc2 e
              go_wp2_with (first
                | refine wpList_load_row rfl 61 _ rfl _ rfl _ _ _ _ HCC.out Try.underlying61 rfl (size32 _) ?_
                | refine wpList_store_row rfl 61 _ _ rfl _ _ rfl rfl _ _ HZ.out (size32 _) (by simp only [aB_size]) (aB_one _ _) ?_)
              have hfin : aB 32 (outB sf) = aB 32 (sha n x) := aB_congr 32 fun i _ => by unfold sha; rw [HSF.out]
              refine ret_row rfl _ _ _ _ _ rfl rfl (HZ.out.row _) Try.underlying61 rfl (size32 _) ⟨?_, below_setRow HB.out (by omega) _⟩
              rw [hfin]
    · have hne' : ¬ (m : Int) % 64 = 56 := by omega
      obtain ⟨v', w5, hr5, hf5, hb5⟩ := hm.buf.push 0 (by omega) hm.size
      have m5 : RsM w w5 v' (m + 1) (pz n x) := ⟨hf5.congr (fun i hi => by
        by_cases q : i < m
        · rw [if_pos q]
        · rw [if_neg q]; unfold pz; rw [if_neg (by omega), if_neg (by omega)]), hm.res.below hb5 (by omega), hm.below.trans (hb5.mono (by omega))⟩
      obtain ⟨pv, cv, rfl, hcv, hst, hpn⟩ := hm.buf.str
      obtain ⟨p5, c5, e5, _, _, _⟩ := m5.buf.str
      have HR5 := hid hr5
      have HM5 := hid m5
      have HE5 := hid e5
      clear hm hr5 hf5 hb5 m5 e5 hcv hst hpn hQ hne
      go_wp2_with (refine wpList_append_eq rfl _ _ 24 rfl _ _ rfl rfl _ _ HR5.out ?_)
      go_roundw
      case rel => exact ⟨m + 1, by omega, by have := HQ.out; omega, HM5.out⟩
      case measure => rw [HE5.out]; simp only [lenV]; have := HQ.out; omega
end Go.Proofs.Ytfniojnklhjgbaa.H

/- Digests of bytes in slices, by lists. -/
namespace Go.Proofs.Ytfniojnklhjgbaa
open Go Go.RowKit

/-- The digest's 32 bytes. -/
def dig (x : List Nat) : List Nat := (List.range 32).map fun i => H.sha x.length (fun j => x.getD j 0) i
theorem dig_len (x : List Nat) : (dig x).length = 32 := by simp [dig]
theorem dig_lt (x : List Nat) : ∀ z ∈ dig x, z < 256 := fun z hz => by
  obtain ⟨i, _, rfl⟩ := List.mem_map.1 hz
  exact H.sha_lt _ _ _
theorem dig_arr (x : List Nat) : H.aB 32 (H.sha x.length fun j => x.getD j 0) = ((dig x).map u8).toArray := by
  unfold H.aB dig
  apply Array.ext
  · simp
  · intro i h1 h2
    simp [u8]
theorem BL.str {w : World} {po : Option Addr} {x : List Nat} (h : BL w po x) : H.StrAt w po x.length fun j => x.getD j 0 := by
  rcases h with rfl | ⟨b, o, e, h⟩
  · exact Or.inl rfl
  · exact Or.inr ⟨b, o, e, fun i hi => h i hi⟩
theorem get256 {x : List Nat} (h8 : ∀ z ∈ x, z < 256) (i : Nat) (hi : i < x.length) : x.getD i 0 < 256 := by
  rw [List.getD_eq_getElem?_getD, List.getElem?_eq_getElem hi]; exact h8 _ (List.getElem_mem hi)
/-- digest.Sum -/
theorem dsum_any (po : Option Addr) (c : Nat) (x : List Nat) (w : World) (hn : x.length ≤ 1000000) (hc : x.length ≤ c) (h : BL w po x) (h8 : ∀ z ∈ x, z < 256) :
    Calls Try.prog 31 #[.slice po x.length c] w fun e w' => e = .returned (.agg ((dig x).map u8).toArray) ∧ Below w.heap.size w w' := by
  rw [← dig_arr]
  exact H.sum_any po x.length c _ w hn hc h.str (get256 h8)
/-- The document's Sum. -/
theorem rdsum_any (po : Option Addr) (c : Nat) (x : List Nat) (w : World) (hn : x.length ≤ 500000) (hp : po = none → c = 0) (h : BL w po x) (h8 : ∀ z ∈ x, z < 256) :
    Calls Try.prog 34 #[.slice po x.length c] w fun e w' => e = .returned (.agg ((dig x).map u8).toArray) ∧ Below w.heap.size w w' := by
  rw [← dig_arr]
  refine H.rsum_any po x.length c _ w hn (fun e => ⟨?_, hp e⟩) h.str (get256 h8)
  rcases h with h | ⟨b, o, h, _⟩
  · rw [h]; rfl
  · rw [e] at h; cases h
end Go.Proofs.Ytfniojnklhjgbaa

/- Journals as bytes: mathematics alone. D: the digest, of which nothing is asked but its length. -/
namespace Go.Proofs.Ytfniojnklhjgbaa

structure Jr where
  seq : Int
  recs : List Rc
  deriving DecidableEq
def okJ (j : Jr) : Bool := inR j.seq 1 1099511627776 && decide (j.recs.length ≤ 64) && j.recs.all okRc && decide ((j.recs.map Rc.id).Nodup)
section
variable {D : List Nat → List Nat}
end
end Go.Proofs.Ytfniojnklhjgbaa
