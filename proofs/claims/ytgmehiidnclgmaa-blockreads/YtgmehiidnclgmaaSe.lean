/- Contract of mix of package digest: what the words become by a block; what was there is as it was. -/
import Derived.Test.YtgmehiidnclgmaaQj
namespace Go.Proofs.Ytgmehiidnclgmaa
open Go Go.RowKit

theorem zero8 : (Try.prog.info? 75).map (·.zero) = some (some (.agg (aW 8 zW))) := by kernel_rfl
theorem size8 (f : Nat → BitVec 32) : (Try.prog.info? 75).map (·.size) = some (aW 8 f).size := by rw [aW_size]; kernel_rfl
def MixM (H gp gq : Nat) (s : St) (x : Nat → Nat) (w w' : World) : Prop :=
  CAt w' gp (aW 64 kk) 85 ∧ CAt w' gq (aW 64 (sch x)) 85 ∧ CAt w' H (aW 8 s.get) 75 ∧ CAt w' (H + 1 + 1) (aW 8 zW) 75 ∧ Below H w w'
theorem MixM.drewN {H gp gq : Nat} {s : St} {x : Nat → Nat} {w w' : World} (h : MixM H gp gq s x w w') (m : Nat) : MixM H gp gq s x w (w'.drewN m) :=
  ⟨h.1.drewN m, h.2.1.drewN m, h.2.2.1.drewN m, h.2.2.2.1.drewN m, Below.drewN' h.2.2.2.2 m⟩
def addTo (s r : St) (k i : Nat) : BitVec 32 := if i < k then s.get i + r.get i else s.get i
theorem addTo_step (s r : St) (k i : Nat) : upW (addTo s r k) k (addTo s r k k + r.get k) i = addTo s r (k + 1) i := by
  unfold upW addTo
  by_cases e : i = k
  · rw [if_pos e, if_neg (by omega), if_pos (by omega), e]
  · rw [if_neg e]
    by_cases q : i < k
    · rw [if_pos q, if_pos (by omega)]
    · rw [if_neg q, if_neg (by omega)]
theorem run_index_st (r : St) (k : Nat) (hk : k < 8) (w : World) : (Instr.index 75 (.agg (aW 8 r.get)) (.int .i64 (k : Int))).run Try.prog w = .ok (.int .u32 (wv (r.get k))) w :=
  run_index_row 75 73 8 _ k _ Try.underlying75 hk (aW_get 8 r.get k hk) (by kernel_rfl) (fun _ => by kernel_rfl) w
set_option maxRecDepth 100000 in
set_option maxHeartbeats 1000000 in
theorem mix_any (s : St) (x : Nat → Nat) (hx : ∀ i, i < 64 → x i < 256) (w : World) :
    Calls Try.prog 50 #[.agg (aW 8 s.get), .agg (aB 64 x)] w fun e w' => e = .returned (.agg (aW 8 (comp s x).get)) ∧ Below w.heap.size w w' := by
  have HX := hid hx
  clear hx
  go_enter Try.func50, Try.ntmps50
  go_wp2_with (refine wpList_alloc_row rfl 75 rfl _ zero8 ?_)
  refine wp_region_any (by kernel_rfl) ?_
  refine region_two_at 20 21 22 5 6 3 85 79 (aW 64 kk) (aB 64 x) (aW 64 (sch x)) (aW 64 zW) 64 65 (w.heap.size + 1)
    (by decide +kernel) (by decide +kernel) rfl (by decide) 123 rfl (by decide) rfl rfl rfl rfl rfl rfl rfl rfl rfl rfl rfl rfl rfl rfl rfl (fun _ _ => by kernel_rfl) rfl (fun _ _ => by kernel_rfl) rfl rfl rfl rfl
    constants_any (spread_any x HX.out) rfl (tb := 79) ?_ rfl Try.underlying79 (size64B x) zero64 (by rw [aW_size, aW_size]) (by rw [aW_size, aW_size]) (size64 _) (aW_one _ _) (aW_one _ _) ?_
  · exact (CAt.new' (w.alloc (.cells (aW 8 s.get) 75)) (aB 64 x) 79 _ (by simp)).alloc _
  intro gp gq w' hb hk hs hgp hgq hne
  have hz : (((w.alloc (.cells (aW 8 s.get) 75)).alloc (.cells (aB 64 x) 79)).alloc (.cells (aW 8 zW) 75)).heap.size = w.heap.size + 1 + 1 + 1 := by simp
  have hz2 : ((w.alloc (.cells (aW 8 s.get) 75)).alloc (.cells (aB 64 x) 79)).heap.size = w.heap.size + 1 + 1 := by simp
  have hb' : Below (w.heap.size + 1 + 1 + 1) (((w.alloc (.cells (aW 8 s.get) 75)).alloc (.cells (aB 64 x) 79)).alloc (.cells (aW 8 zW) 75)) w' :=
    ⟨hb.os, hb.tape, hb.output, hb.size, fun k hk => hb.block k (by rw [← hz] at hk; exact hk)⟩
  have M0 : MixM w.heap.size gp gq s x w w' := by
    refine ⟨hk, hs, ?_, ?_, ?_⟩
    · exact CAt.below (((CAt.new w (aW 8 s.get) 75).alloc _).alloc _) hb' (by omega)
    · exact CAt.below (CAt.new' ((w.alloc (.cells (aW 8 s.get) 75)).alloc (.cells (aB 64 x) 79)) (aW 8 zW) 75 _ hz2) hb' (by omega)
    · exact Below.trans ((((Below.refl _ _).alloc (by omega) _).alloc (by simp) _).alloc (by rw [hz2]; omega) _) (hb'.mono (by omega))
  have hgp : w.heap.size + 1 + 1 + 1 ≤ gp := by rw [← hz]; exact hgp
  have hgq : w.heap.size + 1 + 1 + 1 ≤ gq := by rw [← hz]; exact hgq
  have HN := hid hne
  have HG : Hid (w.heap.size + 1 + 1 < gp ∧ w.heap.size + 1 + 1 < gq) := ⟨by omega, by omega⟩
  clear hb hb' hk hs hgp hgq hne hz
  have c0 : w'.cell? ⟨w.heap.size, 0, none⟩ = some (.int .u32 (wv s.a)) := M0.2.2.1.cellW 0 (by omega)
  have c1 : w'.cell? ⟨w.heap.size, 1, none⟩ = some (.int .u32 (wv s.b)) := M0.2.2.1.cellW 1 (by omega)
  have c2 : w'.cell? ⟨w.heap.size, 2, none⟩ = some (.int .u32 (wv s.c)) := M0.2.2.1.cellW 2 (by omega)
  have c3 : w'.cell? ⟨w.heap.size, 3, none⟩ = some (.int .u32 (wv s.d)) := M0.2.2.1.cellW 3 (by omega)
  have c4 : w'.cell? ⟨w.heap.size, 4, none⟩ = some (.int .u32 (wv s.e)) := M0.2.2.1.cellW 4 (by omega)
  have c5 : w'.cell? ⟨w.heap.size, 5, none⟩ = some (.int .u32 (wv s.f)) := M0.2.2.1.cellW 5 (by omega)
  have c6 : w'.cell? ⟨w.heap.size, 6, none⟩ = some (.int .u32 (wv s.g)) := M0.2.2.1.cellW 6 (by omega)
  have c7 : w'.cell? ⟨w.heap.size, 7, none⟩ = some (.int .u32 (wv s.h)) := M0.2.2.1.cellW 7 (by omega)
  have HM := hid M0
  clear M0
  simp only [fr5, Act.put, List.setIfInBounds_toArray, List.set_cons_succ, List.set_cons_zero, hz2]
  clear hz2
  go_wp2_with fail
  go_quiet (fail)
  have HM := hid (HM.out.drewN nq)
  clear c0 c1 c2 c3 c4 c5 c6 c7
  generalize w'.drewN nq = w1 at *
  go_wp2
  go_loopw [7, 8, 9, 10, 11, 12, 13, 14, 39] (fun a b c d e f g h v wr => ∃ t : Nat, t ≤ 64 ∧ v = .int .i64 t ∧ a = .int .u32 (wv (rnds s x t).a) ∧ b = .int .u32 (wv (rnds s x t).b) ∧ c = .int .u32 (wv (rnds s x t).c) ∧ d = .int .u32 (wv (rnds s x t).d) ∧ e = .int .u32 (wv (rnds s x t).e) ∧ f = .int .u32 (wv (rnds s x t).f) ∧ g = .int .u32 (wv (rnds s x t).g) ∧ h = .int .u32 (wv (rnds s x t).h) ∧ MixM w.heap.size gp gq s x w wr) (fun _ _ _ _ _ _ _ _ v _ => (64 - intOf v).toNat)
  case atStart => exact ⟨0, by omega, rfl, rfl, rfl, rfl, rfl, rfl, rfl, rfl, rfl, HM.out⟩
  case round =>
    clear HM
    obtain ⟨t, ht, rfl, q1, q2, q3, q4, q5, q6, q7, q8, hm⟩ := hrel
    generalize hr : rnds s x t = r at *
    subst q1 q2 q3 q4 q5 q6 q7 q8
    have HR := hid hr
    clear hr
    by_cases hlt : t < 64
    · have c1 := hm.1.cellW t hlt
      have c2 := hm.2.1.cellW t hlt
      generalize hkt : kk t = kt at *
      generalize hwt : sch x t = wt at *
      have HK := hid hkt
      have HW := hid hwt
      have HM := hid hm
      clear hm hkt hwt
      have hlt' : (t : Int) < 64 := by omega
      go_wp2_with fail
      have a1 := wadd
      have a1' := waddW
      have a2 := wxor
      have a3 := wand
      have a4 := wnot
      refine wp_region_quiet_lit (by kernel_rfl) (by kernel_rfl) ?_
      repeat (go_big_quiet_step ((go_at_call 66; refine Calls.quiet_of_same (right_i _ _ (by decide) (by decide) _))))
      refine wpQuiet_nil ?_
      rintro _ ⟨nr, rfl⟩
      have HM := hid (HM.out.drewN nr)
      clear c1 c2
      generalize wr.drewN nr = w2 at *
      go_wp2_with (go_at_call 66; refine (right_i _ _ (by decide) (by decide) _).mono ?_; rintro e w' ⟨rfl, rfl⟩)
      go_roundw
      case rel =>
        have e : rnds s x (t + 1) = rnd r kt wt := by rw [rnds, HR.out, HK.out, HW.out]
        exact ⟨t + 1, by omega, by go_num, by rw [e]; rfl, by rw [e]; rfl, by rw [e]; rfl, by rw [e]; rfl, by rw [e]; rfl, by rw [e]; rfl, by rw [e]; rfl, by rw [e]; rfl, HM.out⟩
      case measure => simp [intOf]; omega
    · have e : t = 64 := by omega
      have HS : Hid (rnds s x 64 = r) := by rw [← e]; exact HR.out
      have HM := hid hm
      clear hm e HR
      have hge : ¬ (t : Int) < 64 := by omega
      go_wp2
      go_loopw [111] (fun v wr => ∃ k : Nat, k ≤ 8 ∧ v = .int .i64 k ∧ CAt wr w.heap.size (aW 8 (addTo s r k)) 75 ∧ CAt wr (w.heap.size + 1 + 1) (aW 8 zW) 75 ∧ Below w.heap.size w wr) (fun v _ => (8 - intOf v).toNat)
      case atStart => exact ⟨0, by omega, rfl, HM.out.2.2.1.congr (aW_congr 8 fun i _ => by unfold addTo; rw [if_neg (by omega)]), HM.out.2.2.2.1, HM.out.2.2.2.2⟩
      case round =>
        clear HM
        obtain ⟨k, hk, rfl, hc, hz, hb⟩ := hrel
        by_cases hlk : k < 8
        · have hix := run_index_st r k hlk
          simp only [aW_st] at hix
          have c1 := hc.cellW k hlk
          have c2 := hc.free k
          have a1 := wadd
          have hlk' : (k : Int) < 8 := by omega
          have HC := hid hc
          have HZ := hid hz
          have HB := hid hb
          clear hc hz hb
          go_wp2
          go_roundw
          case rel => exact ⟨k + 1, by omega, by go_num, (HC.out.setW k _).congr (aW_congr 8 fun i _ => addTo_step s r k i), HZ.out.other _ _ (by simp; omega), HB.out.setCell (by simp) _⟩
          case measure => simp [intOf]; omega
        · have e : k = 8 := by omega
          have hc2 := hc.congr (cs' := aW 8 (comp s x).get) (aW_congr 8 fun i hi => (by rw [comp_get, HS.out]; unfold addTo; rw [if_pos (by omega)]))
          have HC := hid hc2
          have HZ := hid hz
          have HB := hid hb
          have hgk : ¬ (k : Int) < 8 := by omega
          clear hc hc2 hz hb e
          go_wp2_with (first
            | refine wpList_load_row rfl 75 _ rfl _ rfl _ _ _ _ HC.out Try.underlying75 rfl (size8 _) ?_
            | refine wpList_store_row rfl 75 _ _ rfl _ _ rfl rfl _ _ HZ.out (size8 _) (by rw [aW_size, aW_size]) (aW_one _ _) ?_)
          exact ret_row rfl _ _ _ _ _ rfl rfl (HZ.out.row _) Try.underlying75 rfl (size8 _) ⟨rfl, below_setRow HB.out (by omega) _⟩
end Go.Proofs.Ytgmehiidnclgmaa
