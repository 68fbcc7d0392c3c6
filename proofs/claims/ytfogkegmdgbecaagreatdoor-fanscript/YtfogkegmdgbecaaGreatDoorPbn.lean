/- Texts laid into one, cut to what is needed: the remark ahead of each part says what is proved there. -/
import Derived.Test.YtfogkegmdgbecaaGreatDoorPbm
/- The walk of FanScript. -/
namespace Go.Proofs.YtfogkegmdgbecaaGreatDoor
open Go Go.RowKit Go.Shelf

theorem acs_at {w : World} {b o : Nat} {l : List AcV} (h : ∀ i, i < l.length → ∀ j, j < 11 → w.cell? ⟨b, o + i * 11 + j, none⟩ = (l.getD i default).cs[j]?) {i : Nat} (hi : i < l.length) : ∀ wr, Below w.heap.size w wr → ∀ j, j < 11 → wr.cell? ⟨b, o + i * 11 + j, none⟩ = (l.getD i default).cs[j]? := fun wr hb j hj => by
 have hl : b < w.heap.size := cell_lt' (a := ⟨b, o + i * 11 + j, none⟩) (by rw [h i hi j hj, Array.getElem?_eq_getElem (by exact hj)]; simp)
 exact (World.cell?_of_block (hb.block b hl)).trans (h i hi j hj)
theorem box_new (W : World) : (W.alloc (.cells #[.slice none 0 0, .slice none 0 0] 26)).cell? ⟨W.heap.size, 0, none⟩ = some (.slice none 0 0) ∧ (W.alloc (.cells #[.slice none 0 0, .slice none 0 0] 26)).cell? ⟨W.heap.size, 1, none⟩ = some (.slice none 0 0) ∧ (W.alloc (.cells #[.slice none 0 0, .slice none 0 0] 26)).frozen? ⟨W.heap.size, 0, none⟩ = false ∧ (W.alloc (.cells #[.slice none 0 0, .slice none 0 0] 26)).frozen? ⟨W.heap.size, 1, none⟩ = false :=
 have h := CAt.made W #[.slice none 0 0, .slice none 0 0] 26
 ⟨h.cell 0, h.cell 1, h.free 0, h.free 1⟩
set_option maxHeartbeats 8000000 in
set_option maxRecDepth 100000 in
theorem script_main (n : Nat) (hn : n ≤ 18) (size : Int) (hs : size ≤ 100000 ∨ 67108864 < size) (po : Option Addr) (c : Nat) (l : List AcV) (w : World) (hE : Erh w) (hl : l.length ≤ 30) (hc : l = [] ∨ ∃ b o, po = some ⟨b, o, none⟩ ∧ ∀ i, i < l.length → ∀ j, j < 11 → w.cell? ⟨b, o + i * 11 + j, none⟩ = (l.getD i default).cs[j]?) (ho : ∀ x ∈ l, x.ok w) :
  Calls Tryz.prog 3 #[.int .i64 (n : Int), .int .i64 size, .slice po l.length c] w fun e w' => e = .returned (.bool true) ∧ Below w.heap.size w w' := by
 have HD := hid (drives10_any w w (Below.refl _ _) n hn size)
 have HAC : Hid (∀ i, i < l.length → ∃ b o, po = some ⟨b, o, none⟩ ∧ ∀ wr, Below w.heap.size w wr → ∀ j, j < 11 → wr.cell? ⟨b, o + i * 11 + j, none⟩ = (l.getD i default).cs[j]?) := hid (fun i hi => by
  rcases hc with h0 | ⟨b, o, h1, h2⟩
  ·rw [h0] at hi; exact absurd hi (Nat.not_lt_zero _)
  ·exact ⟨b, o, h1, acs_at h2 hi⟩)
 have HOK : Hid (∀ i, i < l.length → (l.getD i default).ok w) := hid (fun i hi => ho _ (by rw [getD_in _ _ _ hi]; exact List.getElem_mem hi))
 have HE := hid hE
 have HN := hid hn
 have h0 : ¬ ((n : Int) < 0) := by omega
 have h1 : ¬ ((18 : Int) < (n : Int)) := by omega
 have h2 : ¬ ((30 : Int) < (l.length : Int)) := by omega
 have HLL := hid hl
 clear hc ho hE hl hn
 have hsz : ¬ (100000 < size) ∨ (100000 < size ∧ ¬ size ≤ 67108864) := by omega
 clear hs
 rcases hsz with d1 | ⟨d1, d2⟩
 all_goals
  go_enter Tryz.func3, Tryz.ntmps3
  go_wp2_with (go_at_call 4; refine HD.out.mono ?_; rintro e w2 ⟨k, p, q, dv, wv, sz, rfl, hk, hfy, hbw⟩; have HKN := hid (Nat.le_trans hk HN.out); obtain ⟨dp, dc, hdv⟩ := hfy.dls.form; obtain ⟨wp, wc, hwv⟩ := hfy.wls.form; subst hdv hwv; have HL0 := hid (LoF.start hfy); obtain ⟨z0, z1, f0, f1⟩ := box_new w2; clear hk hfy hbw)
  clear HD HN
  generalize hbx : w2.heap.size = bx at *
  clear z0 z1 f0 f1
  generalize w2.alloc (.cells #[.slice dp k dc, .slice wp k wc] 26) = w3 at *
  clear hbx
  go_loopg [9] l.length (fun gg v wr => ∃ i : Nat, i ≤ l.length ∧ l.length - i ≤ gg ∧ v = .int .i64 (i : Int) ∧ LoF w k p q bx (.slice dp k dc) (.slice wp k wc) (i * 320) wr)
  case atStart => exact ⟨0, Nat.zero_le _, by omega, rfl, HL0.out⟩
  case round =>
   clear HL0
   obtain ⟨i, hi, hgg, rfl, hlo⟩ := hrel
   have HLO := hid hlo
   clear hlo
   by_cases hlt : i < l.length
   ·have hlt' : (i : Int) < (l.length : Int) := by omega
    have hi2 : (i : Int) < 1000 := by have := HLL.out; omega
    have hi3 : i ≤ 30 := by have := HLL.out; omega
    obtain ⟨ba, oa, hp, hcl⟩ := HAC.out i hlt
    subst hp
    have hxo := HOK.out i hlt
    have HCL := hid hcl
    clear hcl HAC HOK
    generalize l.getD i default = x at *
    have HLG := hid (fun W (h : LoF w k p q bx (.slice dp k dc) (.slice wp k wc) (i * 320) W) => h.large x hxo)
    have HCA := hid (fun (hS : AcS x) W (h : LoF w k p q bx (.slice dp k dc) (.slice wp k wc) (i * 320) W) => h.call HKN.out HE.out (by omega) x hxo hS)
    have HHA := hid (fun (hS : AcS x) W (h : LoF w k p q bx (.slice dp k dc) (.slice wp k wc) (i * 320 + 64) W) => h.happens HKN.out (by omega) x hxo hS)
    have HTA := hid (fun W (h : LoF w k p q bx (.slice dp k dc) (.slice wp k wc) (i * 320 + 64 + 256) W) => h.told HKN.out (by omega))
    have HNX : Hid (∀ W, LoF w k p q bx (.slice dp k dc) (.slice wp k wc) (i * 320 + 64 + 256) W → LoF w k p q bx (.slice dp k dc) (.slice wp k wc) ((i + 1) * 320) W) := hid (fun W h => by rw [show (i + 1) * 320 = i * 320 + 64 + 256 by omega]; exact h)
    have hnx2 : Hid (∀ m W, LoF w k p q bx (.slice dp k dc) (.slice wp k wc) m W → Below w.heap.size w W) := hid (fun m W h => h.be)
    have HSI : Hid (∀ m W', LoF w k p q bx (.slice dp k dc) (.slice wp k wc) m W' → W'.cell? ⟨bx, 0, none⟩ = some (.slice dp k dc) ∧ W'.cell? ⟨bx, 1, none⟩ = some (.slice wp k wc) ∧ ∀ j, j < 11 → W'.cell? ⟨ba, oa + i * 11 + j, none⟩ = x.cs[j]?) := hid (fun m W' h => ⟨h.ca.cell 0, h.ca.cell 1, HCL.out W' h.be⟩)
    clear HCL hxo HE HKN
    obtain ⟨kd, wh, nn, at_, a, bp, bc, b, ⟨fpo, fc, rows⟩, np, nc, ns, is, m, kp, kc, ks⟩ := x
    dsimp only [AcV.v, AcV.cs, FsV.v] at *
    have HSJ : Hid (∀ m' W', LoF w k p q bx (.slice dp k dc) (.slice wp k wc) m' W' → W'.cell? ⟨bx, 0, none⟩ = some (.slice dp k dc) ∧ W'.cell? ⟨bx, 1, none⟩ = some (.slice wp k wc) ∧ W'.cell? ⟨ba, oa + i * 11, none⟩ = some (.int .i64 kd) ∧ W'.cell? ⟨ba, oa + i * 11 + 1, none⟩ = some (.int .i64 wh) ∧ W'.cell? ⟨ba, oa + i * 11 + 2, none⟩ = some (.int .i64 nn) ∧ W'.cell? ⟨ba, oa + i * 11 + 3, none⟩ = some (.int .i64 at_) ∧ W'.cell? ⟨ba, oa + i * 11 + 4, none⟩ = some (sv a) ∧ W'.cell? ⟨ba, oa + i * 11 + 5, none⟩ = some (.slice bp b.length bc) ∧ W'.cell? ⟨ba, oa + i * 11 + 6, none⟩ = some (.slice fpo rows.length fc) ∧ W'.cell? ⟨ba, oa + i * 11 + 7, none⟩ = some (.slice np ns.length nc) ∧ W'.cell? ⟨ba, oa + i * 11 + 8, none⟩ = some (.bool is) ∧ W'.cell? ⟨ba, oa + i * 11 + 9, none⟩ = some (.int .u8 (m : Int)) ∧ W'.cell? ⟨ba, oa + i * 11 + 10, none⟩ = some (.slice kp ks.length kc)) := hid (fun m' W' h => by
     obtain ⟨q0, q1, q2⟩ := HSI.out m' W' h
     exact ⟨q0, q1, q2 0 (by decide), q2 1 (by decide), q2 2 (by decide), q2 3 (by decide), q2 4 (by decide), q2 5 (by decide), q2 6 (by decide), q2 7 (by decide), q2 8 (by decide), q2 9 (by decide), q2 10 (by decide)⟩)
    obtain ⟨z0, z1, x0, x1, x2, x3, x4, x5, x6, x7, x8, x9, x10⟩ := HSJ.out _ wr HLO.out
    clear HSI
    go_wp2_with (go_at_call 5; refine (HLG.out _ HLO.out).mono ?_; rintro e w4 ⟨r, rfl, hl4, hs4⟩; have HLO := hid hl4; have HS4 := hid hs4; have HC := hid (HSJ.out _ w4 hl4); clear hl4 hs4 x0 x1 x2 x3 x4 x5 x6 x7 x8 x9 x10 z0 z1)
    ·have HB := hid (hnx2.out _ _ HLO.out)
     clear HLG HCA HHA HTA HNX HSJ hnx2 HC HS4
     go_ret
     exact ⟨rfl, HB.out⟩
    ·have hr : r = false := by assumption
     have hS := HS4.out hr
     have H1 := hid (HCA.out hS)
     have H2 := hid (HHA.out hS)
     clear HCA HHA HLG HS4 hS
     go_region_held3 (fun w' => w'.cell? ⟨bx, 0, none⟩ = some (.slice dp k dc) ∧ w'.cell? ⟨bx, 1, none⟩ = some (.slice wp k wc) ∧ w'.cell? ⟨ba, oa + i * 11, none⟩ = some (.int .i64 kd) ∧ w'.cell? ⟨ba, oa + i * 11 + 1, none⟩ = some (.int .i64 wh) ∧ w'.cell? ⟨ba, oa + i * 11 + 2, none⟩ = some (.int .i64 nn) ∧ w'.cell? ⟨ba, oa + i * 11 + 3, none⟩ = some (.int .i64 at_) ∧ w'.cell? ⟨ba, oa + i * 11 + 4, none⟩ = some (sv a) ∧ w'.cell? ⟨ba, oa + i * 11 + 5, none⟩ = some (.slice bp b.length bc) ∧ w'.cell? ⟨ba, oa + i * 11 + 6, none⟩ = some (.slice fpo rows.length fc) ∧ w'.cell? ⟨ba, oa + i * 11 + 7, none⟩ = some (.slice np ns.length nc) ∧ w'.cell? ⟨ba, oa + i * 11 + 8, none⟩ = some (.bool is) ∧ w'.cell? ⟨ba, oa + i * 11 + 9, none⟩ = some (.int .u8 (m : Int)) ∧ w'.cell? ⟨ba, oa + i * 11 + 10, none⟩ = some (.slice kp ks.length kc)) (exact HC.out) (first
      | (go_at_call 6; (first | refine (H1.out _ (HLO.out.below (below_drewN _ _))).mono ?_ | refine (H1.out _ HLO.out).mono ?_); rintro e w5 ⟨rfl, hl5⟩; have HLP := hid hl5; have HC := hid (HSJ.out _ w5 hl5); clear hl5)
      | (go_at_call 7; (first | refine (H2.out _ (HLP.out.below (below_drewN _ _))).mono ?_ | refine (H2.out _ HLP.out).mono ?_); rintro e w6 ⟨rfl, hl6⟩; have HLQ := hid hl6; have HC := hid (HSJ.out _ w6 hl6); clear hl6)
      | (go_at_call 8; (first | refine (HTA.out _ (HLQ.out.below (below_drewN _ _))).mono ?_ | refine (HTA.out _ HLQ.out).mono ?_); rintro e w7 ⟨rfl, hl7⟩; have HLR := hid hl7; have HC := hid (HSJ.out _ w7 hl7); clear hl7))
     clear H1 H2 HTA HSJ HC
     go_wp2
     go_roundg (l.length - (i + 1))
     case measure => omega
     case rel => exact ⟨i + 1, by omega, by omega, by go_num, HNX.out _ (by first | exact HLR.out | exact HLR.out.below (below_drewN _ _))⟩
   ·have hlt' : ¬ (i : Int) < (l.length : Int) := by omega
    have HB := hid HLO.out.be
    clear HLO HAC HOK HE HKN
    go_wp2
    go_ret
    exact ⟨rfl, HB.out⟩
set_option maxHeartbeats 4000000 in
set_option maxRecDepth 100000 in
theorem script_low10 (n size : Int) (po : Option Addr) (c m : Nat) (w : World) (h : n < 0) :
  Calls Tryz.prog 3 #[.int .i64 n, .int .i64 size, .slice po m c] w fun e w' => e = .returned (.bool true) ∧ Below w.heap.size w w' := by
 go_enter Tryz.func3, Tryz.ntmps3
 go_wp2
 go_ret
 exact ⟨rfl, Below.refl _ _⟩
set_option maxHeartbeats 4000000 in
set_option maxRecDepth 100000 in
theorem script_many10 (n size : Int) (po : Option Addr) (c m : Nat) (w : World) (h : ¬ n < 0) (h1 : 18 < n) :
  Calls Tryz.prog 3 #[.int .i64 n, .int .i64 size, .slice po m c] w fun e w' => e = .returned (.bool true) ∧ Below w.heap.size w w' := by
 go_enter Tryz.func3, Tryz.ntmps3
 go_wp2
 go_ret
 exact ⟨rfl, Below.refl _ _⟩
set_option maxHeartbeats 4000000 in
set_option maxRecDepth 100000 in
theorem script_long10 (n size : Int) (po : Option Addr) (c m : Nat) (w : World) (h : ¬ n < 0) (h1 : ¬ 18 < n) (h2 : (30 : Int) < (m : Int)) :
  Calls Tryz.prog 3 #[.int .i64 n, .int .i64 size, .slice po m c] w fun e w' => e = .returned (.bool true) ∧ Below w.heap.size w w' := by
 go_enter Tryz.func3, Tryz.ntmps3
 go_wp2
 go_ret
 exact ⟨rfl, Below.refl _ _⟩
set_option maxHeartbeats 4000000 in
set_option maxRecDepth 100000 in
theorem script_size10 (n size : Int) (po : Option Addr) (c m : Nat) (w : World) (h : ¬ n < 0) (h1 : ¬ 18 < n) (h2 : ¬ (30 : Int) < (m : Int)) (h3 : 100000 < size) (h4 : size ≤ 67108864) :
  Calls Tryz.prog 3 #[.int .i64 n, .int .i64 size, .slice po m c] w fun e w' => e = .returned (.bool true) ∧ Below w.heap.size w w' := by
 go_enter Tryz.func3, Tryz.ntmps3
 go_wp2
 go_ret
 exact ⟨rfl, Below.refl _ _⟩
theorem fanScript_walk (n size : Int) (v : Value) (l : List AcV) (w : World) (hE : Erh w) (hA : IsAs w v l) :
  Calls Tryz.prog 3 #[.int .i64 n, .int .i64 size, v] w fun e w' => e = .returned (.bool true) ∧ Below w.heap.size w w' := by
 obtain ⟨po, c, rfl, _, hc, ho⟩ := hA
 by_cases h : n < 0
 ·exact script_low10 n size po c l.length w h
 by_cases h1 : 18 < n
 ·exact script_many10 n size po c l.length w h h1
 by_cases h2 : (30 : Int) < (l.length : Int)
 ·exact script_long10 n size po c l.length w h h1 h2
 by_cases h3 : 100000 < size ∧ size ≤ 67108864
 ·exact script_size10 n size po c l.length w h h1 h2 h3.1 h3.2
 obtain ⟨k, rfl⟩ : ∃ k : Nat, n = (k : Int) := ⟨n.toNat, by omega⟩
 exact script_main k (by omega) size (by omega) po c l w hE (by omega) hc ho
end Go.Proofs.YtfogkegmdgbecaaGreatDoor
