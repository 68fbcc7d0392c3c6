/- The walk of MatrixAny: any k unlike rows of the code of k and m have an inverse, for any k and m and any choice of rows. No conditions. -/
import Derived.Test.YtefbhggakepmhaaNc
namespace Go.Proofs.Ytefbhggakepmhaa
open Go.RowKit

theorem size34 (w : World) : (sizeOf (Try.prog.elem 34)).run Try.prog w = .ok 1 w := by
  obtain ⟨i0, hi0, hz0, hz1, hz2⟩ := info_parts Try.info3
  rw [show Try.prog.elem 34 = 3 by kernel_rfl]
  simp [sizeOf, typeInfo, hi0, hz1]
theorem under34 : Try.prog.underlying 34 = some (.slice (Try.prog.elem 34)) := by kernel_rfl
theorem run_sl_hi (gl n cL nn : Nat) (h : nn ≤ cL) (w : World) : (Instr.slice 34 (.slice (some ⟨gl, 0, none⟩) n cL) none (some (.int .i64 (nn : Int))) none).run Try.prog w = .ok (.slice (some ⟨gl, 0, none⟩) nn cL) w := by
  rw [run_slice_h (P := Try.prog) w 34 (some ⟨gl, 0, none⟩) n cL under34 .i64 (nn : Int) (by omega) (by omega), size34]
  simp [Result.andThen, sliced, Addr.add]
theorem run_sl_lo (gl n cL nn : Nat) (h : nn + 1 ≤ n) : ∃ ad : Addr, (∀ w : World, (Instr.slice 34 (.slice (some ⟨gl, 0, none⟩) n cL) (some (.int .i64 ((nn : Int) + 1))) none none).run Try.prog w = .ok (.slice (some ad) (n - (nn + 1)) (cL - (nn + 1))) w) ∧ (cL ≠ nn + 1 → ad = ⟨gl, nn + 1, none⟩) := by
  by_cases e : cL = nn + 1
  · refine ⟨⟨gl, 0, none⟩, fun w => ?_, fun q => absurd e q⟩
    rw [run_slice_l (P := Try.prog) w 34 (some ⟨gl, 0, none⟩) n cL under34 .i64 ((nn : Int) + 1) (by omega) (by omega), size34]
    simp [Result.andThen, sliced, e, show ((nn : Int) + 1).toNat = nn + 1 by omega]
  · refine ⟨⟨gl, nn + 1, none⟩, fun w => ?_, fun _ => rfl⟩
    rw [run_slice_l (P := Try.prog) w 34 (some ⟨gl, 0, none⟩) n cL under34 .i64 ((nn : Int) + 1) (by omega) (by omega), size34]
    simp [Result.andThen, sliced, e, show ((nn : Int) + 1).toNat = nn + 1 by omega, Addr.add]
/-- What the append onto the rows leaves of either list. -/
theorem any_push {B gl cL g5 cap5 x : Nat} {w2 wr w5 : World} {l r : List Nat} {vR : Value} {o : Obj} (hL : wr.ownsRow B 3 1 (.slice (some ⟨gl, 0, none⟩) l.length cL) l.length (pivV l)) (hR : wr.ownsRow B 3 1 vR r.length (pivV r))
    (hap : ∀ b, (Value.slice (some ⟨gl, 0, none⟩) l.length cL).ownBlock = some b → vR.ownBlock ≠ some b) (hb : Below B w2 wr)
    (hown : w5.ownsRow B 3 1 (.slice (some ⟨g5, 0, none⟩) (r.length + 1) cap5) (r.length + 1) (pivV r ++ [.int .i64 ((x : Nat) : Int)])) (hgrow : (wr.alloc o).grownBy w5 vR.ownBlock) (hat : vR.ownBlock = some g5 ∨ g5 = (wr.alloc o).heap.size) :
    Hid (w5.ownsRow B 3 1 (.slice (some ⟨gl, 0, none⟩) l.length cL) l.length (pivV l)) ∧ Hid (w5.ownsRow B 3 1 (.slice (some ⟨g5, 0, none⟩) (r.length + 1) cap5) (r.length + 1) (pivV (r ++ [x]))) ∧ Hid (Below B w2 w5) ∧ Hid (gl ≠ g5) := by
  have hg := own_ge (hL.alloc o)
  have hg' := own_ge hL
  have hsz : B ≤ wr.heap.size := by omega
  have hz : (wr.alloc o).heap.size = wr.heap.size + 1 := by simp
  refine ⟨own_keep (hL.alloc o) (hgrow.block gl hg.2 (fun q => hap gl rfl q.symm)), ?_, ?_, ?_⟩
  · show w5.ownsRow B 3 1 _ (r.length + 1) (pivV (r ++ [x]))
    rw [pivV_append]; exact hown
  · exact Below.grown (hb.alloc hsz o) hgrow (by omega) (fun b q => (hR.lt b q).1)
  · show gl ≠ g5
    intro q
    rcases hat with h | h
    · exact hap gl rfl (by rw [q]; exact h)
    · omega

/-- The list that is left, behind the first of the two appends. -/
theorem any_keep {B gl cL : Nat} {w5 w6 : World} {l : List Nat} (hL : w5.ownsRow B 3 1 (.slice (some ⟨gl, 0, none⟩) l.length cL) l.length (pivV l)) (hg : (w5.alloc (.cells #[] 3)).drew.grownBy w6 (some w5.heap.size)) :
    w6.ownsRow B 3 1 (.slice (some ⟨gl, 0, none⟩) l.length cL) l.length (pivV l) := by
  have h := own_ge hL
  have h2 : (w5.alloc (.cells #[] 3)).drew.ownsRow B 3 1 (.slice (some ⟨gl, 0, none⟩) l.length cL) l.length (pivV l) := (hL.alloc (.cells #[] 3)).drew
  have hz : (w5.alloc (.cells #[] 3)).drew.heap.size = w5.heap.size + 1 := by simp
  exact own_keep h2 (hg.block gl (by omega) (fun q => by cases q; omega))
theorem any_news {B gl cL nn : Nat} {w6 : World} {l : List Nat} {ad : Addr} (hL : w6.ownsRow B 3 1 (.slice (some ⟨gl, 0, none⟩) l.length cL) l.length (pivV l)) (had : cL ≠ nn + 1 → ad = ⟨gl, nn + 1, none⟩) :
    ∀ j u, (pivV (l.drop (nn + 1)))[j]? = some u → w6.cell? (ad.add j) = some u := by
  have hle := own_le hL
  by_cases e : cL = nn + 1
  · have h0 : l.drop (nn + 1) = [] := List.drop_eq_nil_of_le (by omega)
    rw [h0]; intro j u h; cases h
  · rw [had e]; exact pivV_part hL (nn + 1) _ (part_drop l (nn + 1))
theorem any_left {B g5 cap5 nn N : Nat} {w2 w5 w6 w7 : World} {l r : List Nat} {v6 v7 : Value} (hR : w5.ownsRow B 3 1 (.slice (some ⟨g5, 0, none⟩) N cap5) N (pivV r)) (hb : Below B w2 w5) (hsz : B ≤ w5.heap.size) (hnn : nn < l.length)
    (hg6 : (w5.alloc (.cells #[] 3)).drew.grownBy w6 (some w5.heap.size)) (hat6 : v6.ownBlock = some w5.heap.size ∨ v6.ownBlock = some (w5.alloc (.cells #[] 3)).drew.heap.size)
    (hown7 : w7.ownsRow B 3 1 v7 (0 + nn + (l.length - (nn + 1))) ([] ++ pivV (l.take nn) ++ pivV (l.drop (nn + 1)))) (hg7 : w6.grownBy w7 v6.ownBlock) (hat7 : v7.ownBlock = v6.ownBlock ∨ v7.ownBlock = some w6.heap.size) :
    Hid (w7.ownsRow B 3 1 v7 (l.take nn ++ l.drop (nn + 1)).length (pivV (l.take nn ++ l.drop (nn + 1)))) ∧ Hid (w7.ownsRow B 3 1 (.slice (some ⟨g5, 0, none⟩) N cap5) N (pivV r)) ∧ Hid (∀ b, v7.ownBlock = some b → (Value.slice (some ⟨g5, 0, none⟩) N cap5).ownBlock ≠ some b) ∧ Hid (Below B w2 w7) := by
  have hg5 := own_ge hR
  have hz : (w5.alloc (.cells #[] 3)).drew.heap.size = w5.heap.size + 1 := by simp
  rw [hz] at hat6
  have hs6 := hg6.size
  have h6 : ∀ b, v6.ownBlock = some b → w5.heap.size ≤ b := fun b q => by
    rcases hat6 with h | h
    · rw [h] at q; cases q; omega
    · rw [h] at q; cases q; omega
  have h7 : ∀ b, v7.ownBlock = some b → w5.heap.size ≤ b := fun b q => by
    rcases hat7 with h | h
    · rw [h] at q; exact h6 b q
    · rw [h] at q; cases q; omega
  have r6 : w6.ownsRow B 3 1 (.slice (some ⟨g5, 0, none⟩) N cap5) N (pivV r) :=
    own_keep (hR.alloc (.cells #[] 3)).drew (hg6.block g5 (by omega) (fun q => by cases q; omega))
  refine ⟨?_, own_keep r6 (hg7.block g5 (by omega) (fun q => by have := h6 g5 q.symm; omega)), (fun b q e => by cases e; have := h7 g5 q; omega), ?_⟩
  · show w7.ownsRow B 3 1 v7 _ _
    have e : (l.take nn ++ l.drop (nn + 1)).length = 0 + nn + (l.length - (nn + 1)) := by simp only [List.length_append, List.length_take, List.length_drop]; omega
    rw [e, pivV_append]; exact hown7
  · exact Below.grown (Below.grown (hb.alloc hsz (.cells #[] 3)).drew hg6 (by omega) (fun b q => by cases q; omega)) hg7 (by omega) (fun b q => by have := h6 b q; omega)

set_option maxRecDepth 100000 in
set_option maxHeartbeats 8000000 in
theorem any_ok (k m : Nat) (q : Option Addr) (nc cc : Nat) (R : Nat → Int) (w : World) (h0 : 1 ≤ k) (h1 : 1 ≤ m) (h : k + m ≤ 16) (hnc : nc ≤ 100) (hR : IntsAt w q nc R) :
    Calls Try.prog 8 #[.int .i64 k, .int .i64 m, .slice q nc cc] w fun e w' => e = .returned (.bool true) ∧ Below w.heap.size w w' := by
  obtain ⟨i0, hi0, hz0, hz1, hz2⟩ := info_parts Try.info3
  have I0 := hid hR
  clear hR
  go_enter Try.func8, Try.ntmps8
  go_wp2_with fail
  refine (known_any w).mono ?_
  rintro e w1 ⟨rfl, hb1⟩
  have B1 := hid hb1
  have I1 := hid (I0.out.keep (Stays.of_below hb1))
  clear hb1 I0
  go_wp2_with fail
  refine (code_any k m w1 h0 h1 h).mono ?_
  rintro e w2 ⟨gC, cC, GC, QC, rfl, hmC, hb2⟩
  have B2 := hid (B1.out.then hb2)
  have I2 := hid (I1.out.keep (Stays.of_below hb2))
  have MC := hid hmC
  clear hb2 hmC I1 B1
  have hne : (((k : Int) + (m : Int)) != ((k : Int) + (m : Int))) = false := by simp
  go_wp2_with fail
  go_loopw [10, 12] (fun v x wr => ∃ i : Nat, i ≤ k + m ∧ x = .int .i64 i ∧ wr.ownsRow w2.heap.size 3 1 v i (pivV (List.range i)) ∧ Below w2.heap.size w2 wr) (fun _ x _ => ((k + m : Nat) - intOf x).toNat)
  case atStart => exact ⟨0, by omega, rfl, World.ownsRow_nil _ _ _ _, Below.refl _ _⟩
  case round =>
    obtain ⟨i, hi, rfl, hv, hb⟩ := hrel
    by_cases hlt : i < k + m
    · have HV := hid hv
      have HB := hid hb
      have hsz := hb.size
      have HN : Hid (∀ q u, [Value.int .i64 ((i : Nat) : Int)][q]? = some u → (wr.alloc (.cells #[.int .i64 ((i : Nat) : Int)] 3)).cell? ((⟨wr.heap.size, 0, none⟩ : Addr).add q) = some u) :=
        World.news_of_block (cs := #[.int .i64 ((i : Nat) : Int)]) (t := 3) (fr := (0, 0)) (heap_alloc_new _ _)
      clear hv hb
      go_wp2_with (at_builtin; refine wpList_append_lies _ rfl _ _ 34 rfl w2.heap.size 3 i0 (.int .i64 0) 1 8 Try.underlying34 hi0 hz0 hz1 hz2 rfl (by omega) u10 i (pivV (List.range i)) rfl (HV.out.alloc _) ⟨wr.heap.size, 0, none⟩ 1 1 [.int .i64 ((i : Nat) : Int)] rfl rfl HN.out (by intro u hu; simp at hu; subst hu; rfl) (by omega) (by unfold maxLen; omega) (by omega) (by simp; omega) _ rfl ?_; intro gg cap w4 hown4 hgrow hat hlt4)
      have HX : Hid (w4.ownsRow w2.heap.size 3 1 (.slice (some ⟨gg, 0, none⟩) (i + 1) cap) (i + 1) (pivV (List.range (i + 1)))) := by
        rw [List.range_succ, pivV_append]; exact hown4
      have HBX : Hid (Below w2.heap.size w2 w4) := Below.grown (HB.out.alloc hsz _) hgrow (by simp; omega) (fun b hb => (HV.out.lt b hb).1)
      clear hown4 hgrow hat hlt4 HN HV HB
      go_wp2
      go_roundw
      case rel => exact ⟨i + 1, by omega, by go_num, HX.out, HBX.out⟩
      case measure => simp [intOf]; omega
    · have e : i = k + m := by omega
      have HV := hid hv
      have HB := hid hb
      have E := hid e
      clear hv hb e
      go_wp2_with fail
      go_loopw [10, 11, 13] (fun vL vR x wr => ∃ (i : Nat) (l r : List Nat), i ≤ k ∧ x = .int .i64 i ∧ Parts (k + m) i l r ∧ wr.ownsRow w2.heap.size 3 1 vL l.length (pivV l) ∧ wr.ownsRow w2.heap.size 3 1 vR r.length (pivV r) ∧ (∀ b, vL.ownBlock = some b → vR.ownBlock ≠ some b) ∧ Below w2.heap.size w2 wr) (fun _ _ x _ => ((k : Nat) - intOf x).toNat)
      case atStart => exact ⟨0, List.range (k + m), [], by omega, rfl, Parts.start _, by rw [List.length_range, ← E.out]; exact HV.out, World.ownsRow_nil _ _ _ _, (fun b _ q => by cases q), HB.out⟩
      case round =>
        clear HV HB E hlt hi
        obtain ⟨j, l, r, hj, rfl, hp, hL, hRr, hap, hb⟩ := hrel
        have HP := hid hp
        have hlen := hp.len
        have hrl : r.length ≤ 16 := by have := hp.taken; omega
        have TK := hid hp.taken
        have hsz := hb.size
        have HB := hid hb
        have HR := hid hRr
        have HAP := hid hap
        by_cases hlt : j < k
        · obtain ⟨gl, cL, rfl, _, _⟩ := hL.form (by omega)
          have HL := hid hL
          clear hp hL hRr hap
          by_cases hch : j < nc
          · obtain ⟨bq, oq, rfl, hcq⟩ := I2.out.pos (by omega)
            have c1 := Stays.of_below hb _ _ (hcq j hch)
            clear hcq hb
            go_wp2_with fail
            refine (kitPick_any (R j) l.length wr (by omega) (by omega)).mono ?_
            rintro e w' ⟨⟨nn, hnn, rfl⟩, hw⟩
            have hw2 := hw.symm
            subst hw2
            clear hw c1
            have c2 := pivV_cell HL.out nn hnn rfl
            have HN : Hid (∀ q u, [Value.int .i64 ((pl l nn : Nat) : Int)][q]? = some u → (wr.alloc (.cells #[.int .i64 ((pl l nn : Nat) : Int)] 3)).cell? ((⟨wr.heap.size, 0, none⟩ : Addr).add q) = some u) :=
              World.news_of_block (cs := #[.int .i64 ((pl l nn : Nat) : Int)]) (t := 3) (fr := (0, 0)) (heap_alloc_new _ _)
            go_wp2_with (at_builtin; refine wpList_append_lies _ rfl (.tmp 81) (.tmp 86) 34 rfl w2.heap.size 3 i0 (.int .i64 0) 1 8 Try.underlying34 hi0 hz0 hz1 hz2 rfl (by omega) u11 r.length (pivV r) rfl (HR.out.alloc _) ⟨wr.heap.size, 0, none⟩ 1 1 [.int .i64 ((pl l nn : Nat) : Int)] rfl rfl HN.out (by intro u hu; simp at hu; subst hu; rfl) (by omega) (by unfold maxLen; omega) (by omega) (by simp; omega) _ rfl ?_; intro g5 cap5 w5 hown5 hgrow5 hat5 hlt5)
            obtain ⟨HL5, HR5, HB5, HA5⟩ := any_push HL.out HR.out HAP.out HB.out hown5 hgrow5 hat5
            have hsz5 := HB5.out.size
            have HO0 := hid (World.ownsRow_lit (base := w2.heap.size) (e := 3) (size := 1) w5 #[] 0 hsz5 (by unfold maxLen; omega) rfl)
            have HP1 := hid (pivV_part (HL5.out.alloc (.cells #[] 3)) 0 (l.take nn) (part_take l nn (by omega)))
            have hcl := own_le HL.out
            have hs1 := run_sl_hi gl l.length cL nn (by omega)
            obtain ⟨ad2, hs2, had2⟩ := run_sl_lo gl l.length cL nn (by omega)
            have HAD := hid had2
            have hw1 : IntKind.i64.wrap ((nn : Int) + 1) = (nn : Int) + 1 := by rw [IntKind.wrap_i64]; omega
            clear hown5 hgrow5 hat5 hlt5 HN c2 had2
            go_wp2_with fail
            go_region_held3 (fun w' => True) (trivial) (first | (refine step_append_at (by rfl) (.tmp 92) (.tmp 96) 34 (by rfl) w2.heap.size 3 i0 (.int .i64 0) 8 Try.underlying34 hi0 hz0 hz1 hz2 rfl v6 (0 + nn) ([] ++ pivV (l.take nn)) (by rfl) (by exact hown6) ad2 (l.length - (nn + 1)) (cL - (nn + 1)) (pivV (l.drop (nn + 1))) (by rfl) (by rw [pivV_len, List.length_drop]; omega) (by exact any_news (any_keep HL5.out hgrow6) HAD.out) (pivV_one _) (by unfold maxLen; omega) (by omega) (by have := hgrow6.size; simp at this; omega) ?_; intro v7 w7 hown7 hgrow7 hat7) | (refine step_append_at (by rfl) (.tmp 88) (.tmp 91) 34 (by rfl) w2.heap.size 3 i0 (.int .i64 0) 8 Try.underlying34 hi0 hz0 hz1 hz2 rfl (.slice (some ⟨w5.heap.size, 0, none⟩) 0 0) 0 [] (by rfl) (HO0.out.drew) ⟨gl, 0, none⟩ nn cL (pivV (l.take nn)) (by rfl) (by rw [pivV_len, List.length_take]; omega) (by exact HP1.out) (pivV_one _) (by unfold maxLen; omega) (by omega) (by simp; omega) ?_; intro v6 w6 hown6 hgrow6 hat6))
            obtain ⟨HL7, HR7, HA7, HB7⟩ := any_left HR5.out HB5.out hsz5 hnn hgrow6 hat6 hown7 hgrow7 hat7
            have HPN := hid (HP.out.next nn hnn)
            clear hown6 hgrow6 hat6 hown7 hgrow7 hat7 hs1 hs2
            go_wp2
            go_roundw
            case rel => exact ⟨j + 1, _, _, by omega, by go_num, HPN.out, HL7.out, by rw [show (r ++ [pl l nn]).length = r.length + 1 by simp]; exact HR7.out, HA7.out, HB7.out⟩
            case measure => simp [intOf]; omega

          · have hnn : 0 < l.length := by omega
            clear hb
            have c2 := pivV_cell HL.out 0 hnn rfl
            have HN : Hid (∀ q u, [Value.int .i64 ((pl l 0 : Nat) : Int)][q]? = some u → (wr.alloc (.cells #[.int .i64 ((pl l 0 : Nat) : Int)] 3)).cell? ((⟨wr.heap.size, 0, none⟩ : Addr).add q) = some u) :=
              World.news_of_block (cs := #[.int .i64 ((pl l 0 : Nat) : Int)]) (t := 3) (fr := (0, 0)) (heap_alloc_new _ _)
            go_wp2_with (at_builtin; refine wpList_append_lies _ rfl (.tmp 81) (.tmp 86) 34 rfl w2.heap.size 3 i0 (.int .i64 0) 1 8 Try.underlying34 hi0 hz0 hz1 hz2 rfl (by omega) u11 r.length (pivV r) rfl (HR.out.alloc _) ⟨wr.heap.size, 0, none⟩ 1 1 [.int .i64 ((pl l 0 : Nat) : Int)] rfl rfl HN.out (by intro u hu; simp at hu; subst hu; rfl) (by omega) (by unfold maxLen; omega) (by omega) (by simp; omega) _ rfl ?_; intro g5 cap5 w5 hown5 hgrow5 hat5 hlt5)
            obtain ⟨HL5, HR5, HB5, HA5⟩ := any_push HL.out HR.out HAP.out HB.out hown5 hgrow5 hat5
            have hsz5 := HB5.out.size
            have HO0 := hid (World.ownsRow_lit (base := w2.heap.size) (e := 3) (size := 1) w5 #[] 0 hsz5 (by unfold maxLen; omega) rfl)
            have HP1 := hid (pivV_part (HL5.out.alloc (.cells #[] 3)) 0 (l.take 0) (part_take l 0 (by omega)))
            have hcl := own_le HL.out
            have hs1 : ∀ w : World, (Instr.slice 34 (.slice (some ⟨gl, 0, none⟩) l.length cL) none (some (.int .i64 0)) none).run Try.prog w = .ok (.slice (some ⟨gl, 0, none⟩) 0 cL) w := fun w => run_sl_hi gl l.length cL 0 (by omega) w
            obtain ⟨ad2, hs2', had2⟩ := run_sl_lo gl l.length cL 0 (by omega)
            have hs2 : ∀ w : World, (Instr.slice 34 (.slice (some ⟨gl, 0, none⟩) l.length cL) (some (.int .i64 1)) none none).run Try.prog w = .ok (.slice (some ad2) (l.length - 1) (cL - 1)) w := fun w => hs2' w
            clear hs2'
            have HAD := hid had2
            have hw1 : IntKind.i64.wrap ((0 : Int) + 1) = 1 := by rw [IntKind.wrap_i64]; rfl
            have hw2 : IntKind.i64.wrap (1 : Int) = 1 := by rw [IntKind.wrap_i64]; rfl
            clear hown5 hgrow5 hat5 hlt5 HN c2 had2
            go_wp2_with fail
            go_region_held3 (fun w' => True) (trivial) (first | (refine step_append_at (by rfl) (.tmp 92) (.tmp 96) 34 (by rfl) w2.heap.size 3 i0 (.int .i64 0) 8 Try.underlying34 hi0 hz0 hz1 hz2 rfl v6 (0 + 0) ([] ++ pivV (l.take 0)) (by rfl) (by exact hown6) ad2 (l.length - 1) (cL - 1) (pivV (l.drop (0 + 1))) (by rfl) (by rw [pivV_len, List.length_drop]; omega) (by exact any_news (any_keep HL5.out hgrow6) HAD.out) (pivV_one _) (by unfold maxLen; omega) (by omega) (by have := hgrow6.size; simp at this; omega) ?_; intro v7 w7 hown7 hgrow7 hat7) | (refine step_append_at (by rfl) (.tmp 88) (.tmp 91) 34 (by rfl) w2.heap.size 3 i0 (.int .i64 0) 8 Try.underlying34 hi0 hz0 hz1 hz2 rfl (.slice (some ⟨w5.heap.size, 0, none⟩) 0 0) 0 [] (by rfl) (HO0.out.drew) ⟨gl, 0, none⟩ 0 cL (pivV (l.take 0)) (by rfl) (by rw [pivV_len, List.length_take]; omega) (by exact HP1.out) (pivV_one _) (by unfold maxLen; omega) (by omega) (by simp; omega) ?_; intro v6 w6 hown6 hgrow6 hat6))
            obtain ⟨HL7, HR7, HA7, HB7⟩ := any_left HR5.out HB5.out hsz5 hnn hgrow6 hat6 hown7 hgrow7 hat7
            have HPN := hid (HP.out.next 0 hnn)
            clear hown6 hgrow6 hat6 hown7 hgrow7 hat7 hs1 hs2
            go_wp2
            go_roundw
            case rel => exact ⟨j + 1, _, _, by omega, by go_num, HPN.out, HL7.out, by rw [show (r ++ [pl l 0]).length = r.length + 1 by simp]; exact HR7.out, HA7.out, HB7.out⟩
            case measure => simp [intOf]; omega
        · have e : j = k := by omega
          subst e
          obtain ⟨gr, cR, rfl, _, _⟩ := hRr.form (by have := TK.out; omega)
          have HL := hid hL
          have MC2 := hid ((MC.out.stay hb).toMat)
          have hR2 : IntsAt wr (some ⟨gr, 0, none⟩) j (fun i => ((pl r i : Nat) : Int)) := .inr ⟨gr, 0, rfl, fun i hi => by
            have ht := TK.out
            rw [Nat.zero_add]
            have hc := hRr.cellAt i (by omega)
            rw [hc, pivV_get r i (by omega)]⟩
          have IR := hid hR2
          clear hp hL hRr hap hb hR2
          go_wp2_with fail
          rw [TK.out]
          refine (pick_rows _ _ (j + m) j cC j cR _ _ (codeX j) (fun i => ((pl r i : Nat) : Int)) wr (by omega) (by omega) (by omega) (by omega) (by omega) (by omega) MC2.out IR.out).mono ?_
          rintro e w3 ⟨hb3, ⟨hf, _⟩ | ⟨_, gp, Gp, Qp, rfl, hmp⟩⟩
          · rw [allIn_true (fun i hi => by have := HP.out.below i hi; unfold inR; omega)] at hf
            cases hf
          have hind : (sw (fun i c => codeX j (pl r i) c) j j).l.length = j := indep_full (code_indep j (fun i => pl r i) (codeX j) (fun _ _ => rfl) (by omega) (fun i hi => by have := HP.out.below i hi; omega) (fun a b ha hb e => HP.out.inj a b ha hb e)) j (Nat.le_refl _)
          have HI := hid hind
          have B3 := hid (B2.out.then (HB.out.then hb3))
          have MP := hid hmp.toMat
          clear hb3 hmp hind
          go_wp2_with fail
          refine (invert_square _ j j _ _ (fun i c => codeX j (pl r i) c) w3 (by omega) (by omega) (by exact MP.out)).mono ?_
          rintro e w4 ⟨hb4, ⟨hf, _⟩ | ⟨_, gi, Gi, Y, rfl, _, _⟩⟩
          · exact absurd hf (by rw [HI.out]; omega)
          have B4 := hid (B3.out.then hb4)
          clear hb4
          go_wp2
          go_ret
          exact ⟨rfl, B4.out⟩
end Go.Proofs.Ytefbhggakepmhaa
