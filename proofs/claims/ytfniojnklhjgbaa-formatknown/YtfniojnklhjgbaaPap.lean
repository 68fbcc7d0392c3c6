/- Texts laid into one, cut to what is needed: the remark ahead of each part says what is proved there. -/
import Derived.Test.YtfniojnklhjgbaaPan
import Derived.Lib.AppendStr
import Derived.Test.YtfniojnklhjgbaaPag
import Derived.BigQuiet
import Derived.Test.YtfniojnklhjgbaaPaj
import Derived.Lib.ConvBytes
import Derived.Test.YtfniojnklhjgbaaPah
/- Package format's Bytes: forty bytes of room, filled in their order. (Written by tools/gen_Gc15.py.) -/
namespace Go.Proofs.Ytfniojnklhjgbaa
open Go Go.RowKit

/-- Forty bytes of room, the first of them X. -/
def rmC (X : List Nat) : Array Value := (X.map u8 ++ List.replicate (40 - X.length) (Value.int .u8 0)).toArray
theorem rmC_size {X : List Nat} (h : X.length ≤ 40) : (rmC X).size = 40 := by unfold rmC; simp; omega
def Rm (w : World) (g : Nat) (X : List Nat) : Prop := CAt w g (rmC X) 5
theorem rmC_app {X Y : List Nat} : ((rmC X).toList.take X.length ++ Y.map u8 ++ (rmC X).toList.drop (X.length + Y.length)).toArray = rmC (X ++ Y) := by
  unfold rmC
  rw [List.toList_toArray, List.take_left' (by simp), List.drop_append, List.drop_replicate]
  simp only [List.length_map, List.map_append, List.length_append]
  rw [List.drop_of_length_le (by simp), List.nil_append, show X.length + Y.length - X.length = Y.length by omega, show 40 - X.length - Y.length = 40 - (X.length + Y.length) by omega]
theorem Rm.app {w : World} {g : Nat} {X : List Nat} (h : Rm w g X) (a : Addr) (c : Nat) (Y : List Nat) (hY : ∀ j, j < Y.length → w.cell? (a.add j) = some (u8 (Y.getD j 0))) (hl : X.length + Y.length ≤ 40) :
    (Builtin.append_ #[24, 24] 24 #[.slice (some ⟨g, 0, none⟩) X.length 40, .slice (some a) Y.length c]).run Try.prog w = .ok (.slice (some ⟨g, 0, none⟩) (X.length + Y.length) 40) (w.setRow g (rmC (X ++ Y))) ∧ Rm (w.setRow g (rmC (X ++ Y))) g (X ++ Y) := by
  obtain ⟨i0, hi0, hz0, hz1, hz2⟩ := info_parts Try.info5
  have he := run_append_room (P := Try.prog) w 24 24 5 i0 Try.underlying24 hi0 g X.length 40 (rmC X) h a Y.length c (Y.map u8) (by rw [hz1]; simp) (fun j u hj => by
    have hjl : j < Y.length := by
      rcases Nat.lt_or_ge j Y.length with q | q
      · exact q
      · rw [List.getElem?_eq_none (by simpa using q)] at hj; cases hj
    have e : u = u8 (Y.getD j 0) := by simp [hjl] at hj; rw [← hj]; simp [List.getD, hjl]
    rw [e]; exact hY j hjl) (fun u hu => by obtain ⟨k, _, rfl⟩ := List.mem_map.1 hu; rfl) hl (by rw [hz1, rmC_size (by omega)]; simp; omega)
  rw [hz1, Nat.mul_one, List.length_map, rmC_app] at he
  exact ⟨he, setRow_heap w g (rmC X) (rmC (X ++ Y)) _ _ h⟩
theorem Rm.buf {w : World} {g B : Nat} {X : List Nat} (h : Rm w g X) (hl : X.length ≤ 40) (hB : B ≤ g) : Buf B w (.slice (some ⟨g, 0, none⟩) X.length 40) X := by
  refine ⟨by simp, .inr ⟨g, 40, rmC X, rfl, hB, h, hl, by unfold maxLen; omega, by rw [rmC_size hl], ?_⟩⟩
  unfold rmC
  rw [List.toList_toArray, Nat.mul_one, List.take_left' (by simp)]
theorem Rm.ovs {w : World} {g B : Nat} {X : List Nat} (h : Rm w g X) (hl : X.length ≤ 40) (hB : B ≤ g) (h8 : ∀ z ∈ X, z < 256) : OvS B w (.slice (some ⟨g, 0, none⟩) X.length 40) := by
  refine .inr ⟨g, X.length, rmC X, by rw [rmC_size hl], hB, by rw [rmC_size hl]; unfold maxLen; omega, h, fun u hu => ?_⟩
  unfold rmC at hu
  rw [List.toList_toArray] at hu
  rcases List.mem_append.1 hu with hu | hu
  · obtain ⟨k, hk, rfl⟩ := List.mem_map.1 hu
    exact ⟨k, rfl, h8 k hk⟩
  · rw [List.eq_of_mem_replicate hu]; exact ⟨0, rfl, by omega⟩
theorem Rm.below {w w' : World} {g : Nat} {X : List Nat} (h : Rm w g X) (hb : Below w.heap.size w w') : Rm w' g X := CAt.below h hb
theorem run_make40 (w : World) : (Instr.makeSlice 24 (.int .i64 0) (.int .i64 40)).run Try.prog w = .ok (.slice (some ⟨w.heap.size, 0, none⟩) 0 40) (w.alloc (.cells (rmC []) 5)) := by
  obtain ⟨i0, hi, hz0, hz1, hz2⟩ := info_parts Try.info5
  have h := run_make (P := Try.prog) w 24 5 i0 (.int .u8 0) Try.underlying24 hi hz0 .i64 .i64 0 40 (by omega) (by omega) (by rw [hz2]; omega) (by omega)
  have e : (Go.madeCells (Value.int .u8 0).cells (40 * 1)) = rmC [] := by kernel_rfl
  rw [hz1] at h
  rw [← e]
  exact h
theorem run_sign (w : World) : (Builtin.append_ #[24, 9] 24 #[.slice (some ⟨w.heap.size, 0, none⟩) 0 40, .string ⟨#[83, 70, 49]⟩]).run Try.prog (w.alloc (.cells (rmC []) 5)) = .ok (.slice (some ⟨w.heap.size, 0, none⟩) 3 40) ((w.alloc (.cells (rmC []) 5)).setRow w.heap.size (rmC [83, 70, 49])) := by
  obtain ⟨i0, hi0, hz0, hz1, hz2⟩ := info_parts Try.info5
  have he := Go.Lib.run_append_room_string (P := Try.prog) (w.alloc (.cells (rmC []) 5)) 24 9 24 5 i0 Try.underlying24 (by kernel_rfl) hi0 hz1 w.heap.size 0 40 (rmC []) (CAt.made w _ _) ⟨#[83, 70, 49]⟩ (by decide) (by decide)
  have e : ((rmC []).toList.take 0 ++ Go.Lib.strCells ⟨#[83, 70, 49]⟩ ++ (rmC []).toList.drop (0 + (⟨#[83, 70, 49]⟩ : ByteArray).size)).toArray = rmC [83, 70, 49] := by kernel_rfl
  rw [e] at he
  exact he
theorem run_idx (g : Nat) : ∀ k, k < 5 → ∀ w, (Instr.index 57 (.agg (fpC g)) (.int .i64 (k : Nat))).run Try.prog w = .ok (fpA g k) w
  | 0, _, w => by kernel_rfl
  | 1, _, w => by kernel_rfl
  | 2, _, w => by kernel_rfl
  | 3, _, w => by kernel_rfl
  | 4, _, w => by kernel_rfl
  | n + 5, h, _ => by omega
/-- What Bytes carries through its loop. -/
structure BfI (w : World) (f : FmV) (g1 g : Nat) (X : List Nat) (W : World) : Prop where
  be : Below w.heap.size w W
  ge : w.heap.size ≤ g
  ne : g1 ≠ g
  cb : CAt W g1 f.cs 23
  rm : Rm W g X
theorem BfI.below {w W W' : World} {f : FmV} {g1 g : Nat} {X : List Nat} (h : BfI w f g1 g X W) (hb : Below W.heap.size W W') : BfI w f g1 g X W' := ⟨below_on h.be hb, h.ge, h.ne, h.cb.below hb, h.rm.below hb⟩
theorem BfI.set {w W : World} {f : FmV} {g1 g : Nat} {X Y : List Nat} (h : BfI w f g1 g X W) (hr : Rm (W.setRow g (rmC Y)) g Y) : BfI w f g1 g Y (W.setRow g (rmC Y)) := by
  have ho : Only (fun b => b = g) W (W.setRow g (rmC Y)) := only_setRow _ _ _ rfl
  exact ⟨below_tr h.be (ho.below h.be.size (fun i e => by have := h.ge; omega)), h.ge, h.ne, h.cb.keep (ho.block g1 h.cb.lt h.ne), hr⟩
theorem BfI.push {w W : World} {f : FmV} {g1 g : Nat} {X : List Nat} (h : BfI w f g1 g X W) (z : Nat) (hl : X.length + 1 ≤ 40) :
    ∃ w6, (Builtin.append_ #[24, 24] 24 #[.slice (some ⟨g, 0, none⟩) X.length 40, .slice (some ⟨W.heap.size, 0, none⟩) 1 1]).run Try.prog (W.alloc (.cells #[.int .u8 (z : Int)] 5)) = .ok (.slice (some ⟨g, 0, none⟩) (X.length + 1) 40) w6 ∧ BfI w f g1 g (X ++ [z]) w6 := by
  have hb := below_al W (.cells #[.int .u8 (z : Int)] 5)
  obtain ⟨h1, h2⟩ := (h.rm.below hb).app ⟨W.heap.size, 0, none⟩ 1 [z] (fun j hj => by
    have : j = 0 := by simp at hj; omega
    subst this
    rw [add_none, Nat.zero_add, (CAt.made W #[.int .u8 (z : Int)] 5).cell]; rfl) hl
  exact ⟨_, h1, (h.below hb).set h2⟩
set_option linter.unusedVariables false in
set_option maxRecDepth 100000 in
set_option maxHeartbeats 4000000 in
theorem fbytes14_bad (f : FmV) (w : World) (hf : f.wf) (hok : okFm f = false) : Calls Try.prog 10 #[.agg f.cs] w (BfR w f) := by
  have HCK := hid (fun W => fcheck14_any f W hf)
  have he : erFm f = 2 := by unfold erFm; rw [hok]; rfl
  rw [he] at HCK
  have HE : Hid (∀ W, Below w.heap.size w W → BfR w f (.returned (.tuple #[.slice none 0 0, .int .i64 2])) W) := hid (fun W hb => .inr ⟨hok, rfl, hb⟩)
  generalize BfR w f = PP at *
  clear hok he hf
  go_enter Try.func10, Try.ntmps10
  go_wp2_with (first
    | ((with_reducible refine wpList_boxT 23 rfl _ rfl f.cs ?_ ?_); exact rfl; intro w1 g1 hc1 hb1 hg1; have HC := hid hc1; have HB := hid hb1; clear hc1 hb1 hg1)
    | ((with_reducible refine wpList_loadF rfl _ rfl g1 ?_ HC.out ?_); exact rfl)
    | (go_at_call 9; refine (HCK.out _).mono ?_; rintro e w2 ⟨rfl, hb2⟩; have HB2 := hid (below_on HB.out hb2); clear hb2))
  exact HE.out _ HB2.out
set_option linter.unusedVariables false in
set_option maxRecDepth 100000 in
set_option maxHeartbeats 8000000 in
theorem fbytes14_ok (f : FmV) (w : World) (hf : f.wf) (hok : okFm f = true) : Calls Try.prog 10 #[.agg f.cs] w (BfR w f) := by
  have HCK := hid (fun W => fcheck14_any f W hf)
  have he : erFm f = 0 := by unfold erFm; rw [hok]; rfl
  rw [he] at HCK
  have ho := okFm_of hok
  have HLT := hid (fmH_lt hok)
  have HBT := hid (fmB_lt hok)
  have HE : Hid (∀ g W, w.heap.size ≤ g → Rm W g (fmB f) → Below w.heap.size w W → BfR w f (.returned (.tuple #[.slice (some ⟨g, 0, none⟩) 40 40, .int .i64 0])) W) := hid (fun g W hg hr hb => .inl ⟨hok, _, _, rfl, by have := hr.buf (by rw [fmB_len]; omega) hg; rwa [fmB_len] at this, by have := hr.ovs (by rw [fmB_len]; omega) hg HBT.out; rwa [fmB_len] at this, hb⟩)
  have HSUM : Hid (∀ W g, Rm W g (fmH f) → Calls Try.prog 31 #[.slice (some ⟨g, 0, none⟩) 8 40] W fun e w' => e = .returned (.agg (sumC (dig (fmH f)))) ∧ Below W.heap.size W w') := hid (fun W g hr => dsum_any (some ⟨g, 0, none⟩) 40 (fmH f) W (by rw [fmH_len]; omega) (by rw [fmH_len]; omega) (hr.buf (B := 0) (by rw [fmH_len]; omega) (Nat.zero_le _)).bl HLT.out)
  have HFB : Hid (fmB f = fmH f ++ dig (fmH f)) := hid rfl
  obtain ⟨k, m, s, t, d⟩ := f
  simp only at ho
  obtain ⟨h1, h2, h3, h4, h5, h6, h7, h8, h9, h10, h11⟩ := ho
  have e1 := u8_of k (by omega) (by omega)
  have e2 := u8_of m (by omega) (by omega)
  have e3 := u8_of s (by omega) (by omega)
  have e4 := u8_of t (by omega) (by omega)
  have e5 := u8_of d (by omega) (by omega)
  have n1 := hid (getD_toNat (show 0 ≤ k by omega))
  have n2 := hid (getD_toNat (show 0 ≤ m by omega))
  have n3 := hid (getD_toNat (show 0 ≤ s by omega))
  have n4 := hid (getD_toNat (show 0 ≤ t by omega))
  have n5 := hid (getD_toNat (show 0 ≤ d by omega))
  generalize BfR w ⟨k, m, s, t, d⟩ = PP at *
  clear hok he hf h1 h2 h3 h4 h5 h6 h7 h8 h9 h10 h11 HBT HLT
  have hmk := run_make40
  have hsl := run_dig
  have HSG := hid run_sign
  have T1 : Hid True := hid trivial
  have T2 : Hid True := hid trivial
  obtain ⟨F, hF⟩ : ∃ F : FmV, ⟨k, m, s, t, d⟩ = F := ⟨_, rfl⟩
  have HF := hid hF
  rw [hF] at HCK HE HSUM HFB ⊢
  clear hF
  go_enter Try.func10, Try.ntmps10
  go_wp2_with (first
    | ((with_reducible refine wpList_boxT 23 rfl _ rfl F.cs ?_ ?_); exact rfl; intro w1 g1 hc1 hb1 hg1; have HC := hid hc1; have HB := hid hb1; clear hc1 hb1 hg1)
    | ((with_reducible refine wpList_loadF rfl _ rfl g1 ?_ HC.out ?_); exact rfl)
    | (go_at_call 9; refine (HCK.out _).mono ?_; rintro e w2 ⟨rfl, hb2⟩; have HC2 := hid (HC.out.below hb2); have HB2 := hid (below_on HB.out hb2); clear hb2)
    | (clear T1; at_builtin; refine wpList_append_run _ _ 24 9 rfl rfl _ _ _ rfl rfl (HSG.out _) ?_)
    | (go_at_call 30; refine (fields_any g1 _).mono ?_; rintro e w4 ⟨rfl, hb4⟩))
  have I0 : Hid (BfI w F g1 w2.heap.size [83, 70, 49] w4) := hid (by
    have q0 : BfI w F g1 w2.heap.size [] (w2.alloc (.cells (rmC []) 5)) := ⟨below_on HB2.out (below_al _ _), HB2.out.size, fun e => by have := HC2.out.lt; omega, HC2.out.below (below_al _ _), CAt.made _ _ _⟩
    exact (q0.set (setRow_heap _ _ (rmC []) (rmC [83, 70, 49]) _ _ (CAt.made w2 _ _))).below hb4)
  clear hb4 hmk HSG HC HB HC2 HB2 HCK
  generalize w2.heap.size = g at *
  have HX : ∀ i, i ≤ 5 → Hid (((fmH F).take (3 + i)).length = 3 + i) := fun i hi => hid (by rw [List.length_take, fmH_len]; omega)
  have HX0 : Hid ((fmH F).take 3 = [83, 70, 49]) := hid rfl
  have HX5 : Hid ((fmH F).take 8 = fmH F) := hid rfl
  go_loopg [5, 7, 17] 5 (fun gg x _ v wr => ∃ i : Nat, i ≤ 5 ∧ 5 - i ≤ gg ∧ v = .int .i64 (i : Int) ∧ x = .slice (some ⟨g, 0, none⟩) (3 + i) 40 ∧ BfI w F g1 g ((fmH F).take (3 + i)) wr)
  case atStart => exact ⟨0, by omega, by omega, rfl, rfl, by rw [HX0.out]; exact I0.out⟩
  case round =>
    clear I0
    obtain ⟨i, hi, hg, rfl, rfl, hI⟩ := hrel
    rcases (show i = 0 ∨ i = 1 ∨ i = 2 ∨ i = 3 ∨ i = 4 ∨ i = 5 by omega) with rfl | rfl | rfl | rfl | rfl | rfl
    · have z0 : wr.cell? ⟨g1, 0, none⟩ = some (.int .i64 k) := by rw [hI.cb.cell, ← HF.out]; rfl
      obtain ⟨w6, hr, hN⟩ := hI.push k.toNat (by rw [(HX 0 (by omega)).out]; omega)
      rw [(HX 0 (by omega)).out, n1.out] at hr
      have HRUN := hid hr
      have HN : Hid (BfI w F g1 g ((fmH F).take (3 + (0 + 1))) w6) := hid (by
        have e : (fmH F).take (3 + (0 + 1)) = (fmH F).take (3 + 0) ++ [k.toNat] := by rw [← HF.out]; rfl
        rw [e]; exact hN)
      have hx : ∀ w, (Instr.index 57 (.agg (fpC g1)) (.int .i64 0)).run Try.prog w = .ok (fpA g1 0) w := fun w => run_idx g1 0 (by omega) w
      clear hr hN hI
      go_wp2_with (at_builtin; refine wpList_append_run _ _ 24 24 rfl rfl _ _ _ rfl rfl HRUN.out ?_)
      go_roundg 4
      case measure => omega
      case rel => exact ⟨1, by omega, by omega, rfl, rfl, HN.out⟩
    · have z0 : wr.cell? ⟨g1, 1, none⟩ = some (.int .i64 m) := by rw [hI.cb.cell, ← HF.out]; rfl
      obtain ⟨w6, hr, hN⟩ := hI.push m.toNat (by rw [(HX 1 (by omega)).out]; omega)
      rw [(HX 1 (by omega)).out, n2.out] at hr
      have HRUN := hid hr
      have HN : Hid (BfI w F g1 g ((fmH F).take (3 + (1 + 1))) w6) := hid (by
        have e : (fmH F).take (3 + (1 + 1)) = (fmH F).take (3 + 1) ++ [m.toNat] := by rw [← HF.out]; rfl
        rw [e]; exact hN)
      have hx : ∀ w, (Instr.index 57 (.agg (fpC g1)) (.int .i64 1)).run Try.prog w = .ok (fpA g1 1) w := fun w => run_idx g1 1 (by omega) w
      clear hr hN hI
      go_wp2_with (at_builtin; refine wpList_append_run _ _ 24 24 rfl rfl _ _ _ rfl rfl HRUN.out ?_)
      go_roundg 3
      case measure => omega
      case rel => exact ⟨2, by omega, by omega, rfl, rfl, HN.out⟩
    · have z0 : wr.cell? ⟨g1, 2, none⟩ = some (.int .i64 s) := by rw [hI.cb.cell, ← HF.out]; rfl
      obtain ⟨w6, hr, hN⟩ := hI.push s.toNat (by rw [(HX 2 (by omega)).out]; omega)
      rw [(HX 2 (by omega)).out, n3.out] at hr
      have HRUN := hid hr
      have HN : Hid (BfI w F g1 g ((fmH F).take (3 + (2 + 1))) w6) := hid (by
        have e : (fmH F).take (3 + (2 + 1)) = (fmH F).take (3 + 2) ++ [s.toNat] := by rw [← HF.out]; rfl
        rw [e]; exact hN)
      have hx : ∀ w, (Instr.index 57 (.agg (fpC g1)) (.int .i64 2)).run Try.prog w = .ok (fpA g1 2) w := fun w => run_idx g1 2 (by omega) w
      clear hr hN hI
      go_wp2_with (at_builtin; refine wpList_append_run _ _ 24 24 rfl rfl _ _ _ rfl rfl HRUN.out ?_)
      go_roundg 2
      case measure => omega
      case rel => exact ⟨3, by omega, by omega, rfl, rfl, HN.out⟩
    · have z0 : wr.cell? ⟨g1, 3, none⟩ = some (.int .i64 t) := by rw [hI.cb.cell, ← HF.out]; rfl
      obtain ⟨w6, hr, hN⟩ := hI.push t.toNat (by rw [(HX 3 (by omega)).out]; omega)
      rw [(HX 3 (by omega)).out, n4.out] at hr
      have HRUN := hid hr
      have HN : Hid (BfI w F g1 g ((fmH F).take (3 + (3 + 1))) w6) := hid (by
        have e : (fmH F).take (3 + (3 + 1)) = (fmH F).take (3 + 3) ++ [t.toNat] := by rw [← HF.out]; rfl
        rw [e]; exact hN)
      have hx : ∀ w, (Instr.index 57 (.agg (fpC g1)) (.int .i64 3)).run Try.prog w = .ok (fpA g1 3) w := fun w => run_idx g1 3 (by omega) w
      clear hr hN hI
      go_wp2_with (at_builtin; refine wpList_append_run _ _ 24 24 rfl rfl _ _ _ rfl rfl HRUN.out ?_)
      go_roundg 1
      case measure => omega
      case rel => exact ⟨4, by omega, by omega, rfl, rfl, HN.out⟩
    · have z0 : wr.cell? ⟨g1, 4, none⟩ = some (.int .i64 d) := by rw [hI.cb.cell, ← HF.out]; rfl
      obtain ⟨w6, hr, hN⟩ := hI.push d.toNat (by rw [(HX 4 (by omega)).out]; omega)
      rw [(HX 4 (by omega)).out, n5.out] at hr
      have HRUN := hid hr
      have HN : Hid (BfI w F g1 g ((fmH F).take (3 + (4 + 1))) w6) := hid (by
        have e : (fmH F).take (3 + (4 + 1)) = (fmH F).take (3 + 4) ++ [d.toNat] := by rw [← HF.out]; rfl
        rw [e]; exact hN)
      have hx : ∀ w, (Instr.index 57 (.agg (fpC g1)) (.int .i64 4)).run Try.prog w = .ok (fpA g1 4) w := fun w => run_idx g1 4 (by omega) w
      clear hr hN hI
      go_wp2_with (at_builtin; refine wpList_append_run _ _ 24 24 rfl rfl _ _ _ rfl rfl HRUN.out ?_)
      go_roundg 0
      case measure => omega
      case rel => exact ⟨5, by omega, by omega, rfl, rfl, HN.out⟩
    · have HI := hid hI
      have HM : Hid (Rm wr g (fmH F)) := hid (by have := hI.rm; rwa [show 3 + 5 = 8 from rfl, HX5.out] at this)
      have hdl := dig_len (fmH F)
      generalize hD : dig (fmH F) = D at *
      clear hI
      go_wp2_with (first
        | (clear T2; go_at_call 31; refine (HSUM.out _ g HM.out).mono ?_; rintro e wd ⟨rfl, hbd⟩; have HID := hid (HI.out.below hbd); clear hbd)
        | ((with_reducible refine wpList_allocD rfl rfl ?_); intro wa ga hza hba hga; have HZA := hid hza; have HIA := hid (HID.out.below hba); have HGA := hid (show g < ga by have := HID.out.rm.lt; omega); clear hza hba hga)
        | ((with_reducible refine wpList_storeD rfl rfl _ _ rfl ga ?_ (m := zeroD) (n := D) ?_ ?_ hdl HZA.out ?_); exact rfl; exact rfl; exact rfl; intro wb hb9 ob9; have HIB : Hid (Rm wb g (fmH F) ∧ Below w.heap.size w wb) := hid ⟨by have h8 := HIA.out.rm; rw [show 3 + 5 = 8 from rfl, HX5.out] at h8; exact CAt.keep h8 (ob9.block g h8.lt (by have := HGA.out; omega)), below_tr HIA.out.be (ob9.below HIA.out.be.size (fun i e => by have := HGA.out; have := HIA.out.ge; omega))⟩; obtain ⟨hr9, hn9⟩ := HIB.out.1.app ⟨ga, 0, none⟩ 32 D (fun j hj => by rw [add_none, Nat.zero_add, hb9.cell, sumC_get hj]) (by rw [fmH_len, hdl]; omega); rw [fmH_len, hdl] at hr9; have HRUN := hid hr9; have HN9 := hid hn9; have HG9 := hid HIA.out.ge; clear hb9 ob9 HZA hr9 hn9)
        | (at_builtin; refine wpList_append_run _ _ 24 24 rfl rfl _ _ _ rfl rfl HRUN.out ?_))
      refine HE.out g _ HG9.out (by rw [HFB.out]; exact HN9.out) ?_
      exact below_tr HIB.out.2 ((only_setRow (S := fun b => b = g) _ _ _ rfl).below HIB.out.2.size (fun i e => by have := HG9.out; omega))
theorem fbytes14_any (f : FmV) (w : World) (hf : f.wf) : Calls Try.prog 10 #[.agg f.cs] w (BfR w f) := by
  cases hok : okFm f with
  | true => exact fbytes14_ok f w hf hok
  | false => exact fbytes14_bad f w hf hok
end Go.Proofs.Ytfniojnklhjgbaa

/- tally: which drives answer, and how many; SameBools. -/
namespace Go.Proofs.Ytfniojnklhjgbaa
open Go Go.RowKit

/-- A copy's cells. -/
def cC (e : Int) (v : Value) : Array Value := #[i64 e, v]
theorem zeroCp : (Try.prog.info? 39).map (·.zero) = some (some (.agg (cC 0 (.slice none 0 0)))) := by kernel_rfl
theorem sizeCp : (Try.prog.info? 39).map (·.size) = some 2 := by kernel_rfl
theorem underCp : Try.prog.underlying 39 = some (.struct (Try.prog.fieldsOf 39)) := by kernel_rfl
theorem CAt.c0 {w : World} {g : Nat} {e : Int} {v : Value} (h : CAt w g (cC e v) 39) : w.cell? ⟨g, 0, none⟩ = some (i64 e) := h.cell 0
theorem cC_one (e : Int) (po : Option Addr) (n c : Nat) : (cC e (.slice po n c)).all (·.oneCell') = true := by simp [cC, show ∀ q : Int, (i64 q).oneCell' = true from fun _ => rfl, show ∀ (a : Option Addr) (n c : Nat), (Value.slice a n c).oneCell' = true from fun _ _ _ => rfl]
theorem CL.load {w w' : World} {b o n c : Nat} {l : List Cv} (h : CL w (.slice (some ⟨b, o, none⟩) n c) l) (hb : Below w.heap.size w w') {i : Nat} {x : Cv} (hx : l[i]? = some x) :
    ∃ po m cc, x.v = .slice po m cc ∧ m = x.bs.length ∧ (∀ j v, (cC x.err (.slice po m cc))[j]? = some v → w'.cell? ⟨b, o + i * 2 + j, none⟩ = some v) ∧ BL w' po x.bs ∧ m ≤ cc ∧ (po = none → cc = 0) ∧ m ≤ 100000 ∧ ∀ z ∈ x.bs, z < 256 := by
  obtain ⟨h1, h2, ⟨⟨po, cc, hv, hbl, hle, hn⟩, h4, h5⟩⟩ := h.at hb hx
  rw [hv] at h2
  refine ⟨po, _, cc, hv, rfl, fun j v hj => ?_, hbl, hle, hn, h4, h5⟩
  match j, hj with
  | 0, hj => cases hj; exact h1
  | 1, hj => cases hj; exact h2
  | j + 2, hj => simp [cC] at hj
/-- A box of its own is written. -/
theorem ownX {w w1 w2 : World} {g : Nat} (hb : Below w.heap.size w w1) (hg : w.heap.size = g) (ho : Only (fun b => b = g) w1 w2) : Below w.heap.size w w2 := below_tr hb (ho.below hb.size (fun i e => by omega))
end Go.Proofs.Ytfniojnklhjgbaa

/- tally: the journals that drives have. -/
namespace Go.Proofs.Ytfniojnklhjgbaa
open Go Go.RowKit

/-- A journal that a drive has, as a value, and its text. -/
structure Hv where
  s : Int
  v : Value
  m : List Rp
  t : ByteArray
def hC (s : Int) (v : Value) (t : ByteArray) : Array Value := #[i64 s, v, .string t]
def Hv.row (x : Hv) : List Value := [i64 x.s, x.v, .string x.t]
end Go.Proofs.Ytfniojnklhjgbaa

/- tally: votes in a map, the greatest one. -/
namespace Go.Proofs.Ytfniojnklhjgbaa
open Go Go.RowKit

/-- A map from texts to counts. -/
def CntM (w : World) (m n : Nat) (f : List Nat → Nat) : Prop := ∃ D : DataW Unit, w.ownsMap Try.prog 9 (plainElem Try.prog 3) m n D ∧ ∀ s : ByteArray, D.atKey (.string s.data.toList) (.lit (.int .i64 0)) = .lit (.int .i64 (f (lst s) : Nat))
theorem CntM.lt {w : World} {m n : Nat} {f : List Nat → Nat} (h : CntM w m n f) : m < w.heap.size := by obtain ⟨D, h, _⟩ := h; exact h.lt
theorem CntM.keep {w w' : World} {m n : Nat} {f : List Nat → Nat} (h : CntM w m n f) (hk : w'.heap[m]? = w.heap[m]?) : CntM w' m n f := by
  obtain ⟨D, ⟨es, clock, hb, F, hs, hD⟩, h2⟩ := h
  exact ⟨D, ⟨es, clock, hk.trans hb, F, hs, hD⟩, h2⟩
theorem CntM.below {w w' : World} {m n : Nat} {f : List Nat → Nat} (h : CntM w m n f) (hb : Below w.heap.size w w') : CntM w' m n f := h.keep (hb.block m h.lt)
theorem CntM.congr {w : World} {m n : Nat} {f f' : List Nat → Nat} (h : CntM w m n f) (e : ∀ b, f' b = f b) : CntM w m n f' := by rw [show f' = f from funext e]; exact h
theorem CntM.made (w : World) : CntM (w.alloc (.map #[] 0)) w.heap.size 0 (fun _ => 0) := ⟨.map [], World.ownsMap_made w _ _ _, fun _ => rfl⟩
end Go.Proofs.Ytfniojnklhjgbaa

/- slices.MaxFunc over the journals that drives have; greatest. -/
namespace Go.Proofs.Ytfniojnklhjgbaa
open Go Go.RowKit

def Hv.cs (x : Hv) : Array Value := hC x.s x.v x.t
end Go.Proofs.Ytfniojnklhjgbaa

/- Choices in memory; bools that are written one by one; what Elect tells. -/
namespace Go.Proofs.Ytfniojnklhjgbaa
open Go Go.RowKit

abbrev nilS : Value := .slice none 0 0
/-- A row of bools of one's own. -/
def BoF (w : World) (g n : Nat) (F : Nat → Bool) : Prop := CAt w g (((List.range n).map fun i => Value.bool (F i)).toArray) 4
theorem BoF.cell {w : World} {g n : Nat} {F : Nat → Bool} (h : BoF w g n F) {i : Nat} (hi : i < n) : w.cell? ⟨g, i, none⟩ = some (.bool (F i)) := by
  have h2 : CAt w g _ 4 := h
  rw [h2.cell]; simp [hi]
theorem BoF.free {w : World} {g n : Nat} {F : Nat → Bool} (h : BoF w g n F) (i : Nat) : w.frozen? ⟨g, i, none⟩ = false := CAt.free (h : CAt w g _ 4) i
theorem BoF.lt {w : World} {g n : Nat} {F : Nat → Bool} (h : BoF w g n F) : g < w.heap.size := CAt.lt (h : CAt w g _ 4)
theorem BoF.keep {w w' : World} {g n : Nat} {F : Nat → Bool} (h : BoF w g n F) (e : w'.heap[g]? = w.heap[g]?) : BoF w' g n F := e.trans h
theorem BoF.below {w w' : World} {g n : Nat} {F : Nat → Bool} (h : BoF w g n F) (hb : Below w.heap.size w w') : BoF w' g n F := h.keep (hb.block g h.lt)
theorem BoF.set {w : World} {g n : Nat} {F : Nat → Bool} (h : BoF w g n F) (k : Nat) (x : Bool) : BoF (w.setCell ⟨g, k, none⟩ (.bool x)) g n (fun i => if i = k then x else F i) := by
  have h2 := CAt.set (h : CAt w g _ 4) k (.bool x)
  unfold BoF
  have e : (((List.range n).map fun i => Value.bool (F i)).toArray).setIfInBounds k (.bool x) = ((List.range n).map fun i => Value.bool (if i = k then x else F i)).toArray := by
    apply Array.toList_inj.1
    rw [Array.toList_setIfInBounds, List.toList_toArray, List.toList_toArray]
    refine List.ext_getElem? fun i => ?_
    rw [List.getElem?_set]
    by_cases hi : i < n
    · by_cases e : k = i
      · subst e; simp [hi]
      · simp [e, hi, Ne.symm e]
    · have h0 : ((List.range n).map fun i => Value.bool (F i)).length ≤ i := by simp; omega
      have h1 : ((List.range n).map fun i => Value.bool (if i = k then x else F i)).length ≤ i := by simp; omega
      rw [List.getElem?_eq_none h0, List.getElem?_eq_none h1]
      split <;> simp
      simp at h0
      omega
  rw [← e]
  exact h2
theorem BoF.congr {w : World} {g n : Nat} {F G : Nat → Bool} (h : BoF w g n F) (e : ∀ i, i < n → F i = G i) : BoF w g n G := by
  unfold BoF at *
  rw [show ((List.range n).map fun i => Value.bool (G i)) = (List.range n).map fun i => Value.bool (F i) from List.map_congr_left fun i hi => by rw [e i (List.mem_range.1 hi)]]
  exact h
theorem BoF.made (w : World) (n : Nat) : BoF (w.alloc (.cells (madeCells #[.bool false] n) 4)) w.heap.size n (fun _ => false) := by
  unfold BoF
  have e : madeCells #[.bool false] n = ((List.range n).map fun _ => Value.bool false).toArray := by
    apply Array.toList_inj.1
    rw [List.toList_toArray]
    refine List.ext_getElem? fun i => ?_
    by_cases hi : i < n
    · rw [Array.getElem?_toList, madeCells_get _ _ _ hi]; simp [hi]
    · rw [List.getElem?_eq_none (by simp [madeCells]; omega), List.getElem?_eq_none (by simp; omega)]
  rw [← e]
  exact CAt.made w _ _
end Go.Proofs.Ytfniojnklhjgbaa

/- tally.Elect where a drive has a journal. -/
namespace Go.Proofs.Ytfniojnklhjgbaa
open Go Go.RowKit

theorem CntM.apart {w : World} {m n : Nat} {f : List Nat → Nat} (h : CntM w m n f) {g : Nat} {cs : Array Value} {t : TypeId} (hc : CAt w g cs t) : m ≠ g := fun e => by
  obtain ⟨D, ⟨es, clock, hb, _⟩, _⟩ := h
  subst e
  have := hb.symm.trans hc
  simp at this
end Go.Proofs.Ytfniojnklhjgbaa

/- The chapter's examples: mathematics; of; lists of three copies; awake. -/
namespace Go.Proofs.Ytfniojnklhjgbaa
open Go Go.RowKit

theorem CvOk.err (w : World) (e : Int) : CvOk w ⟨e, .slice none 0 0, []⟩ := ⟨⟨none, 0, rfl, Or.inl rfl, Nat.le_refl _, fun _ => rfl⟩, by simp, by simp⟩
end Go.Proofs.Ytfniojnklhjgbaa

/- copies: copies in memory of their own. -/
namespace Go.Proofs.Ytfniojnklhjgbaa
open Go Go.RowKit

def Cv.row (x : Cv) : List Value := [i64 x.err, x.v]
/-- Copies in a row of their own, their bytes too. -/
structure CI (B : Nat) (w : World) (v : Value) (L : List Cv) : Prop where
  buf : XB 39 2 B w v (L.map Cv.row)
  each : ∀ x ∈ L, Buf B w x.v x.bs ∧ (∀ z ∈ x.bs, z < 256) ∧ x.bs.length ≤ 100000
theorem CI.nil (B : Nat) (w : World) : CI B w nilS [] := ⟨XB.nil _ _ B w, fun x hx => by cases hx⟩
theorem CI.on {B : Nat} {w w' : World} {v : Value} {L : List Cv} (h : CI B w v L) (hb : Below w.heap.size w w') : CI B w' v L := ⟨h.buf.below hb, fun x hx => ⟨(h.each x hx).1.below hb, (h.each x hx).2⟩⟩
theorem exec_app9 {a : Act} {o : Oper} {s x : Operand} {t t2 : TypeId} {v xv v' : Value} {W W' : World} (ho : o.op = .call { callee := .builtin .append, args := #[s, x], argTypes := #[t, t2] }) (hs : a.eval s = v) (hx : a.eval x = xv) (hr : (Builtin.append_ #[t, t2] o.type #[v, xv]).run Try.prog W = .ok v' W') : (execOp a.eval o).run Try.prog W = .ok (.value v') W' := by
  unfold execOp
  simp only [ho, resolve, invoke, builtin, Sem.run_bind, Sem.run_pure, Result.andThen_ok, List.map_toArray, List.map_cons, List.map_nil, hs, hx, hr]
end Go.Proofs.Ytfniojnklhjgbaa
