/- Texts laid into one, cut to what is needed: the remark ahead of each part says what is proved there. -/
import Derived.Test.YtelkijiphhoacaaDoorLaq
import Derived.Lib.ConvBytes
/- tally: votes in a map, the greatest one. -/
namespace Go.Proofs.YtelkijiphhoacaaDoor
open Go Go.RowKit

def cmpI (x y : Int) : Int := if x < y then -1 else if y < x then 1 else 0
set_option maxRecDepth 100000 in
theorem isNaN_any (x : Int) (w : World) : Calls Tryd.prog 64 #[i64 x] w fun e w' => e = .returned (.bool false) ∧ w' = w := by
  have h : (x != x) = false := by simp
  go_enter Tryd.func64, Tryd.ntmps64
  go_wp2
  go_ret
  exact ⟨rfl, rfl⟩
set_option maxRecDepth 100000 in
theorem cmpI_any (x y : Int) (w : World) : Calls Tryd.prog 48 #[i64 x, i64 y] w fun e w' => e = .returned (i64 (cmpI x y)) ∧ w' = w := by
  have HX := hid (fun w => isNaN_any x w)
  have HY := hid (fun w => isNaN_any y w)
  have T1 : Hid True := hid trivial
  unfold cmpI
  by_cases h1 : x < y
  · rw [if_pos h1]
    go_enter Tryd.func48, Tryd.ntmps48
    go_wp2_with (first
      | (clear T1; go_at_call 64; refine (HX.out _).mono ?_; rintro e w1 ⟨rfl, hw⟩; have h2 := hw.symm; subst h2)
      | (go_at_call 64; refine (HY.out _).mono ?_; rintro e w2 ⟨rfl, hw⟩; have h2 := hw.symm; subst h2))
    go_ret
    exact ⟨rfl, rfl⟩
  · rw [if_neg h1]
    by_cases h3 : y < x
    · rw [if_pos h3]
      go_enter Tryd.func48, Tryd.ntmps48
      go_wp2_with (first
        | (clear T1; go_at_call 64; refine (HX.out _).mono ?_; rintro e w1 ⟨rfl, hw⟩; have h2 := hw.symm; subst h2)
        | (go_at_call 64; refine (HY.out _).mono ?_; rintro e w2 ⟨rfl, hw⟩; have h2 := hw.symm; subst h2))
      go_ret
      exact ⟨rfl, rfl⟩
    · rw [if_neg h3]
      go_enter Tryd.func48, Tryd.ntmps48
      go_wp2_with (first
        | (clear T1; go_at_call 64; refine (HX.out _).mono ?_; rintro e w1 ⟨rfl, hw⟩; have h2 := hw.symm; subst h2)
        | (go_at_call 64; refine (HY.out _).mono ?_; rintro e w2 ⟨rfl, hw⟩; have h2 := hw.symm; subst h2))
      go_ret
      exact ⟨rfl, rfl⟩
def orI (x y : Int) : Int := if x = 0 then y else x
set_option maxRecDepth 100000 in
theorem or_any (x y : Int) (g c : Nat) (w : World) (h0 : w.cell? ⟨g, 0, none⟩ = some (i64 x)) (h1 : w.cell? ⟨g, 1, none⟩ = some (i64 y)) : Calls Tryd.prog 47 #[.slice (some ⟨g, 0, none⟩) 2 c] w fun e w' => e = .returned (i64 (orI x y)) ∧ w' = w := by
  unfold orI
  by_cases hx : x = 0
  · subst hx
    rw [if_pos rfl]
    by_cases hy : y = 0
    · subst hy
      go_enter Tryd.func47, Tryd.ntmps47
      go_wp2
      refine wp_loop_rounds 3 ?_
      rw [rounds_succ]
      go_wp2
      rw [rounds_succ]
      go_wp2
      rw [rounds_succ]
      go_wp2
      go_ret
      exact ⟨rfl, rfl⟩
    · have hz : (y != 0) = true := by simpa using hy
      go_enter Tryd.func47, Tryd.ntmps47
      go_wp2
      refine wp_loop_rounds 3 ?_
      rw [rounds_succ]
      go_wp2
      rw [rounds_succ]
      go_wp2
      go_ret
      exact ⟨rfl, rfl⟩
  · have hz : (x != 0) = true := by simpa using hx
    rw [if_neg hx]
    go_enter Tryd.func47, Tryd.ntmps47
    go_wp2
    refine wp_loop_rounds 3 ?_
    rw [rounds_succ]
    go_wp2
    go_ret
    exact ⟨rfl, rfl⟩
theorem underMC : Tryd.prog.underlying 67 = some (.map 9 3) := by kernel_rfl
theorem under3' : Tryd.prog.underlying 3 = some (.int .i64) := by kernel_rfl
theorem strLaw : Maps.Keyed Tryd.prog 9 := Maps.string_keyed under9
theorem zero3 (w : World) : (zeroValue 3).run Tryd.prog w = .ok (.int .i64 0) w := by kernel_rfl
theorem keyT (s : ByteArray) (h : s.size ≤ 100000) : keyOf Tryd.prog 9 (.string s) = some (.string s.data.toList) := WideMaps.keyOf_string_mk (P := Tryd.prog) under9 (s := s) (by unfold maxLen; omega)
/-- A map from texts to counts. -/
def CntM (w : World) (m n : Nat) (f : List Nat → Nat) : Prop := ∃ D : DataW Unit, w.ownsMap Tryd.prog 9 (plainElem Tryd.prog 3) m n D ∧ ∀ s : ByteArray, D.atKey (.string s.data.toList) (.lit (.int .i64 0)) = .lit (.int .i64 (f (lst s) : Nat))
theorem CntM.lt {w : World} {m n : Nat} {f : List Nat → Nat} (h : CntM w m n f) : m < w.heap.size := by obtain ⟨D, h, _⟩ := h; exact h.lt
theorem CntM.keep {w w' : World} {m n : Nat} {f : List Nat → Nat} (h : CntM w m n f) (hk : w'.heap[m]? = w.heap[m]?) : CntM w' m n f := by
  obtain ⟨D, ⟨es, clock, hb, F, hs, hD⟩, h2⟩ := h
  exact ⟨D, ⟨es, clock, hk.trans hb, F, hs, hD⟩, h2⟩
theorem CntM.below {w w' : World} {m n : Nat} {f : List Nat → Nat} (h : CntM w m n f) (hb : Below w.heap.size w w') : CntM w' m n f := h.keep (hb.block m h.lt)
theorem CntM.congr {w : World} {m n : Nat} {f f' : List Nat → Nat} (h : CntM w m n f) (e : ∀ b, f' b = f b) : CntM w m n f' := by rw [show f' = f from funext e]; exact h
theorem CntM.look {w : World} {m n : Nat} {f : List Nat → Nat} (h : CntM w m n f) (s : ByteArray) (hs : s.size ≤ 100000) : (Instr.lookup 67 (.map (some m)) (.string s) false).run Tryd.prog w = .ok (i64 (f (lst s) : Nat)) w := by
  obtain ⟨D, h1, h2⟩ := h
  obtain ⟨c, hr, hat, _⟩ := h1.lookup_int strLaw underMC under3' (zero3 w) (keyT s hs)
  rw [h2 s] at hat
  cases hat
  exact hr
theorem wfC (q : Nat) (h : q ≤ 100000) : (Lit.int .i64 (q : Int)).wf = true := by simp [Lit.wf, IntKind.min, IntKind.max, IntKind.signed, IntKind.bits]; omega
theorem str_ne {s t : ByteArray} (h : lst s ≠ lst t) : (Lit.string s.data.toList) ≠ Lit.string t.data.toList := fun e => h (by unfold lst; rw [Lit.string.inj e])
theorem CntM.made (w : World) : CntM (w.alloc (.map #[] 0)) w.heap.size 0 (fun _ => 0) := ⟨.map [], World.ownsMap_made w _ _ _, fun _ => rfl⟩
theorem wpList_cnt {ops : Array Oper} {rest : List Oper} {o : Oper} {a : Act} {w : World} {Q : Exit → Act → World → Prop} (hg : o.guard = none) (x y z : Operand) (ho : o.op = Op.mapUpdate 67 x y z) (m : Nat) (hx : a.eval x = .map (some m)) (s : ByteArray) (hs : s.size ≤ 100000) (hy : a.eval y = .string s) (q : Nat) (hq : q ≤ 100000) (hz : a.eval z = i64 (q : Nat)) {n : Nat} {f : List Nat → Nat} (hm : CntM w m n f) (hn : n ≤ 100000)
    (h : ∀ w', CntM w' m (n + 1) (fun b => if b = lst s then q else f b) → w.grownBy w' (some m) → wpList Tryd.prog ops Q rest (a.put o.dst undef) w') : wpList Tryd.prog ops Q (o :: rest) a w := by
  obtain ⟨D, h1, h2⟩ := hm
  refine wpList_mapUpdate_own w hg x y z 67 ho 9 3 strLaw underMC (plainElem Tryd.prog 3) m n D hx h1 (by unfold maxLen; omega) (.string s) (i64 q) (.string s.data.toList) hy hz (keyT s hs) (.lit (.int .i64 q)) [] (plainElem_int under3' (wfC q hq)) ?_
  intro w' h3 h4
  refine h w' ⟨_, h3, fun t => ?_⟩ h4
  show _ = DataW.lit (Lit.int IntKind.i64 (((if lst t = lst s then q else f (lst t)) : Nat) : Int))
  by_cases e : lst t = lst s
  · rw [if_pos e, lst_inj e]
    exact Maps.atKey_put_same h1.isMap (show WideAt.IsKeyLit (.string _) from trivial) _ _
  · rw [if_neg e, Maps.atKey_put_other (str_ne e)]
    exact h2 t
theorem cnt_snoc (a : List (Jr × List Nat)) (x : Jr × List Nat) (b : List Nat) : cntC (a ++ [x]) b = if b = x.2 then cntC a b + 1 else cntC a b := by
  unfold cntC
  rw [List.filter_append, List.length_append]
  by_cases h : b = x.2
  · simp [h]
  · simp [h, Ne.symm h]
theorem cnt_step {F G : List Nat → Nat} {k : List Nat} {q : Nat} (h : F = fun b => if b = k then G b + 1 else G b) (hq : G k = q) : ∀ b, F b = (fun b => if b = k then q + 1 else G b) b := fun b => by
  subst h
  by_cases e : b = k
  · subst e; simp [hq]
  · simp [e]
theorem cnt_le (a : List (Jr × List Nat)) (b : List Nat) : cntC a b ≤ a.length := List.length_filter_le _ _
/-- What count tells. -/
def MpS (w : World) (a : List (Jr × List Nat)) (e : Ending) (w' : World) : Prop := ∃ m, e = .returned (.map (some m)) ∧ CntM w' m a.length (cntC a) ∧ Below w.heap.size w w'
set_option maxRecDepth 100000 in
set_option maxHeartbeats 2000000 in
theorem count_any (B : Nat) (v : Value) (L : List Hv) (w : World) (hl : Hs B w v L) (hn : L.length ≤ 1000) : Calls Tryd.prog 27 #[v] w (MpS w (L.map Hv.jb)) := by
  have HL := hid hl
  obtain ⟨po, c, rfl, hc1⟩ := hl.form
  obtain ⟨n, hN⟩ : ∃ n, L.length = n := ⟨_, rfl⟩
  have HN := hid hN
  rw [hN] at hn ⊢
  clear hN hc1 hl
  have HM0 := hid (CntM.made w)
  have HB0 := hid (below_al w (.map #[] 0))
  have hmm := @run_makeMap Tryd.prog
  go_enter Tryd.func27, Tryd.ntmps27
  go_wp2
  go_loopg [9] n (fun gg s9 wr => ∃ kk : Nat, kk ≤ n ∧ n - kk ≤ gg ∧ s9 = i64 kk ∧ Hid (CntM wr w.heap.size kk (cntC ((L.take kk).map Hv.jb))) ∧ Hid (Below w.heap.size w wr))
  case atStart => exact ⟨0, Nat.zero_le _, by omega, rfl, hid HM0.out, hid HB0.out⟩
  case round =>
    obtain ⟨kk, hkk, hg, rfl, HM, BW⟩ := hrel
    by_cases hlt : kk < n
    · have hltz : (kk : Int) < (n : Int) := by omega
      obtain ⟨x, hx⟩ : ∃ x, L[kk]? = some x := ⟨_, List.getElem?_eq_getElem (by have := HN.out; omega)⟩
      obtain ⟨g, c', e, hc2, hcl⟩ := (HL.out.below BW.out).load hx
      rw [HN.out] at e
      cases e
      have hok := HL.out.each x (List.mem_of_getElem? hx)
      have HTX := hid hok.txt
      have hxv := hok.rs.one
      obtain ⟨px, nx, cx, hfx⟩ : ∃ p n c, x.v = .slice p n c := by obtain ⟨a, c, e, _⟩ := hok.rs.buf.form; exact ⟨a, _, c, e⟩
      rw [hfx] at hcl
      have HCL := hid hcl
      have HNX : Hid (cntC ((L.take (kk + 1)).map Hv.jb) = fun b => if b = lst x.t then cntC ((L.take kk).map Hv.jb) b + 1 else cntC ((L.take kk).map Hv.jb) b) := hid (by
        funext b
        rw [take_next hx, List.map_append]
        exact cnt_snoc _ x.jb b)
      obtain ⟨q, hq⟩ : ∃ q, cntC ((L.take kk).map Hv.jb) (lst x.t) = q := ⟨_, rfl⟩
      have hqk : q ≤ kk := by rw [← hq]; refine Nat.le_trans (cnt_le _ _) ?_; rw [List.length_map, List.length_take]; omega
      have HQ := hid hq
      generalize x.s = X at HCL
      obtain ⟨t, ht⟩ : ∃ t, x.t = t := ⟨_, rfl⟩
      rw [ht] at HCL HTX HNX HQ
      clear hcl hx hc2 hok hxv hfx hq ht
      have T1 : Hid True := hid trivial
      go_wp2_with (first
        | (clear T1; (with_reducible refine wpList_load_at 70 _ rfl ?_ g (kk * 3) ?_ (hC X (.slice px nx cx) t) _ ?_ underHd rfl ?_ ?_); exact rfl; exact rfl; exact HCL.out; exact sizeHd)
        | ((with_reducible refine wpList_allocX 70 _ zeroHd rfl rfl ?_); intro w2 g2 hz2 hb2 hg2; have HZ2 := hid hz2; have HB2 := hid hb2; have HG2 := hid hg2; clear hz2 hb2 hg2)
        | ((with_reducible refine wpList_storeX 70 3 sizeHd rfl rfl _ _ rfl g2 ?_ (D := hC X (.slice px nx cx) t) ?_ ?_ ?_ ?_ HZ2.out ?_); exact rfl; exact rfl; exact rfl; exact rfl; exact hC_one _ _ _ rfl; intro w3 h3 o3; have k2 : w3.cell? ⟨g2, 2, none⟩ = some (.string t) := h3.cell 2; have hb3 := ownX HB2.out HG2.out o3; have HB3 := hid (below_on BW.out hb3); have HM3 := hid (HM.out.below hb3); have hlk := HM3.out.look t HTX.out; rw [HQ.out] at hlk; clear h3 o3 HZ2 HB2 HG2 hb3)
        | ((with_reducible refine wpList_cnt rfl _ _ _ rfl w.heap.size ?_ t HTX.out ?_ (q + 1) (by omega) ?_ HM3.out (by omega) ?_); exact rfl; exact rfl; (show _ = _; go_num); intro w4 hm4 hgr4; have HM4 := hid hm4; have HGR4 := hid hgr4; clear hm4 hgr4))
      go_roundg (n - (kk + 1))
      case measure => omega
      case rel => exact ⟨kk + 1, by omega, by omega, by go_num, hid (HM4.out.congr (cnt_step HNX.out HQ.out)), hid (below_grown HB3.out HGR4.out (Nat.le_refl _) (fun b e => by cases e; exact Nat.le_refl _))⟩
    · have hltz : ¬ (kk : Int) < (n : Int) := by omega
      go_wp2
      go_ret
      have e : L.take kk = L := List.take_of_length_le (by have := HN.out; omega)
      have hm := HM.out
      rw [e] at hm
      exact ⟨_, rfl, by rw [List.length_map, HN.out, show n = kk by omega]; exact hm, BW.out⟩
end Go.Proofs.YtelkijiphhoacaaDoor

/- tally: the greatest one. -/
namespace Go.Proofs.YtelkijiphhoacaaDoor
open Go Go.RowKit

/-- What greatest compares by. -/
def cmpV (V : List Nat → Nat) (a b : Jr × List Nat) : Int := orI (cmpI a.1.seq b.1.seq) (cmpI (V a.2) (V b.2))
theorem cmpV_pos (V : List Nat → Nat) (m x : Jr × List Nat) : (0 < cmpV V x m) ↔ (m.1.seq < x.1.seq ∨ x.1.seq = m.1.seq ∧ V m.2 < V x.2) := by
  unfold cmpV orI cmpI
  constructor
  · intro h
    split at h <;> split at h <;> (try split at h) <;> (try split at h) <;> omega
  · intro h
    rcases h with h | ⟨h, h2⟩
    · rw [if_neg (show ¬ x.1.seq < m.1.seq by omega), if_pos h, if_neg (by decide)]; decide
    · rw [if_neg (show ¬ x.1.seq < m.1.seq by omega), if_neg (show ¬ m.1.seq < x.1.seq by omega), if_pos rfl, if_neg (by omega), if_pos (by omega)]; decide
theorem mx_pos {V : List Nat → Nat} {m x : Jr × List Nat} (h : 0 < cmpV V x m) : mxC V m x = x := by unfold mxC; rw [if_pos ((cmpV_pos V m x).1 h)]
theorem mx_neg {V : List Nat → Nat} {m x : Jr × List Nat} (h : ¬ 0 < cmpV V x m) : mxC V m x = m := by unfold mxC; rw [if_neg (fun k => h ((cmpV_pos V m x).2 k))]
theorem run_buildI (x y : Int) (w : World) : (Instr.buildSlice 26 2 #[(0, i64 x), (1, i64 y)]).run Tryd.prog w = .ok (.slice (some ⟨w.heap.size, 0, none⟩) 2 2) (w.alloc (.cells #[i64 x, i64 y] 3)) := by kernel_rfl
set_option maxRecDepth 100000 in
set_option maxHeartbeats 2000000 in
theorem great1_any (sa sb : Int) (va vb : Value) (ta tb : ByteArray) (gv m n : Nat) (f : List Nat → Nat) (w : World) (hta : ta.size ≤ 100000) (htb : tb.size ≤ 100000) (hv : w.cell? ⟨gv, 0, none⟩ = some (.map (some m))) (hm : CntM w m n f) :
    Calls Tryd.prog 46 #[.agg (hC sa va ta), .agg (hC sb vb tb), ptr gv] w fun e w' => e = .returned (i64 (orI (cmpI sa sb) (cmpI (f (lst ta)) (f (lst tb))))) ∧ Below w.heap.size w w' := by
  have HV := hid hv
  have HM := hid hm
  have hgv : gv < w.heap.size := cell_lt' (a := ⟨gv, 0, none⟩) (by rw [hv]; simp)
  have T1 : Hid True := hid trivial
  clear hv hm
  go_enter Tryd.func46, Tryd.ntmps46
  go_wp2_with (first
    | (clear T1; (with_reducible refine wpList_boxT 70 rfl _ rfl (hC sa va ta) ?_ ?_); exact rfl; intro w1 g1 hc1 hb1 hg1; have HC1 := hid hc1; have HB1 := hid hb1; clear hb1 hc1 hg1)
    | ((with_reducible refine wpList_boxT 70 rfl _ rfl (hC sb vb tb) ?_ ?_); exact rfl; intro w2 g2 hc2 hb2 hg2; have HC2 := hid hc2; replace HC1 := hid (HC1.out.below hb2); have HB2 := hid (below_on HB1.out hb2); clear hb2 hc2 hg2))
  have HD := hid (below_drew w2)
  have HK := hid (show ∀ W, Below w2.heap.size w2 W → W.cell? ⟨g1, 0, none⟩ = some (i64 sa) ∧ W.cell? ⟨g1, 2, none⟩ = some (.string ta) ∧ W.cell? ⟨g2, 0, none⟩ = some (i64 sb) ∧ W.cell? ⟨g2, 2, none⟩ = some (.string tb) ∧ W.cell? ⟨gv, 0, none⟩ = some (.map (some m)) ∧ (Instr.lookup 67 (.map (some m)) (.string ta) false).run Tryd.prog W = .ok (i64 (f (lst ta) : Nat)) W ∧ (Instr.lookup 67 (.map (some m)) (.string tb) false).run Tryd.prog W = .ok (i64 (f (lst tb) : Nat)) W from fun W hW => ⟨(HC1.out.below hW).cell 0, (HC1.out.below hW).cell 2, (HC2.out.below hW).cell 0, (HC2.out.below hW).cell 2, (World.cell?_of_block (a := ⟨gv, 0, none⟩) ((below_on HB2.out hW).block gv hgv)).trans HV.out, ((HM.out.below (below_on HB2.out hW))).look ta hta, ((HM.out.below (below_on HB2.out hW))).look tb htb⟩)
  have HCA := hid (fun W => cmpI_any sa sb W)
  have HCB := hid (fun W => cmpI_any (f (lst ta)) (f (lst tb)) W)
  obtain ⟨X, hX⟩ : ∃ X, cmpI sa sb = X := ⟨_, rfl⟩
  obtain ⟨Y, hY⟩ : ∃ Y, cmpI (f (lst ta)) (f (lst tb)) = Y := ⟨_, rfl⟩
  rw [hX] at HCA
  rw [hY] at HCB
  have HX := hid hX
  have HY := hid hY
  clear hX hY
  have HOR := hid (fun g W (h : CAt W g #[i64 X, i64 Y] 3) => or_any X Y g 2 W (h.cell 0) (h.cell 1))
  have hbl := run_buildI X Y
  obtain ⟨FA, hFA⟩ : ∃ FA : Int, (f (lst ta) : Int) = FA := ⟨_, rfl⟩
  obtain ⟨FB, hFB⟩ : ∃ FB : Int, (f (lst tb) : Int) = FB := ⟨_, rfl⟩
  rw [hFA, hFB] at HK HCB
  clear hFA hFB
  refine wp_region_held_drew (S := (fun W => W.cell? ⟨g1, 0, none⟩ = some (i64 sa) ∧ W.cell? ⟨g1, 2, none⟩ = some (.string ta) ∧ W.cell? ⟨g2, 0, none⟩ = some (i64 sb) ∧ W.cell? ⟨g2, 2, none⟩ = some (.string tb) ∧ W.cell? ⟨gv, 0, none⟩ = some (.map (some m)) ∧ (Instr.lookup 67 (.map (some m)) (.string ta) false).run Tryd.prog W = .ok (i64 FA) W ∧ (Instr.lookup 67 (.map (some m)) (.string tb) false).run Tryd.prog W = .ok (i64 FB) W)) (by kernel_rfl) (HK.out _ HD.out) (fun hHeld => ?_)
  refine wpAnyH_take (i := 0) (oi := ⟨some 6, .fieldAddr 70 (.tmp 3) 0, _, _, _, none⟩) (v := (.pointer (some ⟨g1, 0, none⟩))) rfl (by kernel_rfl) (by kernel_rfl) (by kernel_rfl) (fun _ _ _ h => h) (Or.inl ⟨by kernel_rfl, by intro W hW; obtain ⟨q0, q1, q2, q3, q4, q5, q6⟩ := hW; go_simp⟩) hHeld ?_
  refine wpAnyH_take (i := 1) (oi := ⟨some 7, .fieldAddr 24 (.tmp 6) 0, _, _, _, none⟩) (v := (.pointer (some ⟨g1, 0, none⟩))) rfl (by kernel_rfl) (by kernel_rfl) (by kernel_rfl) (fun _ _ _ h => h) (Or.inl ⟨by kernel_rfl, by intro W hW; obtain ⟨q0, q1, q2, q3, q4, q5, q6⟩ := hW; go_simp⟩) hHeld ?_
  refine wpAnyH_take (i := 2) (oi := ⟨some 8, .load 3 (.tmp 7), _, _, _, none⟩) (v := i64 sa) rfl (by kernel_rfl) (by kernel_rfl) (by kernel_rfl) (fun _ _ _ h => h) (Or.inl ⟨by kernel_rfl, by intro W hW; obtain ⟨q0, q1, q2, q3, q4, q5, q6⟩ := hW; go_simp⟩) hHeld ?_
  refine wpAnyH_take (i := 3) (oi := ⟨some 9, .fieldAddr 70 (.tmp 4) 0, _, _, _, none⟩) (v := (.pointer (some ⟨g2, 0, none⟩))) rfl (by kernel_rfl) (by kernel_rfl) (by kernel_rfl) (fun _ _ _ h => h) (Or.inl ⟨by kernel_rfl, by intro W hW; obtain ⟨q0, q1, q2, q3, q4, q5, q6⟩ := hW; go_simp⟩) hHeld ?_
  refine wpAnyH_take (i := 4) (oi := ⟨some 10, .fieldAddr 24 (.tmp 9) 0, _, _, _, none⟩) (v := (.pointer (some ⟨g2, 0, none⟩))) rfl (by kernel_rfl) (by kernel_rfl) (by kernel_rfl) (fun _ _ _ h => h) (Or.inl ⟨by kernel_rfl, by intro W hW; obtain ⟨q0, q1, q2, q3, q4, q5, q6⟩ := hW; go_simp⟩) hHeld ?_
  refine wpAnyH_take (i := 5) (oi := ⟨some 11, .load 3 (.tmp 10), _, _, _, none⟩) (v := i64 sb) rfl (by kernel_rfl) (by kernel_rfl) (by kernel_rfl) (fun _ _ _ h => h) (Or.inl ⟨by kernel_rfl, by intro W hW; obtain ⟨q0, q1, q2, q3, q4, q5, q6⟩ := hW; go_simp⟩) hHeld ?_
  refine wpAnyH_take (i := 7) (oi := ⟨some 13, .load 67 (.tmp 2), _, _, _, none⟩) (v := .map (some m)) rfl (by kernel_rfl) (by kernel_rfl) (by kernel_rfl) (fun _ _ _ h => h) (Or.inl ⟨by kernel_rfl, by intro W hW; obtain ⟨q0, q1, q2, q3, q4, q5, q6⟩ := hW; go_simp⟩) hHeld ?_
  refine wpAnyH_take (i := 8) (oi := ⟨some 14, .fieldAddr 70 (.tmp 3) 1, _, _, _, none⟩) (v := (.pointer (some ⟨g1, 2, none⟩))) rfl (by kernel_rfl) (by kernel_rfl) (by kernel_rfl) (fun _ _ _ h => h) (Or.inl ⟨by kernel_rfl, by intro W hW; obtain ⟨q0, q1, q2, q3, q4, q5, q6⟩ := hW; go_simp⟩) hHeld ?_
  refine wpAnyH_take (i := 9) (oi := ⟨some 15, .load 9 (.tmp 14), _, _, _, none⟩) (v := .string ta) rfl (by kernel_rfl) (by kernel_rfl) (by kernel_rfl) (fun _ _ _ h => h) (Or.inl ⟨by kernel_rfl, by intro W hW; obtain ⟨q0, q1, q2, q3, q4, q5, q6⟩ := hW; go_simp⟩) hHeld ?_
  refine wpAnyH_take (i := 10) (oi := ⟨some 16, .lookup 67 (.tmp 13) (.tmp 15) false, _, _, _, none⟩) (v := i64 FA) rfl (by kernel_rfl) (by kernel_rfl) (by kernel_rfl) (fun _ _ _ h => h) (Or.inl ⟨by kernel_rfl, by intro W hW; obtain ⟨q0, q1, q2, q3, q4, q5, q6⟩ := hW; go_simp⟩) hHeld ?_
  refine wpAnyH_take (i := 11) (oi := ⟨some 17, .load 67 (.tmp 2), _, _, _, none⟩) (v := .map (some m)) rfl (by kernel_rfl) (by kernel_rfl) (by kernel_rfl) (fun _ _ _ h => h) (Or.inl ⟨by kernel_rfl, by intro W hW; obtain ⟨q0, q1, q2, q3, q4, q5, q6⟩ := hW; go_simp⟩) hHeld ?_
  refine wpAnyH_take (i := 12) (oi := ⟨some 18, .fieldAddr 70 (.tmp 4) 1, _, _, _, none⟩) (v := (.pointer (some ⟨g2, 2, none⟩))) rfl (by kernel_rfl) (by kernel_rfl) (by kernel_rfl) (fun _ _ _ h => h) (Or.inl ⟨by kernel_rfl, by intro W hW; obtain ⟨q0, q1, q2, q3, q4, q5, q6⟩ := hW; go_simp⟩) hHeld ?_
  refine wpAnyH_take (i := 13) (oi := ⟨some 19, .load 9 (.tmp 18), _, _, _, none⟩) (v := .string tb) rfl (by kernel_rfl) (by kernel_rfl) (by kernel_rfl) (fun _ _ _ h => h) (Or.inl ⟨by kernel_rfl, by intro W hW; obtain ⟨q0, q1, q2, q3, q4, q5, q6⟩ := hW; go_simp⟩) hHeld ?_
  refine wpAnyH_take (i := 14) (oi := ⟨some 20, .lookup 67 (.tmp 17) (.tmp 19) false, _, _, _, none⟩) (v := i64 FB) rfl (by kernel_rfl) (by kernel_rfl) (by kernel_rfl) (fun _ _ _ h => h) (Or.inl ⟨by kernel_rfl, by intro W hW; obtain ⟨q0, q1, q2, q3, q4, q5, q6⟩ := hW; go_simp⟩) hHeld ?_
  refine wpAnyH_ready (rs := [6]) (by kernel_rfl) (by simp) ?_
  refine AllReadyH.cons rfl (fun K hK => ?_) AllReadyH.nil
  go_simp
  refine (HCA.out _).mono ?_
  rintro e w4 ⟨rfl, hw4⟩
  have hw5 := hw4.symm
  subst hw5
  go_wp2_with fail
  refine hK.out _ _ (HK.out _ HD.out) (fun hHeld => ?_)
  clear hK K
  refine wpAnyH_ready (rs := [15]) (by kernel_rfl) (by simp) ?_
  refine AllReadyH.cons rfl (fun K hK => ?_) AllReadyH.nil
  go_simp
  refine (HCB.out _).mono ?_
  rintro e w4 ⟨rfl, hw4⟩
  have hw5 := hw4.symm
  subst hw5
  go_wp2_with fail
  refine hK.out _ _ (HK.out _ HD.out) (fun hHeld => ?_)
  clear hK K
  refine wpAnyH_ready (rs := [16]) (by kernel_rfl) (by simp) ?_
  refine AllReadyH.cons rfl (fun K hK => ?_) AllReadyH.nil
  go_simp
  have HAL := hid ((CAt.made w2 #[i64 X, i64 Y] 3).below (below_drew _))
  have HBB := hid (below_on (below_al w2 (.cells #[i64 X, i64 Y] 3)) (below_drew _))
  generalize (w2.alloc (.cells #[i64 X, i64 Y] 3)).drew = w3 at HAL HBB ⊢
  refine hK.out _ _ (HK.out _ HBB.out) (fun hHeld => ?_)
  clear hK K
  refine wpAnyH_ready (rs := [17]) (by kernel_rfl) (by simp) ?_
  refine AllReadyH.cons rfl (fun K hK => ?_) AllReadyH.nil
  go_simp
  refine (HOR.out _ _ HAL.out).mono ?_
  rintro e w4 ⟨rfl, hw4⟩
  have hw5 := hw4.symm
  subst hw5
  go_wp2_with fail
  refine hK.out _ _ (HK.out _ HBB.out) (fun hHeld => ?_)
  clear hK K
  refine wpAnyH_take (i := 18) (oi := ⟨some 5, .assign (.tmp 23), _, _, _, none⟩) (v := i64 (orI X Y)) rfl (by kernel_rfl) (by kernel_rfl) (by kernel_rfl) (fun _ _ _ h => h) (Or.inl ⟨by kernel_rfl, by intro W hW; go_simp⟩) hHeld ?_
  refine wpAnyH_done (by kernel_rfl) ?_ _
  simp only [Act.put, List.setIfInBounds_toArray, List.set_cons_zero, List.set_cons_succ]
  go_wp2
  go_ret
  refine ⟨?_, below_on HB2.out HBB.out⟩
  rw [HX.out, HY.out]
  rfl
end Go.Proofs.YtelkijiphhoacaaDoor

/- slices.MaxFunc over the journals that drives have; greatest. -/
namespace Go.Proofs.YtelkijiphhoacaaDoor
open Go Go.RowKit

theorem ret_rowH {fn : Func} {q : Tmp} (h : fn.results = #[.cell q 70]) (s : Int) (v : Value) (t : ByteArray) {R : Ending → World → Prop} {a : Act} {w : World} (g : Nat)
    (hd0 : a.defers = []) (hp : a.tmps.getD q undef = .pointer (some ⟨g, 0, none⟩)) (hb : CAt w g (hC s v t) 70) (hR : R (.returned (.agg (hC s v t))) w) : bodyPost Tryd.prog fn R .ret a w :=
  ⟨hd0, _, results_cell_row h _ _ g 70 (hC s v t) (0, 0) _ hp hb underHd rfl sizeHd, hR⟩
/-- A variable of a plain kind in a box. -/
theorem wpList_boxM {ops : Array Oper} {rest : List Oper} {o : Oper} {a : Act} {w : World} {Q : Exit → Act → World → Prop} (hg : o.guard = none) (x : Operand) (ho : o.op = .box 67 x) (v : Value) (hx : a.eval x = v) (hv : v.cells = #[v])
    (h : ∀ w1 g, CAt w1 g #[v] 67 → Below w.heap.size w w1 → wpList Tryd.prog ops Q rest (a.put o.dst (ptr g)) w1) : wpList Tryd.prog ops Q (o :: rest) a w := by
  refine wpList_plain hg fun K hK => ?_
  unfold Oper.wp execOp
  simp only [ho, Instr.box, newVar, newRow, hx, hv, Sem.run_bind]
  simp
  exact hK _ _ (h _ _ (CAt.made _ _ _) (below_al _ _))
def Hv.cs (x : Hv) : Array Value := hC x.s x.v x.t
/-- What greatest tells. -/
def GrS (w : World) (L : List Hv) (r : Jr × List Nat) (e : Ending) (w' : World) : Prop := ∃ y ∈ L, e = .returned (.agg y.cs) ∧ y.jb = r ∧ Below w.heap.size w w'
structure Mf (w : World) (g4 g5 : Nat) (y : Hv) (W : World) : Prop where
  below : Below w.heap.size w W
  c4 : CAt W g4 (hC 0 (.slice none 0 0) ⟨#[]⟩) 70
  c5 : CAt W g5 y.cs 70
theorem Mf.on {w W W' : World} {g4 g5 : Nat} {y : Hv} (h : Mf w g4 g5 y W) (hb : Below W.heap.size W W') : Mf w g4 g5 y W' := ⟨below_on h.below hb, h.c4.below hb, h.c5.below hb⟩
theorem Hv.cs_one {B : Nat} {w : World} {x : Hv} (h : HvOk B w x) : x.cs.all (·.oneCell') = true := hC_one _ _ _ h.rs.one
set_option maxRecDepth 100000 in
set_option maxHeartbeats 4000000 in
theorem maxf_any (B : Nat) (v : Value) (L : List Hv) (x0 : Hv) (r : List Hv) (hL : L = x0 :: r) (w : World) (gv m n : Nat) (f : List Nat → Nat) (hl : Hs B w v L) (hn : L.length ≤ 1000) (hv : w.cell? ⟨gv, 0, none⟩ = some (.map (some m))) (hm : CntM w m n f) :
    Calls Tryd.prog 45 #[v, .func (.func 46) #[] #[ptr gv]] w (GrS w L ((r.map Hv.jb).foldl (mxC f) x0.jb)) := by
  have HL := hid hl
  have HLR := hid hL
  have HX0 : Hid (L[0]? = some x0) := hid (by rw [hL]; rfl)
  have hgv : gv < w.heap.size := cell_lt' (a := ⟨gv, 0, none⟩) (by rw [hv]; simp)
  have HGR : Hid (∀ W (a b : Hv), Below w.heap.size w W → a.t.size ≤ 100000 → b.t.size ≤ 100000 → Calls Tryd.prog 46 #[.agg a.cs, .agg b.cs, ptr gv] W fun e w' => e = .returned (i64 (cmpV f a.jb b.jb)) ∧ Below W.heap.size W w') := hid (fun W a b hW ha hb => great1_any a.s b.s a.v b.v a.t b.t gv m n f W ha hb ((World.cell?_of_block (a := ⟨gv, 0, none⟩) (hW.block gv hgv)).trans hv) (hm.below hW))
  obtain ⟨g, c, hg0, hc0, hcl0⟩ := hl.load HX0.out
  subst hg0
  obtain ⟨N, hN⟩ : ∃ N, L.length = N := ⟨_, rfl⟩
  have HN := hid hN
  have hN1 : 1 ≤ N := by rw [← hN, hL]; simp
  rw [hN] at hn hc0 ⊢
  have HC0 : Hid (∀ j u, x0.cs[j]? = some u → w.cell? ⟨g, 0 + j, none⟩ = some u) := hid (fun j u hu => by have := hcl0 j u hu; rwa [Nat.zero_mul] at this)
  have HO0 := hid (Hv.cs_one (hl.each x0 (List.mem_of_getElem? HX0.out)))
  have hlt1 : ¬ (N : Int) < 1 := by omega
  clear hcl0 hl hL hv hm hN hc0
  have T1 : Hid True := hid trivial
  go_enter Tryd.func45, Tryd.ntmps45
  go_wp2_with (first
    | (clear T1; (with_reducible refine wpList_allocX 70 _ zeroHd rfl rfl ?_); intro w1 g4 hz1 hb1 hg1; have HZ1 := hid hz1; have HB1 := hid hb1; have HG1 := hid hg1; clear hz1 hb1 hg1)
    | ((with_reducible refine wpList_load_at 70 _ rfl ?_ g 0 ?_ x0.cs _ ?_ underHd rfl ?_ ?_); exact rfl; exact rfl; exact (fun j u hu => (World.cell?_of_block (a := ⟨g, 0 + j, none⟩) (HB1.out.block g (cell_lt' (w := w) (a := ⟨g, 0 + j, none⟩) (by rw [HC0.out j u hu]; simp)))).trans (HC0.out j u hu)); exact sizeHd)
    | ((with_reducible refine wpList_allocX 70 _ zeroHd rfl rfl ?_); intro w2 g5 hz2 hb2 hg2; have HZ2 := hid hz2; have HB2 := hid hb2; have HG2 := hid hg2; clear hz2 hb2 hg2)
    | ((with_reducible refine wpList_storeX 70 3 sizeHd rfl rfl _ _ rfl g5 ?_ (D := x0.cs) ?_ ?_ ?_ ?_ HZ2.out ?_); exact rfl; exact rfl; exact rfl; exact rfl; exact HO0.out; intro w3 h3 o3; have hb3 := ownX HB2.out HG2.out o3; have HF : Hid (Mf w g4 g5 x0 w3) := hid ⟨below_on HB1.out hb3, HZ1.out.below hb3, h3⟩; have HGG : Hid (w.heap.size ≤ g4 ∧ w.heap.size ≤ g5 ∧ g4 ≠ g5) := hid ⟨by have := HG1.out; omega, by have := HB1.out.size; have := HG2.out; omega, by have := HZ1.out.lt; have := HG2.out; omega⟩; clear h3 o3 HZ2 HB2 HG2 HZ1 HB1 HG1 hb3))
  go_loopg [6] N (fun gg s6 wr => ∃ (k : Nat) (y : Hv), 1 ≤ k ∧ k ≤ N ∧ N - k ≤ gg ∧ s6 = i64 k ∧ Hid (y ∈ L) ∧ Hid (y.jb = ((r.take (k - 1)).map Hv.jb).foldl (mxC f) x0.jb) ∧ Hid (Mf w g4 g5 y wr))
  case atStart => exact ⟨1, x0, by omega, by omega, by omega, rfl, hid (List.mem_of_getElem? HX0.out), hid rfl, HF⟩
  case round =>
    obtain ⟨k, y, hk1, hk, hg, rfl, HY, HE, HW⟩ := hrel
    by_cases hlt : k < N
    · have hltz : (k : Int) < (N : Int) := by omega
      obtain ⟨x, hx⟩ : ∃ x, L[k]? = some x := ⟨_, List.getElem?_eq_getElem (by have := HN.out; omega)⟩
      have HXM := hid (List.mem_of_getElem? hx)
      obtain ⟨g', c', e, hc2, hcl⟩ := (HL.out.below HW.out.below).load hx
      rw [HN.out] at e
      cases e
      have hokx := HL.out.each x HXM.out
      have hoky := HL.out.each y HY.out
      have HOX := hid (Hv.cs_one hokx)
      have HTX := hid hokx.txt
      have HTY := hid hoky.txt
      have HCX : Hid (∀ W, Below wr.heap.size wr W → ∀ j u, x.cs[j]? = some u → W.cell? ⟨g, k * 3 + j, none⟩ = some u) := hid (fun W hW j u hu => by have h1 := hcl j u hu; exact (World.cell?_of_block (a := ⟨g, k * 3 + j, none⟩) (hW.block g (cell_lt' (w := wr) (a := ⟨g, k * 3 + j, none⟩) (by rw [h1]; simp)))).trans h1)
      have HNX : Hid (((r.take k).map Hv.jb).foldl (mxC f) x0.jb = mxC f y.jb x.jb) := hid (by
        have hr : r[k - 1]? = some x := by have := hx; rw [HLR.out, show k = k - 1 + 1 by omega] at this; simpa using this
        have hkk : r.take k = r.take (k - 1) ++ [x] := by have h9 := take_next hr; rwa [show k - 1 + 1 = k by omega] at h9
        rw [hkk, List.map_append, List.foldl_append, ← HE.out]; rfl)
      have HSF : Hid (∀ W, Below wr.heap.size wr W → (Instr.loadAt 70 (.pointer (some ⟨g, k * 3, none⟩))).run Tryd.prog W = .ok (.agg x.cs) W ∧ (Instr.loadAt 70 (.pointer (some ⟨g5, 0, none⟩))).run Tryd.prog W = .ok (.agg y.cs) W) := hid (fun W hW => ⟨by simp only [Instr.loadAt, Instr.sureAddr, Sem.run_bind, Sem.run_pure, Result.andThen_ok, run_loadVar_at W g (k * 3) 70 x.cs _ (HCX.out W hW) underHd rfl sizeHd], by simp only [Instr.loadAt, Instr.sureAddr, Sem.run_bind, Sem.run_pure, Result.andThen_ok, run_loadVar_at W g5 0 70 y.cs _ ((HW.out.on hW).c5.whole) underHd rfl sizeHd]⟩)
      obtain ⟨Z, hZ⟩ : ∃ Z, cmpV f x.jb y.jb = Z := ⟨_, rfl⟩
      have HZ := hid hZ
      have HCC := hid (fun W hW => HGR.out W x y hW HTX.out HTY.out)
      rw [hZ] at HCC
      clear hcl hx hokx hoky hc2 hZ
      go_wp2_with fail
      have HD := hid (below_drew wr)
      refine wp_region_held_drew (S := (fun W => (Instr.loadAt 70 (.pointer (some ⟨g, k * 3, none⟩))).run Tryd.prog W = .ok (.agg x.cs) W ∧ (Instr.loadAt 70 (.pointer (some ⟨g5, 0, none⟩))).run Tryd.prog W = .ok (.agg y.cs) W)) (by kernel_rfl) (HSF.out _ HD.out) (fun hHeld => ?_)
      refine wpAnyH_take (i := 0) (oi := ⟨some 20, .move (.tmp 1), _, _, _, none⟩) (v := .func (.func 46) #[] #[ptr gv]) rfl (by kernel_rfl) (by kernel_rfl) (by kernel_rfl) (fun _ _ _ h => h) (Or.inl ⟨by kernel_rfl, by intro W hW; go_simp⟩) hHeld ?_
      refine wpAnyH_take (i := 1) (oi := ⟨some 21, .move (.tmp 0), _, _, _, none⟩) (v := .slice (some ⟨g, 0, none⟩) N c) rfl (by kernel_rfl) (by kernel_rfl) (by kernel_rfl) (fun _ _ _ h => h) (Or.inl ⟨by kernel_rfl, by intro W hW; go_simp⟩) hHeld ?_
      refine wpAnyH_take (i := 2) (oi := ⟨some 22, .move (.tmp 6), _, _, _, none⟩) (v := i64 k) rfl (by kernel_rfl) (by kernel_rfl) (by kernel_rfl) (fun _ _ _ h => h) (Or.inl ⟨by kernel_rfl, by intro W hW; go_simp⟩) hHeld ?_
      refine wpAnyH_take (i := 3) (oi := ⟨some 23, .indexAddr 65 (.tmp 21) (.tmp 22), _, _, _, none⟩) (v := .pointer (some ⟨g, k * 3, none⟩)) rfl (by kernel_rfl) (by kernel_rfl) (by kernel_rfl) (fun _ _ _ h => h) (Or.inl ⟨by kernel_rfl, by intro W hW; go_simp⟩) hHeld ?_
      refine wpAnyH_take (i := 4) (oi := ⟨some 24, .load 70 (.tmp 23), _, _, _, none⟩) (v := .agg x.cs) rfl (by kernel_rfl) (by kernel_rfl) (by kernel_rfl) (fun _ _ _ h => h) (Or.inl ⟨by kernel_rfl, fun W hW => exec_load rfl (by kernel_rfl) hW.1⟩) hHeld ?_
      refine wpAnyH_take (i := 5) (oi := ⟨some 25, .load 70 (.tmp 5), _, _, _, none⟩) (v := .agg y.cs) rfl (by kernel_rfl) (by kernel_rfl) (by kernel_rfl) (fun _ _ _ h => h) (Or.inl ⟨by kernel_rfl, fun W hW => exec_load rfl (by kernel_rfl) hW.2⟩) hHeld ?_
      refine wpAnyH_ready (rs := [6]) (by kernel_rfl) (by simp) ?_
      refine AllReadyH.cons rfl (fun K hK => ?_) AllReadyH.nil
      go_simp
      refine (HCC.out _ (below_on HW.out.below HD.out)).mono ?_
      rintro e w4 ⟨rfl, hb4⟩
      have HB4 := hid (below_on HD.out hb4)
      clear hb4
      go_wp2_with fail
      refine hK.out _ _ (HSF.out _ HB4.out) (fun hHeld => ?_)
      clear hK K
      by_cases hzp : 0 < Z
      · refine wpAnyH_take (i := 7) (oi := ⟨some 27, .binOp .gtr 3 (.tmp 26) (.const (.int .i64 0)) 3, _, _, _, none⟩) (v := .bool true) rfl (by kernel_rfl) (by kernel_rfl) (by kernel_rfl) (fun _ _ _ h => h) (Or.inl ⟨by kernel_rfl, by intro W hW; go_simp⟩) hHeld ?_
        refine wpAnyH_done (by kernel_rfl) ?_ _
        simp only [Act.put, List.setIfInBounds_toArray, List.set_cons_zero, List.set_cons_succ]
        replace HW := hid (HW.out.on HB4.out)
        go_wp2_with (first
          | ((with_reducible refine wpList_load_at 70 _ rfl ?_ g (k * 3) ?_ x.cs _ ?_ underHd rfl ?_ ?_); exact rfl; exact rfl; exact HCX.out _ HB4.out; exact sizeHd)
          | ((with_reducible refine wpList_storeX 70 3 sizeHd rfl rfl _ _ rfl g5 ?_ (D := x.cs) ?_ ?_ ?_ ?_ HW.out.c5 ?_); exact rfl; exact rfl; exact rfl; exact rfl; exact HOX.out; intro w5 h5 o5; have HW5 : Hid (Mf w g4 g5 x w5) := hid ⟨below_tr HW.out.below (o5.below HW.out.below.size (fun i e => by have := HGG.out; omega)), HW.out.c4.keep (o5.block g4 HW.out.c4.lt (by have := HGG.out; omega)), h5⟩; clear h5 o5))
        go_roundg (N - (k + 1))
        case measure => omega
        case rel => exact ⟨k + 1, x, by omega, by omega, by omega, by go_num, HXM, hid (by rw [show k + 1 - 1 = k by omega, HNX.out, mx_pos (by rw [HZ.out]; exact hzp)]), HW5⟩
      · refine wpAnyH_take (i := 7) (oi := ⟨some 27, .binOp .gtr 3 (.tmp 26) (.const (.int .i64 0)) 3, _, _, _, none⟩) (v := .bool false) rfl (by kernel_rfl) (by kernel_rfl) (by kernel_rfl) (fun _ _ _ h => h) (Or.inl ⟨by kernel_rfl, by intro W hW; go_simp⟩) hHeld ?_
        refine wpAnyH_done (by kernel_rfl) ?_ _
        simp only [Act.put, List.setIfInBounds_toArray, List.set_cons_zero, List.set_cons_succ]
        replace HW := hid (HW.out.on HB4.out)
        go_wp2
        go_roundg (N - (k + 1))
        case measure => omega
        case rel => exact ⟨k + 1, y, by omega, by omega, by omega, by go_num, HY, hid (by rw [show k + 1 - 1 = k by omega, HNX.out, mx_neg (by rw [HZ.out]; omega)]), HW⟩
    · have hltz : ¬ (k : Int) < (N : Int) := by omega
      have hoky := HL.out.each y HY.out
      have HOY := hid (Hv.cs_one hoky)
      clear hoky
      go_wp2_with (first
        | ((with_reducible refine wpList_load_at 70 _ rfl ?_ g5 0 ?_ y.cs _ ?_ underHd rfl ?_ ?_); exact rfl; exact rfl; exact HW.out.c5.whole; exact sizeHd)
        | ((with_reducible refine wpList_storeX 70 3 sizeHd rfl rfl _ _ rfl g4 ?_ (D := y.cs) ?_ ?_ ?_ ?_ HW.out.c4 ?_); exact rfl; exact rfl; exact rfl; exact rfl; exact HOY.out; intro w5 h5 o5; have HC5 := hid h5; have HB5 := hid (below_tr HW.out.below (o5.below HW.out.below.size (fun i e => by have := HGG.out; omega))); clear h5 o5))
      refine ret_rowH rfl y.s y.v y.t g4 rfl rfl HC5.out ⟨y, HY.out, rfl, ?_, HB5.out⟩
      have e : r.take (k - 1) = r := List.take_of_length_le (by have h1 := HN.out; rw [HLR.out, List.length_cons] at h1; omega)
      rw [HE.out, e]
set_option maxRecDepth 100000 in
set_option maxHeartbeats 1000000 in
theorem greatest_any (B : Nat) (v : Value) (L : List Hv) (x0 : Hv) (r : List Hv) (hL : L = x0 :: r) (w : World) (m n : Nat) (f : List Nat → Nat) (hl : Hs B w v L) (hn : L.length ≤ 1000) (hm : CntM w m n f) :
    Calls Tryd.prog 28 #[v, .map (some m)] w (GrS w L ((r.map Hv.jb).foldl (mxC f) x0.jb)) := by
  have HL := hid hl
  have HM := hid hm
  have HO : Hid (∀ y ∈ L, y.cs.all (·.oneCell') = true) := hid (fun y hy => Hv.cs_one (hl.each y hy))
  have hmf : ∀ (fn : Fn) (first cap : Array Value) (w : World), (Instr.makeFunc fn first cap).run Tryd.prog w = .ok (.func fn first cap) w := fun _ _ _ _ => rfl
  clear hl hm
  go_enter Tryd.func28, Tryd.ntmps28
  go_wp2_with (first
    | ((with_reducible refine wpList_boxM rfl _ rfl (.map (some m)) ?_ rfl ?_); exact rfl; intro w1 g3 hc1 hb1; have HC1 := hid hc1; have HB1 := hid hb1; clear hc1 hb1)
    | ((with_reducible refine wpList_allocX 70 _ zeroHd rfl rfl ?_); intro w2 g4 hz2 hb2 hg2; have HZ2 := hid hz2; have HB2 := hid (below_on HB1.out hb2); replace HC1 := hid (HC1.out.below hb2); have HG2 := hid (show w.heap.size ≤ g4 by have := HB1.out.size; omega); clear hz2 hb2 hg2)
    | (go_at_call 45; refine (maxf_any B v L x0 r hL _ g3 m n f (HL.out.below HB2.out) hn (HC1.out.cell 0) (HM.out.below HB2.out)).mono ?_; rintro e w3 ⟨y, hy, rfl, hj, hb3⟩; have HZ3 := hid (HZ2.out.below hb3); have HB3 := hid (below_on HB2.out hb3); have HY := hid hy; have HJ := hid hj; clear hy hj hb3)
    | ((with_reducible refine wpList_storeX 70 3 sizeHd rfl rfl _ _ rfl g4 ?_ (D := y.cs) ?_ ?_ ?_ ?_ HZ3.out ?_); exact rfl; exact rfl; exact rfl; exact rfl; exact HO.out y HY.out; intro w5 h5 o5; have HC5 := hid h5; have HB5 := hid (below_tr HB3.out (o5.below HB3.out.size (fun i e => by have := HG2.out; omega))); clear h5 o5))
  exact ret_rowH rfl y.s y.v y.t g4 rfl rfl HC5.out ⟨y, HY.out, rfl, HJ.out, HB5.out⟩
end Go.Proofs.YtelkijiphhoacaaDoor

/- Choices in memory; bools that are written one by one; what Elect tells. -/
namespace Go.Proofs.YtelkijiphhoacaaDoor
open Go Go.RowKit

/-- A choice's cells. -/
def eC (f : Bool) (s : Int) (v b h : Value) (a n : Int) : Array Value := #[.bool f, i64 s, v, b, h, i64 a, i64 n]
abbrev nilS : Value := .slice none 0 0
theorem zeroCh : (Tryd.prog.info? 40).map (·.zero) = some (some (.agg (eC false 0 nilS nilS nilS 0 0))) := by kernel_rfl
theorem sizeCh : (Tryd.prog.info? 40).map (·.size) = some 7 := by kernel_rfl
theorem underCh : Tryd.prog.underlying 40 = some (.struct (Tryd.prog.fieldsOf 40)) := by kernel_rfl
theorem builtCh0 : Tryd.prog.built 40 [] = some (eC false 0 nilS nilS nilS 0 0) := by kernel_rfl
theorem builtCh2 (po : Option Addr) (n c : Nat) (a : Int) : Tryd.prog.built 40 [(3, .slice po n c), (4, i64 a)] = some (eC false 0 nilS nilS (.slice po n c) a 0) := by kernel_rfl
theorem eC_one (f : Bool) (s : Int) {v b h : Value} (hv : v.oneCell' = true) (hb : b.oneCell' = true) (hh : h.oneCell' = true) (a n : Int) : (eC f s v b h a n).all (·.oneCell') = true := by simp [eC, hv, hb, hh, show ∀ q : Int, (i64 q).oneCell' = true from fun _ => rfl, show ∀ q : Bool, (Value.bool q).oneCell' = true from fun _ => rfl]
theorem ret_rowE {fn : Func} {q u : Tmp} (h : fn.results = #[.cell q 40, .tmp u]) {R : Ending → World → Prop} {a : Act} {w : World} (g : Nat) {f : Bool} {s : Int} {v b hh : Value} {an n : Int} {x : Value}
    (hd0 : a.defers = []) (hp : a.tmps.getD q undef = .pointer (some ⟨g, 0, none⟩)) (hx : a.tmps.getD u undef = x) (hb : CAt w g (eC f s v b hh an n) 40) (hR : R (.returned (.tuple #[.agg (eC f s v b hh an n), x])) w) : bodyPost Tryd.prog fn R .ret a w := by
  refine ⟨hd0, .tuple #[.agg (eC f s v b hh an n), x], ?_, hR⟩
  have hl := run_loadVar_row (P := Tryd.prog) w g 40 40 (eC f s v b hh an n) (0, 0) _ hb underCh rfl sizeCh
  simp only [results, h]
  simp only [Array.getD_eq_getD_getElem?] at hp hx
  simp [Result.andThen, hp, hx, asAddr, hl]
/-- A row of bools of one's own. -/
def BoF (w : World) (g n : Nat) (F : Nat → Bool) : Prop := CAt w g (((List.range n).map fun i => Value.bool (F i)).toArray) 4
theorem BoF.cell {w : World} {g n : Nat} {F : Nat → Bool} (h : BoF w g n F) {i : Nat} (hi : i < n) : w.cell? ⟨g, i, none⟩ = some (.bool (F i)) := by
  have h2 : CAt w g _ 4 := h
  rw [h2.cell]; simp [hi]
theorem BoF.free {w : World} {g n : Nat} {F : Nat → Bool} (h : BoF w g n F) (i : Nat) : w.frozen? ⟨g, i, none⟩ = false := CAt.free (h : CAt w g _ 4) i
theorem BoF.lt {w : World} {g n : Nat} {F : Nat → Bool} (h : BoF w g n F) : g < w.heap.size := CAt.lt (h : CAt w g _ 4)
theorem BoF.keep {w w' : World} {g n : Nat} {F : Nat → Bool} (h : BoF w g n F) (e : w'.heap[g]? = w.heap[g]?) : BoF w' g n F := e.trans h
theorem BoF.below {w w' : World} {g n : Nat} {F : Nat → Bool} (h : BoF w g n F) (hb : Below w.heap.size w w') : BoF w' g n F := h.keep (hb.block g h.lt)
theorem BoF.set {w : World} {g n : Nat} {F : Nat → Bool} (h : BoF w g n F) (k : Nat) (x : Bool) : BoF (w.setCell ⟨g, k, none⟩ (.bool x)) g n (fun i => if i = k then x else F i) := by
  have h2 := CAt.set (h : CAt w g _ 4) k (.bool x)
  unfold BoF
  have e : (((List.range n).map fun i => Value.bool (F i)).toArray).setIfInBounds k (.bool x) = ((List.range n).map fun i => Value.bool (if i = k then x else F i)).toArray := by
    apply Array.toList_inj.1
    rw [Array.toList_setIfInBounds, List.toList_toArray, List.toList_toArray]
    refine List.ext_getElem? fun i => ?_
    rw [List.getElem?_set]
    by_cases hi : i < n
    · by_cases e : k = i
      · subst e; simp [hi]
      · simp [e, hi, Ne.symm e]
    · have h0 : ((List.range n).map fun i => Value.bool (F i)).length ≤ i := by simp; omega
      have h1 : ((List.range n).map fun i => Value.bool (if i = k then x else F i)).length ≤ i := by simp; omega
      rw [List.getElem?_eq_none h0, List.getElem?_eq_none h1]
      split <;> simp
      simp at h0
      omega
  rw [← e]
  exact h2
theorem BoF.congr {w : World} {g n : Nat} {F G : Nat → Bool} (h : BoF w g n F) (e : ∀ i, i < n → F i = G i) : BoF w g n G := by
  unfold BoF at *
  rw [show ((List.range n).map fun i => Value.bool (G i)) = (List.range n).map fun i => Value.bool (F i) from List.map_congr_left fun i hi => by rw [e i (List.mem_range.1 hi)]]
  exact h
theorem BoF.bol {w : World} {g n : Nat} {F : Nat → Bool} (h : BoF w g n F) {hs : List Bool} (hl : hs.length = n) (e : ∀ i x, hs[i]? = some x → F i = x) : BoL w (.slice (some ⟨g, 0, none⟩) n n) hs := by
  refine ⟨_, n, by rw [hl], by omega, Or.inr ⟨g, 0, rfl, fun i x hx => ?_⟩⟩
  have hi : i < n := by rw [← hl]; exact (List.getElem?_eq_some_iff.1 hx).1
  rw [Nat.zero_add, h.cell hi, e i x hx]
theorem Tryd.info4 : (Tryd.prog.info? 4).map (fun i => (i.zero, i.size, i.bytes)) = some (some (.bool false), 1, 1) := by kernel_rfl
theorem run_make_b (n : Nat) (hn : n ≤ 70003) (w : World) :
    (Instr.makeSlice 38 (.int .i64 (n : Int)) (.int .i64 (n : Int))).run Tryd.prog w = .ok (.slice (some ⟨w.heap.size, 0, none⟩) n n) (w.alloc (.cells (madeCells #[.bool false] n) 4)) := by
  obtain ⟨i0, hi, hz0, hz1, hz2⟩ := info_parts Tryd.info4
  have h := run_make (P := Tryd.prog) w 38 4 i0 (.bool false) Tryd.underlying38 hi hz0 .i64 .i64 n n (by omega) (Int.le_refl _) (by rw [hz2]; omega) (by omega)
  rw [hz1] at h
  simpa [Value.cells] using h
theorem BoF.made (w : World) (n : Nat) : BoF (w.alloc (.cells (madeCells #[.bool false] n) 4)) w.heap.size n (fun _ => false) := by
  unfold BoF
  have e : madeCells #[.bool false] n = ((List.range n).map fun _ => Value.bool false).toArray := by
    apply Array.toList_inj.1
    rw [List.toList_toArray]
    refine List.ext_getElem? fun i => ?_
    by_cases hi : i < n
    · rw [Array.getElem?_toList, madeCells_get _ _ _ hi]; simp [hi]
    · rw [List.getElem?_eq_none (by simp [madeCells]; omega), List.getElem?_eq_none (by simp; omega)]
  rw [← e]
  exact CAt.made w _ _
/-- Bytes that may be written over, in no block below B: their block has no other cells. -/
def OvB (B : Nat) (w : World) (v : Value) : Prop := v = .slice none 0 0 ∨ ∃ g n c, v = .slice (some ⟨g, 0, none⟩) n c ∧ B ≤ g ∧ g < w.heap.size ∧ c ≤ maxLen ∧ ∀ i, i < c → w.frozen? ⟨g, i, none⟩ = false ∧ ∃ z : Nat, z < 256 ∧ w.cell? ⟨g, i, none⟩ = some (.int .u8 (z : Int))
/-- What Elect tells. -/
def ElS (P : Nat → World → Value → Prop) (w : World) (r : Nat × Ch) (e : Ending) (w' : World) : Prop := ∃ (s : Int) (v b h : Value) (m : List Rp), e = .returned (.tuple #[.agg (eC r.2.found s v b h r.2.ans r.2.vot), i64 r.1]) ∧ Rs w.heap.size w' v m ∧ (⟨s, rcs m⟩ : Jr) = r.2.j ∧ m.length ≤ 100000 ∧ SL w' b r.2.b ∧ P w.heap.size w' b ∧ BoL w' h r.2.has ∧ Below w.heap.size w w'
theorem ElS.bad {P : Nat → World → Value → Prop} {w w' : World} {n : Nat} (hP : P w.heap.size w' nilS) (hb : Below w.heap.size w w') : ElS P w (n, chZ) (.returned (.tuple #[.agg (eC false 0 nilS nilS nilS 0 0), i64 n])) w' :=
  ⟨0, nilS, nilS, nilS, [], rfl, Rs.nil _ _, rfl, by simp, SL.nil _, hP, BoL.nil _, hb⟩
end Go.Proofs.YtelkijiphhoacaaDoor
