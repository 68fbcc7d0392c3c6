/- Texts laid into one: the remark ahead of each part says what is proved there. -/
import Derived.Test.YtcbmimjjpkkoeaaDoorQak
import Derived.Lib.SliceRun
/- journal.Check. -/
namespace Go.Proofs.YtcbmimjjpkkoeaaDoor
open Go Go.RowKit

theorem wpList_boxT (t : TypeId) {ops : Array Oper} {rest : List Oper} {o : Oper} {a : Act} {w : World} {Q : Exit → Act → World → Prop} (hg : o.guard = none) (x : Operand) (ho : o.op = .box t x) (cs : Array Value) (hx : a.eval x = .agg cs)
    (h : ∀ w1 g, CAt w1 g cs t → Below w.heap.size w w1 → w.heap.size ≤ g → wpList Tryd.prog ops Q rest (a.put o.dst (ptr g)) w1) : wpList Tryd.prog ops Q (o :: rest) a w := by
  refine wpList_plain hg fun K hK => ?_
  unfold Oper.wp execOp
  simp only [ho, Instr.box, newVar, newRow, hx, Value.cells, Sem.run_bind]
  simp
  exact hK _ _ (h _ _ (CAt.made _ _ _) (below_al _ _) (Nat.le_refl _))
/-- A journal's cells. -/
def jC (s : Int) (v : Value) : Array Value := #[i64 s, v]
theorem CAt.j0 {w : World} {g : Nat} {s : Int} {v : Value} {t : TypeId} (h : CAt w g (jC s v) t) : w.cell? ⟨g, 0, none⟩ = some (i64 s) := by rw [h.cell]; rfl
theorem CAt.j1 {w : World} {g : Nat} {s : Int} {v : Value} {t : TypeId} (h : CAt w g (jC s v) t) : w.cell? ⟨g, 1, none⟩ = some v := by rw [h.cell]; rfl
theorem okJ_of {s : Int} {l : List Rc} (h1 : 1 ≤ s) (h2 : s ≤ 1099511627776) (h3 : l.length ≤ 64) (h : ∀ j x, l[j]? = some x → okRc x = true ∧ atI l x.id = some j) : okJ ⟨s, l⟩ = true :=
  okJ_mk h1 h2 h3 (List.all_eq_true.2 fun x hx => by obtain ⟨j, hj, e⟩ := List.getElem_of_mem hx; exact (h j x (by rw [List.getElem?_eq_getElem hj, e])).1) (nodup_of_at fun i hi => (h i l[i] (List.getElem?_eq_getElem hi)).2)
theorem okJ_not {s : Int} {l : List Rc} {j : Nat} {x : Rc} (hx : l[j]? = some x) (h : okRc x = false ∨ atI l x.id ≠ some j) : okJ ⟨s, l⟩ = false := by
  cases e : okJ ⟨s, l⟩ with
  | false => rfl
  | true =>
    obtain ⟨_, _, _, h4, h5⟩ := okJ_parts e
    rcases h with h | h
    · have := List.all_eq_true.1 h4 x (List.mem_of_getElem? hx)
      rw [h] at this; cases this
    · obtain ⟨hj, e2⟩ := List.getElem?_eq_some_iff.1 hx
      subst e2
      exact absurd (atI_at h5 j hj) h
theorem okJ_out {s : Int} {l : List Rc} (h : s < 1 ∨ 1099511627776 < s ∨ 64 < l.length) : okJ ⟨s, l⟩ = false := by
  cases e : okJ ⟨s, l⟩ with
  | false => rfl
  | true => obtain ⟨h1, h2, h3, _⟩ := okJ_parts e; simp at h1 h2 h3; omega
set_option maxRecDepth 100000 in
set_option maxHeartbeats 1000000 in
theorem jcheck_out (s : Int) (v : Value) (l : List Rp) (w : World) (hl : RL w v l) (h : s < 1 ∨ 1099511627776 < s ∨ 64 < l.length) : Calls Tryd.prog 24 #[.agg (jC s v)] w fun e w' => e = .returned (i64 2) ∧ Below w.heap.size w w' := by
  obtain ⟨po, c, rfl, _⟩ := hl
  by_cases h1 : s < 1
  · go_enter Tryd.func24, Tryd.ntmps24
    go_wp2_with ((with_reducible refine wpList_boxT 24 rfl _ rfl (jC s (.slice po l.length c)) ?_ ?_); exact rfl; intro w1 g1 hc1 hb1 hg1; have c0 := hc1.j0; have c1 := hc1.j1; have HB := hid hb1; clear hb1 hc1)
    go_ret
    exact ⟨rfl, HB.out⟩
  · by_cases h2 : 1099511627776 < s
    · go_enter Tryd.func24, Tryd.ntmps24
      go_wp2_with ((with_reducible refine wpList_boxT 24 rfl _ rfl (jC s (.slice po l.length c)) ?_ ?_); exact rfl; intro w1 g1 hc1 hb1 hg1; have c0 := hc1.j0; have c1 := hc1.j1; have HB := hid hb1; clear hb1 hc1)
      go_ret
      exact ⟨rfl, HB.out⟩
    · have h3 : (64 : Int) < (l.length : Int) := by omega
      go_enter Tryd.func24, Tryd.ntmps24
      go_wp2_with ((with_reducible refine wpList_boxT 24 rfl _ rfl (jC s (.slice po l.length c)) ?_ ?_); exact rfl; intro w1 g1 hc1 hb1 hg1; have c0 := hc1.j0; have c1 := hc1.j1; have HB := hid hb1; clear hb1 hc1)
      go_ret
      exact ⟨rfl, HB.out⟩
/-- A record's own block, behind what was there. -/
structure Own1 (w : World) (g : Nat) (r : Rv) (W : World) : Prop where
  below : Below w.heap.size w W
  box : RBox W g r
theorem Own1.mk1 {w w1 w2 : World} {g : Nat} {r : Rv} (hb : Below w.heap.size w w1) (hg : w.heap.size = g) (h : RBox w2 g r) (ho : Only (fun b => b = g) w1 w2) : Own1 w g r w2 :=
  ⟨below_tr hb (ho.below hb.size (fun i e => by omega)), h⟩
theorem Own1.on {w W W' : World} {g : Nat} {r : Rv} (h : Own1 w g r W) (hr : r.ok) (hb : Below W.heap.size W W') : Own1 w g r W' := ⟨below_on h.below hb, h.box.below hr hb⟩
theorem rangeAt_below {w W : World} {b o : Nat} {cs : List Value} (h : w.rangeAt b o cs) (hb : Below w.heap.size w W) : W.rangeAt b o cs := fun j v hv => by
  have := h j v hv
  rw [World.cell?_of_block (a := ⟨b, o + j, none⟩) (hb.block b (cell_lt' (a := ⟨b, o + j, none⟩) (by rw [this]; simp)))]; exact this
set_option maxRecDepth 100000 in
set_option maxHeartbeats 2000000 in
theorem jcheck_in (s : Int) (v : Value) (l : List Rp) (w : World) (hl : RL w v l) (h1 : 1 ≤ s) (h2 : s ≤ 1099511627776) (h3 : l.length ≤ 64) : Calls Tryd.prog 24 #[.agg (jC s v)] w fun e w' => e = .returned (i64 (if okJ ⟨s, rcs l⟩ = true then 0 else 2)) ∧ Below w.heap.size w w' := by
  have HL := hid hl
  obtain ⟨R, hR⟩ : ∃ R : Int, (if okJ ⟨s, rcs l⟩ = true then (0 : Int) else 2) = R := ⟨_, rfl⟩
  rw [hR]
  have HRR := hid hR
  clear hR
  obtain ⟨po, c, rfl, hc1, hn, hz, hcell, heach⟩ := hl
  have HE := hid heach
  have HC := hid hcell
  clear heach hcell
  have h3' : (l.length : Int) ≤ 64 := by omega
  go_enter Tryd.func24, Tryd.ntmps24
  go_wp2_with ((with_reducible refine wpList_boxT 24 rfl _ rfl (jC s (.slice po l.length c)) ?_ ?_); exact rfl; intro w1 g1 hc1 hb1 hg1; have c0 := hc1.j0; have c1 := hc1.j1; have HJ := hid hc1; have HB := hid hb1; clear hb1 hc1)
  go_loopg [3, 4, 22] l.length (fun gg _ _ s8 wr => ∃ kk : Nat, kk ≤ l.length ∧ l.length - kk ≤ gg ∧ s8 = i64 kk ∧ Hid (Below w1.heap.size w1 wr) ∧ Hid (∀ j x, (rcs l)[j]? = some x → j < kk → okRc x = true ∧ atI (rcs l) x.id = some j))
  case atStart => exact ⟨0, Nat.zero_le _, by omega, rfl, Below.refl _ _, fun j x _ hj => absurd hj (Nat.not_lt_zero _)⟩
  case round =>
    obtain ⟨kk, hkk, hg, rfl, BW, A⟩ := hrel
    clear c0 c1
    by_cases hlt : kk < l.length
    · have hltz : (kk : Int) < (l.length : Int) := by omega
      obtain ⟨x, hx⟩ : ∃ x, l[kk]? = some x := ⟨_, List.getElem?_eq_getElem hlt⟩
      have hxm := List.mem_of_getElem? hx
      obtain ⟨b, o, hpo, hcells⟩ : ∃ b o, po = some ⟨b, o, none⟩ ∧ RCells w b o l := by
        rcases HC.out with h | h
        · rw [h] at hlt; simp at hlt
        · exact h
      subst hpo
      have BW0 := hid (below_on HB.out BW.out)
      have hcw : RCells wr b o l := hcells.keep fun a ha => World.cell?_of_block (BW0.out.block a.block (cell_lt' ha))
      have HR := hid (hcw.range hx)
      have hok := (HE.out x hxm).ok
      have HX := hid hx
      have HP := hid ((HE.out x hxm).pl)
      have hone : x.r.pv.oneCell' = true := by obtain ⟨p0, c0, e0, _⟩ := HP.out; rw [e0]; rfl
      clear hcells hcw hx hxm
      have hxr : (rcs l)[kk]? = some x.rc := by rw [rcs_get, HX.out]; rfl
      have HXR := hid hxr
      clear hxr
      have HCK : Hid (∀ W, Below w.heap.size w W → Calls Tryd.prog 16 #[.agg x.r.cs] W fun e w' => e = .returned (i64 (if okRc x.rc = true then 0 else 2)) ∧ Below W.heap.size W w') := hid fun W hW => check_any x.r hok x.ps W (HP.out.below hW)
      cases hq : okRc x.rc with
      | false =>
        rw [hq] at HCK
        simp only [Bool.false_eq_true, if_false] at HCK
        go_wp2_with (first
          | ((with_reducible refine wpList_loadM rfl _ rfl b (o + kk * 42) ?_ x.r hok HR.out ?_); exact rfl)
          | ((with_reducible refine wpList_allocR rfl rfl ?_); intro w2 g2 hz2 hb2 hg2; have HZ := hid hz2; have HB2 := hid hb2; have HG2 := hid hg2; clear hz2 hb2 hg2)
          | ((with_reducible refine wpList_storeR rfl rfl _ _ rfl g2 ?_ (r := x.r) ?_ zR_ok hok hone HZ.out ?_); exact rfl; exact rfl; intro w3 h3 o3; have HO := hid (Own1.mk1 HB2.out HG2.out h3 o3); have HW3 := hid (below_on BW0.out HO.out.below); clear h3 o3)
          | ((with_reducible refine wpList_load_at 44 _ rfl ?_ g2 0 ?_ x.r.cs (.struct (Tryd.prog.fieldsOf 44)) ?_ underRec rfl ?_ ?_); exact rfl; exact rfl; exact HO.out.box.whole; (rw [hok.size]; exact sizeR))
          | (go_at_call 16; refine (HCK.out _ HW3.out).mono ?_; rintro e w4 ⟨rfl, hb4⟩; have HO4 := hid (HO.out.on hok hb4); have HW4 := hid (below_on HW3.out hb4); have j1 := (HJ.out.below (below_on BW.out (below_on HO.out.below hb4))).j1; have x0 := HO4.out.box.c0; clear hb4))
        go_ret
        refine ⟨?_, HW4.out⟩
        rw [← HRR.out, okJ_not HXR.out (Or.inl hq)]
        rfl
      | true =>
        rw [hq] at HCK
        simp only [if_true] at HCK
        have hpl := place_any (.slice (some ⟨b, o, none⟩) l.length c) l x.r.id
        obtain ⟨q, hQ⟩ : ∃ q, plI (atI (rcs l) (lst x.r.id)) = q := ⟨_, rfl⟩
        rw [hQ] at hpl
        have HPL := hid hpl
        have HQ := hid hQ
        clear hpl hQ
        by_cases he : q = (kk : Int)
        · subst he
          go_wp2_with (first
            | ((with_reducible refine wpList_loadM rfl _ rfl b (o + kk * 42) ?_ x.r hok HR.out ?_); exact rfl)
            | ((with_reducible refine wpList_allocR rfl rfl ?_); intro w2 g2 hz2 hb2 hg2; have HZ := hid hz2; have HB2 := hid hb2; have HG2 := hid hg2; clear hz2 hb2 hg2)
            | ((with_reducible refine wpList_storeR rfl rfl _ _ rfl g2 ?_ (r := x.r) ?_ zR_ok hok hone HZ.out ?_); exact rfl; exact rfl; intro w3 h3 o3; have HO := hid (Own1.mk1 HB2.out HG2.out h3 o3); have HW3 := hid (below_on BW0.out HO.out.below); clear h3 o3)
            | ((with_reducible refine wpList_load_at 44 _ rfl ?_ g2 0 ?_ x.r.cs (.struct (Tryd.prog.fieldsOf 44)) ?_ underRec rfl ?_ ?_); exact rfl; exact rfl; exact HO.out.box.whole; (rw [hok.size]; exact sizeR))
            | (go_at_call 16; refine (HCK.out _ HW3.out).mono ?_; rintro e w4 ⟨rfl, hb4⟩; have HO4 := hid (HO.out.on hok hb4); have HW4 := hid (below_on HW3.out hb4); have j1 := (HJ.out.below (below_on BW.out (below_on HO.out.below hb4))).j1; have x0 := HO4.out.box.c0; clear hb4)
            | (go_at_call 38; refine (HPL.out _ (HL.out.below HW4.out)).mono ?_; rintro e w5 ⟨rfl, hb5⟩; have HW5 := hid (below_on HW4.out hb5); have HB5 := hid hb5; clear hb5))
          go_roundg (l.length - (kk + 1))
          case measure => omega
          case rel =>
            refine ⟨kk + 1, by omega, by omega, by go_num, ?_, (show Hid _ from fun j y hy hj => ?_)⟩
            · exact below_on (below_on BW.out HO4.out.below) HB5.out
            · by_cases e : j = kk
              · subst e
                rw [HXR.out] at hy; cases hy
                refine ⟨hq, ?_⟩
                have := HQ.out
                rw [rc_id]
                cases ha : atI (rcs l) (lst x.r.id) with
                | none => rw [ha] at this; exact absurd this (by show ¬ ((-1 : Int) = _); omega)
                | some i => rw [ha] at this; have h9 : ((i : Nat) : Int) = (j : Int) := this; rw [show i = j by omega]
              · exact A.out j y hy (by omega)
        · go_wp2_with (first
            | ((with_reducible refine wpList_loadM rfl _ rfl b (o + kk * 42) ?_ x.r hok HR.out ?_); exact rfl)
            | ((with_reducible refine wpList_allocR rfl rfl ?_); intro w2 g2 hz2 hb2 hg2; have HZ := hid hz2; have HB2 := hid hb2; have HG2 := hid hg2; clear hz2 hb2 hg2)
            | ((with_reducible refine wpList_storeR rfl rfl _ _ rfl g2 ?_ (r := x.r) ?_ zR_ok hok hone HZ.out ?_); exact rfl; exact rfl; intro w3 h3 o3; have HO := hid (Own1.mk1 HB2.out HG2.out h3 o3); have HW3 := hid (below_on BW0.out HO.out.below); clear h3 o3)
            | ((with_reducible refine wpList_load_at 44 _ rfl ?_ g2 0 ?_ x.r.cs (.struct (Tryd.prog.fieldsOf 44)) ?_ underRec rfl ?_ ?_); exact rfl; exact rfl; exact HO.out.box.whole; (rw [hok.size]; exact sizeR))
            | (go_at_call 16; refine (HCK.out _ HW3.out).mono ?_; rintro e w4 ⟨rfl, hb4⟩; have HO4 := hid (HO.out.on hok hb4); have HW4 := hid (below_on HW3.out hb4); have j1 := (HJ.out.below (below_on BW.out (below_on HO.out.below hb4))).j1; have x0 := HO4.out.box.c0; clear hb4)
            | (go_at_call 38; refine (HPL.out _ (HL.out.below HW4.out)).mono ?_; rintro e w5 ⟨rfl, hb5⟩; have HW5 := hid (below_on HW4.out hb5); have HB5 := hid hb5; clear hb5))
          go_ret
          refine ⟨?_, HW5.out⟩
          rw [← HRR.out, okJ_not HXR.out (Or.inr fun e => he (by rw [← HQ.out, ← rc_id, e]; rfl))]
          rfl
    · have hltz : ¬ (kk : Int) < (l.length : Int) := by omega
      go_wp2
      go_ret
      refine ⟨?_, below_on HB.out BW.out⟩
      rw [← HRR.out, okJ_of h1 h2 (by rw [rcs_len]; exact h3) (fun j x hx => A.out j x hx (by have := (List.getElem?_eq_some_iff.1 hx).1; rw [rcs_len] at this; omega))]
      rfl
theorem jcheck_any (s : Int) (v : Value) (l : List Rp) (w : World) (hl : RL w v l) : Calls Tryd.prog 24 #[.agg (jC s v)] w fun e w' => e = .returned (i64 (if okJ ⟨s, rcs l⟩ = true then 0 else 2)) ∧ Below w.heap.size w w' := by
  by_cases h : s < 1 ∨ 1099511627776 < s ∨ 64 < l.length
  · rw [okJ_out (by rw [rcs_len]; exact h)]
    exact jcheck_out s v l w hl h
  · exact jcheck_in s v l w hl (by omega) (by omega) (by omega)
#print axioms jcheck_any
end Go.Proofs.YtcbmimjjpkkoeaaDoor

/- journal.Same, by slices.EqualFunc and record.Same. -/
namespace Go.Proofs.YtcbmimjjpkkoeaaDoor
open Go Go.RowKit

/-- What the range's variable needs of a list's record. -/
theorem RL.at {w W : World} {po : Option Addr} {c : Nat} {l : List Rp} (h : RL w (.slice po l.length c) l) (hb : Below w.heap.size w W) {k : Nat} (hk : k < l.length) :
    ∃ b o x, po = some ⟨b, o, none⟩ ∧ l[k]? = some x ∧ W.rangeAt b (o + k * 42) x.r.cs.toList ∧ RpOk W x ∧ x.r.pv.oneCell' = true := by
  obtain ⟨x, hx⟩ : ∃ x, l[k]? = some x := ⟨_, List.getElem?_eq_getElem hk⟩
  obtain ⟨po', c', e, _, _, _, hcell, heach⟩ := h.below hb
  cases e
  rcases hcell with h | ⟨b, o, e, hc⟩
  · rw [h] at hk; cases hk
  · have hr := heach x (List.mem_of_getElem? hx)
    refine ⟨b, o, x, e, hx, hc.range hx, hr, ?_⟩
    obtain ⟨p0, c0, e0, _⟩ := hr.pl
    rw [e0]; rfl
theorem take_eq_of {α : Type} {l m : List α} {k : Nat} (hl : l.length = m.length) (h : ∀ j, j < k → l[j]? = m[j]?) (hk : l.length ≤ k) : l = m := by
  apply List.ext_getElem?
  intro j
  by_cases hj : j < k
  · exact h j hj
  · rw [List.getElem?_eq_none (by omega), List.getElem?_eq_none (by omega)]
set_option maxRecDepth 100000 in
set_option maxHeartbeats 2000000 in
theorem equalF_any (u v : Value) (l m : List Rp) (w : World) (hl : RL w u l) (hm : RL w v m) : Calls Tryd.prog 30 #[u, v, .func (.func 19) #[] #[]] w fun e w' => e = .returned (.bool (decide (rcs l = rcs m))) ∧ Below w.heap.size w w' := by
  have HL := hid hl
  have HM := hid hm
  have hnl := hl.len
  have hnm := hm.len
  obtain ⟨po, c, rfl, _⟩ := hl
  obtain ⟨qo, d, rfl, _⟩ := hm
  obtain ⟨R, hR⟩ : ∃ R : Bool, decide (rcs l = rcs m) = R := ⟨_, rfl⟩
  rw [hR]
  have HRR := hid hR
  clear hR
  by_cases hlen : l.length = m.length
  · have HLEN := hid hlen
    have hlen' : (l.length : Int) = (m.length : Int) := by omega
    rw [← hlen]
    go_enter Tryd.func30, Tryd.ntmps30
    clear hlen hlen'
    go_wp2
    go_loopg [7, 8, 9, 17] l.length (fun gg _ _ _ s8 wr => ∃ kk : Nat, kk ≤ l.length ∧ l.length - kk ≤ gg ∧ s8 = i64 kk ∧ Hid (Below w.heap.size w wr) ∧ Hid (∀ j, j < kk → (rcs l)[j]? = (rcs m)[j]?))
    case atStart => exact ⟨0, Nat.zero_le _, by omega, rfl, Below.refl _ _, fun j hj => absurd hj (Nat.not_lt_zero _)⟩
    case round =>
      obtain ⟨kk, hkk, hg, rfl, BW, A⟩ := hrel
      by_cases hlt : kk < l.length
      · have hltz : (kk : Int) < (l.length : Int) := by omega
        obtain ⟨b, o, x, e1, hx, hrx, hkx, hox⟩ := HL.out.at BW.out hlt
        have hm2 := HM.out
        obtain ⟨b2, o2, y, e2, hy, hry, hky, hoy⟩ := hm2.at BW.out (k := kk) (by have := HLEN.out; omega)
        subst e1 e2
        have hokx := hkx.ok
        have hoky := hky.ok
        have HRX := hid hrx
        have HRY := hid hry
        have HKX := hid hkx
        have HKY := hid hky
        have HX := hid hx
        have HY := hid hy
        have hsame := fun W (hW : Below wr.heap.size wr W) => same_any x.r y.r hokx hoky x.ps y.ps W (HKX.out.pl.below hW) (HKY.out.pl.below hW)
        obtain ⟨q, hq⟩ : ∃ q : Bool, decide (x.r.rc x.ps = y.r.rc y.ps) = q := ⟨_, rfl⟩
        rw [hq] at hsame
        have HS := hid hsame
        have HQ := hid hq
        clear hrx hry hkx hky hx hy hm2 hsame hq
        have T1 : Hid True := hid trivial
        cases q with
        | true =>
          go_wp2_with (first
            | (clear T1; (with_reducible refine wpList_loadM rfl _ rfl b (o + kk * 42) ?_ x.r hokx HRX.out ?_); exact rfl; have T2 : Hid True := hid trivial)
            | (clear T2; (with_reducible refine wpList_allocR rfl rfl ?_); intro w2 g2 hz2 hb2 hg2; have HZ2 := hid hz2; have HB2 := hid hb2; have HG2 := hid hg2; clear hz2 hb2 hg2)
            | ((with_reducible refine wpList_storeR rfl rfl _ _ rfl g2 ?_ (r := x.r) ?_ zR_ok hokx hox HZ2.out ?_); exact rfl; exact rfl; intro w3 h3 o3; have HO3 := hid (Own1.mk1 HB2.out HG2.out h3 o3); clear h3 o3 HZ2; have HRY3 := hid (rangeAt_below HRY.out HO3.out.below))
            | ((with_reducible refine wpList_loadM rfl _ rfl b2 (o2 + kk * 42) ?_ y.r hoky HRY3.out ?_); exact rfl; have T3 : Hid True := hid trivial)
            | (clear T3; (with_reducible refine wpList_allocR rfl rfl ?_); intro w4 g4 hz4 hb4 hg4; have HZ4 := hid hz4; have HB4 := hid hb4; have HG4 := hid hg4; clear hz4 hb4 hg4)
            | ((with_reducible refine wpList_storeR rfl rfl _ _ rfl g4 ?_ (r := y.r) ?_ zR_ok hoky hoy HZ4.out ?_); exact rfl; exact rfl; intro w5 h5 o5; have HO5 := hid (Own1.mk1 HB4.out HG4.out h5 o5); clear h5 o5 HZ4; have HO6 := hid (HO3.out.on hokx HO5.out.below))
            | ((with_reducible refine wpList_load_at 44 _ rfl ?_ g2 0 ?_ x.r.cs (.struct (Tryd.prog.fieldsOf 44)) ?_ underRec rfl ?_ ?_); exact rfl; exact rfl; exact HO6.out.box.whole; (rw [hokx.size]; exact sizeR))
            | ((with_reducible refine wpList_load_at 44 _ rfl ?_ g4 0 ?_ y.r.cs (.struct (Tryd.prog.fieldsOf 44)) ?_ underRec rfl ?_ ?_); exact rfl; exact rfl; exact HO5.out.box.whole; (rw [hoky.size]; exact sizeR))
            | (go_at_call 19; refine (HS.out _ HO6.out.below).mono ?_; rintro e w7 ⟨rfl, hb7⟩; have HB7 := hid (below_on HO6.out.below hb7); clear hb7))
          go_roundg (l.length - (kk + 1))
          case measure => omega
          case rel =>
            refine ⟨kk + 1, by omega, by omega, by go_num, below_on BW.out HB7.out, (show Hid _ from fun j hj => ?_)⟩
            by_cases e : j = kk
            · subst e
              rw [rcs_get, rcs_get, HX.out, HY.out]
              exact congrArg some (of_decide_eq_true HQ.out)
            · exact A.out j (by omega)
        | false =>
          go_wp2_with (first
            | (clear T1; (with_reducible refine wpList_loadM rfl _ rfl b (o + kk * 42) ?_ x.r hokx HRX.out ?_); exact rfl; have T2 : Hid True := hid trivial)
            | (clear T2; (with_reducible refine wpList_allocR rfl rfl ?_); intro w2 g2 hz2 hb2 hg2; have HZ2 := hid hz2; have HB2 := hid hb2; have HG2 := hid hg2; clear hz2 hb2 hg2)
            | ((with_reducible refine wpList_storeR rfl rfl _ _ rfl g2 ?_ (r := x.r) ?_ zR_ok hokx hox HZ2.out ?_); exact rfl; exact rfl; intro w3 h3 o3; have HO3 := hid (Own1.mk1 HB2.out HG2.out h3 o3); clear h3 o3 HZ2; have HRY3 := hid (rangeAt_below HRY.out HO3.out.below))
            | ((with_reducible refine wpList_loadM rfl _ rfl b2 (o2 + kk * 42) ?_ y.r hoky HRY3.out ?_); exact rfl; have T3 : Hid True := hid trivial)
            | (clear T3; (with_reducible refine wpList_allocR rfl rfl ?_); intro w4 g4 hz4 hb4 hg4; have HZ4 := hid hz4; have HB4 := hid hb4; have HG4 := hid hg4; clear hz4 hb4 hg4)
            | ((with_reducible refine wpList_storeR rfl rfl _ _ rfl g4 ?_ (r := y.r) ?_ zR_ok hoky hoy HZ4.out ?_); exact rfl; exact rfl; intro w5 h5 o5; have HO5 := hid (Own1.mk1 HB4.out HG4.out h5 o5); clear h5 o5 HZ4; have HO6 := hid (HO3.out.on hokx HO5.out.below))
            | ((with_reducible refine wpList_load_at 44 _ rfl ?_ g2 0 ?_ x.r.cs (.struct (Tryd.prog.fieldsOf 44)) ?_ underRec rfl ?_ ?_); exact rfl; exact rfl; exact HO6.out.box.whole; (rw [hokx.size]; exact sizeR))
            | ((with_reducible refine wpList_load_at 44 _ rfl ?_ g4 0 ?_ y.r.cs (.struct (Tryd.prog.fieldsOf 44)) ?_ underRec rfl ?_ ?_); exact rfl; exact rfl; exact HO5.out.box.whole; (rw [hoky.size]; exact sizeR))
            | (go_at_call 19; refine (HS.out _ HO6.out.below).mono ?_; rintro e w7 ⟨rfl, hb7⟩; have HB7 := hid (below_on HO6.out.below hb7); clear hb7))
          go_ret
          refine ⟨?_, below_on BW.out HB7.out⟩
          rw [← HRR.out, decide_eq_false fun e => ?_]
          · rfl
          · have h1 := congrArg (·[kk]?) e
            simp only [rcs_get, HX.out, HY.out, Option.map_some, Option.some.injEq] at h1
            have h2 := of_decide_eq_false HQ.out
            exact h2 h1
      · have hltz : ¬ (kk : Int) < (l.length : Int) := by omega
        go_wp2
        go_ret
        refine ⟨?_, BW.out⟩
        rw [← HRR.out, decide_eq_true (take_eq_of (k := kk) (by rw [rcs_len, rcs_len]; exact HLEN.out) A.out (by rw [rcs_len]; omega))]
        rfl
  · have hlen' : ¬ (l.length : Int) = (m.length : Int) := by omega
    go_enter Tryd.func30, Tryd.ntmps30
    go_wp2
    go_ret
    refine ⟨?_, Below.refl _ _⟩
    rw [← HRR.out, decide_eq_false fun e => hlen (by have := congrArg List.length e; rwa [rcs_len, rcs_len] at this)]
    rfl
#print axioms equalF_any
end Go.Proofs.YtcbmimjjpkkoeaaDoor

/- journal.Same and begins; slices.Clone of records; clone. -/
namespace Go.Proofs.YtcbmimjjpkkoeaaDoor
open Go Go.RowKit

set_option maxRecDepth 100000 in
set_option maxHeartbeats 1000000 in
theorem jsame_any (s t : Int) (u v : Value) (l m : List Rp) (w : World) (hl : RL w u l) (hm : RL w v m) : Calls Tryd.prog 10 #[.agg (jC s u), .agg (jC t v)] w fun e w' => e = .returned (.bool (decide ((⟨s, rcs l⟩ : Jr) = ⟨t, rcs m⟩))) ∧ Below w.heap.size w w' := by
  have HL := hid hl
  have HM := hid hm
  obtain ⟨po, c, rfl, _⟩ := hl
  obtain ⟨qo, d, rfl, _⟩ := hm
  have hE := fun W (hW : Below w.heap.size w W) => equalF_any _ _ l m W (HL.out.below hW) (HM.out.below hW)
  obtain ⟨R, hR⟩ : ∃ R : Bool, decide ((⟨s, rcs l⟩ : Jr) = ⟨t, rcs m⟩) = R := ⟨_, rfl⟩
  rw [hR]
  obtain ⟨q, hq⟩ : ∃ q : Bool, decide (rcs l = rcs m) = q := ⟨_, rfl⟩
  rw [hq] at hE
  have HE := hid hE
  have HQ := hid hq
  have HRR := hid hR
  clear hR hq hE
  have T1 : Hid True := hid trivial
  have T2 : Hid True := hid trivial
  by_cases hst : s = t
  · subst hst
    go_enter Tryd.func10, Tryd.ntmps10
    go_wp2_with (first
      | (clear T1; (with_reducible refine wpList_boxT 24 rfl _ rfl (jC s (.slice po l.length c)) ?_ ?_); exact rfl; intro w1 g1 hc1 hb1 hg1; have HC1 := hid hc1; have HB1 := hid hb1; clear hb1 hc1)
      | (clear T2; (with_reducible refine wpList_boxT 24 rfl _ rfl (jC s (.slice qo m.length d)) ?_ ?_); exact rfl; intro w2 g2 hc2 hb2 hg2; have d0 := hc2.j0; have d1 := hc2.j1; have c0 := (HC1.out.below hb2).j0; have c1 := (HC1.out.below hb2).j1; have HB2 := hid (below_on HB1.out hb2); clear hb2 hc2)
      | (go_at_call 30; refine (HE.out _ HB2.out).mono ?_; rintro e w3 ⟨rfl, hb3⟩; have HB3 := hid (below_on HB2.out hb3); clear hb3))
    go_ret
    refine ⟨?_, HB3.out⟩
    rw [← HRR.out, ← HQ.out]
    simp
  · go_enter Tryd.func10, Tryd.ntmps10
    go_wp2_with (first
      | (clear T1; (with_reducible refine wpList_boxT 24 rfl _ rfl (jC s (.slice po l.length c)) ?_ ?_); exact rfl; intro w1 g1 hc1 hb1 hg1; have HC1 := hid hc1; have HB1 := hid hb1; clear hb1 hc1)
      | (clear T2; (with_reducible refine wpList_boxT 24 rfl _ rfl (jC t (.slice qo m.length d)) ?_ ?_); exact rfl; intro w2 g2 hc2 hb2 hg2; have d0 := hc2.j0; have d1 := hc2.j1; have c0 := (HC1.out.below hb2).j0; have c1 := (HC1.out.below hb2).j1; have HB2 := hid (below_on HB1.out hb2); clear hb2 hc2))
    go_ret
    refine ⟨?_, HB2.out⟩
    rw [← HRR.out]
    simp [hst]
set_option maxRecDepth 100000 in
theorem begins_any (s : Int) (v : Value) (l : List Rp) (w : World) (hl : RL w v l) : Calls Tryd.prog 31 #[.agg (jC s v)] w fun e w' => e = .returned (.bool (decide (s = 0) && (rcs l).isEmpty)) ∧ Below w.heap.size w w' := by
  have hle : (rcs l).isEmpty = decide (l.length = 0) := by
    cases l <;> simp [rcs]
  rw [hle]
  obtain ⟨po, c, rfl, _⟩ := hl
  by_cases h0 : s = 0
  · subst h0
    by_cases h1 : l.length = 0
    · have h1' : (l.length : Int) = 0 := by omega
      go_enter Tryd.func31, Tryd.ntmps31
      go_wp2_with ((with_reducible refine wpList_boxT 24 rfl _ rfl (jC 0 (.slice po l.length c)) ?_ ?_); exact rfl; intro w1 g1 hc1 hb1 hg1; have c0 := hc1.j0; have c1 := hc1.j1; have HB1 := hid hb1; clear hb1 hc1)
      go_ret
      exact ⟨by simp [h1], HB1.out⟩
    · have h1' : ¬ (l.length : Int) = 0 := by omega
      go_enter Tryd.func31, Tryd.ntmps31
      go_wp2_with ((with_reducible refine wpList_boxT 24 rfl _ rfl (jC 0 (.slice po l.length c)) ?_ ?_); exact rfl; intro w1 g1 hc1 hb1 hg1; have c0 := hc1.j0; have c1 := hc1.j1; have HB1 := hid hb1; clear hb1 hc1)
      go_ret
      exact ⟨by simp [h1], HB1.out⟩
  · go_enter Tryd.func31, Tryd.ntmps31
    go_wp2_with ((with_reducible refine wpList_boxT 24 rfl _ rfl (jC s (.slice po l.length c)) ?_ ?_); exact rfl; intro w1 g1 hc1 hb1 hg1; have c0 := hc1.j0; have c1 := hc1.j1; have HB1 := hid hb1; clear hb1 hc1)
    go_ret
    exact ⟨by simp [h0], HB1.out⟩
theorem RBuf.made0 (w : World) (B : Nat) (hB : B ≤ w.heap.size) : RBuf B (w.alloc (.cells #[] 44)) (.slice (some ⟨w.heap.size, 0, none⟩) 0 0) [] := World.ownsRow_made w #[] 0 hB (by unfold maxLen; omega) (by simp)
/-- append(v, l...), the records anywhere. -/
theorem RBuf.app {B : Nat} {w : World} {v : Value} {m : List Rp} (hv : RBuf B w v m) (u : Value) (l : List Rp) (hl : RL w u l) (hn : m.length + l.length ≤ 1000000) (hB : B ≤ w.heap.size) :
    ∃ v' w', (Builtin.append_ #[22, 22] 22 #[v, u]).run Tryd.prog w = .ok v' w' ∧ RBuf B w' v' (m ++ l) ∧ w.grownBy w' v.ownBlock := by
  obtain ⟨i0, hi0, hz0, hz1, hz2⟩ := info_parts Tryd.infoRec
  have hok := hl.ok
  have hone := flatR_one hl.each
  obtain ⟨po, c, rfl, _, _, hz, h, _⟩ := hl
  cases po with
  | none =>
    have : l = [] := by
      rcases h with h | ⟨b, o, h, _⟩
      · exact h
      · cases h
    subst this
    obtain rfl := hz rfl
    refine ⟨v, w, run_append_owned_none (P := Tryd.prog) (w := w) B 22 22 44 i0 42 Tryd.underlying22 hi0 v _ _ hv, by simpa using hv, ⟨rfl, rfl, rfl, Nat.le_refl _, fun _ _ _ => rfl⟩⟩
  | some a =>
    obtain ⟨v', w', hr, h3, h4, _, _⟩ := run_append_own_at (P := Tryd.prog) w B 22 22 44 i0 _ 42 160 Tryd.underlying22 hi0 hz0 hz1 hz2 (by rw [Value.cells, zR_ok.size]) (by decide) v m.length (flatR m) hv a l.length c (flatR l) (flatR_len hok) (fun j u hj => by
      rcases h with h | ⟨b, o, e2, h⟩
      · subst h; simp [flatR] at hj
      · cases e2
        rw [add_none]
        exact h.unflat hok j u hj) hone (by unfold maxLen; omega) (by omega) hB
    refine ⟨v', w', hr, ?_, h4⟩
    unfold RBuf
    rw [List.length_append, flatR_app]; exact h3
theorem eq_nilR (w : World) (a : Option Addr) (n c n' c' : Nat) : (binOp .eql 22 (.slice a n c) (.slice none n' c')).run Tryd.prog w = .ok (.bool a.isNone) w := Lib.run_eql_slice_nil w _ _ a n c n' c' Tryd.underlying22
def CloS (w : World) (l : List Rp) (e : Ending) (w' : World) : Prop := ∃ v', e = .returned v' ∧ RBuf w.heap.size w' v' l ∧ Below w.heap.size w w'
set_option maxRecDepth 100000 in
set_option maxHeartbeats 1000000 in
theorem cloneS_any (v : Value) (l : List Rp) (w : World) (hl : RL w v l) : Calls Tryd.prog 75 #[v] w (CloS w l) := by
  have HL := hid hl
  obtain ⟨po, c, rfl, _, hn, hz, hcell, _⟩ := hl
  have heq := eq_nilR
  cases po with
  | none =>
    have : l = [] := by
      rcases hcell with h | ⟨b, o, h, _⟩
      · exact h
      · cases h
    subst this
    clear hcell HL
    go_enter Tryd.func75, Tryd.ntmps75
    go_wp2
    go_ret
    exact ⟨_, rfl, RBuf.nil _ _, Below.refl _ _⟩
  | some a =>
    clear hcell
    obtain ⟨v1, w1, hr, hb, hg⟩ := (RBuf.made0 w w.heap.size (Nat.le_refl _)).app _ l (HL.out.below (below_al w _)) (by simpa using by omega) (by rw [size_al]; omega)
    rw [List.nil_append] at hb
    have HRUN := hid hr
    have HB := hid hb
    have HW : Hid (Below w.heap.size w w1) := hid (below_grown (below_al w _) hg (Nat.le_refl _) (fun b hb => by simp [Value.ownBlock] at hb; omega))
    clear hr hb hg
    go_enter Tryd.func75, Tryd.ntmps75
    go_wp2_with (at_builtin; refine wpList_append_run _ _ 22 22 rfl rfl _ _ _ rfl rfl HRUN.out ?_)
    go_ret
    exact ⟨_, rfl, HB.out, HW.out⟩
#print axioms cloneS_any
#print axioms jsame_any
end Go.Proofs.YtcbmimjjpkkoeaaDoor

/- records: two lists of records. -/
namespace Go.Proofs.YtcbmimjjpkkoeaaDoor
open Go Go.RowKit

theorem run_loadM {w : World} {b o : Nat} {r : Rv} (hr : r.ok) (hc : w.rangeAt b o r.cs.toList) : (Instr.loadAt 44 (.pointer (some ⟨b, o, none⟩))).run Tryd.prog w = .ok (.agg r.cs) w := by
  have := run_loadAt_mid (P := Tryd.prog) w b o 44 r.cs.toList (.struct (Tryd.prog.fieldsOf 44)) hc underRec rfl (by rw [sizeR42 (x := ⟨r, []⟩) hr]; exact sizeR)
  simpa using this
theorem RL.where {w : World} {v : Value} {l : List Rp} (h : RL w v l) {i : Nat} {x : Rp} (hx : l[i]? = some x) : ∃ b o c, v = .slice (some ⟨b, o, none⟩) l.length c ∧ l.length ≤ c ∧ RCells w b o l := by
  obtain ⟨po, c, h1, h2, _, _, h3, _⟩ := h
  rcases h3 with h3 | ⟨b, o, rfl, h3⟩
  · rw [h3] at hx; cases hx
  · exact ⟨b, o, c, h1, h2, h3⟩
theorem RCells.below {w w' : World} {b o : Nat} {l : List Rp} (h : RCells w b o l) (hb : Below w.heap.size w w') : RCells w' b o l := h.keep fun a ha => World.cell?_of_block (hb.block a.block (cell_lt' ha))
set_option maxRecDepth 100000 in
set_option maxHeartbeats 4000000 in
theorem records_any (u v : Value) (l m : List Rp) (w : World) (hl : RL w u l) (hm : RL w v m) : Calls Tryd.prog 17 #[u, v] w fun e w' => e = .returned (.bool (decide (rcs l = rcs m))) ∧ Below w.heap.size w w' := by
  have HLL := hid hl
  have HMM := hid hm
  by_cases hne : l.length = m.length
  · obtain ⟨po, c, rfl, hc1, hn1, _⟩ := hl
    obtain ⟨qo, d, rfl, hd1, hn2, _⟩ := hm
    have hne' : (l.length : Int) = (m.length : Int) := by omega
    obtain ⟨B, hB⟩ : ∃ B : Bool, decide (rcs l = rcs m) = B := ⟨_, rfl⟩
    rw [hB]
    have HBB := hid hB
    have HNE := hid hne
    obtain ⟨n, hn⟩ : ∃ n, m.length = n := ⟨_, rfl⟩
    rw [hn] at hne hne' hn2 ⊢
    rw [hne]
    clear hB
    go_enter Tryd.func17, Tryd.ntmps17
    go_wp2
    go_loopg [5] n (fun gg s5 wr => ∃ kk : Nat, kk ≤ n ∧ n - kk ≤ gg ∧ s5 = i64 kk ∧ Hid (Below w.heap.size w wr) ∧ Hid (∀ j, j < kk → (rcs l)[j]? = (rcs m)[j]?))
    case atStart => exact ⟨0, Nat.zero_le _, by omega, rfl, Below.refl _ _, fun j hj => absurd hj (Nat.not_lt_zero _)⟩
    case round =>
      obtain ⟨kk, hkk, hg, rfl, BW, A⟩ := hrel
      by_cases hlt : kk < n
      · have hltz : (kk : Int) < (n : Int) := by omega
        obtain ⟨x, hx⟩ : ∃ x, l[kk]? = some x := ⟨_, List.getElem?_eq_getElem (by omega)⟩
        obtain ⟨y, hy⟩ : ∃ y, m[kk]? = some y := ⟨_, List.getElem?_eq_getElem (by omega)⟩
        obtain ⟨b1, o1, c1, e1, _, hc1⟩ := HLL.out.where hx
        cases e1
        obtain ⟨b2, o2, c2, e2, _, hc2⟩ := HMM.out.where hy
        cases e2
        have hox := HLL.out.each x (List.mem_of_getElem? hx)
        have hoy := HMM.out.each y (List.mem_of_getElem? hy)
        have HXR : Hid ((rcs l)[kk]? = some x.rc) := hid (by rw [rcs_get, hx]; rfl)
        have HYR : Hid ((rcs m)[kk]? = some y.rc) := hid (by rw [rcs_get, hy]; rfl)
        obtain ⟨D, hD⟩ : ∃ D : Bool, decide (x.rc = y.rc) = D := ⟨_, rfl⟩
        have HSM : Hid (∀ W, Below w.heap.size w W → Calls Tryd.prog 19 #[.agg x.r.cs, .agg y.r.cs] W fun e w' => e = .returned (.bool D) ∧ Below W.heap.size W w') := hid (fun W hW => by
          have := same_any x.r y.r hox.ok hoy.ok x.ps y.ps W (hox.pl.below hW) (hoy.pl.below hW)
          rw [show decide (x.r.rc x.ps = y.r.rc y.ps) = D from hD] at this
          exact this)
        have HSF : Hid (∀ W, Below w.heap.size w W → (Instr.loadAt 44 (.pointer (some ⟨b1, o1 + kk * 42, none⟩))).run Tryd.prog W = .ok (.agg x.r.cs) W ∧ (Instr.loadAt 44 (.pointer (some ⟨b2, o2 + kk * 42, none⟩))).run Tryd.prog W = .ok (.agg y.r.cs) W) := hid (fun W hW => ⟨run_loadM hox.ok ((hc1.below hW).range hx), run_loadM hoy.ok ((hc2.below hW).range hy)⟩)
        have HDD := hid hD
        clear hc1 hc2 hox hoy hx hy hD
        go_upto_region 6 with fail
        refine wp_region_held_drew (S := fun W => (Instr.loadAt 44 (.pointer (some ⟨b1, o1 + kk * 42, none⟩))).run Tryd.prog W = .ok (.agg x.r.cs) W ∧ (Instr.loadAt 44 (.pointer (some ⟨b2, o2 + kk * 42, none⟩))).run Tryd.prog W = .ok (.agg y.r.cs) W) (by kernel_rfl) (HSF.out _ (below_on BW.out (below_drew _))) (fun hHeld => ?_)
        have HD := hid (below_on BW.out (below_drew wr))
        refine wpAnyH_take (i := 0) (oi := ⟨some 17, .move (.tmp 0), _, _, _, none⟩) (v := .slice (some ⟨b1, o1, none⟩) n c) rfl (by kernel_rfl) (by kernel_rfl) (by kernel_rfl) (fun _ _ _ h => h) (Or.inl ⟨by kernel_rfl, by intro W hW; go_simp⟩) hHeld ?_
        refine wpAnyH_take (i := 1) (oi := ⟨some 18, .move (.tmp 5), _, _, _, none⟩) (v := i64 kk) rfl (by kernel_rfl) (by kernel_rfl) (by kernel_rfl) (fun _ _ _ h => h) (Or.inl ⟨by kernel_rfl, by intro W hW; go_simp⟩) hHeld ?_
        refine wpAnyH_take (i := 2) (oi := ⟨some 19, .indexAddr 22 (.tmp 17) (.tmp 18), _, _, _, none⟩) (v := .pointer (some ⟨b1, o1 + kk * 42, none⟩)) rfl (by kernel_rfl) (by kernel_rfl) (by kernel_rfl) (fun _ _ _ h => h) (Or.inl ⟨by kernel_rfl, by intro W hW; go_simp⟩) hHeld ?_
        refine wpAnyH_take (i := 3) (oi := ⟨some 20, .load 44 (.tmp 19), _, _, _, none⟩) (v := .agg x.r.cs) rfl (by kernel_rfl) (by kernel_rfl) (by kernel_rfl) (fun _ _ _ h => h) (Or.inl ⟨by kernel_rfl, fun W hW => exec_load rfl (by kernel_rfl) hW.1⟩) hHeld ?_
        refine wpAnyH_take (i := 4) (oi := ⟨some 21, .move (.tmp 1), _, _, _, none⟩) (v := .slice (some ⟨b2, o2, none⟩) n d) rfl (by kernel_rfl) (by kernel_rfl) (by kernel_rfl) (fun _ _ _ h => h) (Or.inl ⟨by kernel_rfl, by intro W hW; go_simp⟩) hHeld ?_
        refine wpAnyH_take (i := 5) (oi := ⟨some 22, .move (.tmp 5), _, _, _, none⟩) (v := i64 kk) rfl (by kernel_rfl) (by kernel_rfl) (by kernel_rfl) (fun _ _ _ h => h) (Or.inl ⟨by kernel_rfl, by intro W hW; go_simp⟩) hHeld ?_
        refine wpAnyH_take (i := 6) (oi := ⟨some 23, .indexAddr 22 (.tmp 21) (.tmp 22), _, _, _, none⟩) (v := .pointer (some ⟨b2, o2 + kk * 42, none⟩)) rfl (by kernel_rfl) (by kernel_rfl) (by kernel_rfl) (fun _ _ _ h => h) (Or.inl ⟨by kernel_rfl, by intro W hW; go_simp⟩) hHeld ?_
        refine wpAnyH_take (i := 7) (oi := ⟨some 24, .load 44 (.tmp 23), _, _, _, none⟩) (v := .agg y.r.cs) rfl (by kernel_rfl) (by kernel_rfl) (by kernel_rfl) (fun _ _ _ h => h) (Or.inl ⟨by kernel_rfl, fun W hW => exec_load rfl (by kernel_rfl) hW.2⟩) hHeld ?_
        refine wpAnyH_ready (rs := [8]) (by kernel_rfl) (by simp) ?_
        refine AllReadyH.cons rfl (fun K hK => ?_) AllReadyH.nil
        go_simp
        refine (HSM.out _ HD.out).mono ?_
        rintro e x8 ⟨rfl, hb⟩
        replace HD := hid (below_on HD.out hb)
        clear hb
        go_wp2_with fail
        refine hK.out _ _ (HSF.out _ HD.out) (fun hHeld => ?_)
        clear hK K
        refine wpAnyH_take (i := 9) (oi := ⟨some 26, .unOp .not 4 (.tmp 25), _, _, _, none⟩) (v := .bool !D) rfl (by kernel_rfl) (by kernel_rfl) (by kernel_rfl) (fun _ _ _ h => h) (Or.inl ⟨by kernel_rfl, by intro W hW; go_simp⟩) hHeld ?_
        refine wpAnyH_done (by kernel_rfl) ?_ _
        simp only [Act.put, List.setIfInBounds_toArray, List.set_cons_zero, List.set_cons_succ]
        cases D with
        | true =>
          go_wp2
          go_roundg (n - (kk + 1))
          case measure => omega
          case rel =>
            refine ⟨kk + 1, by omega, by omega, by go_num, HD.out, (show Hid _ from fun j hj => ?_)⟩
            by_cases e : j = kk
            · subst e; rw [HXR.out, HYR.out, of_decide_eq_true HDD.out]
            · exact A.out j (by omega)
        | false =>
          go_wp2
          go_ret
          refine ⟨?_, HD.out⟩
          rw [← HBB.out, decide_eq_false (fun e => of_decide_eq_false HDD.out (Option.some.inj (by rw [← HXR.out, ← HYR.out, e])))]
          rfl
      · have hltz : ¬ (kk : Int) < (n : Int) := by omega
        go_wp2
        go_ret
        refine ⟨?_, BW.out⟩
        rw [← HBB.out, decide_eq_true (List.ext_getElem? fun j => ?_)]
        · rfl
        · by_cases hj : j < kk
          · exact A.out j hj
          · rw [List.getElem?_eq_none (by rw [rcs_len, HNE.out]; omega), List.getElem?_eq_none (by rw [rcs_len]; omega)]
  · have e : decide (rcs l = rcs m) = false := decide_eq_false fun e => hne (by have := congrArg List.length e; rwa [rcs_len, rcs_len] at this)
    rw [e]
    obtain ⟨po, c, rfl, _⟩ := hl
    obtain ⟨qo, d, rfl, _⟩ := hm
    have hne' : ¬ (l.length : Int) = (m.length : Int) := by omega
    clear e
    go_enter Tryd.func17, Tryd.ntmps17
    go_wp2
    go_ret
    exact ⟨rfl, Below.refl _ _⟩
#print axioms records_any
end Go.Proofs.YtcbmimjjpkkoeaaDoor
