/- Texts laid into one: the remark ahead of each part says what is proved there. -/
import Derived.Test.YtcbmimjjpkkoeaaGreatDoorQal
import Derived.Lib.SliceRun
/- journal.Check. -/
namespace Go.Proofs.YtcbmimjjpkkoeaaGreatDoor
open Go Go.RowKit

theorem wpList_boxT (t : TypeId) {ops : Array Oper} {rest : List Oper} {o : Oper} {a : Act} {w : World} {Q : Exit → Act → World → Prop} (hg : o.guard = none) (x : Operand) (ho : o.op = .box t x) (cs : Array Value) (hx : a.eval x = .agg cs)
    (h : ∀ w1 g, CAt w1 g cs t → Below w.heap.size w w1 → w.heap.size ≤ g → wpList Tryz.prog ops Q rest (a.put o.dst (ptr g)) w1) : wpList Tryz.prog ops Q (o :: rest) a w := by
  refine wpList_plain hg fun K hK => ?_
  unfold Oper.wp execOp
  simp only [ho, Instr.box, newVar, newRow, hx, Value.cells, Sem.run_bind]
  simp
  exact hK _ _ (h _ _ (CAt.made _ _ _) (below_al _ _) (Nat.le_refl _))
/-- A journal's cells. -/
def jC (s : Int) (v : Value) : Array Value := #[i64 s, v]
theorem CAt.j0 {w : World} {g : Nat} {s : Int} {v : Value} {t : TypeId} (h : CAt w g (jC s v) t) : w.cell? ⟨g, 0, none⟩ = some (i64 s) := by rw [h.cell]; rfl
theorem CAt.j1 {w : World} {g : Nat} {s : Int} {v : Value} {t : TypeId} (h : CAt w g (jC s v) t) : w.cell? ⟨g, 1, none⟩ = some v := by rw [h.cell]; rfl
theorem okJ_of {s : Int} {l : List Rc} (h1 : 1 ≤ s) (h2 : s ≤ 1099511627776) (h3 : l.length ≤ 64) (h : ∀ j x, l[j]? = some x → okRc x = true ∧ atI l x.id = some j) : okJ ⟨s, l⟩ = true :=
  okJ_mk h1 h2 h3 (List.all_eq_true.2 fun x hx => by obtain ⟨j, hj, e⟩ := List.getElem_of_mem hx; exact (h j x (by rw [List.getElem?_eq_getElem hj, e])).1) (nodup_of_at fun i hi => (h i l[i] (List.getElem?_eq_getElem hi)).2)
theorem okJ_not {s : Int} {l : List Rc} {j : Nat} {x : Rc} (hx : l[j]? = some x) (h : okRc x = false ∨ atI l x.id ≠ some j) : okJ ⟨s, l⟩ = false := by
  cases e : okJ ⟨s, l⟩ with
  | false => rfl
  | true =>
    obtain ⟨_, _, _, h4, h5⟩ := okJ_parts e
    rcases h with h | h
    · have := List.all_eq_true.1 h4 x (List.mem_of_getElem? hx)
      rw [h] at this; cases this
    · obtain ⟨hj, e2⟩ := List.getElem?_eq_some_iff.1 hx
      subst e2
      exact absurd (atI_at h5 j hj) h
theorem okJ_out {s : Int} {l : List Rc} (h : s < 1 ∨ 1099511627776 < s ∨ 64 < l.length) : okJ ⟨s, l⟩ = false := by
  cases e : okJ ⟨s, l⟩ with
  | false => rfl
  | true => obtain ⟨h1, h2, h3, _⟩ := okJ_parts e; simp at h1 h2 h3; omega
set_option maxRecDepth 100000 in
set_option maxHeartbeats 1000000 in
theorem jcheck_out (s : Int) (v : Value) (l : List Rp) (w : World) (hl : RL w v l) (h : s < 1 ∨ 1099511627776 < s ∨ 64 < l.length) : Calls Tryz.prog 7 #[.agg (jC s v)] w fun e w' => e = .returned (i64 2) ∧ Below w.heap.size w w' := by
  obtain ⟨po, c, rfl, _⟩ := hl
  by_cases h1 : s < 1
  · go_enter Tryz.func7, Tryz.ntmps7
    go_wp2_with ((with_reducible refine wpList_boxT 24 rfl _ rfl (jC s (.slice po l.length c)) ?_ ?_); exact rfl; intro w1 g1 hc1 hb1 hg1; have c0 := hc1.j0; have c1 := hc1.j1; have HB := hid hb1; clear hb1 hc1)
    go_ret
    exact ⟨rfl, HB.out⟩
  · by_cases h2 : 1099511627776 < s
    · go_enter Tryz.func7, Tryz.ntmps7
      go_wp2_with ((with_reducible refine wpList_boxT 24 rfl _ rfl (jC s (.slice po l.length c)) ?_ ?_); exact rfl; intro w1 g1 hc1 hb1 hg1; have c0 := hc1.j0; have c1 := hc1.j1; have HB := hid hb1; clear hb1 hc1)
      go_ret
      exact ⟨rfl, HB.out⟩
    · have h3 : (64 : Int) < (l.length : Int) := by omega
      go_enter Tryz.func7, Tryz.ntmps7
      go_wp2_with ((with_reducible refine wpList_boxT 24 rfl _ rfl (jC s (.slice po l.length c)) ?_ ?_); exact rfl; intro w1 g1 hc1 hb1 hg1; have c0 := hc1.j0; have c1 := hc1.j1; have HB := hid hb1; clear hb1 hc1)
      go_ret
      exact ⟨rfl, HB.out⟩
/-- A record's own block, behind what was there. -/
structure Own1 (w : World) (g : Nat) (r : Rv) (W : World) : Prop where
  below : Below w.heap.size w W
  box : RBox W g r
theorem Own1.mk1 {w w1 w2 : World} {g : Nat} {r : Rv} (hb : Below w.heap.size w w1) (hg : w.heap.size = g) (h : RBox w2 g r) (ho : Only (fun b => b = g) w1 w2) : Own1 w g r w2 :=
  ⟨below_tr hb (ho.below hb.size (fun i e => by omega)), h⟩
theorem Own1.on {w W W' : World} {g : Nat} {r : Rv} (h : Own1 w g r W) (hr : r.ok) (hb : Below W.heap.size W W') : Own1 w g r W' := ⟨below_on h.below hb, h.box.below hr hb⟩
theorem rangeAt_below {w W : World} {b o : Nat} {cs : List Value} (h : w.rangeAt b o cs) (hb : Below w.heap.size w W) : W.rangeAt b o cs := fun j v hv => by
  have := h j v hv
  rw [World.cell?_of_block (a := ⟨b, o + j, none⟩) (hb.block b (cell_lt' (a := ⟨b, o + j, none⟩) (by rw [this]; simp)))]; exact this
set_option maxRecDepth 100000 in
set_option maxHeartbeats 2000000 in
theorem jcheck_in (s : Int) (v : Value) (l : List Rp) (w : World) (hl : RL w v l) (h1 : 1 ≤ s) (h2 : s ≤ 1099511627776) (h3 : l.length ≤ 64) : Calls Tryz.prog 7 #[.agg (jC s v)] w fun e w' => e = .returned (i64 (if okJ ⟨s, rcs l⟩ = true then 0 else 2)) ∧ Below w.heap.size w w' := by
  have HL := hid hl
  obtain ⟨R, hR⟩ : ∃ R : Int, (if okJ ⟨s, rcs l⟩ = true then (0 : Int) else 2) = R := ⟨_, rfl⟩
  rw [hR]
  have HRR := hid hR
  clear hR
  obtain ⟨po, c, rfl, hc1, hn, hz, hcell, heach⟩ := hl
  have HE := hid heach
  have HC := hid hcell
  clear heach hcell
  have h3' : (l.length : Int) ≤ 64 := by omega
  go_enter Tryz.func7, Tryz.ntmps7
  go_wp2_with ((with_reducible refine wpList_boxT 24 rfl _ rfl (jC s (.slice po l.length c)) ?_ ?_); exact rfl; intro w1 g1 hc1 hb1 hg1; have c0 := hc1.j0; have c1 := hc1.j1; have HJ := hid hc1; have HB := hid hb1; clear hb1 hc1)
  go_loopg [3, 4, 22] l.length (fun gg _ _ s8 wr => ∃ kk : Nat, kk ≤ l.length ∧ l.length - kk ≤ gg ∧ s8 = i64 kk ∧ Hid (Below w1.heap.size w1 wr) ∧ Hid (∀ j x, (rcs l)[j]? = some x → j < kk → okRc x = true ∧ atI (rcs l) x.id = some j))
  case atStart => exact ⟨0, Nat.zero_le _, by omega, rfl, Below.refl _ _, fun j x _ hj => absurd hj (Nat.not_lt_zero _)⟩
  case round =>
    obtain ⟨kk, hkk, hg, rfl, BW, A⟩ := hrel
    clear c0 c1
    by_cases hlt : kk < l.length
    · have hltz : (kk : Int) < (l.length : Int) := by omega
      obtain ⟨x, hx⟩ : ∃ x, l[kk]? = some x := ⟨_, List.getElem?_eq_getElem hlt⟩
      have hxm := List.mem_of_getElem? hx
      obtain ⟨b, o, hpo, hcells⟩ : ∃ b o, po = some ⟨b, o, none⟩ ∧ RCells w b o l := by
        rcases HC.out with h | h
        · rw [h] at hlt; simp at hlt
        · exact h
      subst hpo
      have BW0 := hid (below_on HB.out BW.out)
      have hcw : RCells wr b o l := hcells.keep fun a ha => World.cell?_of_block (BW0.out.block a.block (cell_lt' ha))
      have HR := hid (hcw.range hx)
      have hok := (HE.out x hxm).ok
      have HX := hid hx
      have HP := hid ((HE.out x hxm).pl)
      have hone : x.r.pv.oneCell' = true := by obtain ⟨p0, c0, e0, _⟩ := HP.out; rw [e0]; rfl
      clear hcells hcw hx hxm
      have hxr : (rcs l)[kk]? = some x.rc := by rw [rcs_get, HX.out]; rfl
      have HXR := hid hxr
      clear hxr
      have HCK : Hid (∀ W, Below w.heap.size w W → Calls Tryz.prog 21 #[.agg x.r.cs] W fun e w' => e = .returned (i64 (if okRc x.rc = true then 0 else 2)) ∧ Below W.heap.size W w') := hid fun W hW => check_any x.r hok x.ps W (HP.out.below hW)
      cases hq : okRc x.rc with
      | false =>
        rw [hq] at HCK
        simp only [Bool.false_eq_true, if_false] at HCK
        go_wp2_with (first
          | ((with_reducible refine wpList_loadM rfl _ rfl b (o + kk * 42) ?_ x.r hok HR.out ?_); exact rfl)
          | ((with_reducible refine wpList_allocR rfl rfl ?_); intro w2 g2 hz2 hb2 hg2; have HZ := hid hz2; have HB2 := hid hb2; have HG2 := hid hg2; clear hz2 hb2 hg2)
          | ((with_reducible refine wpList_storeR rfl rfl _ _ rfl g2 ?_ (r := x.r) ?_ zR_ok hok hone HZ.out ?_); exact rfl; exact rfl; intro w3 h3 o3; have HO := hid (Own1.mk1 HB2.out HG2.out h3 o3); have HW3 := hid (below_on BW0.out HO.out.below); clear h3 o3)
          | ((with_reducible refine wpList_load_at 45 _ rfl ?_ g2 0 ?_ x.r.cs (.struct (Tryz.prog.fieldsOf 45)) ?_ underRec rfl ?_ ?_); exact rfl; exact rfl; exact HO.out.box.whole; (rw [hok.size]; exact sizeR))
          | (go_at_call 21; refine (HCK.out _ HW3.out).mono ?_; rintro e w4 ⟨rfl, hb4⟩; have HO4 := hid (HO.out.on hok hb4); have HW4 := hid (below_on HW3.out hb4); have j1 := (HJ.out.below (below_on BW.out (below_on HO.out.below hb4))).j1; have x0 := HO4.out.box.c0; clear hb4))
        go_ret
        refine ⟨?_, HW4.out⟩
        rw [← HRR.out, okJ_not HXR.out (Or.inl hq)]
        rfl
      | true =>
        rw [hq] at HCK
        simp only [if_true] at HCK
        have hpl := place_any (.slice (some ⟨b, o, none⟩) l.length c) l x.r.id
        obtain ⟨q, hQ⟩ : ∃ q, plI (atI (rcs l) (lst x.r.id)) = q := ⟨_, rfl⟩
        rw [hQ] at hpl
        have HPL := hid hpl
        have HQ := hid hQ
        clear hpl hQ
        by_cases he : q = (kk : Int)
        · subst he
          go_wp2_with (first
            | ((with_reducible refine wpList_loadM rfl _ rfl b (o + kk * 42) ?_ x.r hok HR.out ?_); exact rfl)
            | ((with_reducible refine wpList_allocR rfl rfl ?_); intro w2 g2 hz2 hb2 hg2; have HZ := hid hz2; have HB2 := hid hb2; have HG2 := hid hg2; clear hz2 hb2 hg2)
            | ((with_reducible refine wpList_storeR rfl rfl _ _ rfl g2 ?_ (r := x.r) ?_ zR_ok hok hone HZ.out ?_); exact rfl; exact rfl; intro w3 h3 o3; have HO := hid (Own1.mk1 HB2.out HG2.out h3 o3); have HW3 := hid (below_on BW0.out HO.out.below); clear h3 o3)
            | ((with_reducible refine wpList_load_at 45 _ rfl ?_ g2 0 ?_ x.r.cs (.struct (Tryz.prog.fieldsOf 45)) ?_ underRec rfl ?_ ?_); exact rfl; exact rfl; exact HO.out.box.whole; (rw [hok.size]; exact sizeR))
            | (go_at_call 21; refine (HCK.out _ HW3.out).mono ?_; rintro e w4 ⟨rfl, hb4⟩; have HO4 := hid (HO.out.on hok hb4); have HW4 := hid (below_on HW3.out hb4); have j1 := (HJ.out.below (below_on BW.out (below_on HO.out.below hb4))).j1; have x0 := HO4.out.box.c0; clear hb4)
            | (go_at_call 22; refine (HPL.out _ (HL.out.below HW4.out)).mono ?_; rintro e w5 ⟨rfl, hb5⟩; have HW5 := hid (below_on HW4.out hb5); have HB5 := hid hb5; clear hb5))
          go_roundg (l.length - (kk + 1))
          case measure => omega
          case rel =>
            refine ⟨kk + 1, by omega, by omega, by go_num, ?_, (show Hid _ from fun j y hy hj => ?_)⟩
            · exact below_on (below_on BW.out HO4.out.below) HB5.out
            · by_cases e : j = kk
              · subst e
                rw [HXR.out] at hy; cases hy
                refine ⟨hq, ?_⟩
                have := HQ.out
                rw [rc_id]
                cases ha : atI (rcs l) (lst x.r.id) with
                | none => rw [ha] at this; exact absurd this (by show ¬ ((-1 : Int) = _); omega)
                | some i => rw [ha] at this; have h9 : ((i : Nat) : Int) = (j : Int) := this; rw [show i = j by omega]
              · exact A.out j y hy (by omega)
        · go_wp2_with (first
            | ((with_reducible refine wpList_loadM rfl _ rfl b (o + kk * 42) ?_ x.r hok HR.out ?_); exact rfl)
            | ((with_reducible refine wpList_allocR rfl rfl ?_); intro w2 g2 hz2 hb2 hg2; have HZ := hid hz2; have HB2 := hid hb2; have HG2 := hid hg2; clear hz2 hb2 hg2)
            | ((with_reducible refine wpList_storeR rfl rfl _ _ rfl g2 ?_ (r := x.r) ?_ zR_ok hok hone HZ.out ?_); exact rfl; exact rfl; intro w3 h3 o3; have HO := hid (Own1.mk1 HB2.out HG2.out h3 o3); have HW3 := hid (below_on BW0.out HO.out.below); clear h3 o3)
            | ((with_reducible refine wpList_load_at 45 _ rfl ?_ g2 0 ?_ x.r.cs (.struct (Tryz.prog.fieldsOf 45)) ?_ underRec rfl ?_ ?_); exact rfl; exact rfl; exact HO.out.box.whole; (rw [hok.size]; exact sizeR))
            | (go_at_call 21; refine (HCK.out _ HW3.out).mono ?_; rintro e w4 ⟨rfl, hb4⟩; have HO4 := hid (HO.out.on hok hb4); have HW4 := hid (below_on HW3.out hb4); have j1 := (HJ.out.below (below_on BW.out (below_on HO.out.below hb4))).j1; have x0 := HO4.out.box.c0; clear hb4)
            | (go_at_call 22; refine (HPL.out _ (HL.out.below HW4.out)).mono ?_; rintro e w5 ⟨rfl, hb5⟩; have HW5 := hid (below_on HW4.out hb5); have HB5 := hid hb5; clear hb5))
          go_ret
          refine ⟨?_, HW5.out⟩
          rw [← HRR.out, okJ_not HXR.out (Or.inr fun e => he (by rw [← HQ.out, ← rc_id, e]; rfl))]
          rfl
    · have hltz : ¬ (kk : Int) < (l.length : Int) := by omega
      go_wp2
      go_ret
      refine ⟨?_, below_on HB.out BW.out⟩
      rw [← HRR.out, okJ_of h1 h2 (by rw [rcs_len]; exact h3) (fun j x hx => A.out j x hx (by have := (List.getElem?_eq_some_iff.1 hx).1; rw [rcs_len] at this; omega))]
      rfl
theorem jcheck_any (s : Int) (v : Value) (l : List Rp) (w : World) (hl : RL w v l) : Calls Tryz.prog 7 #[.agg (jC s v)] w fun e w' => e = .returned (i64 (if okJ ⟨s, rcs l⟩ = true then 0 else 2)) ∧ Below w.heap.size w w' := by
  by_cases h : s < 1 ∨ 1099511627776 < s ∨ 64 < l.length
  · rw [okJ_out (by rw [rcs_len]; exact h)]
    exact jcheck_out s v l w hl h
  · exact jcheck_in s v l w hl (by omega) (by omega) (by omega)
#print axioms jcheck_any
end Go.Proofs.YtcbmimjjpkkoeaaGreatDoor

/- journal.Same, by slices.EqualFunc and record.Same. -/
namespace Go.Proofs.YtcbmimjjpkkoeaaGreatDoor
open Go Go.RowKit

/-- What the range's variable needs of a list's record. -/
theorem RL.at {w W : World} {po : Option Addr} {c : Nat} {l : List Rp} (h : RL w (.slice po l.length c) l) (hb : Below w.heap.size w W) {k : Nat} (hk : k < l.length) :
    ∃ b o x, po = some ⟨b, o, none⟩ ∧ l[k]? = some x ∧ W.rangeAt b (o + k * 42) x.r.cs.toList ∧ RpOk W x ∧ x.r.pv.oneCell' = true := by
  obtain ⟨x, hx⟩ : ∃ x, l[k]? = some x := ⟨_, List.getElem?_eq_getElem hk⟩
  obtain ⟨po', c', e, _, _, _, hcell, heach⟩ := h.below hb
  cases e
  rcases hcell with h | ⟨b, o, e, hc⟩
  · rw [h] at hk; cases hk
  · have hr := heach x (List.mem_of_getElem? hx)
    refine ⟨b, o, x, e, hx, hc.range hx, hr, ?_⟩
    obtain ⟨p0, c0, e0, _⟩ := hr.pl
    rw [e0]; rfl
theorem take_eq_of {α : Type} {l m : List α} {k : Nat} (hl : l.length = m.length) (h : ∀ j, j < k → l[j]? = m[j]?) (hk : l.length ≤ k) : l = m := by
  apply List.ext_getElem?
  intro j
  by_cases hj : j < k
  · exact h j hj
  · rw [List.getElem?_eq_none (by omega), List.getElem?_eq_none (by omega)]
set_option maxRecDepth 100000 in
set_option maxHeartbeats 2000000 in
theorem equalF_any (u v : Value) (l m : List Rp) (w : World) (hl : RL w u l) (hm : RL w v m) : Calls Tryz.prog 28 #[u, v, .func (.func 29) #[] #[]] w fun e w' => e = .returned (.bool (decide (rcs l = rcs m))) ∧ Below w.heap.size w w' := by
  have HL := hid hl
  have HM := hid hm
  have hnl := hl.len
  have hnm := hm.len
  obtain ⟨po, c, rfl, _⟩ := hl
  obtain ⟨qo, d, rfl, _⟩ := hm
  obtain ⟨R, hR⟩ : ∃ R : Bool, decide (rcs l = rcs m) = R := ⟨_, rfl⟩
  rw [hR]
  have HRR := hid hR
  clear hR
  by_cases hlen : l.length = m.length
  · have HLEN := hid hlen
    have hlen' : (l.length : Int) = (m.length : Int) := by omega
    rw [← hlen]
    go_enter Tryz.func28, Tryz.ntmps28
    clear hlen hlen'
    go_wp2
    go_loopg [7, 8, 9, 17] l.length (fun gg _ _ _ s8 wr => ∃ kk : Nat, kk ≤ l.length ∧ l.length - kk ≤ gg ∧ s8 = i64 kk ∧ Hid (Below w.heap.size w wr) ∧ Hid (∀ j, j < kk → (rcs l)[j]? = (rcs m)[j]?))
    case atStart => exact ⟨0, Nat.zero_le _, by omega, rfl, Below.refl _ _, fun j hj => absurd hj (Nat.not_lt_zero _)⟩
    case round =>
      obtain ⟨kk, hkk, hg, rfl, BW, A⟩ := hrel
      by_cases hlt : kk < l.length
      · have hltz : (kk : Int) < (l.length : Int) := by omega
        obtain ⟨b, o, x, e1, hx, hrx, hkx, hox⟩ := HL.out.at BW.out hlt
        have hm2 := HM.out
        obtain ⟨b2, o2, y, e2, hy, hry, hky, hoy⟩ := hm2.at BW.out (k := kk) (by have := HLEN.out; omega)
        subst e1 e2
        have hokx := hkx.ok
        have hoky := hky.ok
        have HRX := hid hrx
        have HRY := hid hry
        have HKX := hid hkx
        have HKY := hid hky
        have HX := hid hx
        have HY := hid hy
        have hsame := fun W (hW : Below wr.heap.size wr W) => same_any x.r y.r hokx hoky x.ps y.ps W (HKX.out.pl.below hW) (HKY.out.pl.below hW)
        obtain ⟨q, hq⟩ : ∃ q : Bool, decide (x.r.rc x.ps = y.r.rc y.ps) = q := ⟨_, rfl⟩
        rw [hq] at hsame
        have HS := hid hsame
        have HQ := hid hq
        clear hrx hry hkx hky hx hy hm2 hsame hq
        have T1 : Hid True := hid trivial
        cases q with
        | true =>
          go_wp2_with (first
            | (clear T1; (with_reducible refine wpList_loadM rfl _ rfl b (o + kk * 42) ?_ x.r hokx HRX.out ?_); exact rfl; have T2 : Hid True := hid trivial)
            | (clear T2; (with_reducible refine wpList_allocR rfl rfl ?_); intro w2 g2 hz2 hb2 hg2; have HZ2 := hid hz2; have HB2 := hid hb2; have HG2 := hid hg2; clear hz2 hb2 hg2)
            | ((with_reducible refine wpList_storeR rfl rfl _ _ rfl g2 ?_ (r := x.r) ?_ zR_ok hokx hox HZ2.out ?_); exact rfl; exact rfl; intro w3 h3 o3; have HO3 := hid (Own1.mk1 HB2.out HG2.out h3 o3); clear h3 o3 HZ2; have HRY3 := hid (rangeAt_below HRY.out HO3.out.below))
            | ((with_reducible refine wpList_loadM rfl _ rfl b2 (o2 + kk * 42) ?_ y.r hoky HRY3.out ?_); exact rfl; have T3 : Hid True := hid trivial)
            | (clear T3; (with_reducible refine wpList_allocR rfl rfl ?_); intro w4 g4 hz4 hb4 hg4; have HZ4 := hid hz4; have HB4 := hid hb4; have HG4 := hid hg4; clear hz4 hb4 hg4)
            | ((with_reducible refine wpList_storeR rfl rfl _ _ rfl g4 ?_ (r := y.r) ?_ zR_ok hoky hoy HZ4.out ?_); exact rfl; exact rfl; intro w5 h5 o5; have HO5 := hid (Own1.mk1 HB4.out HG4.out h5 o5); clear h5 o5 HZ4; have HO6 := hid (HO3.out.on hokx HO5.out.below))
            | ((with_reducible refine wpList_load_at 45 _ rfl ?_ g2 0 ?_ x.r.cs (.struct (Tryz.prog.fieldsOf 45)) ?_ underRec rfl ?_ ?_); exact rfl; exact rfl; exact HO6.out.box.whole; (rw [hokx.size]; exact sizeR))
            | ((with_reducible refine wpList_load_at 45 _ rfl ?_ g4 0 ?_ y.r.cs (.struct (Tryz.prog.fieldsOf 45)) ?_ underRec rfl ?_ ?_); exact rfl; exact rfl; exact HO5.out.box.whole; (rw [hoky.size]; exact sizeR))
            | (go_at_call 29; refine (HS.out _ HO6.out.below).mono ?_; rintro e w7 ⟨rfl, hb7⟩; have HB7 := hid (below_on HO6.out.below hb7); clear hb7))
          go_roundg (l.length - (kk + 1))
          case measure => omega
          case rel =>
            refine ⟨kk + 1, by omega, by omega, by go_num, below_on BW.out HB7.out, (show Hid _ from fun j hj => ?_)⟩
            by_cases e : j = kk
            · subst e
              rw [rcs_get, rcs_get, HX.out, HY.out]
              exact congrArg some (of_decide_eq_true HQ.out)
            · exact A.out j (by omega)
        | false =>
          go_wp2_with (first
            | (clear T1; (with_reducible refine wpList_loadM rfl _ rfl b (o + kk * 42) ?_ x.r hokx HRX.out ?_); exact rfl; have T2 : Hid True := hid trivial)
            | (clear T2; (with_reducible refine wpList_allocR rfl rfl ?_); intro w2 g2 hz2 hb2 hg2; have HZ2 := hid hz2; have HB2 := hid hb2; have HG2 := hid hg2; clear hz2 hb2 hg2)
            | ((with_reducible refine wpList_storeR rfl rfl _ _ rfl g2 ?_ (r := x.r) ?_ zR_ok hokx hox HZ2.out ?_); exact rfl; exact rfl; intro w3 h3 o3; have HO3 := hid (Own1.mk1 HB2.out HG2.out h3 o3); clear h3 o3 HZ2; have HRY3 := hid (rangeAt_below HRY.out HO3.out.below))
            | ((with_reducible refine wpList_loadM rfl _ rfl b2 (o2 + kk * 42) ?_ y.r hoky HRY3.out ?_); exact rfl; have T3 : Hid True := hid trivial)
            | (clear T3; (with_reducible refine wpList_allocR rfl rfl ?_); intro w4 g4 hz4 hb4 hg4; have HZ4 := hid hz4; have HB4 := hid hb4; have HG4 := hid hg4; clear hz4 hb4 hg4)
            | ((with_reducible refine wpList_storeR rfl rfl _ _ rfl g4 ?_ (r := y.r) ?_ zR_ok hoky hoy HZ4.out ?_); exact rfl; exact rfl; intro w5 h5 o5; have HO5 := hid (Own1.mk1 HB4.out HG4.out h5 o5); clear h5 o5 HZ4; have HO6 := hid (HO3.out.on hokx HO5.out.below))
            | ((with_reducible refine wpList_load_at 45 _ rfl ?_ g2 0 ?_ x.r.cs (.struct (Tryz.prog.fieldsOf 45)) ?_ underRec rfl ?_ ?_); exact rfl; exact rfl; exact HO6.out.box.whole; (rw [hokx.size]; exact sizeR))
            | ((with_reducible refine wpList_load_at 45 _ rfl ?_ g4 0 ?_ y.r.cs (.struct (Tryz.prog.fieldsOf 45)) ?_ underRec rfl ?_ ?_); exact rfl; exact rfl; exact HO5.out.box.whole; (rw [hoky.size]; exact sizeR))
            | (go_at_call 29; refine (HS.out _ HO6.out.below).mono ?_; rintro e w7 ⟨rfl, hb7⟩; have HB7 := hid (below_on HO6.out.below hb7); clear hb7))
          go_ret
          refine ⟨?_, below_on BW.out HB7.out⟩
          rw [← HRR.out, decide_eq_false fun e => ?_]
          · rfl
          · have h1 := congrArg (·[kk]?) e
            simp only [rcs_get, HX.out, HY.out, Option.map_some, Option.some.injEq] at h1
            have h2 := of_decide_eq_false HQ.out
            exact h2 h1
      · have hltz : ¬ (kk : Int) < (l.length : Int) := by omega
        go_wp2
        go_ret
        refine ⟨?_, BW.out⟩
        rw [← HRR.out, decide_eq_true (take_eq_of (k := kk) (by rw [rcs_len, rcs_len]; exact HLEN.out) A.out (by rw [rcs_len]; omega))]
        rfl
  · have hlen' : ¬ (l.length : Int) = (m.length : Int) := by omega
    go_enter Tryz.func28, Tryz.ntmps28
    go_wp2
    go_ret
    refine ⟨?_, Below.refl _ _⟩
    rw [← HRR.out, decide_eq_false fun e => hlen (by have := congrArg List.length e; rwa [rcs_len, rcs_len] at this)]
    rfl
#print axioms equalF_any
end Go.Proofs.YtcbmimjjpkkoeaaGreatDoor

/- journal.Same and begins; slices.Clone of records; clone. -/
namespace Go.Proofs.YtcbmimjjpkkoeaaGreatDoor
open Go Go.RowKit

set_option maxRecDepth 100000 in
set_option maxHeartbeats 1000000 in
theorem jsame_any (s t : Int) (u v : Value) (l m : List Rp) (w : World) (hl : RL w u l) (hm : RL w v m) : Calls Tryz.prog 10 #[.agg (jC s u), .agg (jC t v)] w fun e w' => e = .returned (.bool (decide ((⟨s, rcs l⟩ : Jr) = ⟨t, rcs m⟩))) ∧ Below w.heap.size w w' := by
  have HL := hid hl
  have HM := hid hm
  obtain ⟨po, c, rfl, _⟩ := hl
  obtain ⟨qo, d, rfl, _⟩ := hm
  have hE := fun W (hW : Below w.heap.size w W) => equalF_any _ _ l m W (HL.out.below hW) (HM.out.below hW)
  obtain ⟨R, hR⟩ : ∃ R : Bool, decide ((⟨s, rcs l⟩ : Jr) = ⟨t, rcs m⟩) = R := ⟨_, rfl⟩
  rw [hR]
  obtain ⟨q, hq⟩ : ∃ q : Bool, decide (rcs l = rcs m) = q := ⟨_, rfl⟩
  rw [hq] at hE
  have HE := hid hE
  have HQ := hid hq
  have HRR := hid hR
  clear hR hq hE
  have T1 : Hid True := hid trivial
  have T2 : Hid True := hid trivial
  by_cases hst : s = t
  · subst hst
    go_enter Tryz.func10, Tryz.ntmps10
    go_wp2_with (first
      | (clear T1; (with_reducible refine wpList_boxT 24 rfl _ rfl (jC s (.slice po l.length c)) ?_ ?_); exact rfl; intro w1 g1 hc1 hb1 hg1; have HC1 := hid hc1; have HB1 := hid hb1; clear hb1 hc1)
      | (clear T2; (with_reducible refine wpList_boxT 24 rfl _ rfl (jC s (.slice qo m.length d)) ?_ ?_); exact rfl; intro w2 g2 hc2 hb2 hg2; have d0 := hc2.j0; have d1 := hc2.j1; have c0 := (HC1.out.below hb2).j0; have c1 := (HC1.out.below hb2).j1; have HB2 := hid (below_on HB1.out hb2); clear hb2 hc2)
      | (go_at_call 28; refine (HE.out _ HB2.out).mono ?_; rintro e w3 ⟨rfl, hb3⟩; have HB3 := hid (below_on HB2.out hb3); clear hb3))
    go_ret
    refine ⟨?_, HB3.out⟩
    rw [← HRR.out, ← HQ.out]
    simp
  · go_enter Tryz.func10, Tryz.ntmps10
    go_wp2_with (first
      | (clear T1; (with_reducible refine wpList_boxT 24 rfl _ rfl (jC s (.slice po l.length c)) ?_ ?_); exact rfl; intro w1 g1 hc1 hb1 hg1; have HC1 := hid hc1; have HB1 := hid hb1; clear hb1 hc1)
      | (clear T2; (with_reducible refine wpList_boxT 24 rfl _ rfl (jC t (.slice qo m.length d)) ?_ ?_); exact rfl; intro w2 g2 hc2 hb2 hg2; have d0 := hc2.j0; have d1 := hc2.j1; have c0 := (HC1.out.below hb2).j0; have c1 := (HC1.out.below hb2).j1; have HB2 := hid (below_on HB1.out hb2); clear hb2 hc2))
    go_ret
    refine ⟨?_, HB2.out⟩
    rw [← HRR.out]
    simp [hst]
set_option maxRecDepth 100000 in
theorem begins_any (s : Int) (v : Value) (l : List Rp) (w : World) (hl : RL w v l) : Calls Tryz.prog 76 #[.agg (jC s v)] w fun e w' => e = .returned (.bool (decide (s = 0) && (rcs l).isEmpty)) ∧ Below w.heap.size w w' := by
  have hle : (rcs l).isEmpty = decide (l.length = 0) := by
    cases l <;> simp [rcs]
  rw [hle]
  obtain ⟨po, c, rfl, _⟩ := hl
  by_cases h0 : s = 0
  · subst h0
    by_cases h1 : l.length = 0
    · have h1' : (l.length : Int) = 0 := by omega
      go_enter Tryz.func76, Tryz.ntmps76
      go_wp2_with ((with_reducible refine wpList_boxT 24 rfl _ rfl (jC 0 (.slice po l.length c)) ?_ ?_); exact rfl; intro w1 g1 hc1 hb1 hg1; have c0 := hc1.j0; have c1 := hc1.j1; have HB1 := hid hb1; clear hb1 hc1)
      go_ret
      exact ⟨by simp [h1], HB1.out⟩
    · have h1' : ¬ (l.length : Int) = 0 := by omega
      go_enter Tryz.func76, Tryz.ntmps76
      go_wp2_with ((with_reducible refine wpList_boxT 24 rfl _ rfl (jC 0 (.slice po l.length c)) ?_ ?_); exact rfl; intro w1 g1 hc1 hb1 hg1; have c0 := hc1.j0; have c1 := hc1.j1; have HB1 := hid hb1; clear hb1 hc1)
      go_ret
      exact ⟨by simp [h1], HB1.out⟩
  · go_enter Tryz.func76, Tryz.ntmps76
    go_wp2_with ((with_reducible refine wpList_boxT 24 rfl _ rfl (jC s (.slice po l.length c)) ?_ ?_); exact rfl; intro w1 g1 hc1 hb1 hg1; have c0 := hc1.j0; have c1 := hc1.j1; have HB1 := hid hb1; clear hb1 hc1)
    go_ret
    exact ⟨by simp [h0], HB1.out⟩
theorem RBuf.made0 (w : World) (B : Nat) (hB : B ≤ w.heap.size) : RBuf B (w.alloc (.cells #[] 45)) (.slice (some ⟨w.heap.size, 0, none⟩) 0 0) [] := World.ownsRow_made w #[] 0 hB (by unfold maxLen; omega) (by simp)
/-- append(v, l...), the records anywhere. -/
theorem RBuf.app {B : Nat} {w : World} {v : Value} {m : List Rp} (hv : RBuf B w v m) (u : Value) (l : List Rp) (hl : RL w u l) (hn : m.length + l.length ≤ 1000000) (hB : B ≤ w.heap.size) :
    ∃ v' w', (Builtin.append_ #[22, 22] 22 #[v, u]).run Tryz.prog w = .ok v' w' ∧ RBuf B w' v' (m ++ l) ∧ w.grownBy w' v.ownBlock := by
  obtain ⟨i0, hi0, hz0, hz1, hz2⟩ := info_parts Tryz.infoRec
  have hok := hl.ok
  have hone := flatR_one hl.each
  obtain ⟨po, c, rfl, _, _, hz, h, _⟩ := hl
  cases po with
  | none =>
    have : l = [] := by
      rcases h with h | ⟨b, o, h, _⟩
      · exact h
      · cases h
    subst this
    obtain rfl := hz rfl
    refine ⟨v, w, run_append_owned_none (P := Tryz.prog) (w := w) B 22 22 45 i0 42 Tryz.underlying22 hi0 v _ _ hv, by simpa using hv, ⟨rfl, rfl, rfl, Nat.le_refl _, fun _ _ _ => rfl⟩⟩
  | some a =>
    obtain ⟨v', w', hr, h3, h4, _, _⟩ := run_append_own_at (P := Tryz.prog) w B 22 22 45 i0 _ 42 160 Tryz.underlying22 hi0 hz0 hz1 hz2 (by rw [Value.cells, zR_ok.size]) (by decide) v m.length (flatR m) hv a l.length c (flatR l) (flatR_len hok) (fun j u hj => by
      rcases h with h | ⟨b, o, e2, h⟩
      · subst h; simp [flatR] at hj
      · cases e2
        rw [add_none]
        exact h.unflat hok j u hj) hone (by unfold maxLen; omega) (by omega) hB
    refine ⟨v', w', hr, ?_, h4⟩
    unfold RBuf
    rw [List.length_append, flatR_app]; exact h3
theorem eq_nilR (w : World) (a : Option Addr) (n c n' c' : Nat) : (binOp .eql 22 (.slice a n c) (.slice none n' c')).run Tryz.prog w = .ok (.bool a.isNone) w := Lib.run_eql_slice_nil w _ _ a n c n' c' Tryz.underlying22
def CloS (w : World) (l : List Rp) (e : Ending) (w' : World) : Prop := ∃ v', e = .returned v' ∧ RBuf w.heap.size w' v' l ∧ Below w.heap.size w w'
set_option maxRecDepth 100000 in
set_option maxHeartbeats 1000000 in
theorem cloneS_any (v : Value) (l : List Rp) (w : World) (hl : RL w v l) : Calls Tryz.prog 65 #[v] w (CloS w l) := by
  have HL := hid hl
  obtain ⟨po, c, rfl, _, hn, hz, hcell, _⟩ := hl
  have heq := eq_nilR
  cases po with
  | none =>
    have : l = [] := by
      rcases hcell with h | ⟨b, o, h, _⟩
      · exact h
      · cases h
    subst this
    clear hcell HL
    go_enter Tryz.func65, Tryz.ntmps65
    go_wp2
    go_ret
    exact ⟨_, rfl, RBuf.nil _ _, Below.refl _ _⟩
  | some a =>
    clear hcell
    obtain ⟨v1, w1, hr, hb, hg⟩ := (RBuf.made0 w w.heap.size (Nat.le_refl _)).app _ l (HL.out.below (below_al w _)) (by simpa using by omega) (by rw [size_al]; omega)
    rw [List.nil_append] at hb
    have HRUN := hid hr
    have HB := hid hb
    have HW : Hid (Below w.heap.size w w1) := hid (below_grown (below_al w _) hg (Nat.le_refl _) (fun b hb => by simp [Value.ownBlock] at hb; omega))
    clear hr hb hg
    go_enter Tryz.func65, Tryz.ntmps65
    go_wp2_with (at_builtin; refine wpList_append_run _ _ 22 22 rfl rfl _ _ _ rfl rfl HRUN.out ?_)
    go_ret
    exact ⟨_, rfl, HB.out, HW.out⟩
#print axioms cloneS_any
#print axioms jsame_any
end Go.Proofs.YtcbmimjjpkkoeaaGreatDoor

/- journal.clone. -/
namespace Go.Proofs.YtcbmimjjpkkoeaaGreatDoor
open Go Go.RowKit

theorem CAt.apart {w : World} {g h : Nat} {cs ds : Array Value} {t u : TypeId} (a : CAt w g cs t) (b : CAt w h ds u) (hne : t ≠ u) : g ≠ h := fun e => by
  subst e
  have := a.symm.trans b
  simp at this
  exact hne this.2
theorem PLF.other {B : Nat} {w w' : World} {v : Value} {ps : Ps} {g : Nat} {cs : Array Value} {t : TypeId} (ht : t ≠ 59) (h : PLF B w v ps) (hc : CAt w g cs t) (ho : Only (fun b => b = g) w w') : PLF B w' v ps := by
  obtain ⟨⟨po, c, h1, h2, h3, h⟩, hB, hz⟩ := h
  refine ⟨⟨po, c, h1, h2, h3, ?_⟩, fun a n c e hne => ?_, hz⟩
  · rcases h with h | ⟨b, o, hp, h⟩
    · exact Or.inl h
    · refine Or.inr ⟨b, o, hp, fun i hi => ?_⟩
      obtain ⟨_, ds, hd⟩ := hB ⟨b, o, none⟩ _ _ (by rw [h1, hp]) (fun e => by rw [e] at hi; cases hi)
      have hk : w'.heap[b]? = w.heap[b]? := ho.block b hd.lt (fun e => hc.apart hd ht e.symm)
      exact ⟨(World.cell?_of_block (a := ⟨b, o + i * 2, none⟩) hk).trans (h i hi).1, (World.cell?_of_block (a := ⟨b, o + i * 2 + 1, none⟩) hk).trans (h i hi).2⟩
  · obtain ⟨k1, ds, k2⟩ := hB a n c e hne
    exact ⟨k1, ds, k2.keep (ho.block a.block k2.lt fun e => hc.apart k2 ht e.symm)⟩
theorem RpX.other {B : Nat} {w w' : World} {x : Rp} {g : Nat} {cs : Array Value} (h : RpX B w x) (hc : CAt w g cs 45) (ho : Only (fun b => b = g) w w') : RpX B w' x := ⟨h.ok, h.pl.other (by decide) hc ho⟩
theorem RBuf.range {B : Nat} {w : World} {v : Value} {l : List Rp} (h : RBuf B w v l) (hk : ∀ x ∈ l, x.r.ok) {i : Nat} {x : Rp} (e : l[i]? = some x) :
    ∃ g c, v = .slice (some ⟨g, 0, none⟩) l.length c ∧ w.rangeAt g (i * 42) x.r.cs.toList := by
  rcases h.2 with ⟨rfl, h0⟩ | ⟨g, cap, cur, rfl, hB, hg, h1, hm, h3, h4⟩
  · rw [List.eq_nil_of_length_eq_zero h0] at e; cases e
  refine ⟨g, cap, rfl, fun j v hv => ?_⟩
  have hc : CAt w g cur 45 := hg
  have hi := (List.getElem?_eq_some_iff.1 e).1
  have hj : j < 42 := by
    rcases Nat.lt_or_ge j 42 with q | q
    · exact q
    · rw [List.getElem?_eq_none (by rw [sizeR42 (hk x (List.mem_of_getElem? e))]; exact q)] at hv; cases hv
  rw [hc.cell]
  have := flatR_get hk e hj
  rw [← h4, List.getElem?_take, if_pos (by omega)] at this
  rw [Array.getElem?_toList] at this hv
  rw [this]; exact hv
/-- So many records have been copied. -/
structure CInv (w : World) (l : List Rp) (v : Value) (kk : Nat) (m : List Rp) (W : World) : Prop where
  len : m.length = l.length
  rc : rcs m = rcs l
  low : ∀ j x, j < kk → m[j]? = some x → RpX w.heap.size W x
  high : ∀ j, kk ≤ j → m[j]? = l[j]?
  buf : RBuf w.heap.size W v m
  below : Below w.heap.size w W
theorem CInv.ok {w W : World} {l m : List Rp} {v : Value} {kk : Nat} (h : CInv w l v kk m W) (hl : ∀ x ∈ l, x.r.ok) : ∀ x ∈ m, x.r.ok := fun x hx => by
  obtain ⟨j, hj, e⟩ := List.getElem_of_mem hx
  have e' : m[j]? = some x := by rw [List.getElem?_eq_getElem hj, e]
  by_cases hk : j < kk
  · exact (h.low j x hk e').ok
  · rw [h.high j (by omega)] at e'
    exact hl x (List.mem_of_getElem? e')
theorem CInv.next {w W W1 : World} {l m : List Rp} {v : Value} {kk : Nat} (h : CInv w l v kk m W) (hl : ∀ x ∈ l, x.r.ok) (hk : kk < l.length) (hb : Below W.heap.size W W1) {x y : Rp} (hx : l[kk]? = some x) (hy : RpX w.heap.size W1 y) (hxy : y.rc = x.rc) :
    ∃ g c, v = .slice (some ⟨g, 0, none⟩) l.length c ∧ W1.there g (kk * 42) 42 ∧ CInv w l v (kk + 1) (m.set kk y) (W1.setCells g (kk * 42) y.r.cs.toList) := by
  obtain ⟨g, c, e, hB, ht, ⟨cs, hc⟩, hbuf, ho⟩ := (h.buf.below hb).set (h.ok hl) (i := kk) (by rw [h.len]; exact hk) hy.ok
  refine ⟨g, c, by rw [e, h.len], ht, by rw [List.length_set, h.len], ?_, fun j z hj hz => ?_, fun j hj => ?_, hbuf, below_tr (below_on h.below hb) (ho.below (below_on h.below hb).size (fun i e => by omega))⟩
  · rw [← h.rc]
    apply List.ext_getElem?
    intro j
    rw [rcs_get, rcs_get, List.getElem?_set]
    by_cases hj : kk = j
    · subst hj
      rw [if_pos rfl, if_pos (by rw [h.len]; exact hk), h.high kk (Nat.le_refl _), hx]
      exact congrArg some hxy
    · rw [if_neg hj]
  · rw [List.getElem?_set] at hz
    by_cases hj' : kk = j
    · subst hj'
      rw [if_pos rfl, if_pos (by rw [h.len]; exact hk)] at hz
      cases hz
      exact hy.other hc ho
    · rw [if_neg hj'] at hz
      exact ((h.low j z (by omega) hz).below hb).other hc ho
  · rw [List.getElem?_set, if_neg (by omega)]
    exact h.high j (by omega)
def ClonS (w : World) (rs : List Rc) (e : Ending) (w' : World) : Prop := ∃ v m, e = .returned v ∧ Rs w.heap.size w' v m ∧ rcs m = rs ∧ Below w.heap.size w w'
theorem pvR {r : Rv} (hk : r.ok) (v : Value) : ({ r with pv := v } : Rv).ok := ⟨hk.sl, hk.s8, hk.i, hk.e, hk.d, hk.u⟩
/-- record.Copy, of a record in memory. -/
theorem copyR_any (x : Rp) (w : World) (h : RpOk w x) : Calls Tryz.prog 66 #[.agg x.r.cs] w fun e w' => ∃ y : Rp, e = .returned (.agg y.r.cs) ∧ y.rc = x.rc ∧ RpX w.heap.size w' y ∧ y.r.pv.oneCell' = true ∧ Below w.heap.size w w' := by
  obtain ⟨po, c, e, hz, _, hn⟩ := h.form
  refine (copy_any x.r h.ok po c x.ps w e h.pl hz hn).mono fun e w' ⟨v, he, hp, hb⟩ => ⟨⟨{ x.r with pv := v }, x.ps⟩, he, rfl, ⟨pvR h.ok v, hp⟩, ?_, hb⟩
  obtain ⟨p3, n3, c3, hv3⟩ := hp.form
  show v.oneCell' = true
  rw [hv3]; rfl
set_option maxRecDepth 100000 in
set_option maxHeartbeats 2000000 in
theorem jclone_any (v : Value) (l : List Rp) (w : World) (hl : RL w v l) : Calls Tryz.prog 34 #[v] w (ClonS w (rcs l)) := by
  have HL := hid hl
  have hn := hl.len
  obtain ⟨po, c, rfl, _⟩ := hl
  have HOK := hid HL.out.ok
  go_enter Tryz.func34, Tryz.ntmps34
  go_wp2_with (go_at_call 65; refine (cloneS_any _ l w HL.out).mono ?_; rintro e w1 ⟨v1, rfl, hb1, hw1⟩; obtain ⟨p1, c1, hv1, hc1, hz1⟩ := hb1.form; have HI : Hid (CInv w l v1 0 l w1) := hid ⟨rfl, rfl, fun j x hj => absurd hj (Nat.not_lt_zero _), fun _ _ => rfl, hb1, hw1⟩; subst hv1; clear hb1 hw1)
  go_loopg [3, 4, 9] l.length (fun gg _ _ s9 wr => ∃ (kk : Nat) (m : List Rp), kk ≤ l.length ∧ l.length - kk ≤ gg ∧ s9 = i64 kk ∧ Hid (CInv w l (.slice p1 l.length c1) kk m wr))
  case atStart => exact ⟨0, l, Nat.zero_le _, by omega, rfl, HI.out⟩
  case round =>
    obtain ⟨kk, m, hkk, hg, rfl, I⟩ := hrel
    clear HI
    by_cases hlt : kk < l.length
    · have hltz : (kk : Int) < (l.length : Int) := by omega
      obtain ⟨x, hx⟩ : ∃ x, l[kk]? = some x := ⟨_, List.getElem?_eq_getElem hlt⟩
      have hxm : m[kk]? = some x := by rw [I.out.high kk (Nat.le_refl _)]; exact hx
      obtain ⟨g, c2, he, hr⟩ := I.out.buf.range (I.out.ok HOK.out) hxm
      rw [I.out.len] at he
      cases he
      have HX := hid hx
      have HR := hid hr
      have hxo := HL.out.each x (List.mem_of_getElem? hx)
      have hok := hxo.ok
      have HXO := hid (fun W (hW : Below wr.heap.size wr W) => copyR_any x W (hxo.below (below_on I.out.below hW)))
      have hone : x.r.pv.oneCell' = true := by obtain ⟨p0, c0, e0, _⟩ := hxo.pl; rw [e0]; rfl
      clear hx hxm hr hxo
      have T1 : Hid True := hid trivial
      go_wp2_with (first
        | (clear T1; (with_reducible refine wpList_loadM rfl _ rfl g (kk * 42) ?_ x.r hok HR.out ?_); exact rfl)
        | ((with_reducible refine wpList_allocR rfl rfl ?_); intro w2 g2 hz2 hb2 hg2; have HZ2 := hid hz2; have HB2 := hid hb2; have HG2 := hid hg2; clear hz2 hb2 hg2)
        | ((with_reducible refine wpList_storeR rfl rfl _ _ rfl g2 ?_ (r := x.r) ?_ zR_ok hok hone HZ2.out ?_); exact rfl; exact rfl; intro w3 h3 o3; have HO3 := hid (Own1.mk1 HB2.out HG2.out h3 o3); clear h3 o3 HZ2)
        | ((with_reducible refine wpList_load_at 45 _ rfl ?_ g2 0 ?_ x.r.cs (.struct (Tryz.prog.fieldsOf 45)) ?_ underRec rfl ?_ ?_); exact rfl; exact rfl; exact HO3.out.box.whole; (rw [hok.size]; exact sizeR))
        | (go_at_call 66; refine (HXO.out _ HO3.out.below).mono ?_; rintro e w4 ⟨y, rfl, hyx, hy, hyo, hb4⟩; obtain ⟨g9, c9, he9, ht9, hi9⟩ := I.out.next HOK.out hlt (below_on HO3.out.below hb4) HX.out (hy.base (by have := I.out.below.size; have := HO3.out.below.size; omega)) hyx; cases he9; have HT := hid ht9; have HI9 := hid hi9; have hyk := hy.ok; clear hyx hy hb4 ht9 hi9)
        | ((with_reducible refine wpList_store_mid rfl 45 _ _ rfl g (kk * 42) y.r.cs ?_ ?_ ?_ ?_ (Rv.one hyo) ?_); exact rfl; exact rfl; (rw [hyk.size]; exact HT.out); (rw [hyk.size]; exact sizeR)))
      go_roundg (l.length - (kk + 1))
      case measure => omega
      case rel => exact ⟨kk + 1, _, by omega, by omega, by go_num, HI9.out⟩
    · have hltz : ¬ (kk : Int) < (l.length : Int) := by omega
      go_wp2
      go_ret
      refine ⟨_, m, rfl, ⟨I.out.buf, fun x hx => ?_⟩, I.out.rc, I.out.below⟩
      obtain ⟨j, hj, e⟩ := List.getElem_of_mem hx
      exact I.out.low j x (by have := I.out.len; omega) (by rw [List.getElem?_eq_getElem hj, e])
#print axioms jclone_any
end Go.Proofs.YtcbmimjjpkkoeaaGreatDoor
