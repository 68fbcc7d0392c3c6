/- Texts laid into one: the remark ahead of each part says what is proved there. -/
import Derived.Test.YtfppmpfmafnfmaaXf
import Derived.Deep.RegionHeld3
/- Contract of Write of the document's drives. (Written by tools/gen_Kh.py.) -/
namespace Go.Proofs.Ytfppmpfmafnfmaa
open Go Go.RowKit
section
variable {w w' : World} {R : Nat → Prop} {q : Nat} {v : Value} {fu : Option Nat} {d : Pd} {L : List (Nm × Ent)} {f : Fs}
/-- No byte lies in a drive or a fuse of the document's. -/
theorem BAt.burnt {w0 w1 : World} {po : Option Addr} {bs : List Nat} (hx : BAt w0 po bs) (h : RfC w0 R q v fu d L) (hf : FuR w0 R fu f) (ho : Only (fun b => b = q ∨ fu = some b) w0 w1) : BAt w1 po bs := by
  rcases hx with hx | ⟨a, rfl, hx⟩
  · exact Or.inl hx
  · refine Or.inr ⟨a, rfl, fun i hi => ?_⟩
    have hc := hx i hi
    refine (World.cell?_of_block (ho.block (a.add i).block (cell_lt' (by rw [hc]; simp)) ?_)).trans hc
    rintro (e | e)
    · obtain ⟨po, c, rfl⟩ := h.form
      have hq : w0.heap[q]? = _ := h.c
      unfold World.cell? at hc
      rw [e, hq] at hc
      unfold rcells fuV at hc
      generalize (a.add i).off = o at hc
      rcases o with _ | _ | _ | _ | _ | _ | _ | o <;> simp at hc
      cases fu <;> simp at hc
    · match fu, f, hf with
      | some q2, some (n, g), hf =>
        have hq : w0.heap[q2]? = _ := hf.1
        have e' : (a.add i).block = q2 := by cases e; rfl
        unfold World.cell? at hc
        rw [e', hq] at hc
        generalize (a.add i).off = o at hc
        rcases o with _ | _ | o <;> simp at hc
theorem lenAt_idx {s : Nm} {i : Nat} (h : RfC w R q v fu d L) (hi : idx L s = some i) : lenAt d.F s = (atL L i).2.b.length := by
  unfold lenAt; rw [gget_fi h, (idx_get hi).2.2]; rfl
theorem lenAt_miss {s : Nm} (h : RfC w R q v fu d L) (hi : idx L s = none) : lenAt d.F s = 0 := by
  unfold lenAt; rw [gget_fi h, idx_miss hi]; rfl
/-- What stands when Write puts its file. -/
theorem write_end {w0 w1 W w6 : World} {s : Nm} {bs : List Nat} {po' : Option Addr} {c' : Nat} {v5 : Value} (h : RfC w R q v fu d L) (hb0 : Below w.heap.size w w0) (hlt : letsF f = true) (hB : Burnt w0 w1 R q v fu { d with ops := d.ops + 1 } L f) (hbW : Below w1.heap.size w1 W)
    (h6 : RfC w6 (grw (grw R w1 W) W w6) q v5 fu { d with ops := d.ops + 1, F := gput d.F s (Ent.fi ⟨.slice po' bs.length c', bs, true⟩) } (gput L s ⟨.slice po' bs.length c', bs, true⟩)) (ho : Only (fun b => b = q) W w6) : RDone w R q fu (d.chg f (gput d.F s (bs, true))) (.returned (.int .i64 0)) w6 := by
  have s1 := hbW.size
  have s2 := ho.size
  have hon : Only (fun b => b = q) w1 w6 := (Only.of_below hbW).trans ho
  refine rdone_chg h hb0 hlt hB ⟨h6.wide (R' := grw R w1 w6) (fun b hb => ?_) (fun b hb => ?_), hon⟩
  · rcases hb with (hb | hb) | hb
    · exact Or.inl hb
    · exact Or.inr ⟨by omega, by omega⟩
    · exact Or.inr ⟨by omega, hb.2⟩
  · rcases hb with hb | hb
    · exact Nat.lt_of_lt_of_le (hB.rf.lt b hb) hon.size
    · exact hb.2
set_option maxHeartbeats 4000000 in
set_option maxRecDepth 100000 in
theorem rwrite_any (h : RfC w R q v fu d L) (hf : FuR w R fu f) (s : Nm) (hs : s.length ≤ maxLen) (po : Option Addr) (c : Nat) (bs : List Nat) (hx : BAt w po bs) (hn : bs.length ≤ 1000000000) (ho : d.ops < 1000000000000) (hl : L.length < 999000) (hso : Srt d.F) (hu : usedOf d.F ≤ 67108864) (hz : d.size ≤ 67108864) :
    Calls Try.prog 45 #[ptr q, sv s, .slice po bs.length c] w (RDone w R q fu (d.write f s bs)) := by
  have H := hid h
  have HF := hid hf
  have HX := hid hx
  have HR := hid (fun (o : Obj) vn hv => ready_any (h.alloc o) (hf.alloc o) vn [s] hv (by simp) (by simpa using hs))
  have HA := hid (fun W (hb : Below w.heap.size w W) => at_any (h.below hb) s (by omega))
  have HUS := hid (fun W (hb : Below w.heap.size w W) => rused_any (h.below hb) (by omega) (by omega))
  have HBU := hid (fun W (hb : Below w.heap.size w W) => burns_any (h.below hb) (hf.below hb) ho)
  have HB0 := hid (fun (o : Obj) => (Below.refl w.heap.size w).alloc (Nat.le_refl _) o)
  have c0 : w.cell? ⟨q, 0, none⟩ = some (.int .i64 (d.size : Int)) := h.c.cell 0
  have c1 : w.cell? ⟨q, 1, none⟩ = some v := h.c.cell 1
  have c3 : w.cell? ⟨q, 3, none⟩ = some (.bool d.full) := h.c.cell 3
  have hql := h.c.lt
  have hus := used_del hso s
  clear hf hx
  by_cases ha : d.ans f [s] = 0
  · rw [ha] at HR
    have HW1 : Hid (d.full = true ∨ d.size < usedOf (gdel d.F s) + bs.length → d.write f s bs = (8, d, f)) := hid (fun e => by unfold Pd.write; rw [if_neg (by omega), if_pos (by rcases e with e | e <;> simp [e])])
    have HW2 : Hid (d.full = false → ¬ d.size < usedOf (gdel d.F s) + bs.length → d.write f s bs = d.chg f (gput d.F s (bs, true))) := hid (fun e e2 => by unfold Pd.write; rw [if_neg (by omega), if_neg (by simp [e]; omega)])
    cases hi : idx L s with
    | none =>
      have e : atI L s = -1 := by unfold atI; rw [hi]
      rw [e] at HA
      have hle := lenAt_miss h hi
      rw [hle] at hus
      clear h hle
      cases hfull : d.full
      · rw [hfull] at c3
        generalize hgu : usedOf (gdel d.F s) = ug at *
        generalize hgv : usedOf d.F = uf at *
        clear hgu hgv
        by_cases hrm : (d.size : Int) < (uf : Int) + (bs.length : Int)
        · have hdec : decide ((d.size : Int) < (uf : Int) + (bs.length : Int)) = true := decide_eq_true hrm
          go_enter Try.func45, Try.ntmps45
          go_wp2_with (first | (go_at_call 72; refine (HR.out _ _ (txt_one _ _ _ _ _ rfl)).mono ?_; rintro e w' ⟨rfl, hw'⟩; have hw2 := hw'.symm; subst hw2) | (go_at_call 73; refine (HA.out _ (HB0.out _)).mono ?_; rintro e w' ⟨rfl, hw'⟩; have hw2 := hw'.symm; subst hw2))
          go_quiet ((go_at_call 55; first | exact Calls.quiet_of_same (HUS.out _ (below_on _ _ (HB0.out _) (below_drewN _ _))) | (refine (HUS.out _ (below_on _ _ (HB0.out _) (below_drewN _ _))).mono ?_; rintro e w2 ⟨rfl, rfl⟩; exact ⟨rfl, _, rfl⟩)))
          go_wp2
          go_ret
          exact rdone_same H.out HF.out 8 (HW1.out (Or.inr (by omega))) (below_on _ _ (HB0.out _) (below_drewN _ _))
        · have hdec : decide ((d.size : Int) < (uf : Int) + (bs.length : Int)) = false := decide_eq_false hrm
          cases hlt : letsF f
          · rw [hlt] at HBU
            have HLT := hid hlt
            go_enter Try.func45, Try.ntmps45
            go_wp2_with (first | (go_at_call 72; refine (HR.out _ _ (txt_one _ _ _ _ _ rfl)).mono ?_; rintro e w' ⟨rfl, hw'⟩; have hw2 := hw'.symm; subst hw2) | (go_at_call 73; refine (HA.out _ (HB0.out _)).mono ?_; rintro e w' ⟨rfl, hw'⟩; have hw2 := hw'.symm; subst hw2))
            go_quiet ((go_at_call 55; first | exact Calls.quiet_of_same (HUS.out _ (below_on _ _ (HB0.out _) (below_drewN _ _))) | (refine (HUS.out _ (below_on _ _ (HB0.out _) (below_drewN _ _))).mono ?_; rintro e w2 ⟨rfl, rfl⟩; exact ⟨rfl, _, rfl⟩)))
            go_wp2_with (go_at_call 74; refine (HBU.out _ (below_on _ _ (HB0.out _) (below_drewN _ _))).mono ?_; rintro e w1 ⟨rfl, hr, hfz, hon, hsz⟩; have HBT := hid (Burnt.mk hr hfz hon); clear hsz; clear hr hfz hon)
            go_ret
            rw [HW2.out hfull (by omega)]
            exact rdone_not H.out.sp (below_on _ _ (HB0.out _) (below_drewN _ _)) HLT.out _ HBT.out
          · rw [hlt] at HBU
            have HLT := hid hlt
            go_enter Try.func45, Try.ntmps45
            go_wp2_with (first | (go_at_call 72; refine (HR.out _ _ (txt_one _ _ _ _ _ rfl)).mono ?_; rintro e w' ⟨rfl, hw'⟩; have hw2 := hw'.symm; subst hw2) | (go_at_call 73; refine (HA.out _ (HB0.out _)).mono ?_; rintro e w' ⟨rfl, hw'⟩; have hw2 := hw'.symm; subst hw2))
            go_quiet ((go_at_call 55; first | exact Calls.quiet_of_same (HUS.out _ (below_on _ _ (HB0.out _) (below_drewN _ _))) | (refine (HUS.out _ (below_on _ _ (HB0.out _) (below_drewN _ _))).mono ?_; rintro e w2 ⟨rfl, rfl⟩; exact ⟨rfl, _, rfl⟩)))
            go_wp2_with (first
              | (go_at_call 74; refine (HBU.out _ (below_on _ _ (HB0.out _) (below_drewN _ _))).mono ?_; rintro e w1 ⟨rfl, hr, hfz, hon, hsz⟩; have HBT := hid (Burnt.mk hr hfz hon); clear hsz
                 have hxx := (HX.out.keepB (below_on _ _ (HB0.out _) (below_drewN _ _))).burnt (H.out.below (below_on _ _ (HB0.out _) (below_drewN _ _))) (HF.out.below (below_on _ _ (HB0.out _) (below_drewN _ _))) hon
                 obtain ⟨po', c', W, hrun, how, hbW⟩ := copyB hxx c (by omega)
                 have hrW := (hr.below hbW).wide (R' := grw R w1 W) (fun b hb => Or.inl hb) (fun b hb => hb.elim (fun hb => Nat.lt_of_lt_of_le (hr.lt b hb) hbW.size) (·.2))
                 have HWI := hid (with_any hrW s ⟨.slice po' bs.length c', bs, true⟩ (by omega) (own_base how (Nat.zero_le _)) (fun b hb => Or.inr (own_ge how b hb)))
                 have HRUN := hid hrun; have HBW := hid hbW; clear hr hfz hon hxx hrun how hbW hrW)
              | (at_builtin; refine wpList_append_run _ _ 33 rfl rfl _ _ _ rfl rfl HRUN.out ?_)
              | (go_at_call 75; refine HWI.out.mono ?_; rintro e w6 ⟨rfl, ⟨v5, hr6⟩, ho6⟩; have HR6 := hid hr6; have HO6 := hid ho6; clear hr6 ho6))
            go_ret
            rw [HW2.out hfull (by omega)]
            exact write_end H.out (below_on _ _ (HB0.out _) (below_drewN _ _)) HLT.out HBT.out HBW.out HR6.out HO6.out
      · rw [hfull] at c3
        go_enter Try.func45, Try.ntmps45
        go_wp2_with (first | (go_at_call 72; refine (HR.out _ _ (txt_one _ _ _ _ _ rfl)).mono ?_; rintro e w' ⟨rfl, hw'⟩; have hw2 := hw'.symm; subst hw2) | (go_at_call 73; refine (HA.out _ (HB0.out _)).mono ?_; rintro e w' ⟨rfl, hw'⟩; have hw2 := hw'.symm; subst hw2))
        go_quiet ((go_at_call 55; first | exact Calls.quiet_of_same (HUS.out _ (below_on _ _ (HB0.out _) (below_drewN _ _))) | (refine (HUS.out _ (below_on _ _ (HB0.out _) (below_drewN _ _))).mono ?_; rintro e w2 ⟨rfl, rfl⟩; exact ⟨rfl, _, rfl⟩)))
        go_wp2
        go_ret
        exact rdone_same H.out HF.out 8 (HW1.out (Or.inl hfull)) (below_on _ _ (HB0.out _) (below_drewN _ _))
    | some i =>
      obtain ⟨hi1, _, _⟩ := idx_get hi
      have e : atI L s = (i : Int) := by unfold atI; rw [hi]
      rw [e] at HA
      have hle := lenAt_idx h hi
      rw [hle] at hus
      have hni : 0 ≤ (i : Int) := by omega
      have hni2 : (i : Int) < (L.length : Int) := by omega
      obtain ⟨g, cc, hv, _, k1, _⟩ := h.at hi1
      subst hv
      obtain ⟨pe, ce, hpe⟩ := h.slice (atL_mem hi1)
      rw [hpe] at k1
      have hgl : g < w.heap.size := cell_lt' (a := ⟨g, i * 3 + 1, none⟩) (by rw [k1]; simp)
      clear h hle hpe
      generalize (atL L i).2.b.length = n1 at *
      cases hfull : d.full
      · rw [hfull] at c3
        generalize hgu : usedOf (gdel d.F s) = ug at *
        generalize hgv : usedOf d.F = uf at *
        clear hgu hgv
        by_cases hrm : (d.size : Int) < (uf : Int) - (n1 : Int) + (bs.length : Int)
        · have hdec : decide ((d.size : Int) < (uf : Int) - (n1 : Int) + (bs.length : Int)) = true := decide_eq_true hrm
          go_enter Try.func45, Try.ntmps45
          go_wp2_with (first | (go_at_call 72; refine (HR.out _ _ (txt_one _ _ _ _ _ rfl)).mono ?_; rintro e w' ⟨rfl, hw'⟩; have hw2 := hw'.symm; subst hw2) | (go_at_call 73; refine (HA.out _ (HB0.out _)).mono ?_; rintro e w' ⟨rfl, hw'⟩; have hw2 := hw'.symm; subst hw2))
          go_quiet ((go_at_call 73; exact Calls.quiet_of_same (HA.out _ (below_on _ _ (HB0.out _) (below_drewN _ _)))))
          go_wp2
          go_quiet ((go_at_call 55; first | exact Calls.quiet_of_same (HUS.out _ (below_on _ _ (HB0.out _) (below_drewN _ _))) | (refine (HUS.out _ (below_on _ _ (HB0.out _) (below_drewN _ _))).mono ?_; rintro e w2 ⟨rfl, rfl⟩; exact ⟨rfl, _, rfl⟩)))
          go_wp2
          go_ret
          exact rdone_same H.out HF.out 8 (HW1.out (Or.inr (by omega))) (below_on _ _ (below_on _ _ (HB0.out _) (below_drewN _ _)) (below_drewN _ _))
        · have hdec : decide ((d.size : Int) < (uf : Int) - (n1 : Int) + (bs.length : Int)) = false := decide_eq_false hrm
          cases hlt : letsF f
          · rw [hlt] at HBU
            have HLT := hid hlt
            go_enter Try.func45, Try.ntmps45
            go_wp2_with (first | (go_at_call 72; refine (HR.out _ _ (txt_one _ _ _ _ _ rfl)).mono ?_; rintro e w' ⟨rfl, hw'⟩; have hw2 := hw'.symm; subst hw2) | (go_at_call 73; refine (HA.out _ (HB0.out _)).mono ?_; rintro e w' ⟨rfl, hw'⟩; have hw2 := hw'.symm; subst hw2))
            go_quiet ((go_at_call 73; exact Calls.quiet_of_same (HA.out _ (below_on _ _ (HB0.out _) (below_drewN _ _)))))
            go_wp2
            go_quiet ((go_at_call 55; first | exact Calls.quiet_of_same (HUS.out _ (below_on _ _ (HB0.out _) (below_drewN _ _))) | (refine (HUS.out _ (below_on _ _ (HB0.out _) (below_drewN _ _))).mono ?_; rintro e w2 ⟨rfl, rfl⟩; exact ⟨rfl, _, rfl⟩)))
            go_wp2_with (go_at_call 74; refine (HBU.out _ (below_on _ _ (HB0.out _) (below_drewN _ _))).mono ?_; rintro e w1 ⟨rfl, hr, hfz, hon, hsz⟩; have HBT := hid (Burnt.mk hr hfz hon); clear hsz; clear hr hfz hon)
            go_ret
            rw [HW2.out hfull (by omega)]
            exact rdone_not H.out.sp (below_on _ _ (HB0.out _) (below_drewN _ _)) HLT.out _ HBT.out
          · rw [hlt] at HBU
            have HLT := hid hlt
            go_enter Try.func45, Try.ntmps45
            go_wp2_with (first | (go_at_call 72; refine (HR.out _ _ (txt_one _ _ _ _ _ rfl)).mono ?_; rintro e w' ⟨rfl, hw'⟩; have hw2 := hw'.symm; subst hw2) | (go_at_call 73; refine (HA.out _ (HB0.out _)).mono ?_; rintro e w' ⟨rfl, hw'⟩; have hw2 := hw'.symm; subst hw2))
            go_quiet ((go_at_call 73; exact Calls.quiet_of_same (HA.out _ (below_on _ _ (HB0.out _) (below_drewN _ _)))))
            go_wp2
            go_quiet ((go_at_call 55; first | exact Calls.quiet_of_same (HUS.out _ (below_on _ _ (HB0.out _) (below_drewN _ _))) | (refine (HUS.out _ (below_on _ _ (HB0.out _) (below_drewN _ _))).mono ?_; rintro e w2 ⟨rfl, rfl⟩; exact ⟨rfl, _, rfl⟩)))
            go_wp2_with (first
              | (go_at_call 74; refine (HBU.out _ (below_on _ _ (HB0.out _) (below_drewN _ _))).mono ?_; rintro e w1 ⟨rfl, hr, hfz, hon, hsz⟩; have HBT := hid (Burnt.mk hr hfz hon); clear hsz
                 have hxx := (HX.out.keepB (below_on _ _ (HB0.out _) (below_drewN _ _))).burnt (H.out.below (below_on _ _ (HB0.out _) (below_drewN _ _))) (HF.out.below (below_on _ _ (HB0.out _) (below_drewN _ _))) hon
                 obtain ⟨po', c', W, hrun, how, hbW⟩ := copyB hxx c (by omega)
                 have hrW := (hr.below hbW).wide (R' := grw R w1 W) (fun b hb => Or.inl hb) (fun b hb => hb.elim (fun hb => Nat.lt_of_lt_of_le (hr.lt b hb) hbW.size) (·.2))
                 have HWI := hid (with_any hrW s ⟨.slice po' bs.length c', bs, true⟩ (by omega) (own_base how (Nat.zero_le _)) (fun b hb => Or.inr (own_ge how b hb)))
                 have HRUN := hid hrun; have HBW := hid hbW; clear hr hfz hon hxx hrun how hbW hrW)
              | (at_builtin; refine wpList_append_run _ _ 33 rfl rfl _ _ _ rfl rfl HRUN.out ?_)
              | (go_at_call 75; refine HWI.out.mono ?_; rintro e w6 ⟨rfl, ⟨v5, hr6⟩, ho6⟩; have HR6 := hid hr6; have HO6 := hid ho6; clear hr6 ho6))
            go_ret
            rw [HW2.out hfull (by omega)]
            exact write_end H.out (below_on _ _ (HB0.out _) (below_drewN _ _)) HLT.out HBT.out HBW.out HR6.out HO6.out
      · rw [hfull] at c3
        go_enter Try.func45, Try.ntmps45
        go_wp2_with (first | (go_at_call 72; refine (HR.out _ _ (txt_one _ _ _ _ _ rfl)).mono ?_; rintro e w' ⟨rfl, hw'⟩; have hw2 := hw'.symm; subst hw2) | (go_at_call 73; refine (HA.out _ (HB0.out _)).mono ?_; rintro e w' ⟨rfl, hw'⟩; have hw2 := hw'.symm; subst hw2))
        go_quiet ((go_at_call 73; exact Calls.quiet_of_same (HA.out _ (below_on _ _ (HB0.out _) (below_drewN _ _)))))
        go_wp2
        go_quiet ((go_at_call 55; first | exact Calls.quiet_of_same (HUS.out _ (below_on _ _ (HB0.out _) (below_drewN _ _))) | (refine (HUS.out _ (below_on _ _ (HB0.out _) (below_drewN _ _))).mono ?_; rintro e w2 ⟨rfl, rfl⟩; exact ⟨rfl, _, rfl⟩)))
        go_wp2
        go_ret
        exact rdone_same H.out HF.out 8 (HW1.out (Or.inl hfull)) (below_on _ _ (below_on _ _ (HB0.out _) (below_drewN _ _)) (below_drewN _ _))
  · have HE : Hid (d.write f s bs = (d.ans f [s], d, f)) := hid (by unfold Pd.write; rw [if_pos ha])
    have ha' : ¬ ((d.ans f [s] : Nat) : Int) = 0 := by omega
    clear h hus
    generalize d.ans f [s] = n at *
    go_enter Try.func45, Try.ntmps45
    go_wp2_with (go_at_call 72; refine (HR.out _ _ (txt_one _ _ _ _ _ rfl)).mono ?_; rintro e w' ⟨rfl, hw'⟩; have hw2 := hw'.symm; subst hw2)
    go_ret
    exact rdone_same H.out HF.out n HE.out (HB0.out _)
end
#print axioms rwrite_any
end Go.Proofs.Ytfppmpfmafnfmaa

/- Contracts of Loose and List of the document's drives. -/
namespace Go.Proofs.Ytfppmpfmafnfmaa
open Go Go.RowKit

/-- The names of the files that are wanted. -/
def wantN (L : List (Nm × Ent)) (p : Nm × Ent → Bool) : List Nm := (L.filter p).map (·.1)
theorem want_take {L : List (Nm × Ent)} {k : Nat} (h : k < L.length) (p : Nm × Ent → Bool) : wantN (L.take (k + 1)) p = if p (atL L k) then wantN (L.take k) p ++ [(atL L k).1] else wantN (L.take k) p := by
  unfold wantN; rw [take_at L h, List.filter_append]
  cases hp : p (atL L k) <;> simp [hp]
theorem want_len (L : List (Nm × Ent)) (k : Nat) (p : Nm × Ent → Bool) : (wantN (L.take k) p).length ≤ L.length := by
  unfold wantN; rw [List.length_map]
  exact Nat.le_trans (List.length_filter_le _ _) (by rw [List.length_take]; omega)
theorem want_names (L : List (Nm × Ent)) (q : Nm → Fi → Bool) : namesOf (gmap Ent.fi L) q = wantN L fun y => q y.1 y.2.fi := by
  unfold namesOf wantN gmap
  rw [List.filter_map, List.map_map]; rfl
section
variable {w w' : World} {R : Nat → Prop} {q : Nat} {v : Value} {fu : Option Nat} {d : Pd} {L : List (Nm × Ent)} {f : Fs}
set_option maxHeartbeats 1000000 in
set_option maxRecDepth 100000 in
theorem rloose_any (h : RfC w R q v fu d L) (hl : L.length < 999000) : Calls Try.prog 56 #[ptr q] w (NamesAt w d.loose) := by
  have hcq : ∀ W, Below w.heap.size w W → W.cell? ⟨q, 1, none⟩ = some v := fun W hb => (h.below hb).c.cell 1
  obtain ⟨po, c, rfl⟩ := h.form
  have HCQ := hid hcq
  have c1 := hcq w (Below.refl _ _)
  have H := hid h
  have HE : Hid (wantN L (fun y => y.2.l) = d.loose) := hid (by unfold Pd.loose; rw [h.fs, want_names]; rfl)
  clear h hcq
  generalize d.loose = ns at *
  go_enter Try.func56, Try.ntmps56
  go_wp2
  go_loopw [3, 4] (fun v3 v wr => ∃ k : Nat, k ≤ L.length ∧ v = .int .i64 (k : Int) ∧ TxtL w.heap.size wr v3 (wantN (L.take k) fun y => y.2.l) ∧ Below w.heap.size w wr) (fun _ v _ => (L.length - intOf v).toNat)
  case atStart => exact ⟨0, by omega, rfl, World.ownsRow_nil _ _ _ _, Below.refl _ _⟩
  case round =>
    obtain ⟨k, hk, rfl, hT, hb⟩ := hrel
    obtain ⟨po3, c3, hv3⟩ := own_form hT
    subst hv3
    have HT := hid hT
    have HBE := hid hb
    have d1 := HCQ.out wr hb
    clear c1 hT hb
    by_cases hlt : k < L.length
    · have hlt' : (k : Int) < (L.length : Int) := by omega
      obtain ⟨g, cc, hv, ck, _, ck2, _⟩ := (H.out.below HBE.out).at hlt
      cases hv
      have HW := hid (want_take hlt fun y => y.2.l)
      have hln := want_len L k fun y => y.2.l
      generalize hX : atL L k = X at *
      clear hX
      cases hxl : X.2.l
      · rw [hxl] at ck2
        have HW2 : Hid (wantN (L.take (k + 1)) (fun y => y.2.l) = wantN (L.take k) fun y => y.2.l) := hid (by rw [HW.out]; simp [hxl])
        clear ck
        go_wp2
        go_roundw
        case rel => exact ⟨k + 1, by omega, by go_num, by rw [HW2.out]; exact HT.out, HBE.out⟩
        case measure => simp [intOf]; omega
      · rw [hxl] at ck2
        have HW2 : Hid (wantN (L.take (k + 1)) (fun y => y.2.l) = (wantN (L.take k) fun y => y.2.l) ++ [X.1]) := hid (by rw [HW.out]; simp [hxl])
        obtain ⟨v4, w4, hrun, htx4, hgr4, _⟩ := HT.out.push X.1 (by omega) HBE.out.size
        have HRUN := hid hrun
        have HT4 := hid htx4
        have HB4 := hid (below_on_grown (below_on _ _ HBE.out ((Below.refl _ _).alloc (Nat.le_refl _) _)) hgr4 (fun b hb => (own_ge HT.out b hb).1))
        clear hrun htx4 hgr4
        generalize X.1 = x at *
        go_wp2_with (at_builtin; refine wpList_append_run _ _ 54 rfl rfl _ _ v4 rfl rfl HRUN.out ?_)
        go_roundw
        case rel => exact ⟨k + 1, by omega, by go_num, by rw [HW2.out]; exact HT4.out, HB4.out⟩
        case measure => simp [intOf]; omega
    · have hlt' : ¬ (k : Int) < (L.length : Int) := by omega
      have e : k = L.length := by omega
      subst e
      have HR : Hid (TxtL w.heap.size wr (.slice po3 ns.length c3) ns ∧ (wantN (L.take L.length) fun y => y.2.l) = ns) := hid (by have := HT.out; rw [List.take_length, HE.out] at this ⊢; exact ⟨this, rfl⟩)
      have hns := HR.out.2
      rw [hns]
      go_wp2
      go_ret
      exact ⟨_, _, rfl, HR.out.1, HBE.out⟩
theorem pre_take (x pre : Nm) (_h : pre.length ≤ x.length) : (((⟨x.toArray⟩ : ByteArray).extract 0 pre.length).toList == (⟨pre.toArray⟩ : ByteArray).toList) = pre.isPrefixOf x := by
  rw [Lib.extract_toList, Lib.toList_data]
  simp
  rw [Bool.eq_iff_iff]
  simp only [beq_iff_eq, List.isPrefixOf_iff_prefix, List.prefix_iff_eq_take]
  exact ⟨fun e => e.symm, fun e => e.symm⟩
set_option maxHeartbeats 2000000 in
set_option maxRecDepth 100000 in
theorem rlist_any (h : RfC w R q v fu d L) (hf : FuR w R fu f) (pre : Nm) (hl : L.length < 999000) : Calls Try.prog 52 #[ptr q, sv pre] w (ListAt w (d.ans f []) (d.list f pre)) := by
  have hcq : ∀ W, Below w.heap.size w W → W.cell? ⟨q, 1, none⟩ = some v := fun W hb => (h.below hb).c.cell 1
  obtain ⟨po, c, rfl⟩ := h.form
  have HR := hid (ready_any h hf (.slice none 0 0) [] (Or.inl ⟨rfl, rfl⟩) (by simp) (by simp))
  have HCQ := hid hcq
  have c1 := hcq w (Below.refl _ _)
  have H := hid h
  by_cases ha : d.ans f [] = 0
  · have HE : Hid (wantN L (fun y => pre.isPrefixOf y.1) = d.list f pre) := hid (by unfold Pd.list; rw [if_pos ha, h.fs, want_names])
    rw [ha] at HR ⊢
    clear h hcq hf
    generalize d.list f pre = ns at *
    have HPT := hid (fun x => pre_take x pre)
    have hps : (⟨pre.toArray⟩ : ByteArray).size = pre.length := by simp [ByteArray.size]
    unfold sv
    generalize hPR : (⟨pre.toArray⟩ : ByteArray) = P at *
    clear hPR
    go_enter Try.func52, Try.ntmps52
    go_wp2_with (go_at_call 72; refine HR.out.mono ?_; rintro e w' ⟨rfl, hw'⟩; have hw2 := hw'.symm; subst hw2)
    go_loopw [7, 8] (fun v3 v wr => ∃ k : Nat, k ≤ L.length ∧ v = .int .i64 (k : Int) ∧ TxtL w.heap.size wr v3 (wantN (L.take k) fun y => pre.isPrefixOf y.1) ∧ Below w.heap.size w wr) (fun _ v _ => (L.length - intOf v).toNat)
    case atStart => exact ⟨0, by omega, rfl, World.ownsRow_nil _ _ _ _, Below.refl _ _⟩
    case round =>
      obtain ⟨k, hk, rfl, hT, hb⟩ := hrel
      obtain ⟨po3, c3, hv3⟩ := own_form hT
      subst hv3
      have HT := hid hT
      have HBE := hid hb
      have d1 := HCQ.out wr hb
      clear c1 hT hb
      by_cases hlt : k < L.length
      · have hlt' : (k : Int) < (L.length : Int) := by omega
        obtain ⟨g, cc, hv, ck, _, ck2, _⟩ := (H.out.below HBE.out).at hlt
        cases hv
        have HW := hid (want_take hlt fun y => pre.isPrefixOf y.1)
        have hln := want_len L k fun y => pre.isPrefixOf y.1
        generalize hX : atL L k = X at *
        clear hX ck2
        have hxs : (⟨X.1.toArray⟩ : ByteArray).size = X.1.length := by simp [ByteArray.size]
        obtain ⟨v4, w4, hrun, htx4, hgr4, _⟩ := HT.out.push X.1 (by omega) HBE.out.size
        have HRUN := hid hrun
        have HT4 := hid htx4
        have HB4 := hid (below_on_grown (below_on _ _ HBE.out ((Below.refl _ _).alloc (Nat.le_refl _) _)) hgr4 (fun b hb => (own_ge HT.out b hb).1))
        clear hrun htx4 hgr4
        have HP1 := hid (HPT.out X.1)
        by_cases hsz : pre.length ≤ X.1.length
        · have hcmp := HP1.out hsz
          rw [← hps] at hcmp
          have hs' : (P.size : Int) ≤ ((⟨X.1.toArray⟩ : ByteArray).size : Int) := by rw [hps, hxs]; omega
          cases hpx : pre.isPrefixOf X.1
          · rw [hpx] at hcmp
            have HW2 : Hid (wantN (L.take (k + 1)) (fun y => pre.isPrefixOf y.1) = wantN (L.take k) fun y => pre.isPrefixOf y.1) := hid (by rw [HW.out]; simp [hpx])
            unfold sv at ck
            generalize (⟨X.1.toArray⟩ : ByteArray) = XX at *
            clear hxs hps HP1
            go_wp2
            go_roundw
            case rel => exact ⟨k + 1, by omega, by go_num, by rw [HW2.out]; exact HT.out, HBE.out⟩
            case measure => simp [intOf]; omega
          · rw [hpx] at hcmp
            have HW2 : Hid (wantN (L.take (k + 1)) (fun y => pre.isPrefixOf y.1) = (wantN (L.take k) fun y => pre.isPrefixOf y.1) ++ [X.1]) := hid (by rw [HW.out]; simp [hpx])
            unfold sv at ck HRUN
            generalize hXX : (⟨X.1.toArray⟩ : ByteArray) = XX at *
            clear hxs hps HP1 hXX
            go_wp2_with (at_builtin; refine wpList_append_run _ _ 54 rfl rfl _ _ v4 rfl rfl HRUN.out ?_)
            go_roundw
            case rel => exact ⟨k + 1, by omega, by go_num, by rw [HW2.out]; exact HT4.out, HB4.out⟩
            case measure => simp [intOf]; omega
        · have hs' : ¬ (P.size : Int) ≤ ((⟨X.1.toArray⟩ : ByteArray).size : Int) := by rw [hps, hxs]; omega
          have hpx : pre.isPrefixOf X.1 = false := by
            cases hpx : pre.isPrefixOf X.1
            · rfl
            · exact absurd (List.IsPrefix.length_le (List.isPrefixOf_iff_prefix.1 hpx)) hsz
          have HW2 : Hid (wantN (L.take (k + 1)) (fun y => pre.isPrefixOf y.1) = wantN (L.take k) fun y => pre.isPrefixOf y.1) := hid (by rw [HW.out]; simp [hpx])
          unfold sv at ck
          generalize (⟨X.1.toArray⟩ : ByteArray) = XX at *
          clear hxs hps HP1
          go_wp2
          go_roundw
          case rel => exact ⟨k + 1, by omega, by go_num, by rw [HW2.out]; exact HT.out, HBE.out⟩
          case measure => simp [intOf]; omega
      · have hlt' : ¬ (k : Int) < (L.length : Int) := by omega
        have e : k = L.length := by omega
        subst e
        have HRR : Hid (TxtL w.heap.size wr (.slice po3 ns.length c3) ns ∧ (wantN (L.take L.length) fun y => pre.isPrefixOf y.1) = ns) := hid (by have := HT.out; rw [List.take_length, HE.out] at this ⊢; exact ⟨this, rfl⟩)
        have hns := HRR.out.2
        rw [hns]
        go_wp2
        go_ret2
        exact ⟨_, _, rfl, HRR.out.1, HBE.out⟩
  · have HE : Hid (d.list f pre = []) := hid (by unfold Pd.list; rw [if_neg ha])
    have ha' : ¬ ((d.ans f [] : Nat) : Int) = 0 := by omega
    rw [HE.out]
    clear h hf
    generalize d.ans f [] = n at *
    go_enter Try.func52, Try.ntmps52
    go_wp2_with (go_at_call 72; refine HR.out.mono ?_; rintro e w' ⟨rfl, hw'⟩; have hw2 := hw'.symm; subst hw2)
    go_ret2
    exact ⟨none, 0, rfl, World.ownsRow_nil _ _ _ _, Below.refl _ _⟩
end
#print axioms rloose_any
#print axioms rlist_any
end Go.Proofs.Ytfppmpfmafnfmaa

/- Contracts of New, Clone and Crash of the document's drives. -/
namespace Go.Proofs.Ytfppmpfmafnfmaa
open Go Go.RowKit

def RNewAt (w : World) (n : Nat) (e : Ending) (w' : World) : Prop :=
  ∃ q, e = .returned (.tuple #[ptr q, .int .i64 0]) ∧ RfAt w' (fun b => w.heap.size ≤ b ∧ b < w'.heap.size) q none (fresh n) ∧ Below w.heap.size w w'
theorem rnew_ok (n : Nat) (h1 : 1 ≤ n) (h2 : n ≤ 67108864) (w : World) : Calls Try.prog 10 #[.int .i64 (n : Int)] w (RNewAt w n) := by
  have h1' : ¬ (n : Int) < 1 := by omega
  have h2' : ¬ 67108864 < (n : Int) := by omega
  go_enter Try.func10, Try.ntmps10
  go_wp2
  go_ret2
  have hb : Below w.heap.size w (w.alloc (.cells #[.int .i64 (n : Int), .slice none 0 0, .bool false, .bool false, .bool false, .pointer none, .int .i64 0] 76)) := (Below.refl _ _).alloc (Nat.le_refl _) _
  refine ⟨w.heap.size, rfl, ⟨.slice none 0 0, [], CAt.made w _ _, World.ownsRow_nil _ _ _ _, rfl, fun x hx => (by cases hx), ⟨Nat.le_refl _, by rw [size_al]; omega⟩, fun b hb => (by cases hb), fun x hx => (by cases hx), fun b hb => hb.2⟩, hb⟩
theorem rnew_bad (n : Int) (h : n < 1 ∨ 67108864 < n) (w : World) : Calls Try.prog 10 #[.int .i64 n] w fun e w' => e = .returned (.tuple #[.pointer none, .int .i64 2]) ∧ w' = w := by
  by_cases h1 : n < 1
  · go_enter Try.func10, Try.ntmps10
    go_wp2
    go_ret2
    exact ⟨rfl, rfl⟩
  · have h2 : 67108864 < n := by omega
    go_enter Try.func10, Try.ntmps10
    go_wp2
    go_ret2
    exact ⟨rfl, rfl⟩
section
variable {w w' : World} {R : Nat → Prop} {q : Nat} {v : Value} {fu : Option Nat} {d : Pd} {L : List (Nm × Ent)} {f : Fs}
def RCloAt (w : World) (R : Nat → Prop) (d : Pd) (e : Ending) (w' : World) : Prop :=
  ∃ qc, e = .returned (ptr qc) ∧ RfAt w' (grw R w w') qc none d ∧ Below w.heap.size w w' ∧ w.heap.size ≤ qc
set_option maxHeartbeats 1000000 in
set_option maxRecDepth 100000 in
theorem rclone_any (h : RfC w R q v fu d L) (hf : FuR w R fu f) (hl : L.length < 999000) : Calls Try.prog 13 #[ptr q] w (RCloAt w R { d with out := d.isOut f }) := by
  obtain ⟨po, c, rfl⟩ := h.form
  have hfv : ∃ p, fuV fu = .pointer p := by cases fu <;> exact ⟨_, rfl⟩
  have hcs := h.c
  unfold rcells at hcs
  obtain ⟨pf, hpf⟩ := hfv
  rw [hpf] at hcs
  have c0 : w.cell? ⟨q, 0, none⟩ = some (.int .i64 (d.size : Int)) := hcs.cell 0
  have c1 : w.cell? ⟨q, 1, none⟩ = some (.slice po L.length c) := hcs.cell 1
  have c2 : w.cell? ⟨q, 2, none⟩ = some (.bool d.offl) := hcs.cell 2
  have c3 : w.cell? ⟨q, 3, none⟩ = some (.bool d.full) := hcs.cell 3
  have c4 : w.cell? ⟨q, 4, none⟩ = some (.bool d.out) := hcs.cell 4
  have c5 : w.cell? ⟨q, 5, none⟩ = some (.pointer pf) := hcs.cell 5
  have c6 : w.cell? ⟨q, 6, none⟩ = some (.int .i64 (d.ops : Int)) := hcs.cell 6
  have hql := h.c.lt
  have HO := hid (fun (o : Obj) => rout_any (h.alloc o) (hf.alloc o))
  have HCP := hid (fun (o : Obj) => copyF (w := w.alloc o) (B := 0) (h.alloc o).ow (fun x hx => by obtain ⟨po, c, e⟩ := h.slice hx; exact ⟨_, _, _, e⟩) (by omega))
  have H := hid h
  clear h hf hcs
  generalize d.isOut f = ob at *
  go_enter Try.func13, Try.ntmps13
  go_wp2_with (first
    | (go_at_call 43; refine (HO.out _).mono ?_; rintro e w' ⟨rfl, hw'⟩; have hw2 := hw'.symm; subst hw2
       obtain ⟨g, c', W, hrun, hF, hb⟩ := HCP.out (.cells #[.int .i64 (d.size : Int), .slice po L.length c, .bool d.offl, .bool d.full, .bool ob, .pointer none, .int .i64 (d.ops : Int)] 76)
       have hcc := (CAt.made w #[.int .i64 (d.size : Int), .slice po L.length c, .bool d.offl, .bool d.full, .bool ob, .pointer none, .int .i64 (d.ops : Int)] 76).below hb
       have y1 : W.cell? ⟨w.heap.size, 1, none⟩ = some (.slice po L.length c) := hcc.cell 1
       have z1 : W.frozen? ⟨w.heap.size, 1, none⟩ = false := hcc.free 1
       rw [size_al] at hrun
       have HRUN := hid hrun; have HF := hid hF; have HB := hid hb; have HCC := hid hcc; clear hrun hF hb hcc)
    | (at_builtin; refine wpList_append_run _ _ 73 rfl rfl _ _ _ rfl rfl HRUN.out ?_))
  go_ret
  have hbw : Below w.heap.size w W := below_on _ _ ((Below.refl _ _).alloc (Nat.le_refl _) _) HB.out
  have h1 := H.out.below hbw
  have hne : ∀ b, R b → b ≠ w.heap.size := fun b hb e => by have := H.out.lt b hb; omega
  have hgb := own_ge HF.out g rfl
  have hgs : w.heap.size + 1 ≤ g := by have := hgb.1; rw [size_al] at this; exact this
  have hsz : w.heap.size + 1 ≤ W.heap.size := by omega
  refine ⟨w.heap.size, rfl, ⟨.slice (some ⟨g, 0, none⟩) L.length c', L, ?_, ?_, H.out.fs, fun x hx => ?_, Or.inr ⟨Nat.le_refl _, by rw [setCell_size]; omega⟩, fun b hb => Or.inr ?_, fun x hx b hb => Or.inl (H.out.rb x hx b hb), fun b hb => ?_⟩, hbw.setCell (Nat.le_refl _) _, Nat.le_refl _⟩
  · have := HCC.out.set 1 (.slice (some ⟨g, 0, none⟩) L.length c')
    simpa [rcells, fuV] using this
  · exact ownsRow_keep (own_base HF.out (Nat.zero_le _)) fun b hb => heap_setCell_ne _ _ _ _ (by cases hb; show g ≠ w.heap.size; omega)
  · exact ownsRow_keep (h1.by_ x hx) fun b hb => heap_setCell_ne _ _ _ _ (hne b (h1.rb x hx b hb))
  · cases hb; rw [setCell_size]; exact ⟨by show w.heap.size ≤ g; omega, hgb.2⟩
  · rcases hb with hb | hb
    · rw [setCell_size]; exact h1.lt b hb
    · exact hb.2
/-- The files behind a crash. -/
def crL : List (Nm × Ent) → List Bool → List (Nm × Ent)
  | [], _ => []
  | p :: r, ks => if p.2.l then (if ks.headD false then (p.1, ⟨p.2.v, p.2.b, false⟩) :: crL r ks.tail else crL r ks.tail) else p :: crL r ks
def cntT (L : List (Nm × Ent)) : Nat := (L.filter fun p => p.2.l).length
theorem crL_fi : ∀ (L : List (Nm × Ent)) (ks : List Bool), gmap Ent.fi (crL L ks) = crashAll (gmap Ent.fi L) ks
  | [], ks => by unfold crashAll; rfl
  | (s, ⟨v, b, false⟩) :: r, ks => by
    show (s, (b, false)) :: gmap Ent.fi (crL r ks) = crashAll ((s, (b, false)) :: gmap Ent.fi r) ks
    rw [crashAll_f, crL_fi]
  | (s, ⟨v, b, true⟩) :: r, ks => by
    show gmap Ent.fi (if ks.headD false then (s, ⟨v, b, false⟩) :: crL r ks.tail else crL r ks.tail) = crashAll ((s, (b, true)) :: gmap Ent.fi r) ks
    rw [crashAll_t]
    split
    · show (s, (b, false)) :: gmap Ent.fi (crL r ks.tail) = _
      rw [crL_fi]
    · rw [crL_fi]
theorem crL_app : ∀ (A : List (Nm × Ent)) (p : Nm × Ent) (ks : List Bool), crL (A ++ [p]) ks = crL A ks ++ crL [p] (ks.drop (cntT A))
  | [], p, ks => by simp [crL, cntT]
  | a :: r, p, ks => by
    have ih := crL_app r p
    show crL (a :: (r ++ [p])) ks = crL (a :: r) ks ++ crL [p] (ks.drop (cntT (a :: r)))
    cases hl : a.2.l
    · have hc : cntT (a :: r) = cntT r := by simp [cntT, hl]
      have e1 : ∀ z kk, crL (a :: z) kk = a :: crL z kk := fun z kk => by
        show (if a.2.l then _ else a :: crL z kk) = _
        rw [hl]; rfl
      rw [e1, e1, hc, ih]; rfl
    · have hc : cntT (a :: r) = cntT r + 1 := by simp [cntT, hl]
      have hd : ks.drop (cntT r + 1) = ks.tail.drop (cntT r) := by cases ks <;> simp
      have e1 : ∀ z kk, crL (a :: z) kk = if kk.headD false then (a.1, ⟨a.2.v, a.2.b, false⟩) :: crL z kk.tail else crL z kk.tail := fun z kk => by
        show (if a.2.l then (if kk.headD false then (a.1, ⟨a.2.v, a.2.b, false⟩) :: crL z kk.tail else crL z kk.tail) else _) = _
        rw [hl]; rfl
      rw [e1, e1, hc, hd, ih]
      split <;> rfl
theorem cnt_take {L : List (Nm × Ent)} {k : Nat} (h : k < L.length) : cntT (L.take (k + 1)) = cntT (L.take k) + if (atL L k).2.l then 1 else 0 := by
  rw [take_at L h]; unfold cntT; rw [List.filter_append]
  cases hl : (atL L k).2.l <;> simp [hl]
theorem cnt_le (L : List (Nm × Ent)) (k : Nat) : cntT (L.take k) ≤ L.length := by
  unfold cntT; exact Nat.le_trans (List.length_filter_le _ _) (by rw [List.length_take]; omega)
theorem crL_take {L : List (Nm × Ent)} {k : Nat} (h : k < L.length) (ks : List Bool) : crL (L.take (k + 1)) ks = crL (L.take k) ks ++ (if (atL L k).2.l then (if ks.getD (cntT (L.take k)) false then [((atL L k).1, ⟨(atL L k).2.v, (atL L k).2.b, false⟩)] else []) else [atL L k]) := by
  rw [take_at L h, crL_app]
  congr 1
  have hh : (ks.drop (cntT (L.take k))).headD false = ks.getD (cntT (L.take k)) false := by
    rw [List.headD_eq_head?_getD, List.head?_drop, List.getD_eq_getElem?_getD]
  unfold crL
  rw [hh]
  cases (atL L k).2.l <;> simp [crL]
theorem crL_len : ∀ (L : List (Nm × Ent)) (ks : List Bool), (crL L ks).length ≤ L.length
  | [], _ => Nat.le_refl _
  | p :: r, ks => by
    unfold crL
    have h1 := crL_len r ks
    have h2 := crL_len r ks.tail
    split
    · split <;> simp <;> omega
    · simp; omega
theorem crL_mem : ∀ {L : List (Nm × Ent)} {ks : List Bool} {x : Nm × Ent}, x ∈ crL L ks → ∃ y ∈ L, y.2.v = x.2.v ∧ y.2.b = x.2.b
  | [], _, _, h => by cases h
  | p :: r, ks, x, h => by
    unfold crL at h
    split at h
    · split at h
      · rcases List.mem_cons.1 h with rfl | h
        · exact ⟨p, by simp, rfl, rfl⟩
        · obtain ⟨y, hy, e⟩ := crL_mem h; exact ⟨y, by simp [hy], e⟩
      · obtain ⟨y, hy, e⟩ := crL_mem h; exact ⟨y, by simp [hy], e⟩
    · rcases List.mem_cons.1 h with rfl | h
      · exact ⟨x, by simp, rfl, rfl⟩
      · obtain ⟨y, hy, e⟩ := crL_mem h; exact ⟨y, by simp [hy], e⟩
/-- What a crash leaves. -/
def RCrAt (w : World) (R : Nat → Prop) (q : Nat) (d : Pd) (e : Ending) (w' : World) : Prop :=
  e = .returned (.int .i64 0) ∧ ∃ R2, Grows w R R2 ∧ RfAt w' R2 q none d ∧ Only (fun b => b = q) w w'
set_option maxHeartbeats 2000000 in
set_option maxRecDepth 100000 in
theorem rcrash_any (h : RfC w R q v fu d L) (po : Option Addr) (c : Nat) (ks : List Bool) (hk : KAt w (fun _ => False) po ks) (hkn : ks.length ≤ 1000000000) (hl : L.length < 999000) :
    Calls Try.prog 54 #[ptr q, .slice po ks.length c] w (RCrAt w R q (d.crash ks)) := by
  have hcq : ∀ W, Below w.heap.size w W → W.cell? ⟨q, 1, none⟩ = some v := fun W hb => (h.below hb).c.cell 1
  have hfv : ∃ p, fuV fu = .pointer p := by cases fu <;> exact ⟨_, rfl⟩
  have HFV := hid hfv
  obtain ⟨po1, c1, rfl⟩ := h.form
  have HCQ := hid hcq
  have cq := hcq w (Below.refl _ _)
  have hql := h.c.lt
  have H := hid h
  have HK := hid hk
  have HE : Hid (gmap Ent.fi (crL L ks) = (d.crash ks).F) := hid (by rw [crL_fi, ← h.fs]; rfl)
  clear h hcq hk hfv
  go_enter Try.func54, Try.ntmps54
  go_wp2
  go_loopw [5, 6, 7] (fun v5 v6 v7 wr => ∃ k : Nat, k ≤ L.length ∧ v7 = .int .i64 (k : Int) ∧ v6 = .int .i64 (cntT (L.take k) : Int) ∧ FilL w.heap.size wr v5 (crL (L.take k) ks) ∧ Below w.heap.size w wr) (fun _ _ v _ => (L.length - intOf v).toNat)
  case atStart => exact ⟨0, by omega, rfl, rfl, FilL.nil _ _, Below.refl _ _⟩
  case round =>
    obtain ⟨k, hkL, rfl, rfl, hF, hb⟩ := hrel
    obtain ⟨po5, c5, hv5⟩ := own_form hF
    subst hv5
    have HF := hid hF
    have HB := hid hb
    have d1 := HCQ.out wr hb
    have hsw := hb.size
    clear cq hF hb
    by_cases hlt : k < L.length
    · have hlt' : (k : Int) < (L.length : Int) := by omega
      obtain ⟨g, cc, hv, ck, ck1, ck2, _⟩ := (H.out.below HB.out).at hlt
      cases hv
      obtain ⟨pb, cb, hpb⟩ := H.out.slice (atL_mem hlt)
      rw [hpb] at ck1
      have HPB := hid hpb
      have HCT := hid (crL_take hlt ks)
      have HNT := hid (cnt_take hlt)
      have hnl := cnt_le L k
      have HCL : Hid ((crL (L.take k) ks).length ≤ 1000000) := hid (by have := crL_len (L.take k) ks; rw [List.length_take] at this; omega)
      have hgl : g < wr.heap.size := cell_lt' (a := ⟨g, k * 3 + 2, none⟩) (by rw [ck2]; simp)
      clear hpb
      generalize hX : atL L k = X at *
      clear hX
      generalize hN : cntT (L.take k) = N at *
      clear hN
      cases hxl : X.2.l
      · rw [hxl] at ck2
        have HC2 : Hid (crL (L.take (k + 1)) ks = crL (L.take k) ks ++ [X]) := hid (by rw [HCT.out, hxl]; rfl)
        have HN2 : Hid (cntT (L.take (k + 1)) = N) := hid (by rw [HNT.out, hxl]; rfl)
        obtain ⟨v4, w4, hrun, hF4, hg4⟩ := (HF.out.below ((Below.refl _ _).alloc (Nat.le_refl _) (.cells #[sv X.1, .slice pb X.2.b.length cb, .bool false] 98))).push X ⟨_, _, _, HPB.out⟩ HCL.out (by rw [size_al]; omega)
        rw [size_al, HPB.out, hxl] at hrun
        have HRUN := hid hrun
        have HF4 := hid hF4
        have HB4 := hid (below_on_grown (below_on _ _ (below_on _ _ HB.out ((Below.refl _ _).alloc (Nat.le_refl _) _)) ((Below.refl _ _).alloc (Nat.le_refl _) _)) hg4 (fun b hb => (own_ge HF.out b hb).1))
        clear hrun hF4 hg4 hxl HCT HNT
        go_wp2_with (at_builtin; refine wpList_append_run _ _ 73 rfl rfl _ _ v4 rfl rfl HRUN.out ?_)
        go_roundw
        case rel => exact ⟨k + 1, by omega, by go_num, by rw [HN2.out], by rw [HC2.out]; exact HF4.out, HB4.out⟩
        case measure => simp [intOf]; omega
      · rw [hxl] at ck2
        have HN2 : Hid (cntT (L.take (k + 1)) = N + 1) := hid (by rw [HNT.out, hxl]; rfl)
        cases hkp : ks.getD N false
        · have HC2 : Hid (crL (L.take (k + 1)) ks = crL (L.take k) ks) := hid (by rw [HCT.out, hxl, hkp]; simp)
          by_cases hnk : N < ks.length
          · have hnk' : ¬ (ks.length : Int) < (N : Int) + 1 := by omega
            rcases HK.out with h0 | ⟨b, o, rfl, _, hkc⟩
            · rw [h0] at hnk; simp at hnk
            have hkb := hkc N hnk
            rw [hkp] at hkb
            have hkb2 : wr.cell? ⟨b, o + N, none⟩ = some (.bool false) := (World.cell?_of_block (HB.out.block b (cell_lt' (a := ⟨b, o + N, none⟩) (by rw [hkb]; simp)))).trans hkb
            have hbl : b < wr.heap.size := cell_lt' (a := ⟨b, o + N, none⟩) (by rw [hkb2]; simp)
            clear hkc hkb hxl HCT HNT hkp
            go_wp2
            go_roundw
            case rel => exact ⟨k + 1, by omega, by go_num, by rw [HN2.out]; go_num, by rw [HC2.out]; exact HF.out.below ((Below.refl _ _).alloc (Nat.le_refl _) _), below_on _ _ HB.out ((Below.refl _ _).alloc (Nat.le_refl _) _)⟩
            case measure => simp [intOf]; omega
          · have hnk' : (ks.length : Int) < (N : Int) + 1 := by omega
            clear hxl HCT HNT hkp
            go_wp2
            go_roundw
            case rel => exact ⟨k + 1, by omega, by go_num, by rw [HN2.out]; go_num, by rw [HC2.out]; exact HF.out.below ((Below.refl _ _).alloc (Nat.le_refl _) _), below_on _ _ HB.out ((Below.refl _ _).alloc (Nat.le_refl _) _)⟩
            case measure => simp [intOf]; omega
        · have HC2 : Hid (crL (L.take (k + 1)) ks = crL (L.take k) ks ++ [(X.1, ⟨X.2.v, X.2.b, false⟩)]) := hid (by rw [HCT.out, hxl, hkp]; simp)
          have hnk : N < ks.length := by
            rcases Nat.lt_or_ge N ks.length with h | h
            · exact h
            · rw [List.getD_eq_getElem?_getD, List.getElem?_eq_none h] at hkp; cases hkp
          have hnk' : ¬ (ks.length : Int) < (N : Int) + 1 := by omega
          rcases HK.out with h0 | ⟨b, o, rfl, _, hkc⟩
          · rw [h0] at hnk; simp at hnk
          have hkb := hkc N hnk
          rw [hkp] at hkb
          have hkb2 : wr.cell? ⟨b, o + N, none⟩ = some (.bool true) := (World.cell?_of_block (HB.out.block b (cell_lt' (a := ⟨b, o + N, none⟩) (by rw [hkb]; simp)))).trans hkb
          have hbl : b < wr.heap.size := cell_lt' (a := ⟨b, o + N, none⟩) (by rw [hkb2]; simp)
          obtain ⟨v4, w4, hrun, hF4, hg4⟩ := (HF.out.below ((Below.refl _ _).alloc (Nat.le_refl _) (.cells #[sv X.1, .slice pb X.2.b.length cb, .bool false] 98))).push (X.1, ⟨X.2.v, X.2.b, false⟩) ⟨_, _, _, HPB.out⟩ HCL.out (by rw [size_al]; omega)
          rw [size_al] at hrun
          simp only at hrun
          rw [HPB.out] at hrun
          have HRUN := hid hrun
          have HF4 := hid hF4
          have HB4 := hid (below_on_grown (below_on _ _ (below_on _ _ HB.out ((Below.refl _ _).alloc (Nat.le_refl _) _)) ((Below.refl _ _).alloc (Nat.le_refl _) _)) hg4 (fun b hb => (own_ge HF.out b hb).1))
          clear hrun hF4 hg4 hxl HCT HNT hkp hkc hkb
          go_wp2_with (at_builtin; refine wpList_append_run _ _ 73 rfl rfl _ _ v4 rfl rfl HRUN.out ?_)
          go_roundw
          case rel => exact ⟨k + 1, by omega, by go_num, by rw [HN2.out]; go_num, by rw [HC2.out]; exact HF4.out, HB4.out⟩
          case measure => simp [intOf]; omega
    · have hlt' : ¬ (k : Int) < (L.length : Int) := by omega
      have e : k = L.length := by omega
      subst e
      have h1 := H.out.below HB.out
      have hL : L.take L.length = L := List.take_length
      have HFE : Hid (FilL w.heap.size wr (.slice po5 (crL (L.take L.length) ks).length c5) (crL L ks)) := hid (by have := HF.out; rw [hL] at this ⊢; exact this)
      have z1 : wr.frozen? ⟨q, 1, none⟩ = false := h1.c.free 1
      have z4 : wr.frozen? ⟨q, 4, none⟩ = false := h1.c.free 4
      have z5 : wr.frozen? ⟨q, 5, none⟩ = false := h1.c.free 5
      have d4 : wr.cell? ⟨q, 4, none⟩ = some (.bool d.out) := h1.c.cell 4
      have d5 : wr.cell? ⟨q, 5, none⟩ = some (fuV fu) := h1.c.cell 5
      obtain ⟨pf, hpf⟩ := HFV.out
      rw [hpf] at d5
      clear h1 hL
      generalize (crL (L.take L.length) ks).length = nn at *
      go_wp2
      go_ret
      have hr := H.out.relist HB.out HFE.out (fun x hx => by obtain ⟨y, hy, e1, e2⟩ := crL_mem hx; rw [← e1, ← e2]; exact ⟨(H.out.below HB.out).by_ y hy, fun b hb => Or.inl (H.out.rb y hy b hb)⟩) (F2 := (d.crash ks).F) HE.out.symm
      have h4 := hr.1.setq 4 (.bool false) (fu2 := fu) (d2 := { d with F := (d.crash ks).F, out := false }) (by simp [rcells]) rfl
      have h5 := h4.setq 5 (.pointer none) (fu2 := none) (d2 := d.crash ks) (by simp [rcells, Pd.crash, fuV]) rfl
      exact ⟨rfl, _, ⟨fun b hb => Or.inl hb, fun b hb => hb.imp id (·.1)⟩, ⟨_, _, h5⟩, (hr.2.trans (Only.set _ _ _ rfl)).trans (Only.set _ _ _ rfl)⟩
end
#print axioms rclone_any
#print axioms rcrash_any
end Go.Proofs.Ytfppmpfmafnfmaa

/- Contract of Turn of the document's drives. -/
namespace Go.Proofs.Ytfppmpfmafnfmaa
open Go Go.RowKit

theorem set_mod : ∀ {L : List (Nm × Ent)} {s : Nm} {i : Nat} (v : Value) (a mask : Nat), Srt L → idx L s = some i → gmap Ent.fi (L.set i ((atL L i).1, ⟨v, turnB (atL L i).2.b a mask, (atL L i).2.l⟩)) = gmod (gmap Ent.fi L) s a mask
  | [], _, _, _, _, _, _, h => by cases h
  | p :: r, s, i, v, a, mask, hs, h => by
    have hs' := List.pairwise_cons.1 hs
    unfold idx at h
    by_cases ep : p.1 = s
    · rw [if_pos ep] at h; cases h
      have h2 : gmod (gmap Ent.fi r) s a mask = gmap Ent.fi r := by
        unfold gmod
        have : ∀ y ∈ gmap Ent.fi r, (if y.1 = s then (y.1, (turnB y.2.1 a mask, y.2.2)) else y) = y := fun y hy => by
          obtain ⟨z, hz, rfl⟩ := List.mem_map.1 hy
          have := bb_ne (hs'.1 z hz)
          rw [ep] at this
          rw [if_neg (fun e => this e.symm)]
        rw [List.map_congr_left this, List.map_id']
      show (p.1, (turnB p.2.b a mask, p.2.l)) :: gmap Ent.fi r = (if p.1 = s then (p.1, (turnB p.2.b a mask, p.2.l)) else (p.1, (p.2.b, p.2.l))) :: gmod (gmap Ent.fi r) s a mask
      rw [if_pos ep, h2]
    · rw [if_neg ep] at h
      cases hi : idx r s with
      | none => rw [hi] at h; cases h
      | some j =>
        rw [hi] at h; cases h
        have ih := set_mod v a mask hs'.2 hi
        show (p.1, p.2.fi) :: gmap Ent.fi (r.set j ((atL r j).1, ⟨v, turnB (atL r j).2.b a mask, (atL r j).2.l⟩)) = (if p.1 = s then (p.1, (turnB p.2.b a mask, p.2.l)) else (p.1, p.2.fi)) :: gmod (gmap Ent.fi r) s a mask
        rw [if_neg ep, ih]
def RTurnAt (w : World) (R : Nat → Prop) (q : Nat) (fu : Option Nat) (r : Nat × Pd) (e : Ending) (w' : World) : Prop :=
  e = .returned (.int .i64 (r.1 : Int)) ∧ ∃ R2, Grows w R R2 ∧ RfAt w' R2 q fu r.2 ∧ Only (fun b => b = q) w w'
section
variable {w w' : World} {R : Nat → Prop} {q : Nat} {v : Value} {fu : Option Nat} {d : Pd} {L : List (Nm × Ent)} {f : Fs}
set_option maxHeartbeats 2000000 in
set_option maxRecDepth 100000 in
theorem rturn_any (h : RfC w R q v fu d L) (s : Nm) (a : Int) (ha : -9223372036854775808 ≤ a ∧ a ≤ 9223372036854775807) (mask : Nat) (hm : mask < 256) (hl : L.length < 999000) (hbn : ∀ x ∈ L, x.2.b.length ≤ 1000000000) (h8 : ∀ x ∈ L, ∀ y ∈ x.2.b, y < 256) (hso : Srt d.F) :
    Calls Try.prog 53 #[ptr q, sv s, .int .i64 a, .int .u8 (mask : Int)] w (RTurnAt w R q fu (d.turn s a mask)) := by
  have HA := hid (at_any h s (by omega))
  have c1 : w.cell? ⟨q, 1, none⟩ = some v := h.c.cell 1
  have hql := h.c.lt
  have HGG := gget_fi h s
  have HSO : Hid (Srt L) := hid (srt_map (by rw [← h.fs]; exact hso))
  have H := hid h
  clear h hso
  cases hi : idx L s with
  | none =>
    have HE : Hid (d.turn s a mask = (6, d)) := hid (by unfold Pd.turn; rw [HGG, idx_miss hi]; rfl)
    have e : atI L s = -1 := by unfold atI; rw [hi]
    rw [e] at HA
    clear HGG
    go_enter Try.func53, Try.ntmps53
    go_wp2_with (go_at_call 73; refine HA.out.mono ?_; rintro e w' ⟨rfl, hw'⟩; have hw2 := hw'.symm; subst hw2)
    go_ret
    rw [HE.out]
    exact ⟨rfl, R, Grows.refl _ _, ⟨v, L, H.out⟩, Only.refl _ _⟩
  | some i =>
    obtain ⟨hi1, hi2, hi3⟩ := idx_get hi
    have HGF : Hid (gget d.F s = some ((atL L i).2.b, (atL L i).2.l)) := hid (by rw [HGG, hi3]; rfl)
    have e : atI L s = (i : Int) := by unfold atI; rw [hi]
    rw [e] at HA
    have hni : ¬ (i : Int) < 0 := by omega
    have hni2 : (i : Int) < (L.length : Int) := by omega
    have HI := hid hi
    obtain ⟨g, cc, hv, _, k1, _⟩ := H.out.at hi1
    subst hv
    obtain ⟨pe, ce, hpe⟩ := H.out.slice (atL_mem hi1)
    rw [hpe] at k1
    have HPE := hid hpe
    have hgl : g < w.heap.size := cell_lt' (a := ⟨g, i * 3 + 1, none⟩) (by rw [k1]; simp)
    clear HGG hi2 hi3 hpe hi
    by_cases hr : a < 0 ∨ ((atL L i).2.b.length : Int) ≤ a
    · have HE : Hid (d.turn s a mask = (5, d)) := hid (by unfold Pd.turn; rw [HGF.out]; simp only; rw [if_pos hr])
      generalize (atL L i).2.b.length = nb at *
      by_cases h0 : a < 0
      · go_enter Try.func53, Try.ntmps53
        go_wp2_with (go_at_call 73; refine HA.out.mono ?_; rintro e w' ⟨rfl, hw'⟩; have hw2 := hw'.symm; subst hw2)
        go_ret
        rw [HE.out]
        exact ⟨rfl, R, Grows.refl _ _, ⟨_, L, H.out⟩, Only.refl _ _⟩
      · have h1 : (nb : Int) ≤ a := by omega
        go_enter Try.func53, Try.ntmps53
        go_wp2_with (go_at_call 73; refine HA.out.mono ?_; rintro e w' ⟨rfl, hw'⟩; have hw2 := hw'.symm; subst hw2)
        go_ret
        rw [HE.out]
        exact ⟨rfl, R, Grows.refl _ _, ⟨_, L, H.out⟩, Only.refl _ _⟩
    · obtain ⟨j, rfl⟩ : ∃ j : Nat, a = (j : Int) := ⟨a.toNat, by omega⟩
      have hj : j < (atL L i).2.b.length := by omega
      have HE : Hid (d.turn s (j : Int) mask = (0, { d with F := gmod d.F s j mask })) := hid (by unfold Pd.turn; rw [HGF.out]; simp only; rw [if_neg hr]; rfl)
      have hat : BAt w pe (atL L i).2.b := by have := H.out.by_ _ (atL_mem hi1); rw [HPE.out] at this; exact own_BAt this
      obtain ⟨po', c', W1, hrun, how, hb1⟩ := copyB hat ce (hbn _ (atL_mem hi1))
      have hx8 : (atL L i).2.b.getD j 0 < 256 := by rw [getD_in _ _ _ hj]; exact h8 _ (atL_mem hi1) _ (List.getElem_mem hj)
      have hxor : bits .xor .u8 (((atL L i).2.b.getD j 0 : Nat) : Int) (mask : Int) = ((((atL L i).2.b.getD j 0) ^^^ mask : Nat) : Int) := u8_xor_nat _ _ hx8 hm
      have hg1 : ∃ g1, po' = some ⟨g1, 0, none⟩ := by
        rcases how.2 with ⟨h1, h2⟩ | ⟨g, cap, cur, h1, _⟩
        · omega
        · cases h1; exact ⟨g, rfl⟩
      obtain ⟨g1, rfl⟩ := hg1
      have hg1b := own_ge how g1 rfl
      have hcell : W1.cell? ⟨g1, j, none⟩ = some (.int .u8 (((atL L i).2.b.getD j 0 : Nat) : Int)) := by
        rcases own_BAt how with ⟨h1, _⟩ | ⟨a', h1, h2⟩
        · cases h1
        · cases h1
          have h3 := h2 j hj
          rw [add_none, Nat.zero_add] at h3
          exact h3
      have hfr : W1.frozen? ⟨g1, j, none⟩ = false := by
        rcases how.2 with ⟨h1, _⟩ | ⟨g, cap, cur, h1, _, hg, _⟩
        · cases h1
        · cases h1; exact CAt.free (cs := cur) (t := 5) hg j
      have how2 := own_set how j (.int .u8 ((((atL L i).2.b.getD j 0) ^^^ mask : Nat) : Int))
      have HTB : Hid (((atL L i).2.b.map u8).set j (.int .u8 ((((atL L i).2.b.getD j 0) ^^^ mask : Nat) : Int)) = (turnB (atL L i).2.b j mask).map u8) := hid (by unfold turnB; rw [List.map_set]; rfl)
      have HTL : Hid ((turnB (atL L i).2.b j mask).length = (atL L i).2.b.length) := hid (turnB_len _ _ _)
      rw [HTB.out] at how2
      have hb2 : Below w.heap.size w (W1.setCell ⟨g1, j, none⟩ (.int .u8 ((((atL L i).2.b.getD j 0) ^^^ mask : Nat) : Int))) := hb1.setCell hg1b.1 _
      have HFI := hid (fun (y : Value) => set_mod y j mask HSO.out HI.out)
      have h1q : W1.cell? ⟨q, 1, none⟩ = some _ := (H.out.below hb1).c.cell 1
      have h1l := (H.out.below hb1).c.lt
      have hne1 : g1 ≠ q := by omega
      have hne1' : q ≠ g1 := by omega
      have hq1 : (W1.setCell ⟨g1, j, none⟩ (.int .u8 ((((atL L i).2.b.getD j 0) ^^^ mask : Nat) : Int))).cell? ⟨q, 1, none⟩ = some _ := (H.out.below hb2).c.cell 1
      obtain ⟨g3, c3, W3, hrun3, hF3, hb3⟩ := copyF (B := 0) (H.out.below hb2).ow (fun x hx => by obtain ⟨po, c, e⟩ := H.out.slice hx; exact ⟨_, _, _, e⟩) (by omega)
      have hr3 := (H.out.below hb2).below hb3
      have cq3 : W3.cell? ⟨q, 1, none⟩ = some _ := hr3.c.cell 1
      have zq3 : W3.frozen? ⟨q, 1, none⟩ = false := hr3.c.free 1
      have hgq : g3 ≠ q := hr3.ne_q (own_base hF3 (Nat.zero_le _)) (by decide) g3 rfl
      have hgq2 : q ≠ g3 := fun e => hgq e.symm
      obtain ⟨g4, c4, hv4, _, k3, _, kz⟩ := FilL.at hF3 hi1
      cases hv4
      have kz2 := kz (i * 3 + 1)
      have HB3 := hid (below_on _ _ hb2 hb3)
      have HF3 : Hid (FilL w.heap.size W3 (.slice (some ⟨g3, 0, none⟩) L.length c3) L) := hid (own_base hF3 (by rw [setCell_size]; exact hb1.size))
      have HO3 := hid (ownsRow_keep how2 fun b hb => hb3.block b (own_ge how2 b hb).2)
      rw [setCell_size] at hrun3
      have HRUN := hid hrun
      have HRUN3 := hid hrun3
      have HG1B := hid hg1b
      have hg1l : g1 < W1.heap.size := hg1b.2
      rw [HPE.out] at k3
      clear hrun hrun3 how how2 hb1 hb2 hF3 hb3 hr3 kz hat hr
      have h1 : ¬ (j : Int) < 0 := by omega
      have h2 : ¬ ((atL L i).2.b.length : Int) ≤ (j : Int) := by omega
      have hj' : (j : Int) < ((atL L i).2.b.length : Int) := by omega
      generalize (atL L i).2.b.getD j 0 ^^^ mask = y at *
      generalize (atL L i).2.b.getD j 0 = z at *
      have t1 : True := trivial
      go_enter Try.func53, Try.ntmps53
      go_wp2_with (first
        | (go_at_call 73; refine HA.out.mono ?_; rintro e w' ⟨rfl, hw'⟩; have hw2 := hw'.symm; subst hw2)
        | (at_builtin; have _t := t1; refine wpList_append_run _ _ 33 rfl rfl _ _ _ rfl rfl HRUN.out ?_; clear t1)
        | (at_builtin; refine wpList_append_run _ _ 73 rfl rfl _ _ _ rfl rfl HRUN3.out ?_))
      go_ret
      rw [HE.out]
      have hre := H.out.relist HB3.out HF3.out (fun x hx => ⟨(H.out.below HB3.out).by_ x hx, fun b hb => Or.inl (H.out.rb x hx b hb)⟩) (F2 := d.F) H.out.fs
      have hg3 := own_ge HF3.out g3 rfl
      have hg1W : g1 < W3.heap.size := (own_ge HO3.out g1 rfl).2
      have hrow : (W3.setCell ⟨q, 1, none⟩ (.slice (some ⟨g3, 0, none⟩) L.length c3)).ownsRow 0 5 1 (.slice (some ⟨g1, 0, none⟩) (atL L i).2.b.length c') (turnB (atL L i).2.b j mask).length ((turnB (atL L i).2.b j mask).map u8) := by
        rw [HTL.out]
        exact ownsRow_keep (own_base HO3.out (Nat.zero_le _)) fun b hb => heap_setCell_ne _ _ _ _ (by cases hb; exact hne1)
      have hE := hre.1.setE (i := i) (j := 1) (flat_set1 L i (.slice (some ⟨g1, 0, none⟩) (atL L i).2.b.length c') (turnB (atL L i).2.b j mask) hi1) hrow (fun b hb => Or.inr (by cases hb; rw [setCell_size]; exact ⟨HG1B.out.1, hg1W⟩)) (F2 := gmod d.F s j mask) (by rw [H.out.fs]; exact (HFI.out _).symm)
      exact ⟨rfl, _, ⟨fun b hb => Or.inl hb, fun b hb => hb.imp id (·.1)⟩, ⟨_, _, hE⟩, hre.2.then (T := fun b => b = g3) (Only.set _ _ _ rfl) (fun b hb e => by have := hg3.1; omega)⟩
end
#print axioms rturn_any
end Go.Proofs.Ytfppmpfmafnfmaa

/- Contract of Light of the document's own answer. -/
namespace Go.Proofs.Ytfppmpfmafnfmaa
open Go Go.RowKit

theorem rlight_bad (po : Option Addr) (k c : Nat) (n : Int) (hn : n < 0) (w : World) : Calls Try.prog 15 #[.slice po k c, .int .i64 n] w fun e w' => e = .returned (.int .i64 2) ∧ w' = w := by
  go_enter Try.func15, Try.ntmps15
  go_wp2
  go_ret
  exact ⟨rfl, rfl⟩
section
variable {w w' : World} {R : Nat → Prop} {q : Nat} {v : Value} {fu : Option Nat} {d : Pd} {L : List (Nm × Ent)} {f : Fs}
theorem RfC.litC (h : RfC w R q v fu d L) (o : Bool) (z : Nat) : RfC ((w.setCell ⟨q, 4, none⟩ (.bool o)).setCell ⟨q, 5, none⟩ (ptr z)) R q v (some z) { d with out := o } L :=
  (h.setq 4 (.bool o) (d2 := { d with out := o }) (fu2 := fu) rfl rfl).setq 5 (ptr z) (d2 := { d with out := o }) (fu2 := some z) rfl rfl
theorem FuR.ne_drive (hf : FuR w R fu f) {p : Nat} {cs : Array Value} (hc : CAt w p cs 76) : ∀ z, fu = some z → z ≠ p := by
  intro z hz e
  match fu, f, hf with
  | some z2, some (n, g), hf =>
    cases hz
    have h1 : w.heap[z]? = _ := hf.1
    have h2 : w.heap[p]? = _ := hc
    rw [e, h2] at h1
    have ht := (Obj.cells.inj (Option.some.inj h1)).2.1
    revert ht; decide
theorem RfC.box_ne (h : RfC w R q v fu d L) {b : Nat} {cs : Array Value} {t : TypeId} (hc : CAt w b cs t) (ht : t ≠ 76) : b ≠ q := fun e => by
  have h1 : w.heap[q]? = _ := h.c
  have h2 : w.heap[b]? = _ := hc
  rw [e, h1] at h2
  exact ht (Obj.cells.inj (Option.some.inj h2)).2.1.symm
def Li1At (w : World) (R : Nat → Prop) (q : Nat) (d : Pd) (n : Nat) (e : Ending) (w' : World) : Prop :=
  e = .returned (.int .i64 0) ∧ ∃ z, w.heap.size ≤ z ∧ RfAt w' R q (some z) d ∧ CAt w' z #[.int .i64 (n : Int), .bool false] 83 ∧ Only (fun b => b = q) w w'
set_option maxHeartbeats 2000000 in
set_option maxRecDepth 100000 in
theorem rlight1_any (h1 : RfC w R q v fu d L) (hf1 : FuR w R fu f) (bl c : Nat) (hc : CAt w bl #[ptr q] 27) (n : Nat) (hn : n ≤ 9223372036854775807) :
    Calls Try.prog 15 #[.slice (some ⟨bl, 0, none⟩) 1 c, .int .i64 (n : Int)] w (Li1At w R q (d.lit f) n) := by
  have H1 := hid h1
  have HF1 := hid hf1
  have HBL := hid hc
  have b0 : w.cell? ⟨bl, 0, none⟩ = some (ptr q) := hc.cell 0
  have hbl := hc.lt
  have hq1 := h1.c.lt
  have hbq := h1.box_ne hc (by decide)
  have HBQ := hid hbq
  have hn0 : ¬ (n : Int) < 0 := by omega
  clear h1 hf1 hc hbq
  go_enter Try.func15, Try.ntmps15
  go_wp2
  have HQ := hid (CAt.made w #[.int .i64 (n : Int), .bool false] 83)
  have HD1 := hid (H1.out.alloc (.cells #[.int .i64 (n : Int), .bool false] 83))
  have HG1 := hid (HF1.out.alloc (.cells #[.int .i64 (n : Int), .bool false] 83))
  have HB := hid (HBL.out.old (.cells #[.int .i64 (n : Int), .bool false] 83))
  have HO := hid (Only.alloc (S := fun b => b = q) w (.cells #[.int .i64 (n : Int), .bool false] 83))
  clear HBL b0
  generalize w.alloc (.cells #[.int .i64 (n : Int), .bool false] 83) = w0 at *
  have k0 : w0.cell? ⟨bl, 0, none⟩ = some (ptr q) := HB.out.cell 0
  have a4 : w0.cell? ⟨q, 4, none⟩ = some (.bool d.out) := HD1.out.c.cell 4
  have a5 : w0.cell? ⟨q, 5, none⟩ = some (fuV fu) := HD1.out.c.cell 5
  have y4 : w0.frozen? ⟨q, 4, none⟩ = false := HD1.out.c.free 4
  have y5 : w0.frozen? ⟨q, 5, none⟩ = false := HD1.out.c.free 5
  have HIO1 := hid (fun n => rout_any (HD1.out.below (below_drewN w0 n)) (HG1.out.below (below_drewN w0 n)))
  have hbq := HBQ.out
  have hbq2 : q ≠ bl := fun e => hbq e.symm
  refine wp_loop_rounds 2 ?_
  rw [rounds_succ]
  go_wp2_with fail
  go_region_held3 (fun w' => w'.cell? ⟨bl, 0, none⟩ = some (ptr q)) (first | exact k0 | exact (World.cell?_of_block (heap_setCell_ne _ _ _ _ hbq)).trans k0) ((go_at_call 43; refine (HIO1.out _).mono ?_; rintro e w' ⟨rfl, hw'⟩; have hw2 := hw'.symm; subst hw2))
  go_wp2
  rw [rounds_succ]
  go_wp2
  go_ret
  have hk1 : ∀ b, b ≠ q → (((w0.drewN 1).setCell ⟨q, 4, none⟩ (.bool (d.isOut f))).setCell ⟨q, 5, none⟩ (ptr w.heap.size)).heap[b]? = w0.heap[b]? := fun b hb => (heap_setCell_ne _ _ _ _ hb).trans (heap_setCell_ne _ _ _ _ hb)
  exact ⟨rfl, w.heap.size, Nat.le_refl _, ⟨v, L, (HD1.out.below (below_drewN w0 1)).litC (d.isOut f) w.heap.size⟩, HQ.out.keep (hk1 _ (by omega)), ((HO.out.trans (Only.of_below (below_drewN w0 1))).trans (Only.set (S := fun b => b = q) _ ⟨q, 4, none⟩ (.bool (d.isOut f)) rfl)).trans (Only.set (S := fun b => b = q) _ ⟨q, 5, none⟩ (ptr w.heap.size) rfl)⟩
variable {R2 : Nat → Prop} {q2 : Nat} {v2 : Value} {fu2 : Option Nat} {d2 : Pd} {L2 : List (Nm × Ent)} {f2 : Fs}
def Li2At (w : World) (R R2 : Nat → Prop) (q q2 : Nat) (d d2 : Pd) (n : Nat) (e : Ending) (w' : World) : Prop :=
  e = .returned (.int .i64 0) ∧ ∃ z, w.heap.size ≤ z ∧ RfAt w' R q (some z) d ∧ RfAt w' R2 q2 (some z) d2 ∧ CAt w' z #[.int .i64 (n : Int), .bool false] 83 ∧ Only (fun b => b = q ∨ b = q2) w w'
set_option maxHeartbeats 2000000 in
set_option maxRecDepth 100000 in
theorem rlight2_any (h1 : RfC w R q v fu d L) (hf1 : FuR w R fu f) (h2 : RfC w R2 q2 v2 fu2 d2 L2) (hf2 : FuR w R2 fu2 f2) (hdj : ∀ b, R b → ¬ R2 b) (bl c : Nat) (hc : CAt w bl #[ptr q, ptr q2] 27) (n : Nat) (hn : n ≤ 9223372036854775807) :
    Calls Try.prog 15 #[.slice (some ⟨bl, 0, none⟩) 2 c, .int .i64 (n : Int)] w (Li2At w R R2 q q2 (d.lit f) (d2.lit f2) n) := by
  have H1 := hid h1
  have HF1 := hid hf1
  have H2 := hid h2
  have HF2 := hid hf2
  have HDJ := hid hdj
  have HBL := hid hc
  have b0 : w.cell? ⟨bl, 0, none⟩ = some (ptr q) := hc.cell 0
  have b1 : w.cell? ⟨bl, 1, none⟩ = some (ptr q2) := hc.cell 1
  have hbl := hc.lt
  have hq1 := h1.c.lt
  have hq2 := h2.c.lt
  have hbq := h1.box_ne hc (by decide)
  have HBQ := hid hbq
  have HBQ2 := hid (h2.box_ne hc (by decide))
  have hn0 : ¬ (n : Int) < 0 := by omega
  clear h1 hf1 h2 hf2 hdj hc hbq
  go_enter Try.func15, Try.ntmps15
  go_wp2
  have HQ := hid (CAt.made w #[.int .i64 (n : Int), .bool false] 83)
  have HD1 := hid (H1.out.alloc (.cells #[.int .i64 (n : Int), .bool false] 83))
  have HG1 := hid (HF1.out.alloc (.cells #[.int .i64 (n : Int), .bool false] 83))
  have HD2 := hid (H2.out.alloc (.cells #[.int .i64 (n : Int), .bool false] 83))
  have HG2 := hid (HF2.out.alloc (.cells #[.int .i64 (n : Int), .bool false] 83))
  have HB := hid (HBL.out.old (.cells #[.int .i64 (n : Int), .bool false] 83))
  have HO := hid (Only.alloc (S := fun b => b = q ∨ b = q2) w (.cells #[.int .i64 (n : Int), .bool false] 83))
  clear HBL b0 b1
  generalize w.alloc (.cells #[.int .i64 (n : Int), .bool false] 83) = w0 at *
  have k0 : w0.cell? ⟨bl, 0, none⟩ = some (ptr q) := HB.out.cell 0
  have a4 : w0.cell? ⟨q, 4, none⟩ = some (.bool d.out) := HD1.out.c.cell 4
  have a5 : w0.cell? ⟨q, 5, none⟩ = some (fuV fu) := HD1.out.c.cell 5
  have y4 : w0.frozen? ⟨q, 4, none⟩ = false := HD1.out.c.free 4
  have y5 : w0.frozen? ⟨q, 5, none⟩ = false := HD1.out.c.free 5
  have HIO1 := hid (fun n => rout_any (HD1.out.below (below_drewN w0 n)) (HG1.out.below (below_drewN w0 n)))
  have hbq := HBQ.out
  have hbq2 : q ≠ bl := fun e => hbq e.symm
  refine wp_loop_rounds 3 ?_
  rw [rounds_succ]
  go_wp2_with fail
  go_region_held3 (fun w' => w'.cell? ⟨bl, 0, none⟩ = some (ptr q)) (first | exact k0 | exact (World.cell?_of_block (heap_setCell_ne _ _ _ _ hbq)).trans k0) ((go_at_call 43; refine (HIO1.out _).mono ?_; rintro e w' ⟨rfl, hw'⟩; have hw2 := hw'.symm; subst hw2))
  go_wp2
  have hk1 : ∀ b, b ≠ q → (((w0.drewN 1).setCell ⟨q, 4, none⟩ (.bool (d.isOut f))).setCell ⟨q, 5, none⟩ (ptr w.heap.size)).heap[b]? = w0.heap[b]? := fun b hb => (heap_setCell_ne _ _ _ _ hb).trans (heap_setCell_ne _ _ _ _ hb)
  have hz1 : (((w0.drewN 1).setCell ⟨q, 4, none⟩ (.bool (d.isOut f))).setCell ⟨q, 5, none⟩ (ptr w.heap.size)).heap.size = w0.heap.size := (setCell_size _ _ _).trans (setCell_size _ _ _)
  have HE1 := hid ((HD1.out.below (below_drewN w0 1)).litC (d.isOut f) w.heap.size)
  have HE2 := hid (HD2.out.keep (w' := ((w0.drewN 1).setCell ⟨q, 4, none⟩ (.bool (d.isOut f))).setCell ⟨q, 5, none⟩ (ptr w.heap.size)) (Nat.le_of_eq hz1.symm) (fun b hb => hk1 b (fun e => HDJ.out q H1.out.sp (e ▸ hb))))
  have HH2 := hid (HG2.out.keep (w' := ((w0.drewN 1).setCell ⟨q, 4, none⟩ (.bool (d.isOut f))).setCell ⟨q, 5, none⟩ (ptr w.heap.size)) (fun z hz => hk1 z (HG2.out.ne_drive HD1.out.c z hz)))
  have HQ1 := hid (HQ.out.keep (hk1 _ (by omega)))
  have HB1 := hid (HB.out.keep (hk1 _ HBQ.out))
  have HO1 := hid (((HO.out.trans (Only.of_below (below_drewN w0 1))).trans (Only.set (S := fun b => b = q ∨ b = q2) _ ⟨q, 4, none⟩ (.bool (d.isOut f)) (Or.inl rfl))).trans (Only.set (S := fun b => b = q ∨ b = q2) _ ⟨q, 5, none⟩ (ptr w.heap.size) (Or.inl rfl)))
  clear hk1 hz1 k0 a4 a5 y4 y5 hbq hbq2
  generalize (((w0.drewN 1).setCell ⟨q, 4, none⟩ (.bool (d.isOut f))).setCell ⟨q, 5, none⟩ (ptr w.heap.size)) = w1 at *
  have k1 : w1.cell? ⟨bl, 1, none⟩ = some (ptr q2) := HB1.out.cell 1
  have a4 : w1.cell? ⟨q2, 4, none⟩ = some (.bool d2.out) := HE2.out.c.cell 4
  have a5 : w1.cell? ⟨q2, 5, none⟩ = some (fuV fu2) := HE2.out.c.cell 5
  have y4 : w1.frozen? ⟨q2, 4, none⟩ = false := HE2.out.c.free 4
  have y5 : w1.frozen? ⟨q2, 5, none⟩ = false := HE2.out.c.free 5
  have HIO2 := hid (fun n => rout_any (HE2.out.below (below_drewN w1 n)) (HH2.out.below (below_drewN w1 n)))
  have hbq := HBQ2.out
  have hbq2 : q2 ≠ bl := fun e => hbq e.symm
  rw [rounds_succ]
  go_wp2_with fail
  go_region_held3 (fun w' => w'.cell? ⟨bl, 1, none⟩ = some (ptr q2)) (first | exact k1 | exact (World.cell?_of_block (heap_setCell_ne _ _ _ _ hbq)).trans k1) ((go_at_call 43; refine (HIO2.out _).mono ?_; rintro e w' ⟨rfl, hw'⟩; have hw2 := hw'.symm; subst hw2))
  go_wp2
  rw [rounds_succ]
  go_wp2
  go_ret
  have hk2 : ∀ b, b ≠ q2 → (((w1.drewN 1).setCell ⟨q2, 4, none⟩ (.bool (d2.isOut f2))).setCell ⟨q2, 5, none⟩ (ptr w.heap.size)).heap[b]? = w1.heap[b]? := fun b hb => (heap_setCell_ne _ _ _ _ hb).trans (heap_setCell_ne _ _ _ _ hb)
  have hz2 : (((w1.drewN 1).setCell ⟨q2, 4, none⟩ (.bool (d2.isOut f2))).setCell ⟨q2, 5, none⟩ (ptr w.heap.size)).heap.size = w1.heap.size := (setCell_size _ _ _).trans (setCell_size _ _ _)
  exact ⟨rfl, w.heap.size, Nat.le_refl _, ⟨v, L, HE1.out.keep (Nat.le_of_eq hz2.symm) (fun b hb => hk2 b (fun e => HDJ.out b hb (e ▸ H2.out.sp)))⟩, ⟨v2, L2, (HE2.out.below (below_drewN w1 1)).litC (d2.isOut f2) w.heap.size⟩, HQ1.out.keep (hk2 _ (by omega)), ((HO1.out.trans (Only.of_below (below_drewN w1 1))).trans (Only.set (S := fun b => b = q ∨ b = q2) _ ⟨q2, 4, none⟩ (.bool (d2.isOut f2)) (Or.inr rfl))).trans (Only.set (S := fun b => b = q ∨ b = q2) _ ⟨q2, 5, none⟩ (ptr w.heap.size) (Or.inr rfl))⟩
end
#print axioms rlight1_any
#print axioms rlight2_any
end Go.Proofs.Ytfppmpfmafnfmaa

/- Contracts of Fuse of package drive: of one drive; of a number below zero. -/
namespace Go.Proofs.Ytfppmpfmafnfmaa
open Go Go.RowKit
section
variable {w : World} {S1 S2 : Nat → Prop} {p1 p2 m1 m2 : Nat} {fu1 fu2 : Option Nat} {d1 d2 : Pd} {L1 L2 : List (Nm × Ent)}
set_option maxHeartbeats 1000000 in
set_option maxRecDepth 100000 in
theorem fuse1_any (h1 : DrC w S1 p1 m1 fu1 d1 L1) {f1 : Fs} (hf1 : FuAt w S1 fu1 f1) (bl c : Nat) (hc : CAt w bl #[ptr p1] 23) (n : Nat) (hn : n ≤ 9223372036854775807) :
    Calls Try.prog 14 #[.slice (some ⟨bl, 0, none⟩) 1 c, .int .i64 (n : Int)] w (Fu1At w S1 p1 (d1.lit f1) n) := by
  have H1 := hid h1
  have HF1 := hid hf1
  have HM1 := hid (made_any h1)
  have HBL := hid hc
  have b0 : w.cell? ⟨bl, 0, none⟩ = some (ptr p1) := hc.cell 0
  have hbl := hc.lt
  have hp1 := h1.c.lt
  have hb1 := (h1.box_ne hc (by decide)).1
  have HNE := hid hb1
  have hn0 : ¬ (n : Int) < 0 := by omega
  clear h1 hf1 hc hb1
  go_enter Try.func14, Try.ntmps14
  go_wp2
  refine wp_loop_rounds 2 ?_
  rw [rounds_succ]
  go_wp2_with (go_at_call 40; refine HM1.out.mono ?_; rintro e w' ⟨rfl, hw'⟩; have hw2 := hw'.symm; subst hw2)
  rw [rounds_succ]
  go_wp2
  have HQ := hid (CAt.made w #[.int .i64 (n : Int), .bool false] 81)
  have HD1 := hid (H1.out.alloc (.cells #[.int .i64 (n : Int), .bool false] 81))
  have HG1 := hid (HF1.out.alloc (.cells #[.int .i64 (n : Int), .bool false] 81))
  have HB := hid (HBL.out.old (.cells #[.int .i64 (n : Int), .bool false] 81))
  have HO := hid (Only.alloc (S := fun b => b = p1) w (.cells #[.int .i64 (n : Int), .bool false] 81))
  clear HBL b0
  generalize w.alloc (.cells #[.int .i64 (n : Int), .bool false] 81) = w0 at *
  have k0 : w0.cell? ⟨bl, 0, none⟩ = some (ptr p1) := HB.out.cell 0
  have a7 : w0.cell? ⟨p1, 7, none⟩ = some (.bool d1.out) := HD1.out.c.cell 7
  have a8 : w0.cell? ⟨p1, 8, none⟩ = some (fuV fu1) := HD1.out.c.cell 8
  have y7 : w0.frozen? ⟨p1, 7, none⟩ = false := HD1.out.c.free 7
  have y8 : w0.frozen? ⟨p1, 8, none⟩ = false := HD1.out.c.free 8
  have HIO1 := hid (isOut_any HD1.out HG1.out)
  refine wp_loop_rounds 2 ?_
  rw [rounds_succ]
  go_wp2_with (go_at_call 42; refine HIO1.out.mono ?_; rintro e w' ⟨rfl, hw'⟩; have hw2 := hw'.symm; subst hw2)
  have hk1 : ∀ b, b ≠ p1 → ((w0.setCell ⟨p1, 7, none⟩ (.bool (d1.isOut f1))).setCell ⟨p1, 8, none⟩ (ptr w.heap.size)).heap[b]? = w0.heap[b]? := fun b hb => (heap_setCell_ne _ _ _ _ hb).trans (heap_setCell_ne _ _ _ _ hb)
  have HE1 := hid (HD1.out.litC (d1.isOut f1) w.heap.size)
  have HQ1 := hid (HQ.out.keep (hk1 _ (by omega)))
  have HO1 := hid ((HO.out.trans (Only.set (S := fun b => b = p1) w0 ⟨p1, 7, none⟩ (.bool (d1.isOut f1)) rfl)).trans (Only.set (S := fun b => b = p1) _ ⟨p1, 8, none⟩ (ptr w.heap.size) rfl))
  clear hk1 k0 a7 a8 y7 y8
  generalize ((w0.setCell ⟨p1, 7, none⟩ (.bool (d1.isOut f1))).setCell ⟨p1, 8, none⟩ (ptr w.heap.size)) = w1 at *
  rw [rounds_succ]
  go_wp2
  go_ret
  exact ⟨rfl, w.heap.size, Nat.le_refl _, ⟨m1, L1, HE1.out⟩, HQ1.out, HO1.out⟩
set_option maxHeartbeats 1000000 in
set_option maxRecDepth 100000 in
theorem fuse1_bad (h1 : DrC w S1 p1 m1 fu1 d1 L1) (bl c : Nat) (hc : CAt w bl #[ptr p1] 23) (n : Int) (hn : n < 0) :
    Calls Try.prog 14 #[.slice (some ⟨bl, 0, none⟩) 1 c, .int .i64 n] w fun e w' => e = .returned (.int .i64 2) ∧ w' = w := by
  have HM1 := hid (made_any h1)
  have b0 : w.cell? ⟨bl, 0, none⟩ = some (ptr p1) := hc.cell 0
  clear h1 hc
  go_enter Try.func14, Try.ntmps14
  go_wp2
  refine wp_loop_rounds 2 ?_
  rw [rounds_succ]
  go_wp2_with (go_at_call 40; refine HM1.out.mono ?_; rintro e w' ⟨rfl, hw'⟩; have hw2 := hw'.symm; subst hw2)
  rw [rounds_succ]
  go_wp2
  go_ret
  exact ⟨rfl, rfl⟩
set_option maxHeartbeats 1000000 in
set_option maxRecDepth 100000 in
theorem fuse2_bad (h1 : DrC w S1 p1 m1 fu1 d1 L1) (h2 : DrC w S2 p2 m2 fu2 d2 L2) (bl c : Nat) (hc : CAt w bl #[ptr p1, ptr p2] 23) (n : Int) (hn : n < 0) :
    Calls Try.prog 14 #[.slice (some ⟨bl, 0, none⟩) 2 c, .int .i64 n] w fun e w' => e = .returned (.int .i64 2) ∧ w' = w := by
  have HM1 := hid (made_any h1)
  have HM2 := hid (made_any h2)
  have b0 : w.cell? ⟨bl, 0, none⟩ = some (ptr p1) := hc.cell 0
  have b1 : w.cell? ⟨bl, 1, none⟩ = some (ptr p2) := hc.cell 1
  clear h1 h2 hc
  go_enter Try.func14, Try.ntmps14
  go_wp2
  refine wp_loop_rounds 3 ?_
  rw [rounds_succ]
  go_wp2_with (go_at_call 40; refine HM1.out.mono ?_; rintro e w' ⟨rfl, hw'⟩; have hw2 := hw'.symm; subst hw2)
  rw [rounds_succ]
  go_wp2_with (go_at_call 40; refine HM2.out.mono ?_; rintro e w' ⟨rfl, hw'⟩; have hw2 := hw'.symm; subst hw2)
  rw [rounds_succ]
  go_wp2
  go_ret
  exact ⟨rfl, rfl⟩
end
#print axioms fuse1_any
#print axioms fuse2_bad
end Go.Proofs.Ytfppmpfmafnfmaa
