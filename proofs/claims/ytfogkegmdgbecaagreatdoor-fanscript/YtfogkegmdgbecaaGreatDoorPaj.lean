/- Texts laid into one, cut to what is needed: the remark ahead of each part says what is proved there. -/
import Derived.Test.YtfogkegmdgbecaaGreatDoorPai
/- Contracts of Sync and Rename of the document's drives. -/
namespace Go.Proofs.YtfogkegmdgbecaaGreatDoor
open Go Go.RowKit
section
variable {w w' : World} {R : Nat → Prop} {q : Nat} {v : Value} {fu : Option Nat} {d : Pd} {L : List (Nm × Ent)} {f : Fs}
set_option maxHeartbeats 1000000 in
set_option maxRecDepth 100000 in
theorem rsync_any (h : RfC w R q v fu d L) (hf : FuR w R fu f) (s : Nm) (hs : s.length ≤ maxLen) (ho : d.ops < 1000000000000) (hl : L.length < 999000) (hso : Srt d.F) :
  Calls Tryz.prog 120 #[ptr q, sv s] w (RDone w R q fu (d.sync f s)) := by
 have H := hid h
 have HF := hid hf
 have HSO : Hid (Srt L) := hid (srt_map (by rw [← h.fs]; exact hso))
 have HR := hid (fun (o : Obj) vn hv => ready_any (h.alloc o) (hf.alloc o) vn [s] hv (by simp) (by simpa using hs))
 have HA := hid (fun (o : Obj) => at_any (h.alloc o) s (by omega))
 have HBU := hid (fun (o : Obj) => burns_any (h.alloc o) (hf.alloc o) ho)
 have HGG := gget_fi h s
 have HB0 := hid (fun (o : Obj) => (Below.refl w.heap.size w).alloc (Nat.le_refl _) o)
 clear h hf hso
 by_cases ha : d.ans f [s] = 0
 ·rw [ha] at HR
  cases hi : idx L s with
  | none =>
   have HE : Hid (d.sync f s = (6, d, f)) := hid (by unfold Pd.sync; rw [if_neg (by omega), HGG, idx_miss hi]; rfl)
   have e : atI L s = -1 := by unfold atI; rw [hi]
   rw [e] at HA
   clear HGG
   go_enter Tryz.func120, Tryz.ntmps120
   go_wp2_with (first
    | (go_at_call 100; refine (HR.out _ _ (txt_one _ _ _ _ _ rfl)).mono ?_; rintro e w' ⟨rfl, hw'⟩; have hw2 := hw'.symm; subst hw2)
    | (go_at_call 95; refine (HA.out _).mono ?_; rintro e w' ⟨rfl, hw'⟩; have hw2 := hw'.symm; subst hw2))
   go_ret
   exact rdone_same H.out HF.out 6 HE.out (HB0.out _)
  | some i =>
   obtain ⟨hi1, hi2, hi3⟩ := idx_get hi
   have HE : Hid (d.sync f s = d.chg f (gput d.F s ((atL L i).2.b, false))) := hid (by unfold Pd.sync; rw [if_neg (by omega), HGG, hi3]; rfl)
   have e : atI L s = (i : Int) := by unfold atI; rw [hi]
   rw [e] at HA
   have HI := hid hi
   have HI2 := hid hi2
   have hni : ¬ (i : Int) < 0 := by omega
   have hni2 : (i : Int) < (L.length : Int) := by omega
   clear HGG hi2 hi3 hi
   cases hlt : letsF f
   ·rw [hlt] at HBU
    go_enter Tryz.func120, Tryz.ntmps120
    go_wp2_with (first
     | (go_at_call 100; refine (HR.out _ _ (txt_one _ _ _ _ _ rfl)).mono ?_; rintro e w' ⟨rfl, hw'⟩; have hw2 := hw'.symm; subst hw2)
     | (go_at_call 95; refine (HA.out _).mono ?_; rintro e w' ⟨rfl, hw'⟩; have hw2 := hw'.symm; subst hw2)
     | (go_at_call 101; refine (HBU.out _).mono ?_; rintro e w1 ⟨rfl, hr, hfz, hon, _⟩; have HBT := hid (Burnt.mk hr hfz hon); clear hr hfz hon))
    go_ret
    rw [HE.out]
    exact rdone_not H.out.sp (HB0.out _) hlt _ HBT.out
   ·rw [hlt] at HBU
    have HLT := hid hlt
    go_enter Tryz.func120, Tryz.ntmps120
    go_wp2_with (first
     | (go_at_call 100; refine (HR.out _ _ (txt_one _ _ _ _ _ rfl)).mono ?_; rintro e w' ⟨rfl, hw'⟩; have hw2 := hw'.symm; subst hw2)
     | (go_at_call 95; refine (HA.out _).mono ?_; rintro e w' ⟨rfl, hw'⟩; have hw2 := hw'.symm; subst hw2)
     | (go_at_call 101; refine (HBU.out _).mono ?_; rintro e w1 ⟨rfl, hr, hfz, hon, hsz⟩; have HBT := hid (Burnt.mk hr hfz hon); clear hsz; have hql1 := hr.c.lt
        have cq1 : w1.cell? ⟨q, 1, none⟩ = some v := hr.c.cell 1
        obtain ⟨g, c', W, hrun, hF3, hb3⟩ := copyF (w := w1) (B := 0) hr.ow (fun x hx => (by obtain ⟨po, c, e⟩ := hr.slice hx; exact ⟨_, _, _, e⟩)) (by omega)
        have hq3 := hr.below hb3
        have cq3 : W.cell? ⟨q, 1, none⟩ = some v := hq3.c.cell 1
        have zq3 : W.frozen? ⟨q, 1, none⟩ = false := hq3.c.free 1
        have hgq : g ≠ q := hq3.ne_q (own_base hF3 (Nat.zero_le _)) (by decide) g rfl
        have hgq2 : q ≠ g := fun e => hgq e.symm
        obtain ⟨g2, c2, hv2, _, _, k2, kz⟩ := FilL.at hF3 hi1
        cases hv2
        have kz2 := kz (i * 3 + 2)
        have HRUN := hid hrun; have HF3 := hid hF3; have HB3 := hid hb3; clear hr hfz hon hrun hF3 hb3 hq3 kz)
     | (at_builtin; refine wpList_append_run _ _ 75 rfl rfl _ _ _ rfl rfl HRUN.out ?_))
    go_ret
    rw [HE.out]
    have hm := HBT.out.rf.relist HB3.out HF3.out (fun x hx => ⟨(HBT.out.rf.below HB3.out).by_ x hx, fun b hb => Or.inl (HBT.out.rf.rb x hx b hb)⟩) (F2 := d.F) H.out.fs
    have hE := hm.1.setE (i := i) (j := 2) (flat_set2 L i false hi1) (hm.1.by_ (atL L i) (atL_mem hi1)) (hm.1.rb (atL L i) (atL_mem hi1)) (F2 := gput d.F s ((atL L i).2.b, false)) (by
     rw [HI2.out, set_put _ HSO.out HI.out, H.out.fs, ← gput_map]; rfl)
    refine rdone_chg H.out (HB0.out _) HLT.out HBT.out (And.intro (a := RfC _ _ q (.slice (some ⟨g, 0, none⟩) L.length c') fu _ (L.set i ((atL L i).1, ⟨(atL L i).2.v, (atL L i).2.b, false⟩))) ?_ (hm.2.then (T := fun b => b = g) (Only.set _ _ _ rfl) ?_))
    ·have e : grw R w1 ((W.setCell ⟨q, 1, none⟩ (.slice (some ⟨g, 0, none⟩) L.length c')).setCell ⟨g, i * 3 + 2, none⟩ (.bool false)) = grw R w1 (W.setCell ⟨q, 1, none⟩ (.slice (some ⟨g, 0, none⟩) L.length c')) := by unfold grw; rw [setCell_size _ ⟨g, i * 3 + 2, none⟩]
     rw [e]
     exact hE
    ·intro b hb e
     have e' : b = g := e
     have := (own_ge HF3.out g rfl).1
     omega
 ·have HE : Hid (d.sync f s = (d.ans f [s], d, f)) := hid (by unfold Pd.sync; rw [if_pos ha])
  have ha' : ¬ ((d.ans f [s] : Nat) : Int) = 0 := by omega
  clear HGG
  generalize d.ans f [s] = n at *
  go_enter Tryz.func120, Tryz.ntmps120
  go_wp2_with (go_at_call 100; refine (HR.out _ _ (txt_one _ _ _ _ _ rfl)).mono ?_; rintro e w' ⟨rfl, hw'⟩; have hw2 := hw'.symm; subst hw2)
  go_ret
  exact rdone_same H.out HF.out n HE.out (HB0.out _)
/-- Between the two: the file's box has another name. -/
theorem rename_mid {w2 : World} {W1 : World} {v2 : Value} {d2 : Pd} {L2 : List (Nm × Ent)} {bx : Nat} {e : Ent} {pe : Option Addr} {ce : Nat} (h : RfC (w2.setCell ⟨q, 1, none⟩ v2) (grw R W1 (w2.setCell ⟨q, 1, none⟩ v2)) q v2 fu d2 L2) (hb : bx < W1.heap.size) (hnR : ¬ R bx) (y : Value)
  (he : w2.ownsRow 0 5 1 e.v e.b.length (e.b.map u8)) (heR : ∀ b, e.v.ownBlock = some b → R b) (hpe : e.v = .slice pe e.b.length ce) :
  ((((w2.setCell ⟨q, 1, none⟩ v2).setCell ⟨bx, 0, none⟩ y).ownsRow 0 5 1 (.slice pe e.b.length ce) e.b.length (e.b.map u8)) ∧ ∀ b, (Value.slice pe e.b.length ce).ownBlock = some b → grw R W1 (w2.setCell ⟨q, 1, none⟩ v2) b) ∧ RfC ((w2.setCell ⟨q, 1, none⟩ v2).setCell ⟨bx, 0, none⟩ y) (grw R W1 (w2.setCell ⟨q, 1, none⟩ v2)) q v2 fu d2 L2 := by
 have hnot : ∀ b, grw R W1 (w2.setCell ⟨q, 1, none⟩ v2) b → b ≠ bx := fun b hb' e => by
  rcases hb' with h1 | h1
  ·exact hnR (e ▸ h1)
  ·omega
 refine ⟨⟨?_, fun b hb' => Or.inl (heR b (by rw [hpe]; exact hb'))⟩, h.keep (by rw [setCell_size _ ⟨bx, 0, none⟩]; exact Nat.le_refl _) fun b hb' => heap_setCell_ne _ _ _ _ (hnot b hb')⟩
 rw [← hpe]
 refine ownsRow_keep he fun b hb' => ?_
 rw [heap_setCell_ne _ _ _ _ (hnot b (Or.inl (heR b hb'))), heap_setCell_ne]
 intro e2
 rcases he.2 with ⟨h1, _⟩ | ⟨g, cap, cur, h1, _, hg, _⟩
 ·rw [h1] at hb'; cases hb'
 ·rw [h1] at hb'; cases hb'
  have h2 : (w2.setCell ⟨q, 1, none⟩ v2).heap[q]? = _ := h.c
  have e' : g = q := e2
  rw [e'] at hg
  have hs : CAt w2 q cur 5 := hg
  have := hs.set 1 v2
  unfold CAt at this
  rw [h2] at this
  injection Option.some.inj this with _ h6 _
  exact absurd h6 (by decide)
set_option maxHeartbeats 1000000 in
set_option maxRecDepth 100000 in
theorem rrename_any (h : RfC w R q v fu d L) (hf : FuR w R fu f) (s t : Nm) (hs : s.length ≤ maxLen) (ht : t.length ≤ maxLen) (ho : d.ops < 1000000000000) (hl : L.length < 999000) :
  Calls Tryz.prog 94 #[ptr q, sv s, sv t] w (RDone w R q fu (d.rename f s t)) := by
 have H := hid h
 have HF := hid hf
 have HR := hid (fun (o : Obj) vn hv => ready_any (h.alloc o) (hf.alloc o) vn [s, t] hv (by simp) (by simp; exact ⟨hs, ht⟩))
 have HA := hid (fun (o : Obj) => at_any (h.alloc o) s (by omega))
 have HBU := hid (fun (o : Obj) => burns_any (h.alloc o) (hf.alloc o) ho)
 have HGG := gget_fi h s
 have HB0 := hid (fun (o : Obj) => (Below.refl w.heap.size w).alloc (Nat.le_refl _) o)
 clear h hf
 by_cases ha : d.ans f [s, t] = 0
 ·rw [ha] at HR
  cases hi : idx L s with
  | none =>
   have HE : Hid (d.rename f s t = (6, d, f)) := hid (by unfold Pd.rename; rw [if_neg (by omega), HGG, idx_miss hi]; rfl)
   have e : atI L s = -1 := by unfold atI; rw [hi]
   rw [e] at HA
   clear HGG
   go_enter Tryz.func94, Tryz.ntmps94
   go_wp2_with (first
    | (go_at_call 100; refine (HR.out _ _ (txt_two _ _ _ _ _ _ rfl)).mono ?_; rintro e w' ⟨rfl, hw'⟩; have hw2 := hw'.symm; subst hw2)
    | (go_at_call 95; refine (HA.out _).mono ?_; rintro e w' ⟨rfl, hw'⟩; have hw2 := hw'.symm; subst hw2))
   go_ret
   exact rdone_same H.out HF.out 6 HE.out (HB0.out _)
  | some i =>
   obtain ⟨hi1, hi2, hi3⟩ := idx_get hi
   have HE : Hid (d.rename f s t = d.chg f (gput (gdel d.F s) t (atL L i).2.fi)) := hid (by unfold Pd.rename; rw [if_neg (by omega), HGG, hi3]; rfl)
   have e : atI L s = (i : Int) := by unfold atI; rw [hi]
   rw [e] at HA
   have hni : ¬ (i : Int) < 0 := by omega
   have hni2 : (i : Int) < (L.length : Int) := by omega
   clear HGG hi2 hi3 hi
   cases hlt : letsF f
   ·rw [hlt] at HBU
    go_enter Tryz.func94, Tryz.ntmps94
    go_wp2_with (first
     | (go_at_call 100; refine (HR.out _ _ (txt_two _ _ _ _ _ _ rfl)).mono ?_; rintro e w' ⟨rfl, hw'⟩; have hw2 := hw'.symm; subst hw2)
     | (go_at_call 95; refine (HA.out _).mono ?_; rintro e w' ⟨rfl, hw'⟩; have hw2 := hw'.symm; subst hw2)
     | (go_at_call 101; refine (HBU.out _).mono ?_; rintro e w1 ⟨rfl, hr, hfz, hon, _⟩; have HBT := hid (Burnt.mk hr hfz hon); clear hr hfz hon))
    go_ret
    rw [HE.out]
    exact rdone_not H.out.sp (HB0.out _) hlt _ HBT.out
   ·rw [hlt] at HBU
    have HLT := hid hlt
    go_enter Tryz.func94, Tryz.ntmps94
    go_wp2_with (first
     | (go_at_call 100; refine (HR.out _ _ (txt_two _ _ _ _ _ _ rfl)).mono ?_; rintro e w' ⟨rfl, hw'⟩; have hw2 := hw'.symm; subst hw2)
     | (go_at_call 95; refine (HA.out _).mono ?_; rintro e w' ⟨rfl, hw'⟩; have hw2 := hw'.symm; subst hw2)
     | (go_at_call 101; refine (HBU.out _).mono ?_; rintro e w1 ⟨rfl, hr, hfz, hon, hsz⟩; have HBT := hid (Burnt.mk hr hfz hon); clear hsz; have hql1 := hr.c.lt
        have cq1 : w1.cell? ⟨q, 1, none⟩ = some v := hr.c.cell 1
        obtain ⟨g, cc, hv, k0, k1, k2, _⟩ := hr.at hi1
        cases hv
        obtain ⟨pe, ce, hpe⟩ := hr.slice (atL_mem hi1)
        rw [hpe] at k1
        have HPE := hid hpe
        have hgl : g < w1.heap.size := cell_lt' (a := ⟨g, i * 3 + 2, none⟩) (by rw [k2]; simp)
        clear hr hfz hon hpe)
     | (go_at_call 123; refine (without_any (HBT.out.rf.alloc _) s (by omega)).mono ?_; rintro e w2 ⟨v2, rfl, hF2, hb2⟩
        obtain ⟨po2, c2, hv2⟩ := own_form hF2; subst hv2
        have hq2 := (HBT.out.rf.alloc (.cells #[sv (atL L i).1, .slice pe (atL L i).2.b.length ce, .bool (atL L i).2.l] 134)).below hb2
        have cq2 : w2.cell? ⟨q, 1, none⟩ = some _ := hq2.c.cell 1
        have zq2 : w2.frozen? ⟨q, 1, none⟩ = false := hq2.c.free 1
        have hbx := (CAt.made w1 #[sv (atL L i).1, .slice pe (atL L i).2.b.length ce, .bool (atL L i).2.l] 134).below hb2
        have x0 : w2.cell? ⟨w1.heap.size, 0, none⟩ = some (sv (atL L i).1) := hbx.cell 0
        have x1 : w2.cell? ⟨w1.heap.size, 1, none⟩ = some (.slice pe (atL L i).2.b.length ce) := hbx.cell 1
        have x2 : w2.cell? ⟨w1.heap.size, 2, none⟩ = some (.bool (atL L i).2.l) := hbx.cell 2
        have xz : w2.frozen? ⟨w1.heap.size, 0, none⟩ = false := hbx.free 0
        have hxq : w1.heap.size ≠ q := (by omega)
        have hxq2 : q ≠ w1.heap.size := (by omega)
        have hre := (HBT.out.rf.alloc (.cells #[sv (atL L i).1, .slice pe (atL L i).2.b.length ce, .bool (atL L i).2.l] 134)).relist hb2 hF2 (fun x hx => ⟨hq2.by_ x (mem_del.1 hx).1, fun b hb => Or.inl (hq2.rb x (mem_del.1 hx).1 b hb)⟩) (F2 := gdel d.F s) (by rw [H.out.fs, gdel_map])
        have HRE := hid (rename_mid hre.1 (bx := w1.heap.size) (by rw [size_al]; omega) (fun hR => by have := HBT.out.rf.lt _ hR; omega) (sv t) (hq2.by_ _ (atL_mem hi1)) (hq2.rb _ (atL_mem hi1)) HPE.out)
        have HON := hid hre.2
        have HB2 := hid hb2; clear hF2 hb2 hq2 hbx hre)
     | (go_at_call 102; refine (with_any (HRE.out.2) t ⟨.slice pe (atL L i).2.b.length ce, (atL L i).2.b, (atL L i).2.l⟩ (by have := len_del L s; omega) HRE.out.1.1 HRE.out.1.2).mono ?_; rintro e w5 ⟨rfl, ⟨v5, hr5⟩, ho5⟩; have HR5 := hid hr5; have HO5 := hid ho5; clear hr5 ho5))
    go_ret
    rw [HE.out]
    have hon : Only (fun b => b = q) w1 w5 := (((Only.alloc w1 _).trans HON.out).then (T := fun b => b = w1.heap.size) (Only.set _ _ _ rfl) (fun b hb e => by omega)).trans HO5.out
    have s1 := HON.out.size
    have s2 := HO5.out.size
    rw [size_al] at s1
    rw [setCell_size _ ⟨w1.heap.size, 0, none⟩] at s2
    refine rdone_chg H.out (HB0.out _) HLT.out HBT.out ⟨HR5.out.wide (R' := grw R w1 w5) (fun b hb => ?_) (fun b hb => ?_), hon⟩
    ·rcases hb with (hb | hb) | hb
     ·exact Or.inl hb
     ·rw [size_al] at hb; exact Or.inr ⟨by omega, by omega⟩
     ·rw [setCell_size _ ⟨w1.heap.size, 0, none⟩] at hb; exact Or.inr ⟨by omega, hb.2⟩
    ·rcases hb with hb | hb
     ·exact Nat.lt_of_lt_of_le (HBT.out.rf.lt b hb) hon.size
     ·exact hb.2
 ·have HE : Hid (d.rename f s t = (d.ans f [s, t], d, f)) := hid (by unfold Pd.rename; rw [if_pos ha])
  have ha' : ¬ ((d.ans f [s, t] : Nat) : Int) = 0 := by omega
  clear HGG
  generalize d.ans f [s, t] = n at *
  go_enter Tryz.func94, Tryz.ntmps94
  go_wp2_with (go_at_call 100; refine (HR.out _ _ (txt_two _ _ _ _ _ _ rfl)).mono ?_; rintro e w' ⟨rfl, hw'⟩; have hw2 := hw'.symm; subst hw2)
  go_ret
  exact rdone_same H.out HF.out n HE.out (HB0.out _)
end
end Go.Proofs.YtfogkegmdgbecaaGreatDoor

/- Contract of Write of the document's drives. (Written by tools/gen_Kh.py.) -/
namespace Go.Proofs.YtfogkegmdgbecaaGreatDoor
open Go Go.RowKit
section
variable {w w' : World} {R : Nat → Prop} {q : Nat} {v : Value} {fu : Option Nat} {d : Pd} {L : List (Nm × Ent)} {f : Fs}
/-- No byte lies in a drive or a fuse of the document's. -/
theorem BAt.burnt {w0 w1 : World} {po : Option Addr} {bs : List Nat} (hx : BAt w0 po bs) (h : RfC w0 R q v fu d L) (hf : FuR w0 R fu f) (ho : Only (fun b => b = q ∨ fu = some b) w0 w1) : BAt w1 po bs := by
 rcases hx with hx | ⟨a, rfl, hx⟩
 ·exact Or.inl hx
 ·refine Or.inr ⟨a, rfl, fun i hi => ?_⟩
  have hc := hx i hi
  refine (World.cell?_of_block (ho.block (a.add i).block (cell_lt' (by rw [hc]; simp)) ?_)).trans hc
  rintro (e | e)
  ·obtain ⟨po, c, rfl⟩ := h.form
   have hq : w0.heap[q]? = _ := h.c
   unfold World.cell? at hc
   rw [e, hq] at hc
   unfold rcells fuV at hc
   generalize (a.add i).off = o at hc
   rcases o with _ | _ | _ | _ | _ | _ | _ | o <;> simp at hc
   cases fu <;> simp at hc
  ·match fu, f, hf with
   | some q2, some (n, g), hf =>
    have hq : w0.heap[q2]? = _ := hf.1
    have e' : (a.add i).block = q2 := by cases e; rfl
    unfold World.cell? at hc
    rw [e', hq] at hc
    generalize (a.add i).off = o at hc
    rcases o with _ | _ | o <;> simp at hc
theorem lenAt_idx {s : Nm} {i : Nat} (h : RfC w R q v fu d L) (hi : idx L s = some i) : lenAt d.F s = (atL L i).2.b.length := by
 unfold lenAt; rw [gget_fi h, (idx_get hi).2.2]; rfl
theorem lenAt_miss {s : Nm} (h : RfC w R q v fu d L) (hi : idx L s = none) : lenAt d.F s = 0 := by
 unfold lenAt; rw [gget_fi h, idx_miss hi]; rfl
/-- What stands when Write puts its file. -/
theorem write_end {w0 w1 W w6 : World} {s : Nm} {bs : List Nat} {po' : Option Addr} {c' : Nat} {v5 : Value} (h : RfC w R q v fu d L) (hb0 : Below w.heap.size w w0) (hlt : letsF f = true) (hB : Burnt w0 w1 R q v fu { d with ops := d.ops + 1 } L f) (hbW : Below w1.heap.size w1 W)
  (h6 : RfC w6 (grw (grw R w1 W) W w6) q v5 fu { d with ops := d.ops + 1, F := gput d.F s (Ent.fi ⟨.slice po' bs.length c', bs, true⟩) } (gput L s ⟨.slice po' bs.length c', bs, true⟩)) (ho : Only (fun b => b = q) W w6) : RDone w R q fu (d.chg f (gput d.F s (bs, true))) (.returned (.int .i64 0)) w6 := by
 have s1 := hbW.size
 have s2 := ho.size
 have hon : Only (fun b => b = q) w1 w6 := (Only.of_below hbW).trans ho
 refine rdone_chg h hb0 hlt hB ⟨h6.wide (R' := grw R w1 w6) (fun b hb => ?_) (fun b hb => ?_), hon⟩
 ·rcases hb with (hb | hb) | hb
  ·exact Or.inl hb
  ·exact Or.inr ⟨by omega, by omega⟩
  ·exact Or.inr ⟨by omega, hb.2⟩
 ·rcases hb with hb | hb
  ·exact Nat.lt_of_lt_of_le (hB.rf.lt b hb) hon.size
  ·exact hb.2
set_option maxHeartbeats 4000000 in
set_option maxRecDepth 100000 in
theorem rwrite_any (h : RfC w R q v fu d L) (hf : FuR w R fu f) (s : Nm) (hs : s.length ≤ maxLen) (po : Option Addr) (c : Nat) (bs : List Nat) (hx : BAt w po bs) (hn : bs.length ≤ 1000000000) (ho : d.ops < 1000000000000) (hl : L.length < 999000) (hso : Srt d.F) (hu : usedOf d.F ≤ 67108864) (hz : d.size ≤ 67108864) :
  Calls Tryz.prog 40 #[ptr q, sv s, .slice po bs.length c] w (RDone w R q fu (d.write f s bs)) := by
 have H := hid h
 have HF := hid hf
 have HX := hid hx
 have HR := hid (fun (o : Obj) vn hv => ready_any (h.alloc o) (hf.alloc o) vn [s] hv (by simp) (by simpa using hs))
 have HA := hid (fun W (hb : Below w.heap.size w W) => at_any (h.below hb) s (by omega))
 have HUS := hid (fun W (hb : Below w.heap.size w W) => rused_any (h.below hb) (by omega) (by omega))
 have HBU := hid (fun W (hb : Below w.heap.size w W) => burns_any (h.below hb) (hf.below hb) ho)
 have HB0 := hid (fun (o : Obj) => (Below.refl w.heap.size w).alloc (Nat.le_refl _) o)
 have c0 : w.cell? ⟨q, 0, none⟩ = some (.int .i64 (d.size : Int)) := h.c.cell 0
 have c1 : w.cell? ⟨q, 1, none⟩ = some v := h.c.cell 1
 have c3 : w.cell? ⟨q, 3, none⟩ = some (.bool d.full) := h.c.cell 3
 have hql := h.c.lt
 have hus := used_del hso s
 clear hf hx
 by_cases ha : d.ans f [s] = 0
 ·rw [ha] at HR
  have HW1 : Hid (d.full = true ∨ d.size < usedOf (gdel d.F s) + bs.length → d.write f s bs = (8, d, f)) := hid (fun e => by unfold Pd.write; rw [if_neg (by omega), if_pos (by rcases e with e | e <;> simp [e])])
  have HW2 : Hid (d.full = false → ¬ d.size < usedOf (gdel d.F s) + bs.length → d.write f s bs = d.chg f (gput d.F s (bs, true))) := hid (fun e e2 => by unfold Pd.write; rw [if_neg (by omega), if_neg (by simp [e]; omega)])
  cases hi : idx L s with
  | none =>
   have e : atI L s = -1 := by unfold atI; rw [hi]
   rw [e] at HA
   have hle := lenAt_miss h hi
   rw [hle] at hus
   clear h hle
   cases hfull : d.full
   ·rw [hfull] at c3
    generalize hgu : usedOf (gdel d.F s) = ug at *
    generalize hgv : usedOf d.F = uf at *
    clear hgu hgv
    by_cases hrm : (d.size : Int) < (uf : Int) + (bs.length : Int)
    ·have hdec : decide ((d.size : Int) < (uf : Int) + (bs.length : Int)) = true := decide_eq_true hrm
     go_enter Tryz.func40, Tryz.ntmps40
     go_wp2_with (first | (go_at_call 100; refine (HR.out _ _ (txt_one _ _ _ _ _ rfl)).mono ?_; rintro e w' ⟨rfl, hw'⟩; have hw2 := hw'.symm; subst hw2) | (go_at_call 95; refine (HA.out _ (HB0.out _)).mono ?_; rintro e w' ⟨rfl, hw'⟩; have hw2 := hw'.symm; subst hw2))
     go_quiet ((go_at_call 45; first | exact Calls.quiet_of_same (HUS.out _ (below_on _ _ (HB0.out _) (below_drewN _ _))) | (refine (HUS.out _ (below_on _ _ (HB0.out _) (below_drewN _ _))).mono ?_; rintro e w2 ⟨rfl, rfl⟩; exact ⟨rfl, _, rfl⟩)))
     go_wp2
     go_ret
     exact rdone_same H.out HF.out 8 (HW1.out (Or.inr (by omega))) (below_on _ _ (HB0.out _) (below_drewN _ _))
    ·have hdec : decide ((d.size : Int) < (uf : Int) + (bs.length : Int)) = false := decide_eq_false hrm
     cases hlt : letsF f
     ·rw [hlt] at HBU
      have HLT := hid hlt
      go_enter Tryz.func40, Tryz.ntmps40
      go_wp2_with (first | (go_at_call 100; refine (HR.out _ _ (txt_one _ _ _ _ _ rfl)).mono ?_; rintro e w' ⟨rfl, hw'⟩; have hw2 := hw'.symm; subst hw2) | (go_at_call 95; refine (HA.out _ (HB0.out _)).mono ?_; rintro e w' ⟨rfl, hw'⟩; have hw2 := hw'.symm; subst hw2))
      go_quiet ((go_at_call 45; first | exact Calls.quiet_of_same (HUS.out _ (below_on _ _ (HB0.out _) (below_drewN _ _))) | (refine (HUS.out _ (below_on _ _ (HB0.out _) (below_drewN _ _))).mono ?_; rintro e w2 ⟨rfl, rfl⟩; exact ⟨rfl, _, rfl⟩)))
      go_wp2_with (go_at_call 101; refine (HBU.out _ (below_on _ _ (HB0.out _) (below_drewN _ _))).mono ?_; rintro e w1 ⟨rfl, hr, hfz, hon, hsz⟩; have HBT := hid (Burnt.mk hr hfz hon); clear hsz; clear hr hfz hon)
      go_ret
      rw [HW2.out hfull (by omega)]
      exact rdone_not H.out.sp (below_on _ _ (HB0.out _) (below_drewN _ _)) HLT.out _ HBT.out
     ·rw [hlt] at HBU
      have HLT := hid hlt
      go_enter Tryz.func40, Tryz.ntmps40
      go_wp2_with (first | (go_at_call 100; refine (HR.out _ _ (txt_one _ _ _ _ _ rfl)).mono ?_; rintro e w' ⟨rfl, hw'⟩; have hw2 := hw'.symm; subst hw2) | (go_at_call 95; refine (HA.out _ (HB0.out _)).mono ?_; rintro e w' ⟨rfl, hw'⟩; have hw2 := hw'.symm; subst hw2))
      go_quiet ((go_at_call 45; first | exact Calls.quiet_of_same (HUS.out _ (below_on _ _ (HB0.out _) (below_drewN _ _))) | (refine (HUS.out _ (below_on _ _ (HB0.out _) (below_drewN _ _))).mono ?_; rintro e w2 ⟨rfl, rfl⟩; exact ⟨rfl, _, rfl⟩)))
      go_wp2_with (first
       | (go_at_call 101; refine (HBU.out _ (below_on _ _ (HB0.out _) (below_drewN _ _))).mono ?_; rintro e w1 ⟨rfl, hr, hfz, hon, hsz⟩; have HBT := hid (Burnt.mk hr hfz hon); clear hsz
          have hxx := (HX.out.keepB (below_on _ _ (HB0.out _) (below_drewN _ _))).burnt (H.out.below (below_on _ _ (HB0.out _) (below_drewN _ _))) (HF.out.below (below_on _ _ (HB0.out _) (below_drewN _ _))) hon
          obtain ⟨po', c', W, hrun, how, hbW⟩ := copyB hxx c (by omega)
          have hrW := (hr.below hbW).wide (R' := grw R w1 W) (fun b hb => Or.inl hb) (fun b hb => hb.elim (fun hb => Nat.lt_of_lt_of_le (hr.lt b hb) hbW.size) (·.2))
          have HWI := hid (with_any hrW s ⟨.slice po' bs.length c', bs, true⟩ (by omega) (own_base how (Nat.zero_le _)) (fun b hb => Or.inr (own_ge how b hb)))
          have HRUN := hid hrun; have HBW := hid hbW; clear hr hfz hon hxx hrun how hbW hrW)
       | (at_builtin; refine wpList_append_run _ _ 30 rfl rfl _ _ _ rfl rfl HRUN.out ?_)
       | (go_at_call 102; refine HWI.out.mono ?_; rintro e w6 ⟨rfl, ⟨v5, hr6⟩, ho6⟩; have HR6 := hid hr6; have HO6 := hid ho6; clear hr6 ho6))
      go_ret
      rw [HW2.out hfull (by omega)]
      exact write_end H.out (below_on _ _ (HB0.out _) (below_drewN _ _)) HLT.out HBT.out HBW.out HR6.out HO6.out
   ·rw [hfull] at c3
    go_enter Tryz.func40, Tryz.ntmps40
    go_wp2_with (first | (go_at_call 100; refine (HR.out _ _ (txt_one _ _ _ _ _ rfl)).mono ?_; rintro e w' ⟨rfl, hw'⟩; have hw2 := hw'.symm; subst hw2) | (go_at_call 95; refine (HA.out _ (HB0.out _)).mono ?_; rintro e w' ⟨rfl, hw'⟩; have hw2 := hw'.symm; subst hw2))
    go_quiet ((go_at_call 45; first | exact Calls.quiet_of_same (HUS.out _ (below_on _ _ (HB0.out _) (below_drewN _ _))) | (refine (HUS.out _ (below_on _ _ (HB0.out _) (below_drewN _ _))).mono ?_; rintro e w2 ⟨rfl, rfl⟩; exact ⟨rfl, _, rfl⟩)))
    go_wp2
    go_ret
    exact rdone_same H.out HF.out 8 (HW1.out (Or.inl hfull)) (below_on _ _ (HB0.out _) (below_drewN _ _))
  | some i =>
   obtain ⟨hi1, _, _⟩ := idx_get hi
   have e : atI L s = (i : Int) := by unfold atI; rw [hi]
   rw [e] at HA
   have hle := lenAt_idx h hi
   rw [hle] at hus
   have hni : 0 ≤ (i : Int) := by omega
   have hni2 : (i : Int) < (L.length : Int) := by omega
   obtain ⟨g, cc, hv, _, k1, _⟩ := h.at hi1
   subst hv
   obtain ⟨pe, ce, hpe⟩ := h.slice (atL_mem hi1)
   rw [hpe] at k1
   have hgl : g < w.heap.size := cell_lt' (a := ⟨g, i * 3 + 1, none⟩) (by rw [k1]; simp)
   clear h hle hpe
   generalize (atL L i).2.b.length = n1 at *
   cases hfull : d.full
   ·rw [hfull] at c3
    generalize hgu : usedOf (gdel d.F s) = ug at *
    generalize hgv : usedOf d.F = uf at *
    clear hgu hgv
    by_cases hrm : (d.size : Int) < (uf : Int) - (n1 : Int) + (bs.length : Int)
    ·have hdec : decide ((d.size : Int) < (uf : Int) - (n1 : Int) + (bs.length : Int)) = true := decide_eq_true hrm
     go_enter Tryz.func40, Tryz.ntmps40
     go_wp2_with (first | (go_at_call 100; refine (HR.out _ _ (txt_one _ _ _ _ _ rfl)).mono ?_; rintro e w' ⟨rfl, hw'⟩; have hw2 := hw'.symm; subst hw2) | (go_at_call 95; refine (HA.out _ (HB0.out _)).mono ?_; rintro e w' ⟨rfl, hw'⟩; have hw2 := hw'.symm; subst hw2))
     go_quiet ((go_at_call 95; exact Calls.quiet_of_same (HA.out _ (below_on _ _ (HB0.out _) (below_drewN _ _)))))
     go_wp2
     go_quiet ((go_at_call 45; first | exact Calls.quiet_of_same (HUS.out _ (below_on _ _ (HB0.out _) (below_drewN _ _))) | (refine (HUS.out _ (below_on _ _ (HB0.out _) (below_drewN _ _))).mono ?_; rintro e w2 ⟨rfl, rfl⟩; exact ⟨rfl, _, rfl⟩)))
     go_wp2
     go_ret
     exact rdone_same H.out HF.out 8 (HW1.out (Or.inr (by omega))) (below_on _ _ (below_on _ _ (HB0.out _) (below_drewN _ _)) (below_drewN _ _))
    ·have hdec : decide ((d.size : Int) < (uf : Int) - (n1 : Int) + (bs.length : Int)) = false := decide_eq_false hrm
     cases hlt : letsF f
     ·rw [hlt] at HBU
      have HLT := hid hlt
      go_enter Tryz.func40, Tryz.ntmps40
      go_wp2_with (first | (go_at_call 100; refine (HR.out _ _ (txt_one _ _ _ _ _ rfl)).mono ?_; rintro e w' ⟨rfl, hw'⟩; have hw2 := hw'.symm; subst hw2) | (go_at_call 95; refine (HA.out _ (HB0.out _)).mono ?_; rintro e w' ⟨rfl, hw'⟩; have hw2 := hw'.symm; subst hw2))
      go_quiet ((go_at_call 95; exact Calls.quiet_of_same (HA.out _ (below_on _ _ (HB0.out _) (below_drewN _ _)))))
      go_wp2
      go_quiet ((go_at_call 45; first | exact Calls.quiet_of_same (HUS.out _ (below_on _ _ (HB0.out _) (below_drewN _ _))) | (refine (HUS.out _ (below_on _ _ (HB0.out _) (below_drewN _ _))).mono ?_; rintro e w2 ⟨rfl, rfl⟩; exact ⟨rfl, _, rfl⟩)))
      go_wp2_with (go_at_call 101; refine (HBU.out _ (below_on _ _ (HB0.out _) (below_drewN _ _))).mono ?_; rintro e w1 ⟨rfl, hr, hfz, hon, hsz⟩; have HBT := hid (Burnt.mk hr hfz hon); clear hsz; clear hr hfz hon)
      go_ret
      rw [HW2.out hfull (by omega)]
      exact rdone_not H.out.sp (below_on _ _ (HB0.out _) (below_drewN _ _)) HLT.out _ HBT.out
     ·rw [hlt] at HBU
      have HLT := hid hlt
      go_enter Tryz.func40, Tryz.ntmps40
      go_wp2_with (first | (go_at_call 100; refine (HR.out _ _ (txt_one _ _ _ _ _ rfl)).mono ?_; rintro e w' ⟨rfl, hw'⟩; have hw2 := hw'.symm; subst hw2) | (go_at_call 95; refine (HA.out _ (HB0.out _)).mono ?_; rintro e w' ⟨rfl, hw'⟩; have hw2 := hw'.symm; subst hw2))
      go_quiet ((go_at_call 95; exact Calls.quiet_of_same (HA.out _ (below_on _ _ (HB0.out _) (below_drewN _ _)))))
      go_wp2
      go_quiet ((go_at_call 45; first | exact Calls.quiet_of_same (HUS.out _ (below_on _ _ (HB0.out _) (below_drewN _ _))) | (refine (HUS.out _ (below_on _ _ (HB0.out _) (below_drewN _ _))).mono ?_; rintro e w2 ⟨rfl, rfl⟩; exact ⟨rfl, _, rfl⟩)))
      go_wp2_with (first
       | (go_at_call 101; refine (HBU.out _ (below_on _ _ (HB0.out _) (below_drewN _ _))).mono ?_; rintro e w1 ⟨rfl, hr, hfz, hon, hsz⟩; have HBT := hid (Burnt.mk hr hfz hon); clear hsz
          have hxx := (HX.out.keepB (below_on _ _ (HB0.out _) (below_drewN _ _))).burnt (H.out.below (below_on _ _ (HB0.out _) (below_drewN _ _))) (HF.out.below (below_on _ _ (HB0.out _) (below_drewN _ _))) hon
          obtain ⟨po', c', W, hrun, how, hbW⟩ := copyB hxx c (by omega)
          have hrW := (hr.below hbW).wide (R' := grw R w1 W) (fun b hb => Or.inl hb) (fun b hb => hb.elim (fun hb => Nat.lt_of_lt_of_le (hr.lt b hb) hbW.size) (·.2))
          have HWI := hid (with_any hrW s ⟨.slice po' bs.length c', bs, true⟩ (by omega) (own_base how (Nat.zero_le _)) (fun b hb => Or.inr (own_ge how b hb)))
          have HRUN := hid hrun; have HBW := hid hbW; clear hr hfz hon hxx hrun how hbW hrW)
       | (at_builtin; refine wpList_append_run _ _ 30 rfl rfl _ _ _ rfl rfl HRUN.out ?_)
       | (go_at_call 102; refine HWI.out.mono ?_; rintro e w6 ⟨rfl, ⟨v5, hr6⟩, ho6⟩; have HR6 := hid hr6; have HO6 := hid ho6; clear hr6 ho6))
      go_ret
      rw [HW2.out hfull (by omega)]
      exact write_end H.out (below_on _ _ (HB0.out _) (below_drewN _ _)) HLT.out HBT.out HBW.out HR6.out HO6.out
   ·rw [hfull] at c3
    go_enter Tryz.func40, Tryz.ntmps40
    go_wp2_with (first | (go_at_call 100; refine (HR.out _ _ (txt_one _ _ _ _ _ rfl)).mono ?_; rintro e w' ⟨rfl, hw'⟩; have hw2 := hw'.symm; subst hw2) | (go_at_call 95; refine (HA.out _ (HB0.out _)).mono ?_; rintro e w' ⟨rfl, hw'⟩; have hw2 := hw'.symm; subst hw2))
    go_quiet ((go_at_call 95; exact Calls.quiet_of_same (HA.out _ (below_on _ _ (HB0.out _) (below_drewN _ _)))))
    go_wp2
    go_quiet ((go_at_call 45; first | exact Calls.quiet_of_same (HUS.out _ (below_on _ _ (HB0.out _) (below_drewN _ _))) | (refine (HUS.out _ (below_on _ _ (HB0.out _) (below_drewN _ _))).mono ?_; rintro e w2 ⟨rfl, rfl⟩; exact ⟨rfl, _, rfl⟩)))
    go_wp2
    go_ret
    exact rdone_same H.out HF.out 8 (HW1.out (Or.inl hfull)) (below_on _ _ (below_on _ _ (HB0.out _) (below_drewN _ _)) (below_drewN _ _))
 ·have HE : Hid (d.write f s bs = (d.ans f [s], d, f)) := hid (by unfold Pd.write; rw [if_pos ha])
  have ha' : ¬ ((d.ans f [s] : Nat) : Int) = 0 := by omega
  clear h hus
  generalize d.ans f [s] = n at *
  go_enter Tryz.func40, Tryz.ntmps40
  go_wp2_with (go_at_call 100; refine (HR.out _ _ (txt_one _ _ _ _ _ rfl)).mono ?_; rintro e w' ⟨rfl, hw'⟩; have hw2 := hw'.symm; subst hw2)
  go_ret
  exact rdone_same H.out HF.out n HE.out (HB0.out _)
end
end Go.Proofs.YtfogkegmdgbecaaGreatDoor

/- Contracts of Loose and List of the document's drives. -/
namespace Go.Proofs.YtfogkegmdgbecaaGreatDoor
open Go Go.RowKit

/-- The names of the files that are wanted. -/
def wantN (L : List (Nm × Ent)) (p : Nm × Ent → Bool) : List Nm := (L.filter p).map (·.1)
theorem want_take {L : List (Nm × Ent)} {k : Nat} (h : k < L.length) (p : Nm × Ent → Bool) : wantN (L.take (k + 1)) p = if p (atL L k) then wantN (L.take k) p ++ [(atL L k).1] else wantN (L.take k) p := by
 unfold wantN; rw [take_at L h, List.filter_append]
 cases hp : p (atL L k) <;> simp [hp]
theorem want_len (L : List (Nm × Ent)) (k : Nat) (p : Nm × Ent → Bool) : (wantN (L.take k) p).length ≤ L.length := by
 unfold wantN; rw [List.length_map]
 exact Nat.le_trans (List.length_filter_le _ _) (by rw [List.length_take]; omega)
theorem want_names (L : List (Nm × Ent)) (q : Nm → Fi → Bool) : namesOf (gmap Ent.fi L) q = wantN L fun y => q y.1 y.2.fi := by
 unfold namesOf wantN gmap
 rw [List.filter_map, List.map_map]; rfl
section
variable {w w' : World} {R : Nat → Prop} {q : Nat} {v : Value} {fu : Option Nat} {d : Pd} {L : List (Nm × Ent)} {f : Fs}
set_option maxHeartbeats 1000000 in
set_option maxRecDepth 100000 in
theorem rloose_any (h : RfC w R q v fu d L) (hl : L.length < 999000) : Calls Tryz.prog 47 #[ptr q] w (NamesAt w d.loose) := by
 have hcq : ∀ W, Below w.heap.size w W → W.cell? ⟨q, 1, none⟩ = some v := fun W hb => (h.below hb).c.cell 1
 obtain ⟨po, c, rfl⟩ := h.form
 have HCQ := hid hcq
 have c1 := hcq w (Below.refl _ _)
 have H := hid h
 have HE : Hid (wantN L (fun y => y.2.l) = d.loose) := hid (by unfold Pd.loose; rw [h.fs, want_names]; rfl)
 clear h hcq
 generalize d.loose = ns at *
 go_enter Tryz.func47, Tryz.ntmps47
 go_wp2
 go_loopw [3, 4] (fun v3 v wr => ∃ k : Nat, k ≤ L.length ∧ v = .int .i64 (k : Int) ∧ TxtL w.heap.size wr v3 (wantN (L.take k) fun y => y.2.l) ∧ Below w.heap.size w wr) (fun _ v _ => (L.length - intOf v).toNat)
 case atStart => exact ⟨0, by omega, rfl, World.ownsRow_nil _ _ _ _, Below.refl _ _⟩
 case round =>
  obtain ⟨k, hk, rfl, hT, hb⟩ := hrel
  obtain ⟨po3, c3, hv3⟩ := own_form hT
  subst hv3
  have HT := hid hT
  have HBE := hid hb
  have d1 := HCQ.out wr hb
  clear c1 hT hb
  by_cases hlt : k < L.length
  ·have hlt' : (k : Int) < (L.length : Int) := by omega
   obtain ⟨g, cc, hv, ck, _, ck2, _⟩ := (H.out.below HBE.out).at hlt
   cases hv
   have HW := hid (want_take hlt fun y => y.2.l)
   have hln := want_len L k fun y => y.2.l
   generalize hX : atL L k = X at *
   clear hX
   cases hxl : X.2.l
   ·rw [hxl] at ck2
    have HW2 : Hid (wantN (L.take (k + 1)) (fun y => y.2.l) = wantN (L.take k) fun y => y.2.l) := hid (by rw [HW.out]; simp [hxl])
    clear ck
    go_wp2
    go_roundw
    case rel => exact ⟨k + 1, by omega, by go_num, by rw [HW2.out]; exact HT.out, HBE.out⟩
    case measure => simp [intOf]; omega
   ·rw [hxl] at ck2
    have HW2 : Hid (wantN (L.take (k + 1)) (fun y => y.2.l) = (wantN (L.take k) fun y => y.2.l) ++ [X.1]) := hid (by rw [HW.out]; simp [hxl])
    obtain ⟨v4, w4, hrun, htx4, hgr4, _⟩ := HT.out.push X.1 (by omega) HBE.out.size
    have HRUN := hid hrun
    have HT4 := hid htx4
    have HB4 := hid (below_on_grown (below_on _ _ HBE.out ((Below.refl _ _).alloc (Nat.le_refl _) _)) hgr4 (fun b hb => (own_ge HT.out b hb).1))
    clear hrun htx4 hgr4
    generalize X.1 = x at *
    go_wp2_with (at_builtin; refine wpList_append_run _ _ 32 rfl rfl _ _ v4 rfl rfl HRUN.out ?_)
    go_roundw
    case rel => exact ⟨k + 1, by omega, by go_num, by rw [HW2.out]; exact HT4.out, HB4.out⟩
    case measure => simp [intOf]; omega
  ·have hlt' : ¬ (k : Int) < (L.length : Int) := by omega
   have e : k = L.length := by omega
   subst e
   have HR : Hid (TxtL w.heap.size wr (.slice po3 ns.length c3) ns ∧ (wantN (L.take L.length) fun y => y.2.l) = ns) := hid (by have := HT.out; rw [List.take_length, HE.out] at this ⊢; exact ⟨this, rfl⟩)
   have hns := HR.out.2
   rw [hns]
   go_wp2
   go_ret
   exact ⟨_, _, rfl, HR.out.1, HBE.out⟩
theorem pre_take (x pre : Nm) (_h : pre.length ≤ x.length) : (((⟨x.toArray⟩ : ByteArray).extract 0 pre.length).toList == (⟨pre.toArray⟩ : ByteArray).toList) = pre.isPrefixOf x := by
 rw [Lib.extract_toList, Lib.toList_data]
 simp
 rw [Bool.eq_iff_iff]
 simp only [beq_iff_eq, List.isPrefixOf_iff_prefix, List.prefix_iff_eq_take]
 exact ⟨fun e => e.symm, fun e => e.symm⟩
set_option maxHeartbeats 2000000 in
set_option maxRecDepth 100000 in
theorem rlist_any (h : RfC w R q v fu d L) (hf : FuR w R fu f) (pre : Nm) (hl : L.length < 999000) : Calls Tryz.prog 42 #[ptr q, sv pre] w (ListAt w (d.ans f []) (d.list f pre)) := by
 have hcq : ∀ W, Below w.heap.size w W → W.cell? ⟨q, 1, none⟩ = some v := fun W hb => (h.below hb).c.cell 1
 obtain ⟨po, c, rfl⟩ := h.form
 have HR := hid (ready_any h hf (.slice none 0 0) [] (Or.inl ⟨rfl, rfl⟩) (by simp) (by simp))
 have HCQ := hid hcq
 have c1 := hcq w (Below.refl _ _)
 have H := hid h
 by_cases ha : d.ans f [] = 0
 ·have HE : Hid (wantN L (fun y => pre.isPrefixOf y.1) = d.list f pre) := hid (by unfold Pd.list; rw [if_pos ha, h.fs, want_names])
  rw [ha] at HR ⊢
  clear h hcq hf
  generalize d.list f pre = ns at *
  have HPT := hid (fun x => pre_take x pre)
  have hps : (⟨pre.toArray⟩ : ByteArray).size = pre.length := by simp [ByteArray.size]
  unfold sv
  generalize hPR : (⟨pre.toArray⟩ : ByteArray) = P at *
  clear hPR
  go_enter Tryz.func42, Tryz.ntmps42
  go_wp2_with (go_at_call 100; refine HR.out.mono ?_; rintro e w' ⟨rfl, hw'⟩; have hw2 := hw'.symm; subst hw2)
  go_loopw [7, 8] (fun v3 v wr => ∃ k : Nat, k ≤ L.length ∧ v = .int .i64 (k : Int) ∧ TxtL w.heap.size wr v3 (wantN (L.take k) fun y => pre.isPrefixOf y.1) ∧ Below w.heap.size w wr) (fun _ v _ => (L.length - intOf v).toNat)
  case atStart => exact ⟨0, by omega, rfl, World.ownsRow_nil _ _ _ _, Below.refl _ _⟩
  case round =>
   obtain ⟨k, hk, rfl, hT, hb⟩ := hrel
   obtain ⟨po3, c3, hv3⟩ := own_form hT
   subst hv3
   have HT := hid hT
   have HBE := hid hb
   have d1 := HCQ.out wr hb
   clear c1 hT hb
   by_cases hlt : k < L.length
   ·have hlt' : (k : Int) < (L.length : Int) := by omega
    obtain ⟨g, cc, hv, ck, _, ck2, _⟩ := (H.out.below HBE.out).at hlt
    cases hv
    have HW := hid (want_take hlt fun y => pre.isPrefixOf y.1)
    have hln := want_len L k fun y => pre.isPrefixOf y.1
    generalize hX : atL L k = X at *
    clear hX ck2
    have hxs : (⟨X.1.toArray⟩ : ByteArray).size = X.1.length := by simp [ByteArray.size]
    obtain ⟨v4, w4, hrun, htx4, hgr4, _⟩ := HT.out.push X.1 (by omega) HBE.out.size
    have HRUN := hid hrun
    have HT4 := hid htx4
    have HB4 := hid (below_on_grown (below_on _ _ HBE.out ((Below.refl _ _).alloc (Nat.le_refl _) _)) hgr4 (fun b hb => (own_ge HT.out b hb).1))
    clear hrun htx4 hgr4
    have HP1 := hid (HPT.out X.1)
    by_cases hsz : pre.length ≤ X.1.length
    ·have hcmp := HP1.out hsz
     rw [← hps] at hcmp
     have hs' : (P.size : Int) ≤ ((⟨X.1.toArray⟩ : ByteArray).size : Int) := by rw [hps, hxs]; omega
     cases hpx : pre.isPrefixOf X.1
     ·rw [hpx] at hcmp
      have HW2 : Hid (wantN (L.take (k + 1)) (fun y => pre.isPrefixOf y.1) = wantN (L.take k) fun y => pre.isPrefixOf y.1) := hid (by rw [HW.out]; simp [hpx])
      unfold sv at ck
      generalize (⟨X.1.toArray⟩ : ByteArray) = XX at *
      clear hxs hps HP1
      go_wp2
      go_roundw
      case rel => exact ⟨k + 1, by omega, by go_num, by rw [HW2.out]; exact HT.out, HBE.out⟩
      case measure => simp [intOf]; omega
     ·rw [hpx] at hcmp
      have HW2 : Hid (wantN (L.take (k + 1)) (fun y => pre.isPrefixOf y.1) = (wantN (L.take k) fun y => pre.isPrefixOf y.1) ++ [X.1]) := hid (by rw [HW.out]; simp [hpx])
      unfold sv at ck HRUN
      generalize hXX : (⟨X.1.toArray⟩ : ByteArray) = XX at *
      clear hxs hps HP1 hXX
      go_wp2_with (at_builtin; refine wpList_append_run _ _ 32 rfl rfl _ _ v4 rfl rfl HRUN.out ?_)
      go_roundw
      case rel => exact ⟨k + 1, by omega, by go_num, by rw [HW2.out]; exact HT4.out, HB4.out⟩
      case measure => simp [intOf]; omega
    ·have hs' : ¬ (P.size : Int) ≤ ((⟨X.1.toArray⟩ : ByteArray).size : Int) := by rw [hps, hxs]; omega
     have hpx : pre.isPrefixOf X.1 = false := by
      cases hpx : pre.isPrefixOf X.1
      ·rfl
      ·exact absurd (List.IsPrefix.length_le (List.isPrefixOf_iff_prefix.1 hpx)) hsz
     have HW2 : Hid (wantN (L.take (k + 1)) (fun y => pre.isPrefixOf y.1) = wantN (L.take k) fun y => pre.isPrefixOf y.1) := hid (by rw [HW.out]; simp [hpx])
     unfold sv at ck
     generalize (⟨X.1.toArray⟩ : ByteArray) = XX at *
     clear hxs hps HP1
     go_wp2
     go_roundw
     case rel => exact ⟨k + 1, by omega, by go_num, by rw [HW2.out]; exact HT.out, HBE.out⟩
     case measure => simp [intOf]; omega
   ·have hlt' : ¬ (k : Int) < (L.length : Int) := by omega
    have e : k = L.length := by omega
    subst e
    have HRR : Hid (TxtL w.heap.size wr (.slice po3 ns.length c3) ns ∧ (wantN (L.take L.length) fun y => pre.isPrefixOf y.1) = ns) := hid (by have := HT.out; rw [List.take_length, HE.out] at this ⊢; exact ⟨this, rfl⟩)
    have hns := HRR.out.2
    rw [hns]
    go_wp2
    go_ret2
    exact ⟨_, _, rfl, HRR.out.1, HBE.out⟩
 ·have HE : Hid (d.list f pre = []) := hid (by unfold Pd.list; rw [if_neg ha])
  have ha' : ¬ ((d.ans f [] : Nat) : Int) = 0 := by omega
  rw [HE.out]
  clear h hf
  generalize d.ans f [] = n at *
  go_enter Tryz.func42, Tryz.ntmps42
  go_wp2_with (go_at_call 100; refine HR.out.mono ?_; rintro e w' ⟨rfl, hw'⟩; have hw2 := hw'.symm; subst hw2)
  go_ret2
  exact ⟨none, 0, rfl, World.ownsRow_nil _ _ _ _, Below.refl _ _⟩
end
end Go.Proofs.YtfogkegmdgbecaaGreatDoor
