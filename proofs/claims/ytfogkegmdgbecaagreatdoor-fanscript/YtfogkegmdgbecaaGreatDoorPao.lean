/- Texts laid into one, cut to what is needed: the remark ahead of each part says what is proved there. -/
import Derived.Test.YtfogkegmdgbecaaGreatDoorPam
import Derived.Test.YtfogkegmdgbecaaGreatDoorPan
/- The document's stage, finish and drop of one drive's files. -/
namespace Go.Proofs.YtfogkegmdgbecaaGreatDoor
open Go Go.RowKit Go.Shelf

/-- A drive that may be: its files by rising names, no more bytes than it takes. -/
structure Gd (d : Pd) : Prop where
 srt : Srt d.F
 uz : usedOf d.F ≤ d.size
 sz : d.size ≤ 67108864
theorem gd_chg {d : Pd} (h : Gd d) (f : Fs) {F : List (Nm × Fi)} (hs : Srt F) (hu : usedOf F ≤ d.size) : Gd (d.chg f F).2.1 := by
 unfold Pd.chg; split
 ·exact ⟨hs, hu, h.sz⟩
 ·exact h
theorem gd_write {d : Pd} (h : Gd d) (f : Fs) (s : Nm) (b : List Nat) : Gd (d.write f s b).2.1 := by
 unfold Pd.write; split
 ·exact h
 ·split
  ·exact h
  ·rename_i hf
   refine gd_chg h f (h.srt.put _ _) ?_
   rw [used_put]
   simp at hf
   exact hf.2
theorem gd_sync {d : Pd} (h : Gd d) (f : Fs) (s : Nm) : Gd (d.sync f s).2.1 := by
 unfold Pd.sync; split
 ·exact h
 ·split
  ·exact h
  ·rename_i x hx
   refine gd_chg h f (h.srt.put _ _) ?_
   rw [used_put]
   have := used_del h.srt s
   unfold lenAt at this
   rw [hx] at this
   have := h.uz
   dsimp only at *
   omega
theorem gd_rename {d : Pd} (h : Gd d) (f : Fs) (s t : Nm) : Gd (d.rename f s t).2.1 := by
 unfold Pd.rename; split
 ·exact h
 ·split
  ·exact h
  ·rename_i x hx
   refine gd_chg h f ((h.srt.del s).put _ _) ?_
   rw [used_put]
   have h1 := used_del h.srt s
   have h2 := used_del (h.srt.del s) t
   unfold lenAt at h1
   rw [hx] at h1
   have := h.uz
   dsimp only at *
   omega
theorem gd_delete {d : Pd} (h : Gd d) (f : Fs) (s : Nm) : Gd (d.delete f s).2.1 := by
 unfold Pd.delete; split
 ·exact h
 ·split
  ·exact h
  ·refine gd_chg h f (h.srt.del _) ?_
   have := used_del h.srt s
   have := h.uz
   omega
theorem gd_stg {d : Pd} (h : Gd d) (f : Fs) (x : Fl) : Gd (stg d f x).2.1 := by
 unfold stg; split
 ·exact gd_sync (gd_write h _ _ _) _ _
 ·exact gd_write h _ _ _
theorem gd_fin {d : Pd} (h : Gd d) (f : Fs) (x : Fl) : Gd (fin d f x).2.1 := gd_rename h _ _ _
/-- The document's drives since W0, when calls have changed them. -/
structure RI (w W0 : World) (T : Nat → Prop) (k : Nat) (p : Nat → Nat) (d : Nat → Pd) (f : Fs) (W : World) : Prop where
 ex : ∃ T', Grows W0 T T' ∧ RA w W T' k p d f 0
 on : Only T W0 W
section
variable {w W0 W W' : World} {T : Nat → Prop} {k : Nat} {p : Nat → Nat} {d : Nat → Pd} {f : Fs}
theorem RI.start (h : RA w W0 T k p d f 0) : RI w W0 T k p d f W0 := ⟨⟨T, Grows.refl _ _, h⟩, Only.refl _ _⟩
theorem RI.done (h : RI w W0 T k p d f W) : RStep w W0 T k p d f 0 W := by obtain ⟨T', hg, hr⟩ := h.ex; exact ⟨T', hg, hr, h.on⟩
theorem RI.below (h : RI w W0 T k p d f W) (hb : Below W.heap.size W W') : RI w W0 T k p d f W' := by
 obtain ⟨T', hg, hr⟩ := h.ex
 exact ⟨⟨T', hg, hr.below hb⟩, h.on.then (Only.of_below (S := fun _ => False) hb) (fun _ _ h => h.elim)⟩
theorem RI.step (h : RI w W0 T k p d f W) {i : Nat} (hi : i < k) {g : FuncId} {args : Array Value} {r : Nat × Pd × Fs} (hc : ∀ fu S v L, RfC W S (p i) v fu (d i) L → FuR W S fu f → Calls Tryz.prog g args W (RDone W S (p i) fu r)) :
  Calls Tryz.prog g args W fun e W' => e = .returned (.int .i64 (r.1 : Int)) ∧ RI w W0 T k p (upd d i r.2.1) r.2.2 W' := by
 obtain ⟨T', hg, hr⟩ := h.ex
 refine (hr.step hi hc).mono ?_
 rintro e W' ⟨h1, T2, hg2, hr2, ho2⟩
 have hs := h.on.size
 refine ⟨h1, ⟨T2, ⟨fun b hb => hg2.1 b (hg.1 b hb), fun b hb => (hg2.2 b hb).elim (fun hb => hg.2 b hb) (fun hl => .inr (by omega))⟩, hr2⟩, h.on.then ho2 (fun b hb ht => (hg.2 b ht).elim id (fun hl => by omega))⟩
theorem RI.row (h : RI w W0 T k p d f W) {r : RowV} (hr : r.ok W0 T) : r.ok W T := hr.keep (fun b hb hn => h.on.block b hb hn) (fun _ _ h => h)
theorem RI.write (h : RI w W0 T k p d f W) {i : Nat} (hi : i < k) (hG : Gd (d i)) (hB : Bnd 990000 1000000000 (d i)) (s : Nm) (hs : s.length ≤ maxLen) (po : Option Addr) (c : Nat) (bs : List Nat) (hx : BAt W po bs) (hn : bs.length ≤ 1000000) :
  Calls Tryz.prog 40 #[ptr (p i), sv s, .slice po bs.length c] W fun e W' => e = .returned (.int .i64 (((d i).write f s bs).1 : Int)) ∧ RI w W0 T k p (upd d i ((d i).write f s bs).2.1) ((d i).write f s bs).2.2 W' :=
 h.step hi fun fu S v L hd hf => rwrite_any hd hf s hs po c bs hx (by omega) (Nat.lt_of_le_of_lt hB.2 (by decide)) (by rw [hd.lenF]; exact Nat.lt_of_le_of_lt hB.1 (by decide)) hG.srt (Nat.le_trans hG.uz hG.sz) hG.sz
theorem RI.sync (h : RI w W0 T k p d f W) {i : Nat} (hi : i < k) (hG : Gd (d i)) (hB : Bnd 990000 1000000000 (d i)) (s : Nm) (hs : s.length ≤ maxLen) :
  Calls Tryz.prog 120 #[ptr (p i), sv s] W fun e W' => e = .returned (.int .i64 (((d i).sync f s).1 : Int)) ∧ RI w W0 T k p (upd d i ((d i).sync f s).2.1) ((d i).sync f s).2.2 W' :=
 h.step hi fun fu S v L hd hf => rsync_any hd hf s hs (Nat.lt_of_le_of_lt hB.2 (by decide)) (by rw [hd.lenF]; exact Nat.lt_of_le_of_lt hB.1 (by decide)) hG.srt
theorem RI.rename (h : RI w W0 T k p d f W) {i : Nat} (hi : i < k) (hB : Bnd 990000 1000000000 (d i)) (s t : Nm) (hs : s.length ≤ maxLen) (ht : t.length ≤ maxLen) :
  Calls Tryz.prog 94 #[ptr (p i), sv s, sv t] W fun e W' => e = .returned (.int .i64 (((d i).rename f s t).1 : Int)) ∧ RI w W0 T k p (upd d i ((d i).rename f s t).2.1) ((d i).rename f s t).2.2 W' :=
 h.step hi fun fu S v L hd hf => rrename_any hd hf s t hs ht (Nat.lt_of_le_of_lt hB.2 (by decide)) (by rw [hd.lenF]; exact Nat.lt_of_le_of_lt hB.1 (by decide))
theorem RI.delete (h : RI w W0 T k p d f W) {i : Nat} (hi : i < k) (hB : Bnd 990000 1000000000 (d i)) (s : Nm) (hs : s.length ≤ maxLen) :
  Calls Tryz.prog 81 #[ptr (p i), sv s] W fun e W' => e = .returned (.int .i64 (((d i).delete f s).1 : Int)) ∧ RI w W0 T k p (upd d i ((d i).delete f s).2.1) ((d i).delete f s).2.2 W' :=
 h.step hi fun fu S v L hd hf => rdelete_any hd hf s hs (Nat.lt_of_le_of_lt hB.2 (by decide)) (by rw [hd.lenF]; exact Nat.lt_of_le_of_lt hB.1 (by decide))
end
theorem rstaged_any (s : Nm) (w : World) (hs : s.length ≤ 1000) : Calls Tryz.prog 84 #[sv s] w fun e w' => e = .returned (sv (tmpN s)) ∧ w' = w := by
 have hc := tmp_cat s w hs
 go_enter Tryz.func84, Tryz.ntmps84
 go_wp2
 go_ret
 exact ⟨rfl, rfl⟩
/-- While files of drive i are gone through. -/
structure RLo (op : Op3) (w W0 : World) (T : Nat → Prop) (k : Nat) (p : Nat → Nat) (d : Nat → Pd) (i : Nat) (L : List Fl) (R : Nat × Pd × Fs) (j : Nat) (W : World) : Prop where
 ex : ∃ dj fj, R = forL op (L.drop j) dj fj ∧ RI w W0 T k p (upd d i dj) fj W ∧ Gd dj ∧ Bnd (900000 + 2 * j) (900000000 + 2 * j) dj
theorem drop_at (L : List Fl) (j : Nat) (hj : j < L.length) : L.drop j = L[j] :: L.drop (j + 1) := List.drop_eq_getElem_cons hj
theorem forL_go {op : Op3} {x : Fl} {r : List Fl} {d : Pd} {f : Fs} (h : (op d f x).1 = 0) : forL op (x :: r) d f = forL op r (op d f x).2.1 (op d f x).2.2 := by rw [forL, if_pos h]
theorem forL_stop {op : Op3} {x : Fl} {r : List Fl} {d : Pd} {f : Fs} (h : ¬ (op d f x).1 = 0) : forL op (x :: r) d f = op d f x := by rw [forL, if_neg h]
theorem tmp_len (s : Nm) (hs : s.length ≤ 1000) : (tmpN s).length ≤ maxLen := by unfold tmpN maxLen; simp; omega
set_option maxHeartbeats 2000000 in
set_option maxRecDepth 100000 in
theorem rstage_any {w W0 : World} {T : Nat → Prop} {k : Nat} {p : Nat → Nat} {d : Nat → Pd} {f : Fs} (h : RA w W0 T k p d f 0) {i : Nat} (hi : i < k) (r : RowV) (hr : r.ok W0 T) (hl : r.l.length ≤ 1000) (hN : ∀ x ∈ r.l, x.nm.length ≤ 1000) (hG : Gd (d i)) (hB : Bnd 900000 900000000 (d i)) :
  Calls Tryz.prog 66 #[ptr (p i), r.v] W0 fun e W' => e = .returned (.int .i64 ((forL stg r.fl (d i) f).1 : Int)) ∧ RStep w W0 T k p (upd d i (forL stg r.fl (d i) f).2.1) (forL stg r.fl (d i) f).2.2 0 W' := by
 obtain ⟨R, hR⟩ : ∃ R, forL stg r.fl (d i) f = R := ⟨_, rfl⟩
 have H0 : Hid (RLo stg w W0 T k p d i r.fl R 0 W0) := hid ⟨d i, f, by rw [← hR]; rfl, by rw [upd_id]; exact RI.start h, hG, hB⟩
 have HFI : Hid (∀ dj fj W er, RI w W0 T k p (upd d i dj) fj W → R = (er, dj, fj) → (Ending.returned (.int .i64 (er : Int)) = .returned (.int .i64 (R.1 : Int)) ∧ RStep w W0 T k p (upd d i R.2.1) R.2.2 0 W)) := hid (fun dj fj W er h e => by rw [e]; exact ⟨rfl, h.done⟩)
 have HRO := hid hr
 rw [hR]
 obtain ⟨po, rc, l⟩ := r
 dsimp only [RowV.v] at *
 have HFL : Hid ((⟨po, rc, l⟩ : RowV).fl = l.map FlV.fl) := hid rfl
 generalize hfl : (⟨po, rc, l⟩ : RowV).fl = L at *
 have hLl : L.length = l.length := by rw [HFL.out]; simp
 have HLL := hid hLl
 have HNM := hid hN
 clear hR h hr hfl hN hLl hG hB
 go_enter Tryz.func66, Tryz.ntmps66
 go_wp2
 go_loopw [5] (fun v wr => ∃ j : Nat, j ≤ l.length ∧ v = .int .i64 (j : Int) ∧ RLo stg w W0 T k p d i L R j wr) (fun v _ => (1000 - intOf v).toNat)
 case atStart => exact ⟨0, Nat.zero_le _, rfl, H0.out⟩
 case round =>
  clear H0
  obtain ⟨j, hj, rfl, hI⟩ := hrel
  obtain ⟨dj, fj, hRj, hRI, hGj, hBj⟩ := hI.ex
  have HRI := hid hRI
  have HRJ := hid hRj
  have HG := hid hGj
  have HB := hid hBj
  clear hI hRI hRj hGj hBj
  by_cases hlt : j < l.length
  ·have hlt' : (j : Int) < (l.length : Int) := by omega
   have hj2 : (j : Int) < 1000 := by omega
   have hjL : j < L.length := by rw [HLL.out]; exact hlt
   have HX : Hid (L[j] = ((l.getD j default).nm, (l.getD j default).bs)) := hid (by rw [getD_in _ _ _ hlt]; simp [HFL.out, FlV.fl])
   have HRD := HRJ.out
   rw [drop_at L j hjL, HX.out] at HRD
   have HGO := hid HRD
   clear HRD HRJ HX hjL
   obtain ⟨br, or_, hpo, z0, z1⟩ : ∃ b o, po = some ⟨b, o, none⟩ ∧ wr.cell? ⟨b, o + j * 2, none⟩ = some (sv (l.getD j default).nm) ∧ wr.cell? ⟨b, o + j * 2 + 1, none⟩ = some (l.getD j default).bv := by
    rcases (HRI.out.row HRO.out).at_ with h | ⟨b, o, h1, _, h3⟩
    ·rw [show l = [] from h] at hlt; exact absurd hlt (Nat.not_lt_zero _)
    ·exact ⟨b, o, h1, h3 j hlt⟩
   subst hpo
   have HEL : Hid ((l.getD j default).ok W0 T) := hid (HRO.out.el (l.getD j default) (by rw [getD_in _ _ _ hlt]; exact List.getElem_mem hlt))
   have hnl := HNM.out (l.getD j default) (by rw [getD_in _ _ _ hlt]; exact List.getElem_mem hlt)
   have hb2 : Bnd 990000 1000000000 dj := HB.out.mono (by omega) (by omega)
   have HSC : Hid (∀ W dd ff, RI w W0 T k p dd ff W → W.cell? ⟨br, or_ + j * 2, none⟩ = some (sv (l.getD j default).nm) ∧ W.cell? ⟨br, or_ + j * 2 + 1, none⟩ = some (l.getD j default).bv) := hid (fun W dd ff h => by
    rcases (h.row HRO.out).at_ with h | ⟨b, o, h1, _, h3⟩
    ·rw [show l = [] from h] at hlt; exact absurd hlt (Nat.not_lt_zero _)
    ·cases h1; exact h3 j hlt)
   have HWR : Hid (∀ W', Below wr.heap.size wr W' → Calls Tryz.prog 40 #[ptr (p i), sv (tmpN (l.getD j default).nm), (l.getD j default).bv] W' fun e W2 => e = .returned (.int .i64 ((dj.write fj (tmpN (l.getD j default).nm) (l.getD j default).bs).1 : Int)) ∧ RI w W0 T k p (upd d i (dj.write fj (tmpN (l.getD j default).nm) (l.getD j default).bs).2.1) (dj.write fj (tmpN (l.getD j default).nm) (l.getD j default).bs).2.2 W2) := hid (fun W' hb => by
    have h' := HRI.out.below hb
    have hc := h'.write hi (by rw [upd_same]; exact HG.out) (by rw [upd_same]; exact hb2) (tmpN (l.getD j default).nm) (tmp_len _ hnl) (l.getD j default).pb (l.getD j default).cb (l.getD j default).bs (HEL.out.keep (w' := W') (T' := T) (fun b hb' hn => h'.on.block b hb' hn) (fun _ _ h => h)).bt HEL.out.bl
    rw [upd_same, upd_upd] at hc
    exact hc)
   have HSY : Hid (∀ W' d1 f1, RI w W0 T k p (upd d i d1) f1 W' → Gd d1 → Bnd 990000 1000000000 d1 → Calls Tryz.prog 120 #[ptr (p i), sv (tmpN (l.getD j default).nm)] W' fun e W2 => e = .returned (.int .i64 ((d1.sync f1 (tmpN (l.getD j default).nm)).1 : Int)) ∧ RI w W0 T k p (upd d i (d1.sync f1 (tmpN (l.getD j default).nm)).2.1) (d1.sync f1 (tmpN (l.getD j default).nm)).2.2 W2) := hid (fun W' d1 f1 h hg hb => by
    have hc := h.sync hi (by rw [upd_same]; exact hg) (by rw [upd_same]; exact hb) (tmpN (l.getD j default).nm) (tmp_len _ hnl)
    rw [upd_same, upd_upd] at hc
    exact hc)
   have HSD := hid (fun W => rstaged_any (l.getD j default).nm W hnl)
   have HG1 := hid (gd_write HG.out fj (tmpN (l.getD j default).nm) (l.getD j default).bs)
   have HB1 := hid (bnd_write HB.out fj (tmpN (l.getD j default).nm) (l.getD j default).bs)
   have hst : stg dj fj ((l.getD j default).nm, (l.getD j default).bs) = if (dj.write fj (tmpN (l.getD j default).nm) (l.getD j default).bs).1 = 0 then (dj.write fj (tmpN (l.getD j default).nm) (l.getD j default).bs).2.1.sync (dj.write fj (tmpN (l.getD j default).nm) (l.getD j default).bs).2.2 (tmpN (l.getD j default).nm) else dj.write fj (tmpN (l.getD j default).nm) (l.getD j default).bs := rfl
   have HST := hid hst
   clear hst HEL hnl
   generalize l.getD j default = z at *
   obtain ⟨znm, zpb, zcb, zbs⟩ := z
   dsimp only [FlV.bv] at *
   generalize hew : dj.write fj (tmpN znm) zbs = ew at *
   obtain ⟨e1, d1, f1⟩ := ew
   dsimp only at *
   clear hew
   have t1 : True := trivial
   have HCC : Hid (∀ W', Below wr.heap.size wr W' → W'.cell? ⟨br, or_ + j * 2, none⟩ = some (sv znm) ∧ W'.cell? ⟨br, or_ + j * 2 + 1, none⟩ = some (.slice zpb zbs.length zcb)) := hid (fun W' hb => HSC.out _ _ _ (HRI.out.below hb))
   go_wp2_with fail
   go_region_held3 (fun w' => w'.cell? ⟨br, or_ + j * 2, none⟩ = some (sv znm) ∧ w'.cell? ⟨br, or_ + j * 2 + 1, none⟩ = some (.slice zpb zbs.length zcb)) (first | exact hc6 | exact HCC.out _ (Below.refl _ _) | exact HCC.out _ (below_drewN _ _)) (first
    | (go_at_call 84; refine (HSD.out _).mono ?_; rintro e w' ⟨rfl, hw'⟩; have hw2 := hw'.symm; subst hw2)
    | (go_at_call 40; (first | refine (HWR.out _ (below_drewN _ _)).mono ?_ | refine (HWR.out _ (Below.refl _ _)).mono ?_); rintro e w6 ⟨rfl, hr6⟩; have HR6 := hid hr6; have hc6 := HSC.out _ _ _ hr6; clear hr6))
   clear t1
   obtain ⟨z2, -⟩ := HSC.out _ _ _ HR6.out
   by_cases hq : e1 = 0
   ·subst hq
    have HB2 : Hid (Bnd 990000 1000000000 d1) := hid (HB1.out.mono (by omega) (by omega))
    have HS2 := hid (HSY.out w6 d1 f1 HR6.out HG1.out HB2.out)
    have hst := HST.out
    rw [if_pos rfl] at hst
    have HG2 := hid (gd_sync HG1.out f1 (tmpN znm))
    have HB3 := hid (bnd_sync HB1.out f1 (tmpN znm))
    generalize hes : d1.sync f1 (tmpN znm) = es at *
    obtain ⟨e2, d2, f2⟩ := es
    dsimp only at *
    clear hes
    by_cases hq2 : e2 = 0
    ·subst hq2
     have hgo := HGO.out.trans (forL_go (by rw [hst]))
     rw [hst] at hgo
     have HGO2 := hid hgo
     clear hgo hst HGO
     go_wp2_with (first
      | (go_at_call 84; refine (HSD.out _).mono ?_; rintro e w' ⟨rfl, hw'⟩; have hw2 := hw'.symm; subst hw2)
      | (go_at_call 120; refine HS2.out.mono ?_; rintro e w7 ⟨rfl, hr7⟩; have HR7 := hid hr7; clear hr7))
     go_roundw
     case rel => exact ⟨j + 1, by omega, by go_num, d2, f2, HGO2.out, HR7.out, HG2.out, HB3.out.mono (by omega) (by omega)⟩
     case measure => simp [intOf]; omega
    ·have hq2' : ((e2 : Int) == 0) = false := beq_eq_false_iff_ne.2 (by omega)
     have hgo := HGO.out.trans (forL_stop (by rw [hst]; exact hq2))
     rw [hst] at hgo
     have HGO2 := hid hgo
     clear hgo hst HGO
     go_wp2_with (first
      | (go_at_call 84; refine (HSD.out _).mono ?_; rintro e w' ⟨rfl, hw'⟩; have hw2 := hw'.symm; subst hw2)
      | (go_at_call 120; refine HS2.out.mono ?_; rintro e w7 ⟨rfl, hr7⟩; have HR7 := hid hr7; clear hr7))
     go_ret
     exact HFI.out _ _ _ _ HR7.out HGO2.out
   ·have hq' : ((e1 : Int) == 0) = false := beq_eq_false_iff_ne.2 (by omega)
    have hst := HST.out
    rw [if_neg hq] at hst
    have hgo := HGO.out.trans (forL_stop (by rw [hst]; exact hq))
    rw [hst] at hgo
    have HGO2 := hid hgo
    clear hgo hst HGO
    go_wp2
    go_ret
    exact HFI.out _ _ _ _ HR6.out HGO2.out
  ·have hlt' : ¬ (j : Int) < (l.length : Int) := by omega
   have HE := hid (HFI.out dj fj wr 0 HRI.out (by rw [HRJ.out, List.drop_of_length_le (by rw [HLL.out]; omega)]; rfl))
   go_wp2
   go_ret
   exact HE.out
end Go.Proofs.YtfogkegmdgbecaaGreatDoor

/- The document's finish and drop of one drive's files. -/
namespace Go.Proofs.YtfogkegmdgbecaaGreatDoor
open Go Go.RowKit Go.Shelf

set_option maxHeartbeats 2000000 in
set_option maxRecDepth 100000 in
theorem rfinish_any {w W0 : World} {T : Nat → Prop} {k : Nat} {p : Nat → Nat} {d : Nat → Pd} {f : Fs} (h : RA w W0 T k p d f 0) {i : Nat} (hi : i < k) (r : RowV) (hr : r.ok W0 T) (hl : r.l.length ≤ 1000) (hN : ∀ x ∈ r.l, x.nm.length ≤ 1000) (hG : Gd (d i)) (hB : Bnd 900000 900000000 (d i)) :
  Calls Tryz.prog 68 #[ptr (p i), r.v] W0 fun e W' => e = .returned (.int .i64 ((forL fin r.fl (d i) f).1 : Int)) ∧ RStep w W0 T k p (upd d i (forL fin r.fl (d i) f).2.1) (forL fin r.fl (d i) f).2.2 0 W' := by
 obtain ⟨R, hR⟩ : ∃ R, forL fin r.fl (d i) f = R := ⟨_, rfl⟩
 have H0 : Hid (RLo fin w W0 T k p d i r.fl R 0 W0) := hid ⟨d i, f, by rw [← hR]; rfl, by rw [upd_id]; exact RI.start h, hG, hB⟩
 have HFI : Hid (∀ dj fj W er, RI w W0 T k p (upd d i dj) fj W → R = (er, dj, fj) → (Ending.returned (.int .i64 (er : Int)) = .returned (.int .i64 (R.1 : Int)) ∧ RStep w W0 T k p (upd d i R.2.1) R.2.2 0 W)) := hid (fun dj fj W er h e => by rw [e]; exact ⟨rfl, h.done⟩)
 have HRO := hid hr
 rw [hR]
 obtain ⟨po, rc, l⟩ := r
 dsimp only [RowV.v] at *
 have HFL : Hid ((⟨po, rc, l⟩ : RowV).fl = l.map FlV.fl) := hid rfl
 generalize hfl : (⟨po, rc, l⟩ : RowV).fl = L at *
 have hLl : L.length = l.length := by rw [HFL.out]; simp
 have HLL := hid hLl
 have HNM := hid hN
 clear hR h hr hfl hN hLl hG hB
 go_enter Tryz.func68, Tryz.ntmps68
 go_wp2
 go_loopw [5] (fun v wr => ∃ j : Nat, j ≤ l.length ∧ v = .int .i64 (j : Int) ∧ RLo fin w W0 T k p d i L R j wr) (fun v _ => (1000 - intOf v).toNat)
 case atStart => exact ⟨0, Nat.zero_le _, rfl, H0.out⟩
 case round =>
  clear H0
  obtain ⟨j, hj, rfl, hI⟩ := hrel
  obtain ⟨dj, fj, hRj, hRI, hGj, hBj⟩ := hI.ex
  have HRI := hid hRI
  have HRJ := hid hRj
  have HG := hid hGj
  have HB := hid hBj
  clear hI hRI hRj hGj hBj
  by_cases hlt : j < l.length
  ·have hlt' : (j : Int) < (l.length : Int) := by omega
   have hj2 : (j : Int) < 1000 := by omega
   have hjL : j < L.length := by rw [HLL.out]; exact hlt
   have HX : Hid (L[j] = ((l.getD j default).nm, (l.getD j default).bs)) := hid (by rw [getD_in _ _ _ hlt]; simp [HFL.out, FlV.fl])
   have HRD := HRJ.out
   rw [drop_at L j hjL, HX.out] at HRD
   have HGO := hid HRD
   clear HRD HRJ HX hjL
   obtain ⟨br, or_, hpo, z0, z1⟩ : ∃ b o, po = some ⟨b, o, none⟩ ∧ wr.cell? ⟨b, o + j * 2, none⟩ = some (sv (l.getD j default).nm) ∧ wr.cell? ⟨b, o + j * 2 + 1, none⟩ = some (l.getD j default).bv := by
    rcases (HRI.out.row HRO.out).at_ with h | ⟨b, o, h1, _, h3⟩
    ·rw [show l = [] from h] at hlt; exact absurd hlt (Nat.not_lt_zero _)
    ·exact ⟨b, o, h1, h3 j hlt⟩
   subst hpo
   have hnl := HNM.out (l.getD j default) (by rw [getD_in _ _ _ hlt]; exact List.getElem_mem hlt)
   have hb2 : Bnd 990000 1000000000 dj := HB.out.mono (by omega) (by omega)
   have HSC : Hid (∀ W dd ff, RI w W0 T k p dd ff W → W.cell? ⟨br, or_ + j * 2, none⟩ = some (sv (l.getD j default).nm) ∧ W.cell? ⟨br, or_ + j * 2 + 1, none⟩ = some (l.getD j default).bv) := hid (fun W dd ff h => by
    rcases (h.row HRO.out).at_ with h | ⟨b, o, h1, _, h3⟩
    ·rw [show l = [] from h] at hlt; exact absurd hlt (Nat.not_lt_zero _)
    ·cases h1; exact h3 j hlt)
   have HWR : Hid (∀ W', Below wr.heap.size wr W' → Calls Tryz.prog 94 #[ptr (p i), sv (tmpN (l.getD j default).nm), sv (l.getD j default).nm] W' fun e W2 => e = .returned (.int .i64 ((dj.rename fj (tmpN (l.getD j default).nm) (l.getD j default).nm).1 : Int)) ∧ RI w W0 T k p (upd d i (dj.rename fj (tmpN (l.getD j default).nm) (l.getD j default).nm).2.1) (dj.rename fj (tmpN (l.getD j default).nm) (l.getD j default).nm).2.2 W2) := hid (fun W' hb => by
    have h' := HRI.out.below hb
    have hc := h'.rename hi (by rw [upd_same]; exact hb2) (tmpN (l.getD j default).nm) (l.getD j default).nm (tmp_len _ hnl) (by unfold maxLen; omega)
    rw [upd_same, upd_upd] at hc
    exact hc)
   have HSD := hid (fun W => rstaged_any (l.getD j default).nm W hnl)
   have HG1 := hid (gd_rename HG.out fj (tmpN (l.getD j default).nm) (l.getD j default).nm)
   have HB1 := hid (bnd_rename HB.out fj (tmpN (l.getD j default).nm) (l.getD j default).nm)
   have hst : fin dj fj ((l.getD j default).nm, (l.getD j default).bs) = dj.rename fj (tmpN (l.getD j default).nm) (l.getD j default).nm := rfl
   have HST := hid hst
   clear hst hnl
   generalize l.getD j default = z at *
   obtain ⟨znm, zpb, zcb, zbs⟩ := z
   dsimp only [FlV.bv] at *
   generalize hew : dj.rename fj (tmpN znm) znm = ew at *
   obtain ⟨e1, d1, f1⟩ := ew
   dsimp only at *
   clear hew
   have t1 : True := trivial
   have HCC : Hid (∀ W', Below wr.heap.size wr W' → W'.cell? ⟨br, or_ + j * 2, none⟩ = some (sv znm) ∧ W'.cell? ⟨br, or_ + j * 2 + 1, none⟩ = some (.slice zpb zbs.length zcb)) := hid (fun W' hb => HSC.out _ _ _ (HRI.out.below hb))
   go_wp2_with fail
   go_region_held3 (fun w' => w'.cell? ⟨br, or_ + j * 2, none⟩ = some (sv znm) ∧ w'.cell? ⟨br, or_ + j * 2 + 1, none⟩ = some (.slice zpb zbs.length zcb)) (first | exact hc6 | exact HCC.out _ (Below.refl _ _) | exact HCC.out _ (below_drewN _ _)) (first
    | (go_at_call 84; refine (HSD.out _).mono ?_; rintro e w' ⟨rfl, hw'⟩; have hw2 := hw'.symm; subst hw2)
    | (go_at_call 94; (first | refine (HWR.out _ (below_drewN _ _)).mono ?_ | refine (HWR.out _ (Below.refl _ _)).mono ?_); rintro e w6 ⟨rfl, hr6⟩; have HR6 := hid hr6; have hc6 := HSC.out _ _ _ hr6; clear hr6))
   clear t1
   have hst := HST.out
   by_cases hq : e1 = 0
   ·subst hq
    have hgo := HGO.out.trans (forL_go (by rw [hst]))
    rw [hst] at hgo
    have HGO2 := hid hgo
    clear hgo hst HGO
    go_wp2
    go_roundw
    case rel => exact ⟨j + 1, by omega, by go_num, d1, f1, HGO2.out, HR6.out, HG1.out, HB1.out.mono (by omega) (by omega)⟩
    case measure => simp [intOf]; omega
   ·have hq' : ((e1 : Int) == 0) = false := beq_eq_false_iff_ne.2 (by omega)
    have hgo := HGO.out.trans (forL_stop (by rw [hst]; exact hq))
    rw [hst] at hgo
    have HGO2 := hid hgo
    clear hgo hst HGO
    go_wp2
    go_ret
    exact HFI.out _ _ _ _ HR6.out HGO2.out
  ·have hlt' : ¬ (j : Int) < (l.length : Int) := by omega
   have HE := hid (HFI.out dj fj wr 0 HRI.out (by rw [HRJ.out, List.drop_of_length_le (by rw [HLL.out]; omega)]; rfl))
   go_wp2
   go_ret
   exact HE.out
theorem delL_go {s : Nm} {r : List Nm} {d : Pd} {f : Fs} {n : Nat} (h : ¬ (d.delete f s).1 = 11) : delL (s :: r) d f n = delL r (d.delete f s).2.1 (d.delete f s).2.2 (if (d.delete f s).1 = 0 then n + 1 else n) := by rw [delL, if_neg h]
theorem delL_stop {s : Nm} {r : List Nm} {d : Pd} {f : Fs} {n : Nat} (h : (d.delete f s).1 = 11) : delL (s :: r) d f n = (true, n, (d.delete f s).2.1, (d.delete f s).2.2) := by rw [delL, if_pos h]
/-- While names are deleted of drive i. -/
structure RDl (w W0 : World) (T : Nat → Prop) (k : Nat) (p : Nat → Nat) (d : Nat → Pd) (i : Nat) (L : List Nm) (R : Bool × Nat × Pd × Fs) (j : Nat) (W : World) : Prop where
 ex : ∃ dj fj n, R = delL (L.drop j) dj fj n ∧ RI w W0 T k p (upd d i dj) fj W ∧ Gd dj ∧ Bnd (900000 + 2 * j) (900000000 + 2 * j) dj
set_option maxHeartbeats 2000000 in
set_option maxRecDepth 100000 in
theorem rdrop_any {w W0 : World} {T : Nat → Prop} {k : Nat} {p : Nat → Nat} {d : Nat → Pd} {f : Fs} (h : RA w W0 T k p d f 0) {i : Nat} (hi : i < k) (r : RowV) (hr : r.ok W0 T) (hl : r.l.length ≤ 1000) (hN : ∀ x ∈ r.l, x.nm.length ≤ 1000) (hG : Gd (d i)) (hB : Bnd 900000 900000000 (d i)) (n0 : Nat) :
  Calls Tryz.prog 67 #[ptr (p i), r.v] W0 fun e W' => e = .returned (.bool (delL (r.fl.map fun x => tmpN x.1) (d i) f n0).1) ∧ RStep w W0 T k p (upd d i (delL (r.fl.map fun x => tmpN x.1) (d i) f n0).2.2.1) (delL (r.fl.map fun x => tmpN x.1) (d i) f n0).2.2.2 0 W' := by
 obtain ⟨R, hR⟩ : ∃ R, delL (r.fl.map fun x => tmpN x.1) (d i) f n0 = R := ⟨_, rfl⟩
 have H0 : Hid (RDl w W0 T k p d i (r.fl.map fun x => tmpN x.1) R 0 W0) := hid ⟨d i, f, n0, by rw [← hR]; rfl, by rw [upd_id]; exact RI.start h, hG, hB⟩
 have HFI : Hid (∀ dj fj W (b : Bool) n, RI w W0 T k p (upd d i dj) fj W → R = (b, n, dj, fj) → (Ending.returned (.bool b) = .returned (.bool R.1) ∧ RStep w W0 T k p (upd d i R.2.2.1) R.2.2.2 0 W)) := hid (fun dj fj W b n h e => by rw [e]; exact ⟨rfl, h.done⟩)
 have HRO := hid hr
 rw [hR]
 obtain ⟨po, rc, l⟩ := r
 dsimp only [RowV.v] at *
 have HFL : Hid (((⟨po, rc, l⟩ : RowV).fl.map fun x => tmpN x.1) = l.map fun x => tmpN x.nm) := hid (by unfold RowV.fl; rw [List.map_map]; rfl)
 generalize hfl : ((⟨po, rc, l⟩ : RowV).fl.map fun x => tmpN x.1) = L at *
 have hLl : L.length = l.length := by rw [HFL.out]; simp
 have HLL := hid hLl
 have HNM := hid hN
 clear hR h hr hfl hN hLl hG hB
 go_enter Tryz.func67, Tryz.ntmps67
 go_wp2
 go_loopw [5] (fun v wr => ∃ j : Nat, j ≤ l.length ∧ v = .int .i64 (j : Int) ∧ RDl w W0 T k p d i L R j wr) (fun v _ => (1000 - intOf v).toNat)
 case atStart => exact ⟨0, Nat.zero_le _, rfl, H0.out⟩
 case round =>
  clear H0
  obtain ⟨j, hj, rfl, hI⟩ := hrel
  obtain ⟨dj, fj, n, hRj, hRI, hGj, hBj⟩ := hI.ex
  have HRI := hid hRI
  have HRJ := hid hRj
  have HG := hid hGj
  have HB := hid hBj
  clear hI hRI hRj hGj hBj
  by_cases hlt : j < l.length
  ·have hlt' : (j : Int) < (l.length : Int) := by omega
   have hj2 : (j : Int) < 1000 := by omega
   have hjL : j < L.length := by rw [HLL.out]; exact hlt
   have HX : Hid (L[j] = tmpN (l.getD j default).nm) := hid (by rw [getD_in _ _ _ hlt]; simp [HFL.out])
   have HRD := HRJ.out
   rw [List.drop_eq_getElem_cons hjL, HX.out] at HRD
   have HGO := hid HRD
   clear HRD HRJ HX hjL
   obtain ⟨br, or_, hpo, z0⟩ : ∃ b o, po = some ⟨b, o, none⟩ ∧ wr.cell? ⟨b, o + j * 2, none⟩ = some (sv (l.getD j default).nm) := by
    rcases (HRI.out.row HRO.out).at_ with h | ⟨b, o, h1, _, h3⟩
    ·rw [show l = [] from h] at hlt; exact absurd hlt (Nat.not_lt_zero _)
    ·exact ⟨b, o, h1, (h3 j hlt).1⟩
   subst hpo
   have hnl := HNM.out (l.getD j default) (by rw [getD_in _ _ _ hlt]; exact List.getElem_mem hlt)
   have hb2 : Bnd 990000 1000000000 dj := HB.out.mono (by omega) (by omega)
   have HDE : Hid (Calls Tryz.prog 81 #[ptr (p i), sv (tmpN (l.getD j default).nm)] wr fun e W2 => e = .returned (.int .i64 ((dj.delete fj (tmpN (l.getD j default).nm)).1 : Int)) ∧ RI w W0 T k p (upd d i (dj.delete fj (tmpN (l.getD j default).nm)).2.1) (dj.delete fj (tmpN (l.getD j default).nm)).2.2 W2) := hid (by
    have hc := HRI.out.delete hi (by rw [upd_same]; exact hb2) (tmpN (l.getD j default).nm) (tmp_len _ hnl)
    rw [upd_same, upd_upd] at hc
    exact hc)
   have HSD := hid (fun W => rstaged_any (l.getD j default).nm W hnl)
   have HG1 := hid (gd_delete HG.out fj (tmpN (l.getD j default).nm))
   have HB1 := hid (bnd_delete HB.out fj (tmpN (l.getD j default).nm))
   have HGA := hid (fun hh => HGO.out.trans (delL_go (r := L.drop (j + 1)) (s := tmpN (l.getD j default).nm) (d := dj) (f := fj) (n := n) hh))
   have HGS := hid (fun hh => HGO.out.trans (delL_stop (r := L.drop (j + 1)) (s := tmpN (l.getD j default).nm) (d := dj) (f := fj) (n := n) hh))
   clear HGO hnl
   generalize (l.getD j default).nm = znm at *
   generalize hew : dj.delete fj (tmpN znm) = ew at *
   obtain ⟨e1, d1, f1⟩ := ew
   dsimp only at *
   clear hew
   by_cases hq : e1 = 11
   ·subst hq
    have HGO2 := hid (HGS.out rfl)
    clear HGA HGS
    go_wp2_with (first
     | (go_at_call 84; refine (HSD.out _).mono ?_; rintro e w' ⟨rfl, hw'⟩; have hw2 := hw'.symm; subst hw2)
     | (go_at_call 81; refine HDE.out.mono ?_; rintro e w7 ⟨rfl, hr7⟩; have HR7 := hid hr7; clear hr7))
    go_ret
    exact HFI.out _ _ _ _ _ HR7.out HGO2.out
   ·have hq' : ((e1 : Int) == 11) = false := beq_eq_false_iff_ne.2 (by omega)
    have HGO2 := hid (HGA.out hq)
    clear HGA HGS
    go_wp2_with (first
     | (go_at_call 84; refine (HSD.out _).mono ?_; rintro e w' ⟨rfl, hw'⟩; have hw2 := hw'.symm; subst hw2)
     | (go_at_call 81; refine HDE.out.mono ?_; rintro e w7 ⟨rfl, hr7⟩; have HR7 := hid hr7; clear hr7))
    go_roundw
    case rel => exact ⟨j + 1, by omega, by go_num, d1, f1, _, HGO2.out, HR7.out, HG1.out, HB1.out.mono (by omega) (by omega)⟩
    case measure => simp [intOf]; omega
  ·have hlt' : ¬ (j : Int) < (l.length : Int) := by omega
   have HE := hid (HFI.out dj fj wr false n HRI.out (by rw [HRJ.out, List.drop_of_length_le (by rw [HLL.out]; omega)]; rfl))
   go_wp2
   go_ret
   exact HE.out
end Go.Proofs.YtfogkegmdgbecaaGreatDoor
