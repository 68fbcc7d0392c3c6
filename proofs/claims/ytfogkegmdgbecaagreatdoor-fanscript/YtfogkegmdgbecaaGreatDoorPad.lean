/- Texts laid into one, cut to what is needed: the remark ahead of each part says what is proved there. -/
import Derived.Test.YtfogkegmdgbecaaGreatDoorPac
/- Contracts of Delete, Sync and Rename of package drive. -/
namespace Go.Proofs.YtfogkegmdgbecaaGreatDoor
open Go Go.RowKit

section
variable {d : Pd} {f : Fs} {s t : Nm}
theorem readE_ok (h : d.readE f s = 0) : d.ans f [s] = 0 ∧ ∃ x, gget d.F s = some x := by
 unfold Pd.readE at h
 by_cases ha : d.ans f [s] = 0
 ·rw [if_neg (by simp [ha])] at h
  cases hg : gget d.F s with
  | none => rw [hg] at h; simp at h
  | some x => exact ⟨ha, x, rfl⟩
 ·rw [if_pos ha] at h; exact absurd h ha
theorem readE_not (h : d.readE f s ≠ 0) : (d.ans f [s] ≠ 0 ∧ d.readE f s = d.ans f [s]) ∨ (d.ans f [s] = 0 ∧ gget d.F s = none ∧ d.readE f s = 6) := by
 by_cases ha : d.ans f [s] = 0
 ·refine Or.inr ⟨ha, ?_⟩
  unfold Pd.readE at h ⊢
  rw [if_neg (by simp [ha])] at h ⊢
  cases hg : gget d.F s with
  | none => exact ⟨rfl, rfl⟩
  | some x => rw [hg] at h; exact absurd rfl h
 ·exact Or.inl ⟨ha, readE_bad ha⟩
theorem delete_bad (h : d.readE f s ≠ 0) : d.delete f s = (d.readE f s, d, f) := by
 unfold Pd.delete
 rcases readE_not h with ⟨h1, h2⟩ | ⟨h1, h2, h3⟩
 ·rw [if_pos h1, h2]
 ·rw [if_neg (by simp [h1]), h2, h3]
theorem delete_ok (h : d.readE f s = 0) : d.delete f s = d.chg f (gdel d.F s) := by
 obtain ⟨h1, x, h2⟩ := readE_ok h
 unfold Pd.delete; rw [if_neg (by simp [h1]), h2]
theorem sync_bad (h : d.readE f s ≠ 0) : d.sync f s = (d.readE f s, d, f) := by
 unfold Pd.sync
 rcases readE_not h with ⟨h1, h2⟩ | ⟨h1, h2, h3⟩
 ·rw [if_pos h1, h2]
 ·rw [if_neg (by simp [h1]), h2, h3]
theorem sync_ok {x : Fi} (h : d.readE f s = 0) (hx : gget d.F s = some x) : d.sync f s = d.chg f (gput d.F s (x.1, false)) := by
 unfold Pd.sync; rw [if_neg (by simp [(readE_ok h).1]), hx]
theorem ans_one (h : d.ans f [s, t] = 0) : d.ans f [s] = 0 ∧ okNm t = true := by
 unfold Pd.ans at h ⊢
 cases h1 : d.isOut f
 ·cases h2 : d.offl
  ·rw [h1, h2] at h
   cases h3 : okNm s <;> cases h4 : okNm t <;> simp [h3, h4] at h ⊢
  ·rw [h1, h2] at h; simp at h
 ·rw [h1] at h; simp at h
theorem rename_bad (h : d.ans f [s, t] ≠ 0) : d.rename f s t = (d.ans f [s, t], d, f) := by unfold Pd.rename; rw [if_pos h]
theorem rename_bad2 (h : d.ans f [s, t] = 0) (h2 : d.readE f s ≠ 0) : d.rename f s t = (d.readE f s, d, f) := by
 unfold Pd.rename; rw [if_neg (by simp [h])]
 rcases readE_not h2 with ⟨h3, _⟩ | ⟨_, h4, h5⟩
 ·exact absurd (ans_one h).1 h3
 ·rw [h4, h5]
theorem rename_ok {x : Fi} (h : d.ans f [s, t] = 0) (hx : gget d.F s = some x) : d.rename f s t = d.chg f (gput (gdel d.F s) t x) := by
 unfold Pd.rename; rw [if_neg (by simp [h]), hx]
end
section
variable {w : World} {S : Nat → Prop} {p m : Nat} {fu : Option Nat} {d : Pd} {L : List (Nm × Ent)}
theorem DrC.getE (h : DrC w S p m fu d L) {f : Fs} {s : Nm} (hr : d.readE f s = 0) : ∃ e po c, gget L s = some e ∧ findV d f L s = e ∧ e.v = .slice po e.b.length c ∧ gget d.F s = some (e.b, e.l) := by
 obtain ⟨_, x, hx⟩ := readE_ok hr
 rw [h.fs, gget_map] at hx
 cases hg : gget L s with
 | none => rw [hg] at hx; cases hx
 | some e =>
  obtain ⟨po, c, hv⟩ := own_form (h.ow _ (gget_mem hg))
  refine ⟨e, po, c, rfl, ?_, hv, ?_⟩
  ·unfold findV; rw [if_pos hr, hg]; rfl
  ·rw [h.fs, gget_map, hg]; rfl
theorem findV_bad {f : Fs} {s : Nm} (hr : d.readE f s ≠ 0) : fileOf (findV d f L s) = .agg #[.slice none 0 0, .bool false] := by
 unfold findV; rw [if_neg hr]; rfl
theorem CAt.old {w : World} {b : Nat} {cs : Array Value} {t : TypeId} (h : CAt w b cs t) (o : Obj) : CAt (w.alloc o) b cs t := h.keep (heap_alloc_old w o h.lt)
theorem CAt.made (w : World) (cs : Array Value) (t : TypeId) : CAt (w.alloc (.cells cs t)) w.heap.size cs t := at_new w _
theorem CAt.below {w w' : World} {b : Nat} {cs : Array Value} {t : TypeId} (h : CAt w b cs t) (hb : Below w.heap.size w w') : CAt w' b cs t := h.keep (hb.block b h.lt)
/-- Two boxes, and what a call leaves that only makes new blocks. -/
structure Two (w w1 : World) (S : Nat → Prop) (p m : Nat) (fu : Option Nat) (d : Pd) (L : List (Nm × Ent)) (f : Fs) (s : Nm) : Prop where
 b0 : CAt w1 w.heap.size #[ptr p] 38
 b1 : CAt w1 (w.heap.size + 1) #[sv s] 9
 dr : DrC w1 S p m fu d L
 fu : FuAt w1 S fu f
 be : Below w.heap.size w w1
theorem Two.mk1 (h : DrC w S p m fu d L) {f : Fs} (hf : FuAt w S fu f) (s : Nm) {w1 : World} (hb : Below ((w.alloc (.cells #[ptr p] 38)).alloc (.cells #[sv s] 9)).heap.size ((w.alloc (.cells #[ptr p] 38)).alloc (.cells #[sv s] 9)) w1) : Two w w1 S p m fu d L f s where
 b0 := ((CAt.made w _ _).old _).below hb
 b1 := by have := (CAt.made (w.alloc (.cells #[ptr p] 38)) #[sv s] 9).below hb; rw [size_al] at this; exact this
 dr := ((h.alloc _).alloc _).below hb
 fu := ((hf.alloc _).alloc _).below hb
 be := below_on _ _ (((Below.refl _ _).alloc (Nat.le_refl _) _).alloc (by simp only [size_al]; omega) _) hb
theorem Two.box {f : Fs} {s : Nm} {w1 w2 : World} (_h : Two w w1 S p m fu d L f s) (hf : FuAt w S fu f) {o : Obj} (ho : Only (fun b => fu = some b) (w1.alloc o) w2) {b : Nat} {cs : Array Value} {t : TypeId} (hb : w.heap.size ≤ b) (hc : CAt (w1.alloc o) b cs t) : CAt w2 b cs t :=
 hc.keep (ho.block b hc.lt fun e => by have := hf.lt b e; omega)
theorem Two.be1 {f : Fs} {s : Nm} {w1 : World} (h : Two w w1 S p m fu d L f s) (o : Obj) : Below w.heap.size w (w1.alloc o) := below_on _ _ h.be ((Below.refl _ _).alloc (Nat.le_refl _) _)
theorem Two.same {f : Fs} {s : Nm} {w1 : World} (h : Two w w1 S p m fu d L f s) (o : Obj) (x : Nat) : Done w S p fu (x, d, f) (.returned (.int .i64 (x : Int))) (w1.alloc o) :=
 ⟨rfl, S, Grows.refl _ _, ⟨m, L, h.dr.alloc o⟩, h.fu.alloc o, Only.of_below (h.be1 o)⟩
set_option maxRecDepth 100000 in
theorem delete_any (h : DrC w S p m fu d L) {f : Fs} (hf : FuAt w S fu f) (s : Nm) (hs : s.length ≤ maxLen) (ho : d.ops < 1000000000000) :
  Calls Tryz.prog 122 #[ptr p, sv s] w (Done w S p fu (d.delete f s)) := by
 have H := hid h
 have HF := hid hf
 have HFD := hid (fun (o1 o2 : Obj) => find_any ((h.alloc o1).alloc o2) ((hf.alloc o1).alloc o2) s hs)
 clear h hf
 by_cases hr : d.readE f s = 0
 ·obtain ⟨e, po, c, hg, hv, hev, hgF⟩ := H.out.getE hr
  have HV : Hid (fileOf (findV d f L s) = .agg #[.slice po e.b.length c, .bool e.l]) := hid (by rw [hv, ← hev])
  have HEQ := hid (delete_ok hr)
  generalize hkk : e.b.length = kk at HV
  clear hkk hv hev hgF
  go_enter Tryz.func122, Tryz.ntmps122
  go_wp2_with (first
   | (go_at_call 107; refine (HFD.out _ _).mono ?_; rintro e1 w1 ⟨rfl, hb1⟩; rw [hr, HV.out]; have HT := hid (Two.mk1 H.out HF.out s hb1); have c0 : w1.cell? ⟨w.heap.size, 0, none⟩ = some (ptr p) := HT.out.b0.cell 0; have l0 := HT.out.b0.lt; clear hb1)
   | (go_at_call 97; refine (change_d (HT.out.dr.alloc _) (HT.out.fu.alloc _) ho _ _ (gdel d.F s) (fun w2 hd2 ho2 hz2 => delete_did hd2 _ _ s hs (HT.out.box HF.out ho2 (Nat.le_refl _) (HT.out.b0.old _)) (HT.out.box HF.out ho2 (by omega) (HT.out.b1.old _)))).mono ?_; rintro e2 w2 ⟨rfl, hR⟩; have HR := hid hR; clear hR))
  go_ret
  rw [HEQ.out]
  exact Done.from (HT.out.be1 _) ⟨rfl, HR.out⟩
 ·have HEQ := hid (delete_bad hr)
  have HV := hid (findV_bad (L := L) hr)
  have hr' : ((d.readE f s : Nat) : Int) ≠ 0 := by omega
  generalize hx : d.readE f s = x at *
  go_enter Tryz.func122, Tryz.ntmps122
  go_wp2_with (first
   | (go_at_call 107; refine (HFD.out _ _).mono ?_; rintro e1 w1 ⟨rfl, hb1⟩; rw [hx, HV.out]; have HT := hid (Two.mk1 H.out HF.out s hb1); have c0 : w1.cell? ⟨w.heap.size, 0, none⟩ = some (ptr p) := HT.out.b0.cell 0; have l0 := HT.out.b0.lt; clear hb1))
  go_ret
  rw [HEQ.out]
  exact HT.out.same _ x
set_option maxRecDepth 100000 in
theorem sync_any (h : DrC w S p m fu d L) {f : Fs} (hf : FuAt w S fu f) (s : Nm) (hs : s.length ≤ maxLen) (ho : d.ops < 1000000000000) (hl : d.F.length < 1000000000000) :
  Calls Tryz.prog 115 #[ptr p, sv s] w (Done w S p fu (d.sync f s)) := by
 have H := hid h
 have HF := hid hf
 have HFD := hid (fun (o1 o2 : Obj) => find_any ((h.alloc o1).alloc o2) ((hf.alloc o1).alloc o2) s hs)
 have HL : Hid (L.length < 1000000000000) := hid (by rw [h.lenF]; exact hl)
 clear h hf
 by_cases hr : d.readE f s = 0
 ·obtain ⟨e, po, c, hg, hv, hev, hgF⟩ := H.out.getE hr
  have HV : Hid (fileOf (findV d f L s) = .agg #[.slice po e.b.length c, .bool e.l]) := hid (by rw [hv, ← hev])
  have HEQ := hid (sync_ok hr hgF)
  have HEV := hid hev
  clear hv hev hgF
  generalize hkk : e.b.length = kk at HV HEV
  have HKK := hid hkk
  clear hkk
  go_enter Tryz.func115, Tryz.ntmps115
  go_wp2_with (first
   | (go_at_call 107; refine (HFD.out _ _).mono ?_; rintro e1 w1 ⟨rfl, hb1⟩; rw [hr, HV.out]; have HT := hid (Two.mk1 H.out HF.out s hb1); have c0 : w1.cell? ⟨w.heap.size, 0, none⟩ = some (ptr p) := HT.out.b0.cell 0; have l0 := HT.out.b0.lt; clear hb1)
   | (go_at_call 97; refine (change_s (HT.out.dr.alloc _) (HT.out.fu.alloc _) ho _ _ _ (gput d.F s (e.b, false)) (fun w2 hd2 ho2 hz2 => sync_did hd2 _ _ _ s e hg po c (by rw [HKK.out]; exact HEV.out) HL.out (HT.out.box HF.out ho2 (Nat.le_refl _) (HT.out.b0.old _)) (HT.out.box HF.out ho2 (by omega) (HT.out.b1.old _)) (by rw [HKK.out]; exact HT.out.box HF.out ho2 HT.out.be.size (CAt.made _ _ _)))).mono ?_; rintro e2 w2 ⟨rfl, hR⟩; have HR := hid hR; clear hR))
  go_ret
  rw [HEQ.out]
  exact Done.from (HT.out.be1 _) ⟨rfl, HR.out⟩
 ·have HEQ := hid (sync_bad hr)
  have HV := hid (findV_bad (L := L) hr)
  have hr' : ((d.readE f s : Nat) : Int) ≠ 0 := by omega
  generalize hx : d.readE f s = x at *
  go_enter Tryz.func115, Tryz.ntmps115
  go_wp2_with (first
   | (go_at_call 107; refine (HFD.out _ _).mono ?_; rintro e1 w1 ⟨rfl, hb1⟩; rw [hx, HV.out]; have HT := hid (Two.mk1 H.out HF.out s hb1); have c0 : w1.cell? ⟨w.heap.size, 0, none⟩ = some (ptr p) := HT.out.b0.cell 0; have l0 := HT.out.b0.lt; clear hb1))
  go_ret
  rw [HEQ.out]
  exact HT.out.same _ x
end
end Go.Proofs.YtfogkegmdgbecaaGreatDoor

/- Contracts of Rename and Write of package drive. -/
namespace Go.Proofs.YtfogkegmdgbecaaGreatDoor
open Go Go.RowKit

section
variable {w : World} {S : Nat → Prop} {p m : Nat} {fu : Option Nat} {d : Pd} {L : List (Nm × Ent)}
/-- Three boxes, and what a call leaves that only makes new blocks. -/
structure Three (w w1 : World) (S : Nat → Prop) (p m : Nat) (fu : Option Nat) (d : Pd) (L : List (Nm × Ent)) (f : Fs) (s : Nm) (x : Value) (tx : TypeId) : Prop where
 b0 : CAt w1 w.heap.size #[ptr p] 38
 b1 : CAt w1 (w.heap.size + 1) #[sv s] 9
 b2 : CAt w1 (w.heap.size + 1 + 1) #[x] tx
 dr : DrC w1 S p m fu d L
 fu : FuAt w1 S fu f
 be : Below w.heap.size w w1
theorem below3 (w : World) (o1 o2 o3 o4 : Obj) : Below w.heap.size w ((((w.alloc o1).alloc o2).alloc o3).alloc o4) :=
 (((((Below.refl _ _).alloc (Nat.le_refl _) _).alloc (by simp only [size_al]; omega) _).alloc (by simp only [size_al]; omega) _).alloc (by simp only [size_al]; omega) _)
theorem Three.mk1 (h : DrC w S p m fu d L) {f : Fs} (hf : FuAt w S fu f) (s : Nm) (x : Value) (tx : TypeId) {o : Obj} {w1 : World}
  (hb : Below ((((w.alloc (.cells #[ptr p] 38)).alloc (.cells #[sv s] 9)).alloc (.cells #[x] tx)).alloc o).heap.size ((((w.alloc (.cells #[ptr p] 38)).alloc (.cells #[sv s] 9)).alloc (.cells #[x] tx)).alloc o) w1) : Three w w1 S p m fu d L f s x tx where
 b0 := ((((CAt.made w _ _).old _).old _).old _).below hb
 b1 := by have := (((CAt.made (w.alloc (.cells #[ptr p] 38)) #[sv s] 9).old _).old _).below hb; rw [size_al] at this; exact this
 b2 := by have := ((CAt.made ((w.alloc (.cells #[ptr p] 38)).alloc (.cells #[sv s] 9)) #[x] tx).old _).below hb; rw [size_al, size_al] at this; exact this
 dr := ((((h.alloc _).alloc _).alloc _).alloc _).below hb
 fu := ((((hf.alloc _).alloc _).alloc _).alloc _).below hb
 be := below_on _ _ (below3 w _ _ _ _) hb
theorem Three.mk0 (h : DrC w S p m fu d L) {f : Fs} (hf : FuAt w S fu f) (s : Nm) (x : Value) (tx : TypeId) (o : Obj) :
  Three w ((((w.alloc (.cells #[ptr p] 38)).alloc (.cells #[sv s] 9)).alloc (.cells #[x] tx)).alloc o) S p m fu d L f s x tx := Three.mk1 h hf s x tx (Below.refl _ _)
theorem Three.box {f : Fs} {s : Nm} {x : Value} {tx : TypeId} {w1 w2 : World} (_h : Three w w1 S p m fu d L f s x tx) (hf : FuAt w S fu f) {w3 : World} (ho : Only (fun b => fu = some b) w3 w2) {b : Nat} {cs : Array Value} {t : TypeId} (hb : w.heap.size ≤ b) (hc : CAt w3 b cs t) : CAt w2 b cs t :=
 hc.keep (ho.block b hc.lt fun e => by have := hf.lt b e; omega)
theorem Three.be1 {f : Fs} {s : Nm} {x : Value} {tx : TypeId} {w1 : World} (h : Three w w1 S p m fu d L f s x tx) (o : Obj) : Below w.heap.size w (w1.alloc o) := below_on _ _ h.be ((Below.refl _ _).alloc (Nat.le_refl _) _)
theorem Three.same1 {f : Fs} {s : Nm} {x : Value} {tx : TypeId} {w1 : World} (h : Three w w1 S p m fu d L f s x tx) (o : Obj) (y : Nat) : Done w S p fu (y, d, f) (.returned (.int .i64 (y : Int))) (w1.alloc o) :=
 ⟨rfl, S, Grows.refl _ _, ⟨m, L, h.dr.alloc o⟩, h.fu.alloc o, Only.of_below (h.be1 o)⟩
theorem Three.same {f : Fs} {s : Nm} {x : Value} {tx : TypeId} {w1 : World} (h : Three w w1 S p m fu d L f s x tx) (y : Nat) : Done w S p fu (y, d, f) (.returned (.int .i64 (y : Int))) w1 :=
 ⟨rfl, S, Grows.refl _ _, ⟨m, L, h.dr⟩, h.fu, Only.of_below h.be⟩
set_option maxRecDepth 100000 in
theorem rename_any (h : DrC w S p m fu d L) {f : Fs} (hf : FuAt w S fu f) (s t : Nm) (hs : s.length ≤ maxLen) (ht : t.length ≤ maxLen) (ho : d.ops < 1000000000000) (hl : d.F.length < 1000000000000) :
  Calls Tryz.prog 118 #[ptr p, sv s, sv t] w (Done w S p fu (d.rename f s t)) := by
 have H := hid h
 have HF := hid hf
 have HA := hid (fun (o1 o2 o3 o4 : Obj) v hv => answers_any ((((h.alloc o1).alloc o2).alloc o3).alloc o4) ((((hf.alloc o1).alloc o2).alloc o3).alloc o4) v [s, t] hv (by simp) (by simp; exact ⟨hs, ht⟩))
 have HFD := hid (fun (o1 o2 o3 o4 : Obj) => find_any ((((h.alloc o1).alloc o2).alloc o3).alloc o4) ((((hf.alloc o1).alloc o2).alloc o3).alloc o4) s hs)
 have HL : Hid (L.length < 1000000000000) := hid (by rw [h.lenF]; exact hl)
 clear h hf
 by_cases ha : d.ans f [s, t] = 0
 ·have HTO := hid (ans_one ha).2
  by_cases hr : d.readE f s = 0
  ·obtain ⟨e, po, c, hg, hv, hev, hgF⟩ := H.out.getE hr
   have HV : Hid (fileOf (findV d f L s) = .agg #[.slice po e.b.length c, .bool e.l]) := hid (by rw [hv, ← hev])
   have HEQ := hid (rename_ok ha hgF)
   have HEV := hid hev
   clear hv hev hgF
   generalize hkk : e.b.length = kk at HV HEV
   have HKK := hid hkk
   clear hkk
   go_enter Tryz.func118, Tryz.ntmps118
   go_wp2_with (first
    | (go_at_call 96; refine (HA.out _ _ _ _ _ (txt_two _ _ _ _ _ _ (by simp))).mono ?_; rintro e w' ⟨rfl, hw'⟩; rw [ha]; have hw2 := hw'.symm; subst hw2)
    | (go_at_call 107; refine (HFD.out _ _ _ _).mono ?_; rintro e1 w1 ⟨rfl, hb1⟩; rw [hr, HV.out]; have HT := hid (Three.mk1 H.out HF.out s _ _ hb1); have c0 : w1.cell? ⟨w.heap.size, 0, none⟩ = some (ptr p) := HT.out.b0.cell 0; have l0 := HT.out.b0.lt; clear hb1)
    | (go_at_call 97; refine (change_r (HT.out.dr.alloc _) (HT.out.fu.alloc _) ho _ _ _ _ (gput (gdel d.F s) t (e.b, e.l)) (fun w2 hd2 ho2 hz2 => rename_did hd2 _ _ _ _ s t HTO.out e hg po c (by rw [HKK.out]; exact HEV.out) HL.out (HT.out.box HF.out ho2 (Nat.le_refl _) (HT.out.b0.old _)) (HT.out.box HF.out ho2 (by omega) (HT.out.b1.old _)) (HT.out.box HF.out ho2 (by omega) (HT.out.b2.old _)) (by rw [HKK.out]; exact HT.out.box HF.out ho2 HT.out.be.size (CAt.made _ _ _)))).mono ?_; rintro e2 w2 ⟨rfl, hR⟩; have HR := hid hR; clear hR))
   go_ret
   rw [HEQ.out]
   exact Done.from (HT.out.be1 _) ⟨rfl, HR.out⟩
  ·have HEQ := hid (rename_bad2 ha hr)
   have HV := hid (findV_bad (L := L) hr)
   have hr' : ((d.readE f s : Nat) : Int) ≠ 0 := by omega
   generalize hx : d.readE f s = x at *
   go_enter Tryz.func118, Tryz.ntmps118
   go_wp2_with (first
    | (go_at_call 96; refine (HA.out _ _ _ _ _ (txt_two _ _ _ _ _ _ (by simp))).mono ?_; rintro e w' ⟨rfl, hw'⟩; rw [ha]; have hw2 := hw'.symm; subst hw2)
    | (go_at_call 107; refine (HFD.out _ _ _ _).mono ?_; rintro e1 w1 ⟨rfl, hb1⟩; rw [hx, HV.out]; have HT := hid (Three.mk1 H.out HF.out s _ _ hb1); have c0 : w1.cell? ⟨w.heap.size, 0, none⟩ = some (ptr p) := HT.out.b0.cell 0; have l0 := HT.out.b0.lt; clear hb1))
   go_ret
   rw [HEQ.out]
   exact HT.out.same1 _ x
 ·have HEQ := hid (rename_bad ha)
  have ha' : ((d.ans f [s, t] : Nat) : Int) ≠ 0 := by omega
  generalize hx : d.ans f [s, t] = x at *
  go_enter Tryz.func118, Tryz.ntmps118
  go_wp2_with (first
   | (go_at_call 96; refine (HA.out _ _ _ _ _ (txt_two _ _ _ _ _ _ (by simp))).mono ?_; rintro e w' ⟨rfl, hw'⟩; have hw2 := hw'.symm; subst hw2))
  go_ret
  rw [HEQ.out]
  exact (Three.mk0 H.out HF.out s (sv t) 9 _).same x
end
end Go.Proofs.YtfogkegmdgbecaaGreatDoor

/- Contract of Write of package drive. -/
namespace Go.Proofs.YtfogkegmdgbecaaGreatDoor
open Go Go.RowKit

/-- Bytes that a slice tells. -/
def BAt (w : World) (po : Option Addr) (bs : List Nat) : Prop := (po = none ∧ bs = []) ∨ ∃ a, po = some a ∧ ∀ i, i < bs.length → w.cell? (a.add i) = some (.int .u8 ((bs.getD i 0 : Nat) : Int))
theorem BAt.below {w w' : World} {po : Option Addr} {bs : List Nat} (h : BAt w po bs) (hk : ∀ a, w.cell? a ≠ none → w'.cell? a = w.cell? a) : BAt w' po bs := by
 rcases h with h | ⟨a, rfl, h⟩
 ·exact Or.inl h
 ·exact Or.inr ⟨a, rfl, fun i hi => (hk _ (by rw [h i hi]; simp)).trans (h i hi)⟩
theorem cell_lt' {w : World} {a : Addr} (h : w.cell? a ≠ none) : a.block < w.heap.size := by
 rcases Nat.lt_or_ge a.block w.heap.size with h1 | h1
 ·exact h1
 ·exact absurd (by simp [World.cell?, Array.getElem?_eq_none h1]) h
theorem BAt.keepB {w w' : World} {po : Option Addr} {bs : List Nat} (h : BAt w po bs) (hb : Below w.heap.size w w') : BAt w' po bs :=
 h.below fun a ha => World.cell?_of_block (hb.block a.block (cell_lt' ha))
/-- A copy of bytes in memory of its own. -/
def CloneAt (w : World) (bs : List Nat) (e : Ending) (w' : World) : Prop :=
 ∃ po c, e = .returned (.slice po bs.length c) ∧ w'.ownsRow w.heap.size 5 1 (.slice po bs.length c) bs.length (bs.map u8) ∧ Below w.heap.size w w'
theorem clone_any (po : Option Addr) (c : Nat) (bs : List Nat) (w : World) (h : BAt w po bs) (hn : bs.length ≤ 140737488355328) : Calls Tryz.prog 99 #[.slice po bs.length c] w (CloneAt w bs) := by
 rcases h with ⟨rfl, rfl⟩ | ⟨a, rfl, h⟩
 ·refine (Tryz.bytes_Clone_nil 0 c w).mono ?_
  rintro e w' ⟨rfl, rfl⟩
  exact ⟨none, 0, rfl, World.ownsRow_nil _ _ _ _, Below.refl _ _⟩
 ·refine (Tryz.bytes_Clone_at a bs.length c (bs.map fun (k : Nat) => (k : Int)) w (by simp) hn (fun i hi => ?_)).mono ?_
  ·rw [h i hi]; simp [List.getD, List.getElem?_eq_getElem hi]
  ·rintro e w' ⟨v, rfl, ho, _, hb⟩
   obtain ⟨po, cc, rfl⟩ := own_form ho
   refine ⟨po, cc, rfl, ?_, hb⟩
   have : (bs.map fun (k : Nat) => (k : Int)).map (Value.int .u8) = bs.map u8 := by simp [u8, Function.comp_def]
   rw [← this]; exact ho
theorem own_ge {w : World} {B e sz n : Nat} {v : Value} {xs : List Value} (h : w.ownsRow B e sz v n xs) : ∀ b, v.ownBlock = some b → B ≤ b ∧ b < w.heap.size := fun b hb => World.ownsRow.lt h b hb
theorem own_base {w : World} {B B2 e sz n : Nat} {v : Value} {xs : List Value} (h : w.ownsRow B e sz v n xs) (hB : B2 ≤ B) : w.ownsRow B2 e sz v n xs := by
 refine ⟨h.1, ?_⟩
 rcases h.2 with h2 | ⟨g, cap, cur, rfl, hb, r⟩
 ·exact Or.inl h2
 ·exact Or.inr ⟨g, cap, cur, rfl, Nat.le_trans hB hb, r⟩
section
variable {w : World} {S : Nat → Prop} {p m : Nat} {fu : Option Nat} {d : Pd} {L : List (Nm × Ent)}
/-- Behind a copy: the drive with the copy's block among its own, and the copy as a file. -/
theorem DrC.withNew (h : DrC w S p m fu d L) {bs : List Nat} (h8 : ∀ y ∈ bs, y < 256) {w1 : World} {v : Value} (ho : w1.ownsRow w.heap.size 5 1 v bs.length (bs.map u8)) (hb : Below w.heap.size w w1) (s : Nm) (l : Bool) :
  DrC w1 (grw S w w1) p m fu d L ∧ Grows w S (grw S w w1) ∧ NewE w1 (grw S w w1) p m (gdel L s) ⟨v, bs, l⟩ := by
 have h1 := h.below hb
 refine ⟨h1.wide (fun b hb => Or.inl hb) (fun b hb' => hb'.elim (h1.lt b) (·.2)), ⟨fun b hb => Or.inl hb, fun b hb => hb.imp id (·.1)⟩, ⟨own_base ho (Nat.zero_le _), h8, fun b hb' => ?_, fun x hx => ?_⟩⟩
 ·have := own_ge ho b hb'
  exact ⟨Or.inr this, fun e => by have := h.lt p h.sp; omega, fun e => by have := h.lt m h.sm; omega⟩
 ·by_cases e : x.2.v.ownBlock = none
  ·exact Or.inl e
  ·refine Or.inr fun e2 => ?_
   obtain ⟨b, hb1⟩ := Option.ne_none_iff_exists'.1 e
   have h2 := h.lt b (h.sf x (mem_del.1 hx).1 b hb1)
   rw [hb1] at e2
   have := own_ge ho b e2.symm
   omega
set_option maxRecDepth 100000 in
theorem write_did (h : DrC w S p m fu d L) (b0 b1 b2 : Nat) (s : Nm) (hs : okNm s = true) (po : Option Addr) (c : Nat) (bs : List Nat) (h8 : ∀ y ∈ bs, y < 256) (hx : BAt w po bs) (hn : bs.length ≤ 67108864) (hl : L.length < 1000000000000)
  (hu : usedOf (gdel d.F s) + bs.length ≤ d.size)
  (h0 : CAt w b0 #[ptr p] 38) (h1 : CAt w b1 #[sv s] 9) (h2 : CAt w b2 #[.slice po bs.length c] 30) :
  Calls Tryz.prog 98 #[ptr b0, ptr b1, ptr b2] w (Did w S p m fu d (gput d.F s (bs, true))) := by
 have c0 : w.cell? ⟨b0, 0, none⟩ = some (ptr p) := h0.cell 0
 have c1 : w.cell? ⟨b1, 0, none⟩ = some (sv s) := h1.cell 0
 have c2 : w.cell? ⟨b2, 0, none⟩ = some (.slice po bs.length c) := h2.cell 0
 have l0 := h0.lt
 have l1 := h1.lt
 have l2 := h2.lt
 have HN := hid (And.intro (h.box_ne h0 (by decide)) (And.intro (h.box_ne h1 (by decide)) (h.box_ne h2 (by decide))))
 have H := hid h
 have HX := hid hx
 have H8 := hid h8
 have HL := hid hl
 have HU := hid hu
 clear h h0 h1 h2 hx h8 hl hu
 go_enter Tryz.func98, Tryz.ntmps98
 go_wp2_with fail
 go_region_held3 (fun w' => w'.cell? ⟨b0, 0, none⟩ = some (ptr p) ∧ w'.cell? ⟨b1, 0, none⟩ = some (sv s) ∧ w'.cell? ⟨b2, 0, none⟩ = some (.slice po bs.length c)) (first | exact ⟨c0, c1, c2⟩ | exact ⟨(World.cell?_of_block (hb1.block b0 l0)).trans c0, (World.cell?_of_block (hb1.block b1 l1)).trans c1, (World.cell?_of_block (hb1.block b2 l2)).trans c2⟩ | exact ⟨(World.cell?_of_block (ho2.block b0 (Nat.lt_of_lt_of_le l0 hb1.size) (fun e => e.elim HN.out.1.1 HN.out.1.2))).trans ((World.cell?_of_block (hb1.block b0 l0)).trans c0), (World.cell?_of_block (ho2.block b1 (Nat.lt_of_lt_of_le l1 hb1.size) (fun e => e.elim HN.out.2.1.1 HN.out.2.1.2))).trans ((World.cell?_of_block (hb1.block b1 l1)).trans c1), (World.cell?_of_block (ho2.block b2 (Nat.lt_of_lt_of_le l2 hb1.size) (fun e => e.elim HN.out.2.2.1 HN.out.2.2.2))).trans ((World.cell?_of_block (hb1.block b2 l2)).trans c2)⟩) (first | (go_at_call 99; refine (clone_any po c bs w.drew HX.out (by omega)).mono ?_; rintro e w1 ⟨pv, cv, rfl, ho1, hb0⟩; have hb1 : Below w.heap.size w w1 := ⟨hb0.os, hb0.tape, hb0.output, hb0.size, hb0.block⟩) | (go_at_call 90; refine (put_any (H.out.withNew H8.out ho1 hb1 s true).1 s hs pv bs.length cv bs true rfl (H.out.withNew H8.out ho1 hb1 s true).2.2 HL.out HU.out).mono ?_; rintro e2 w2 ⟨rfl, hd2, ho2⟩))
 go_end0
 exact ⟨rfl, _, _, (H.out.withNew H8.out ho1 hb1 s true).2.1, hd2, (Only.of_below hb1).then ho2 (fun _ _ h => h)⟩
/-- No byte lies in a fuse. -/
theorem BAt.keepFu {w1 w2 : World} {po : Option Addr} {bs : List Nat} {f : Fs} (h : BAt w1 po bs) (hf : FuAt w1 S fu f) (ho : Only (fun b => fu = some b) w1 w2) : BAt w2 po bs := by
 rcases h with h | ⟨a, rfl, h⟩
 ·exact Or.inl h
 ·refine Or.inr ⟨a, rfl, fun i hi => ?_⟩
  have hc := h i hi
  refine (World.cell?_of_block (ho.block (a.add i).block (cell_lt' (by rw [hc]; simp)) ?_)).trans hc
  intro e
  match fu, f, hf with
  | some q, some (n, g), hf =>
   have hq : w1.heap[q]? = _ := hf.1
   have e' : (a.add i).block = q := by cases e; rfl
   unfold World.cell? at hc
   rw [e', hq] at hc
   generalize (a.add i).off = o at hc
   rcases o with _ | _ | o <;> simp at hc
theorem below_drewN (w : World) (n : Nat) : Below w.heap.size w (w.drewN n) := ⟨rfl, rfl, rfl, Nat.le_refl _, fun _ _ => rfl⟩
theorem Three.on {f : Fs} {s : Nm} {x : Value} {tx : TypeId} {w1 w2 : World} (h : Three w w1 S p m fu d L f s x tx) (hb : Below w1.heap.size w1 w2) : Three w w2 S p m fu d L f s x tx :=
 ⟨h.b0.below hb, h.b1.below hb, h.b2.below hb, h.dr.below hb, h.fu.below hb, below_on _ _ h.be hb⟩
theorem write_bad {f : Fs} {s : Nm} {bs : List Nat} (h : d.ans f [s] ≠ 0) : d.write f s bs = (d.ans f [s], d, f) := by unfold Pd.write; rw [if_pos h]
theorem write_full {f : Fs} {s : Nm} {bs : List Nat} (h : d.ans f [s] = 0) (h2 : d.full = true ∨ d.size < usedOf (gdel d.F s) + bs.length) : d.write f s bs = (8, d, f) := by
 unfold Pd.write; rw [if_neg (by simp [h]), if_pos]
 rcases h2 with h2 | h2 <;> simp [h2]
theorem write_ok {f : Fs} {s : Nm} {bs : List Nat} (h : d.ans f [s] = 0) (h2 : d.full = false) (h3 : usedOf (gdel d.F s) + bs.length ≤ d.size) : d.write f s bs = d.chg f (gput d.F s (bs, true)) := by
 unfold Pd.write; rw [if_neg (by simp [h]), if_neg]
 simp [h2]; omega
set_option maxRecDepth 100000 in
theorem write_any (h : DrC w S p m fu d L) {f : Fs} (hf : FuAt w S fu f) (s : Nm) (hs : s.length ≤ maxLen) (po : Option Addr) (c : Nat) (bs : List Nat) (h8 : ∀ y ∈ bs, y < 256) (hx : BAt w po bs) (hn : bs.length ≤ 140737488355328) (ho : d.ops < 1000000000000) (hl : d.F.length < 1000000000000) :
  Calls Tryz.prog 38 #[ptr p, sv s, .slice po bs.length c] w (Done w S p fu (d.write f s bs)) := by
 have H := hid h
 have HF := hid hf
 have HX := hid hx
 have H8 := hid h8
 have HA := hid (fun (o1 o2 o3 o4 : Obj) v hv => answers_any ((((h.alloc o1).alloc o2).alloc o3).alloc o4) ((((hf.alloc o1).alloc o2).alloc o3).alloc o4) v [s] hv (by simp) (by simpa using hs))
 have HL : Hid (L.length < 1000000000000) := hid (by rw [h.lenF]; exact hl)
 clear h hf hx h8
 by_cases ha : d.ans f [s] = 0
 ·have HOK : Hid (okNm s = true) := hid (by
    unfold Pd.ans at ha
    cases h1 : d.isOut f <;> cases h2 : d.offl <;> cases h3 : okNm s <;> simp [h1, h2, h3] at ha ⊢)
  go_enter Tryz.func38, Tryz.ntmps38
  go_wp2_with (first
   | (go_at_call 96; refine (HA.out _ _ _ _ _ (txt_one _ _ _ _ _ (by simp))).mono ?_; rintro e w' ⟨rfl, hw'⟩; rw [ha]; have hw2 := hw'.symm; subst hw2))
  have HT := hid (Three.mk0 H.out HF.out s (.slice po bs.length c) 30 (.cells #[sv s] 9))
  have HX1 := hid (HX.out.keepB (below3 w (.cells #[ptr p] 38) (.cells #[sv s] 9) (.cells #[.slice po bs.length c] 30) (.cells #[sv s] 9)))
  generalize ((((w.alloc (.cells #[ptr p] 38)).alloc (.cells #[sv s] 9)).alloc (.cells #[.slice po bs.length c] 30)).alloc (.cells #[sv s] 9)) = w4 at *
  obtain ⟨pe, ce, le, hent⟩ := H.out.entry s
  have hd := used_del H.out.srtF s
  have hus := H.out.us
  have hsz := H.out.sz
  have hlk : ∀ n, (Instr.lookup 89 (.map (some m)) (sv s) false).run Tryz.prog (w4.drewN n) = .ok (.agg #[.slice pe (lenAt d.F s) ce, .bool le]) (w4.drewN n) := fun n => by
   rw [look_len (drewN_own HT.out.dr.mp) s hs, hent]
  have hfd := run_field0 (.slice pe (lenAt d.F s) ce) le
  have e0 : w4.cell? ⟨w.heap.size, 0, none⟩ = some (ptr p) := HT.out.b0.cell 0
  have e1 : w4.cell? ⟨w.heap.size + 1, 0, none⟩ = some (sv s) := HT.out.b1.cell 0
  have d2 : w4.cell? ⟨p, 2, none⟩ = some (.map (some m)) := HT.out.dr.c.cell 2
  have d3 : w4.cell? ⟨p, 3, none⟩ = some (.int .i64 (usedOf d.F : Int)) := HT.out.dr.c.cell 3
  generalize hA : usedOf d.F = A at *
  generalize hB : lenAt d.F s = B at *
  generalize hC : usedOf (gdel d.F s) = C at *
  have HC := hid hC
  clear hA hB hC hent
  have hd' := hd.symm
  subst hd'
  refine wp_region_tail 13 (by kernel_rfl) rfl (by kernel_rfl) ?_
  dsimp only [List.take]
  repeat (go_big_quiet_step (fail))
  refine wpQuiet_nil ?_
  intro nr
  have HT := hid (HT.out.on (below_drewN w4 nr))
  have HX1 := hid (HX1.out.keepB (below_drewN w4 nr))
  clear hlk hfd e0 e1 d2 d3
  generalize w4.drewN nr = w5 at *
  go_wp2
  have e0 : w5.cell? ⟨w.heap.size, 0, none⟩ = some (ptr p) := HT.out.b0.cell 0
  have e2 : w5.cell? ⟨w.heap.size + 1 + 1, 0, none⟩ = some (.slice po bs.length c) := HT.out.b2.cell 0
  have d1 : w5.cell? ⟨p, 1, none⟩ = some (.int .i64 (d.size : Int)) := HT.out.dr.c.cell 1
  have d6 : w5.cell? ⟨p, 6, none⟩ = some (.bool d.full) := HT.out.dr.c.cell 6
  cases hfu : d.full
  ·rw [hfu] at d6
   by_cases hbig : d.size < C + bs.length
   ·have HEQ := hid (write_full (bs := bs) ha (Or.inr (by rw [HC.out]; exact hbig)))
    have hcmp : (d.size : Int) - (C : Int) < (bs.length : Int) := by omega
    refine wp_region_tail 14 (by kernel_rfl) rfl (by kernel_rfl) ?_
    dsimp only [List.take]
    repeat (go_big_quiet_step (fail))
    refine wpQuiet_nil ?_
    intro nr2
    go_wp2
    go_ret
    rw [HEQ.out]
    exact (HT.out.on (below_drewN w5 nr2)).same 8
   ·have HEQ := hid (write_ok (bs := bs) ha hfu (by rw [HC.out]; omega))
    have hcmp : ¬ (d.size : Int) - (C : Int) < (bs.length : Int) := by omega
    refine wp_region_tail 14 (by kernel_rfl) rfl (by kernel_rfl) ?_
    dsimp only [List.take]
    repeat (go_big_quiet_step (fail))
    refine wpQuiet_nil ?_
    intro nr2
    have HT := hid (HT.out.on (below_drewN w5 nr2))
    have HX1 := hid (HX1.out.keepB (below_drewN w5 nr2))
    clear e0 e2 d1 d6
    generalize w5.drewN nr2 = w6 at *
    have e0 : w6.cell? ⟨w.heap.size, 0, none⟩ = some (ptr p) := HT.out.b0.cell 0
    go_wp2_with (first
     | (go_at_call 97; refine (change_w HT.out.dr HT.out.fu ho _ _ _ (gput d.F s (bs, true)) (fun w2 hd2 ho2 hz2 => write_did hd2 _ _ _ s HOK.out po c bs H8.out (HX1.out.keepFu HT.out.fu ho2) (by omega) HL.out (by rw [HC.out]; omega) (HT.out.box HF.out ho2 (Nat.le_refl _) HT.out.b0) (HT.out.box HF.out ho2 (by omega) HT.out.b1) (HT.out.box HF.out ho2 (by omega) HT.out.b2))).mono ?_; rintro e2 w2 ⟨rfl, hR⟩; have HR := hid hR; clear hR))
    go_ret
    rw [HEQ.out]
    exact Done.from HT.out.be ⟨rfl, HR.out⟩
  ·rw [hfu] at d6
   have HEQ := hid (write_full (bs := bs) ha (Or.inl hfu))
   refine wp_region_tail 14 (by kernel_rfl) rfl (by kernel_rfl) ?_
   dsimp only [List.take]
   repeat (go_big_quiet_step (fail))
   refine wpQuiet_nil ?_
   intro nr2
   go_wp2
   go_ret
   rw [HEQ.out]
   exact (HT.out.on (below_drewN w5 nr2)).same 8
 ·have HEQ := hid (write_bad (bs := bs) ha)
  have ha' : ((d.ans f [s] : Nat) : Int) ≠ 0 := by omega
  generalize hx : d.ans f [s] = x at *
  go_enter Tryz.func38, Tryz.ntmps38
  go_wp2_with (first
   | (go_at_call 96; refine (HA.out _ _ _ _ _ (txt_one _ _ _ _ _ (by simp))).mono ?_; rintro e w' ⟨rfl, hw'⟩; have hw2 := hw'.symm; subst hw2))
  go_ret
  rw [HEQ.out]
  exact (Three.mk0 H.out HF.out s (.slice po bs.length c) 30 _).same x
end
end Go.Proofs.YtfogkegmdgbecaaGreatDoor

/- Contracts of New, Read, Up, Ops, Used, Offline and Full of package drive. -/
namespace Go.Proofs.YtfogkegmdgbecaaGreatDoor
open Go Go.RowKit

def fresh (n : Nat) : Pd := ⟨n, 0, false, false, false, []⟩
def NewAt (w : World) (n : Nat) (e : Ending) (w' : World) : Prop :=
 ∃ p, e = .returned (.tuple #[ptr p, .int .i64 0]) ∧ DrAt w' (fun b => w.heap.size ≤ b ∧ b < w'.heap.size) p none (fresh n) ∧ Below w.heap.size w w'
theorem new_ok (n : Nat) (h1 : 1 ≤ n) (h2 : n ≤ 67108864) (w : World) : Calls Tryz.prog 9 #[.int .i64 (n : Int)] w (NewAt w n) := by
 have hmm := @run_makeMap Tryz.prog
 have hbl : Below w.heap.size w ((w.alloc (.map #[] 0)).alloc (.cells #[ptr (w.heap.size + 1), .int .i64 (n : Int), .map (some w.heap.size), .int .i64 0, .int .i64 0, .bool false, .bool false, .bool false, .pointer none] 92)) := ((Below.refl _ _).alloc (Nat.le_refl _) _).alloc (by simp only [size_al]; omega) _
 have HB := hid hbl
 clear hbl
 have a1 : ¬ (n : Int) < 1 := by omega
 have a2 : ¬ 67108864 < (n : Int) := by omega
 go_enter Tryz.func9, Tryz.ntmps9
 go_wp2
 go_ret2
 refine ⟨w.heap.size + 1, rfl, ⟨w.heap.size, [], ?_⟩, HB.out⟩
 have hc := CAt.made (w.alloc (.map #[] 0)) #[ptr (w.heap.size + 1), .int .i64 (n : Int), .map (some w.heap.size), .int .i64 0, .int .i64 0, .bool false, .bool false, .bool false, .pointer none] 92
 rw [size_al] at hc
 refine { c := hc, mp := ((World.ownsMap_made w Tryz.prog 9 RF).alloc _), fs := rfl, ow := by simp, ap := List.Pairwise.nil, by8 := by simp, so := List.Pairwise.nil, nm := by simp, sp := ⟨by omega, by simp only [size_al]; omega⟩, sm := ⟨Nat.le_refl _, by simp only [size_al]; omega⟩, sf := by simp, lt := fun b h => h.2, us := Nat.zero_le _, sz := h2 }
theorem new_bad (n : Int) (h : n < 1 ∨ 67108864 < n) (w : World) : Calls Tryz.prog 9 #[.int .i64 n] w fun e w' => e = .returned (.tuple #[.pointer none, .int .i64 2]) ∧ w' = w := by
 by_cases h1 : n < 1
 ·go_enter Tryz.func9, Tryz.ntmps9
  go_wp2
  go_ret2
  exact ⟨rfl, rfl⟩
 ·have h2 : 67108864 < n := by omega
  go_enter Tryz.func9, Tryz.ntmps9
  go_wp2
  go_ret2
  exact ⟨rfl, rfl⟩
theorem own_BAt {w : World} {B n c : Nat} {po : Option Addr} {bs : List Nat} (h : w.ownsRow B 5 1 (.slice po n c) bs.length (bs.map u8)) : BAt w po bs := by
 rcases h.2 with ⟨e, h0⟩ | ⟨g, cap, cur, e, _, hg, h1, _, h3, h4⟩
 ·cases e; exact Or.inl ⟨rfl, List.eq_nil_of_length_eq_zero h0⟩
 ·cases e
  refine Or.inr ⟨_, rfl, fun i hi => ?_⟩
  have hadd : (⟨g, 0, none⟩ : Addr).add i = ⟨g, i, none⟩ := by unfold Addr.add; split <;> simp_all
  have hc : CAt w g cur 5 := hg
  rw [hadd, hc.cell]
  have := congrArg (fun l => l[i]?) h4
  simp [hi] at this
  rw [this]
  simp [u8, List.getD, List.getElem?_eq_getElem hi]
def ReadAt (w : World) (er : Nat) (bs : List Nat) (e : Ending) (w' : World) : Prop :=
 ∃ po c, e = .returned (.tuple #[.slice po bs.length c, .int .i64 (er : Int)]) ∧ w'.ownsRow w.heap.size 5 1 (.slice po bs.length c) bs.length (bs.map u8) ∧ Below w.heap.size w w'
section
variable {w : World} {S : Nat → Prop} {p m : Nat} {fu : Option Nat} {d : Pd} {L : List (Nm × Ent)}
theorem readB_ok {f : Fs} {s : Nm} {x : Fi} (h : d.readE f s = 0) (hx : gget d.F s = some x) : d.readB f s = x.1 := by
 unfold Pd.readB; rw [if_neg (by simp [(readE_ok h).1]), hx]
theorem readB_bad {f : Fs} {s : Nm} (h : d.readE f s ≠ 0) : d.readB f s = [] := by
 unfold Pd.readB
 rcases readE_not h with ⟨h1, _⟩ | ⟨h1, h2, _⟩
 ·rw [if_pos h1]
 ·rw [if_neg (by simp [h1]), h2]
set_option maxRecDepth 100000 in
theorem read_any (h : DrC w S p m fu d L) {f : Fs} (hf : FuAt w S fu f) (s : Nm) (hs : s.length ≤ maxLen) :
  Calls Tryz.prog 50 #[ptr p, sv s] w (ReadAt w (d.readE f s) (d.readB f s)) := by
 have H := hid h
 have HFD := hid (find_any h hf s hs)
 have hus := h.us
 have hsz := h.sz
 have HSR := hid h.srtF
 clear h hf
 by_cases hr : d.readE f s = 0
 ·obtain ⟨e, po, c, hg, hv, hev, hgF⟩ := H.out.getE hr
  have HV : Hid (fileOf (findV d f L s) = .agg #[.slice po e.b.length c, .bool e.l]) := hid (by rw [hv, ← hev])
  have HEQ := hid (readB_ok hr hgF)
  have hle := used_le HSR.out hgF
  simp only at hle
  have HLE := hid hle
  have HEV := hid hev
  have HOW := hid (H.out.ow _ (gget_mem hg))
  have HSF := hid (H.out.sf _ (gget_mem hg))
  clear hv hev hgF hle
  go_enter Tryz.func50, Tryz.ntmps50
  go_wp2_with (first
   | (go_at_call 107; refine HFD.out.mono ?_; rintro e1 w1 ⟨rfl, hb1⟩; rw [hr, HV.out]; have HB1 := hid hb1; have H1 := hid ((H.out.below hb1).alloc (.cells #[.slice po e.b.length c, .bool e.l] 130)); clear hb1)
   | (go_at_call 99; refine (clone_any po c e.b _ (own_BAt (c := c) (n := e.b.length) (B := 0) (by have := H1.out.ow _ (gget_mem hg); simp only at this; rw [HEV.out] at this; exact this)) (by have := HLE.out; omega)).mono ?_; rintro e2 w2 ⟨pv, cv, rfl, ho2, hb2⟩; have HO2 := hid ho2; have HB2 := hid hb2; clear ho2 hb2))
  go_ret2
  rw [hr, HEQ.out]
  have hbb := below_on _ _ HB1.out ((Below.refl w1.heap.size w1).alloc (Nat.le_refl _) (.cells #[.slice po e.b.length c, .bool e.l] 130))
  exact ⟨pv, cv, rfl, own_base HO2.out hbb.size, below_on _ _ hbb HB2.out⟩
 ·have HEQ := hid (readB_bad hr)
  have HV := hid (findV_bad (L := L) hr)
  have hr' : ((d.readE f s : Nat) : Int) ≠ 0 := by omega
  generalize hx : d.readE f s = x at *
  go_enter Tryz.func50, Tryz.ntmps50
  go_wp2_with (first
   | (go_at_call 107; refine HFD.out.mono ?_; rintro e1 w1 ⟨rfl, hb1⟩; rw [hx, HV.out]; have HB1 := hid hb1; clear hb1))
  go_ret2
  rw [HEQ.out]
  exact ⟨none, 0, rfl, World.ownsRow_nil _ _ _ _, below_on _ _ HB1.out ((Below.refl w1.heap.size w1).alloc (Nat.le_refl _) _)⟩
def Pd.up (d : Pd) (f : Fs) : Bool := !d.isOut f && !d.offl
theorem up_any (h : DrC w S p m fu d L) {f : Fs} (hf : FuAt w S fu f) : Calls Tryz.prog 48 #[ptr p] w fun e w' => e = .returned (.bool (d.up f)) ∧ w' = w := by
 have c5 : w.cell? ⟨p, 5, none⟩ = some (.bool d.offl) := h.c.cell 5
 have hmade := made_any h
 have hout := isOut_any h hf
 clear h hf
 unfold Pd.up
 cases ho : d.isOut f <;> rw [ho] at hout <;> cases hof : d.offl <;> rw [hof] at c5 <;>
 ·go_enter Tryz.func48, Tryz.ntmps48
  go_wp2_with (first
   | (go_at_call 88; refine hmade.mono ?_; rintro e w' ⟨rfl, hw'⟩; have hw2 := hw'.symm; subst hw2)
   | (go_at_call 91; refine hout.mono ?_; rintro e w' ⟨rfl, hw'⟩; have hw2 := hw'.symm; subst hw2))
  go_ret
  exact ⟨rfl, by first | rfl | trivial⟩
theorem ops_any (h : DrC w S p m fu d L) : Calls Tryz.prog 43 #[ptr p] w fun e w' => e = .returned (.int .i64 (d.ops : Int)) ∧ w' = w := by
 have c4 : w.cell? ⟨p, 4, none⟩ = some (.int .i64 (d.ops : Int)) := h.c.cell 4
 have hmade := made_any h
 clear h
 go_enter Tryz.func43, Tryz.ntmps43
 go_wp2_with (first
  | (go_at_call 88; refine hmade.mono ?_; rintro e w' ⟨rfl, hw'⟩; have hw2 := hw'.symm; subst hw2))
 go_ret
 exact ⟨rfl, by first | rfl | trivial⟩
theorem used_any (h : DrC w S p m fu d L) : Calls Tryz.prog 44 #[ptr p] w fun e w' => e = .returned (.int .i64 (usedOf d.F : Int)) ∧ w' = w := by
 have c3 : w.cell? ⟨p, 3, none⟩ = some (.int .i64 (usedOf d.F : Int)) := h.c.cell 3
 have hmade := made_any h
 clear h
 go_enter Tryz.func44, Tryz.ntmps44
 go_wp2_with (first
  | (go_at_call 88; refine hmade.mono ?_; rintro e w' ⟨rfl, hw'⟩; have hw2 := hw'.symm; subst hw2))
 go_ret
 exact ⟨rfl, by first | rfl | trivial⟩
end
end Go.Proofs.YtfogkegmdgbecaaGreatDoor
