/- Contracts of Delete, Sync and Rename of package drive. -/
import Derived.Test.YtfppmpfmafnfmaaDi
namespace Go.Proofs.Ytfppmpfmafnfmaa
open Go Go.RowKit

section
variable {d : Pd} {f : Fs} {s t : Nm}
theorem readE_ok (h : d.readE f s = 0) : d.ans f [s] = 0 ∧ ∃ x, gget d.F s = some x := by
  unfold Pd.readE at h
  by_cases ha : d.ans f [s] = 0
  · rw [if_neg (by simp [ha])] at h
    cases hg : gget d.F s with
    | none => rw [hg] at h; simp at h
    | some x => exact ⟨ha, x, rfl⟩
  · rw [if_pos ha] at h; exact absurd h ha
theorem readE_not (h : d.readE f s ≠ 0) : (d.ans f [s] ≠ 0 ∧ d.readE f s = d.ans f [s]) ∨ (d.ans f [s] = 0 ∧ gget d.F s = none ∧ d.readE f s = 6) := by
  by_cases ha : d.ans f [s] = 0
  · refine Or.inr ⟨ha, ?_⟩
    unfold Pd.readE at h ⊢
    rw [if_neg (by simp [ha])] at h ⊢
    cases hg : gget d.F s with
    | none => exact ⟨rfl, rfl⟩
    | some x => rw [hg] at h; exact absurd rfl h
  · exact Or.inl ⟨ha, readE_bad ha⟩
theorem delete_bad (h : d.readE f s ≠ 0) : d.delete f s = (d.readE f s, d, f) := by
  unfold Pd.delete
  rcases readE_not h with ⟨h1, h2⟩ | ⟨h1, h2, h3⟩
  · rw [if_pos h1, h2]
  · rw [if_neg (by simp [h1]), h2, h3]
theorem delete_ok (h : d.readE f s = 0) : d.delete f s = d.chg f (gdel d.F s) := by
  obtain ⟨h1, x, h2⟩ := readE_ok h
  unfold Pd.delete; rw [if_neg (by simp [h1]), h2]
theorem sync_bad (h : d.readE f s ≠ 0) : d.sync f s = (d.readE f s, d, f) := by
  unfold Pd.sync
  rcases readE_not h with ⟨h1, h2⟩ | ⟨h1, h2, h3⟩
  · rw [if_pos h1, h2]
  · rw [if_neg (by simp [h1]), h2, h3]
theorem sync_ok {x : Fi} (h : d.readE f s = 0) (hx : gget d.F s = some x) : d.sync f s = d.chg f (gput d.F s (x.1, false)) := by
  unfold Pd.sync; rw [if_neg (by simp [(readE_ok h).1]), hx]
theorem ans_one (h : d.ans f [s, t] = 0) : d.ans f [s] = 0 ∧ okNm t = true := by
  unfold Pd.ans at h ⊢
  cases h1 : d.isOut f
  · cases h2 : d.offl
    · rw [h1, h2] at h
      cases h3 : okNm s <;> cases h4 : okNm t <;> simp [h3, h4] at h ⊢
    · rw [h1, h2] at h; simp at h
  · rw [h1] at h; simp at h
theorem rename_bad (h : d.ans f [s, t] ≠ 0) : d.rename f s t = (d.ans f [s, t], d, f) := by unfold Pd.rename; rw [if_pos h]
theorem rename_bad2 (h : d.ans f [s, t] = 0) (h2 : d.readE f s ≠ 0) : d.rename f s t = (d.readE f s, d, f) := by
  unfold Pd.rename; rw [if_neg (by simp [h])]
  rcases readE_not h2 with ⟨h3, _⟩ | ⟨_, h4, h5⟩
  · exact absurd (ans_one h).1 h3
  · rw [h4, h5]
theorem rename_ok {x : Fi} (h : d.ans f [s, t] = 0) (hx : gget d.F s = some x) : d.rename f s t = d.chg f (gput (gdel d.F s) t x) := by
  unfold Pd.rename; rw [if_neg (by simp [h]), hx]
end
section
variable {w : World} {S : Nat → Prop} {p m : Nat} {fu : Option Nat} {d : Pd} {L : List (Nm × Ent)}
theorem DrC.getE (h : DrC w S p m fu d L) {f : Fs} {s : Nm} (hr : d.readE f s = 0) : ∃ e po c, gget L s = some e ∧ findV d f L s = e ∧ e.v = .slice po e.b.length c ∧ gget d.F s = some (e.b, e.l) := by
  obtain ⟨_, x, hx⟩ := readE_ok hr
  rw [h.fs, gget_map] at hx
  cases hg : gget L s with
  | none => rw [hg] at hx; cases hx
  | some e =>
    obtain ⟨po, c, hv⟩ := own_form (h.ow _ (gget_mem hg))
    refine ⟨e, po, c, rfl, ?_, hv, ?_⟩
    · unfold findV; rw [if_pos hr, hg]; rfl
    · rw [h.fs, gget_map, hg]; rfl
theorem findV_bad {f : Fs} {s : Nm} (hr : d.readE f s ≠ 0) : fileOf (findV d f L s) = .agg #[.slice none 0 0, .bool false] := by
  unfold findV; rw [if_neg hr]; rfl
theorem FuAt.setS {fu : Option Nat} {f : Fs} (h : FuAt w S fu f) {b : Nat} (hb : w.heap.size ≤ b) (v : Value) (i : Nat) : FuAt (w.setCell ⟨b, i, none⟩ v) S fu f :=
  h.keep fun q hq => heap_setCell_ne _ _ _ _ (by have := h.lt q hq; intro e; simp at e; omega)
theorem CAt.old {w : World} {b : Nat} {cs : Array Value} {t : TypeId} (h : CAt w b cs t) (o : Obj) : CAt (w.alloc o) b cs t := h.keep (heap_alloc_old w o h.lt)
theorem CAt.made (w : World) (cs : Array Value) (t : TypeId) : CAt (w.alloc (.cells cs t)) w.heap.size cs t := at_new w _
theorem CAt.below {w w' : World} {b : Nat} {cs : Array Value} {t : TypeId} (h : CAt w b cs t) (hb : Below w.heap.size w w') : CAt w' b cs t := h.keep (hb.block b h.lt)
/-- Two boxes, and what a call leaves that only makes new blocks. -/
structure Two (w w1 : World) (S : Nat → Prop) (p m : Nat) (fu : Option Nat) (d : Pd) (L : List (Nm × Ent)) (f : Fs) (s : Nm) : Prop where
  b0 : CAt w1 w.heap.size #[ptr p] 23
  b1 : CAt w1 (w.heap.size + 1) #[sv s] 9
  dr : DrC w1 S p m fu d L
  fu : FuAt w1 S fu f
  be : Below w.heap.size w w1
theorem Two.mk1 (h : DrC w S p m fu d L) {f : Fs} (hf : FuAt w S fu f) (s : Nm) {w1 : World} (hb : Below ((w.alloc (.cells #[ptr p] 23)).alloc (.cells #[sv s] 9)).heap.size ((w.alloc (.cells #[ptr p] 23)).alloc (.cells #[sv s] 9)) w1) : Two w w1 S p m fu d L f s where
  b0 := ((CAt.made w _ _).old _).below hb
  b1 := by have := (CAt.made (w.alloc (.cells #[ptr p] 23)) #[sv s] 9).below hb; rw [size_al] at this; exact this
  dr := ((h.alloc _).alloc _).below hb
  fu := ((hf.alloc _).alloc _).below hb
  be := below_on _ _ (((Below.refl _ _).alloc (Nat.le_refl _) _).alloc (by simp only [size_al]; omega) _) hb
theorem Two.box {f : Fs} {s : Nm} {w1 w2 : World} (_h : Two w w1 S p m fu d L f s) (hf : FuAt w S fu f) {o : Obj} (ho : Only (fun b => fu = some b) (w1.alloc o) w2) {b : Nat} {cs : Array Value} {t : TypeId} (hb : w.heap.size ≤ b) (hc : CAt (w1.alloc o) b cs t) : CAt w2 b cs t :=
  hc.keep (ho.block b hc.lt fun e => by have := hf.lt b e; omega)
theorem Two.be1 {f : Fs} {s : Nm} {w1 : World} (h : Two w w1 S p m fu d L f s) (o : Obj) : Below w.heap.size w (w1.alloc o) := below_on _ _ h.be ((Below.refl _ _).alloc (Nat.le_refl _) _)
theorem Two.same {f : Fs} {s : Nm} {w1 : World} (h : Two w w1 S p m fu d L f s) (o : Obj) (x : Nat) : Done w S p fu (x, d, f) (.returned (.int .i64 (x : Int))) (w1.alloc o) :=
  ⟨rfl, S, Grows.refl _ _, ⟨m, L, h.dr.alloc o⟩, h.fu.alloc o, Only.of_below (h.be1 o)⟩
set_option maxRecDepth 100000 in
theorem delete_any (h : DrC w S p m fu d L) {f : Fs} (hf : FuAt w S fu f) (s : Nm) (hs : s.length ≤ maxLen) (ho : d.ops < 1000000000000) :
    Calls Try.prog 26 #[ptr p, sv s] w (Done w S p fu (d.delete f s)) := by
  have H := hid h
  have HF := hid hf
  have HFD := hid (fun (o1 o2 : Obj) => find_any ((h.alloc o1).alloc o2) ((hf.alloc o1).alloc o2) s hs)
  clear h hf
  by_cases hr : d.readE f s = 0
  · obtain ⟨e, po, c, hg, hv, hev, hgF⟩ := H.out.getE hr
    have HV : Hid (fileOf (findV d f L s) = .agg #[.slice po e.b.length c, .bool e.l]) := hid (by rw [hv, ← hev])
    have HEQ := hid (delete_ok hr)
    generalize hkk : e.b.length = kk at HV
    clear hkk hv hev hgF
    go_enter Try.func26, Try.ntmps26
    go_wp2_with (first
      | (go_at_call 59; refine (HFD.out _ _).mono ?_; rintro e1 w1 ⟨rfl, hb1⟩; rw [hr, HV.out]; have HT := hid (Two.mk1 H.out HF.out s hb1); have c0 : w1.cell? ⟨w.heap.size, 0, none⟩ = some (ptr p) := HT.out.b0.cell 0; have l0 := HT.out.b0.lt; clear hb1)
      | (go_at_call 64; refine (change_d (HT.out.dr.alloc _) (HT.out.fu.alloc _) ho _ _ (gdel d.F s) (fun w2 hd2 ho2 hz2 => delete_did hd2 _ _ s hs (HT.out.box HF.out ho2 (Nat.le_refl _) (HT.out.b0.old _)) (HT.out.box HF.out ho2 (by omega) (HT.out.b1.old _)))).mono ?_; rintro e2 w2 ⟨rfl, hR⟩; have HR := hid hR; clear hR))
    go_ret
    rw [HEQ.out]
    exact Done.from (HT.out.be1 _) ⟨rfl, HR.out⟩
  · have HEQ := hid (delete_bad hr)
    have HV := hid (findV_bad (L := L) hr)
    have hr' : ((d.readE f s : Nat) : Int) ≠ 0 := by omega
    generalize hx : d.readE f s = x at *
    go_enter Try.func26, Try.ntmps26
    go_wp2_with (first
      | (go_at_call 59; refine (HFD.out _ _).mono ?_; rintro e1 w1 ⟨rfl, hb1⟩; rw [hx, HV.out]; have HT := hid (Two.mk1 H.out HF.out s hb1); have c0 : w1.cell? ⟨w.heap.size, 0, none⟩ = some (ptr p) := HT.out.b0.cell 0; have l0 := HT.out.b0.lt; clear hb1))
    go_ret
    rw [HEQ.out]
    exact HT.out.same _ x
set_option maxRecDepth 100000 in
theorem sync_any (h : DrC w S p m fu d L) {f : Fs} (hf : FuAt w S fu f) (s : Nm) (hs : s.length ≤ maxLen) (ho : d.ops < 1000000000000) (hl : d.F.length < 1000000000000) :
    Calls Try.prog 24 #[ptr p, sv s] w (Done w S p fu (d.sync f s)) := by
  have H := hid h
  have HF := hid hf
  have HFD := hid (fun (o1 o2 : Obj) => find_any ((h.alloc o1).alloc o2) ((hf.alloc o1).alloc o2) s hs)
  have HL : Hid (L.length < 1000000000000) := hid (by rw [h.lenF]; exact hl)
  clear h hf
  by_cases hr : d.readE f s = 0
  · obtain ⟨e, po, c, hg, hv, hev, hgF⟩ := H.out.getE hr
    have HV : Hid (fileOf (findV d f L s) = .agg #[.slice po e.b.length c, .bool e.l]) := hid (by rw [hv, ← hev])
    have HEQ := hid (sync_ok hr hgF)
    have HEV := hid hev
    clear hv hev hgF
    generalize hkk : e.b.length = kk at HV HEV
    have HKK := hid hkk
    clear hkk
    go_enter Try.func24, Try.ntmps24
    go_wp2_with (first
      | (go_at_call 59; refine (HFD.out _ _).mono ?_; rintro e1 w1 ⟨rfl, hb1⟩; rw [hr, HV.out]; have HT := hid (Two.mk1 H.out HF.out s hb1); have c0 : w1.cell? ⟨w.heap.size, 0, none⟩ = some (ptr p) := HT.out.b0.cell 0; have l0 := HT.out.b0.lt; clear hb1)
      | (go_at_call 64; refine (change_s (HT.out.dr.alloc _) (HT.out.fu.alloc _) ho _ _ _ (gput d.F s (e.b, false)) (fun w2 hd2 ho2 hz2 => sync_did hd2 _ _ _ s e hg po c (by rw [HKK.out]; exact HEV.out) HL.out (HT.out.box HF.out ho2 (Nat.le_refl _) (HT.out.b0.old _)) (HT.out.box HF.out ho2 (by omega) (HT.out.b1.old _)) (by rw [HKK.out]; exact HT.out.box HF.out ho2 HT.out.be.size (CAt.made _ _ _)))).mono ?_; rintro e2 w2 ⟨rfl, hR⟩; have HR := hid hR; clear hR))
    go_ret
    rw [HEQ.out]
    exact Done.from (HT.out.be1 _) ⟨rfl, HR.out⟩
  · have HEQ := hid (sync_bad hr)
    have HV := hid (findV_bad (L := L) hr)
    have hr' : ((d.readE f s : Nat) : Int) ≠ 0 := by omega
    generalize hx : d.readE f s = x at *
    go_enter Try.func24, Try.ntmps24
    go_wp2_with (first
      | (go_at_call 59; refine (HFD.out _ _).mono ?_; rintro e1 w1 ⟨rfl, hb1⟩; rw [hx, HV.out]; have HT := hid (Two.mk1 H.out HF.out s hb1); have c0 : w1.cell? ⟨w.heap.size, 0, none⟩ = some (ptr p) := HT.out.b0.cell 0; have l0 := HT.out.b0.lt; clear hb1))
    go_ret
    rw [HEQ.out]
    exact HT.out.same _ x
#print axioms delete_any
#print axioms sync_any
end
end Go.Proofs.Ytfppmpfmafnfmaa
