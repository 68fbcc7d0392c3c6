/- Contracts of Rename and Write of package drive. -/
import Derived.Test.YtfppmpfmafnfmaaDj
namespace Go.Proofs.Ytfppmpfmafnfmaa
open Go Go.RowKit

section
variable {w : World} {S : Nat → Prop} {p m : Nat} {fu : Option Nat} {d : Pd} {L : List (Nm × Ent)}
/-- Three boxes, and what a call leaves that only makes new blocks. -/
structure Three (w w1 : World) (S : Nat → Prop) (p m : Nat) (fu : Option Nat) (d : Pd) (L : List (Nm × Ent)) (f : Fs) (s : Nm) (x : Value) (tx : TypeId) : Prop where
  b0 : CAt w1 w.heap.size #[ptr p] 23
  b1 : CAt w1 (w.heap.size + 1) #[sv s] 9
  b2 : CAt w1 (w.heap.size + 1 + 1) #[x] tx
  dr : DrC w1 S p m fu d L
  fu : FuAt w1 S fu f
  be : Below w.heap.size w w1
theorem below3 (w : World) (o1 o2 o3 o4 : Obj) : Below w.heap.size w ((((w.alloc o1).alloc o2).alloc o3).alloc o4) :=
  (((((Below.refl _ _).alloc (Nat.le_refl _) _).alloc (by simp only [size_al]; omega) _).alloc (by simp only [size_al]; omega) _).alloc (by simp only [size_al]; omega) _)
theorem Three.mk1 (h : DrC w S p m fu d L) {f : Fs} (hf : FuAt w S fu f) (s : Nm) (x : Value) (tx : TypeId) {o : Obj} {w1 : World}
    (hb : Below ((((w.alloc (.cells #[ptr p] 23)).alloc (.cells #[sv s] 9)).alloc (.cells #[x] tx)).alloc o).heap.size ((((w.alloc (.cells #[ptr p] 23)).alloc (.cells #[sv s] 9)).alloc (.cells #[x] tx)).alloc o) w1) : Three w w1 S p m fu d L f s x tx where
  b0 := ((((CAt.made w _ _).old _).old _).old _).below hb
  b1 := by have := (((CAt.made (w.alloc (.cells #[ptr p] 23)) #[sv s] 9).old _).old _).below hb; rw [size_al] at this; exact this
  b2 := by have := ((CAt.made ((w.alloc (.cells #[ptr p] 23)).alloc (.cells #[sv s] 9)) #[x] tx).old _).below hb; rw [size_al, size_al] at this; exact this
  dr := ((((h.alloc _).alloc _).alloc _).alloc _).below hb
  fu := ((((hf.alloc _).alloc _).alloc _).alloc _).below hb
  be := below_on _ _ (below3 w _ _ _ _) hb
theorem Three.mk0 (h : DrC w S p m fu d L) {f : Fs} (hf : FuAt w S fu f) (s : Nm) (x : Value) (tx : TypeId) (o : Obj) :
    Three w ((((w.alloc (.cells #[ptr p] 23)).alloc (.cells #[sv s] 9)).alloc (.cells #[x] tx)).alloc o) S p m fu d L f s x tx := Three.mk1 h hf s x tx (Below.refl _ _)
theorem Three.box {f : Fs} {s : Nm} {x : Value} {tx : TypeId} {w1 w2 : World} (_h : Three w w1 S p m fu d L f s x tx) (hf : FuAt w S fu f) {w3 : World} (ho : Only (fun b => fu = some b) w3 w2) {b : Nat} {cs : Array Value} {t : TypeId} (hb : w.heap.size ≤ b) (hc : CAt w3 b cs t) : CAt w2 b cs t :=
  hc.keep (ho.block b hc.lt fun e => by have := hf.lt b e; omega)
theorem Three.be1 {f : Fs} {s : Nm} {x : Value} {tx : TypeId} {w1 : World} (h : Three w w1 S p m fu d L f s x tx) (o : Obj) : Below w.heap.size w (w1.alloc o) := below_on _ _ h.be ((Below.refl _ _).alloc (Nat.le_refl _) _)
theorem Three.same1 {f : Fs} {s : Nm} {x : Value} {tx : TypeId} {w1 : World} (h : Three w w1 S p m fu d L f s x tx) (o : Obj) (y : Nat) : Done w S p fu (y, d, f) (.returned (.int .i64 (y : Int))) (w1.alloc o) :=
  ⟨rfl, S, Grows.refl _ _, ⟨m, L, h.dr.alloc o⟩, h.fu.alloc o, Only.of_below (h.be1 o)⟩
theorem Three.same {f : Fs} {s : Nm} {x : Value} {tx : TypeId} {w1 : World} (h : Three w w1 S p m fu d L f s x tx) (y : Nat) : Done w S p fu (y, d, f) (.returned (.int .i64 (y : Int))) w1 :=
  ⟨rfl, S, Grows.refl _ _, ⟨m, L, h.dr⟩, h.fu, Only.of_below h.be⟩
set_option maxRecDepth 100000 in
theorem rename_any (h : DrC w S p m fu d L) {f : Fs} (hf : FuAt w S fu f) (s t : Nm) (hs : s.length ≤ maxLen) (ht : t.length ≤ maxLen) (ho : d.ops < 1000000000000) (hl : d.F.length < 1000000000000) :
    Calls Try.prog 25 #[ptr p, sv s, sv t] w (Done w S p fu (d.rename f s t)) := by
  have H := hid h
  have HF := hid hf
  have HA := hid (fun (o1 o2 o3 o4 : Obj) v hv => answers_any ((((h.alloc o1).alloc o2).alloc o3).alloc o4) ((((hf.alloc o1).alloc o2).alloc o3).alloc o4) v [s, t] hv (by simp) (by simp; exact ⟨hs, ht⟩))
  have HFD := hid (fun (o1 o2 o3 o4 : Obj) => find_any ((((h.alloc o1).alloc o2).alloc o3).alloc o4) ((((hf.alloc o1).alloc o2).alloc o3).alloc o4) s hs)
  have HL : Hid (L.length < 1000000000000) := hid (by rw [h.lenF]; exact hl)
  clear h hf
  by_cases ha : d.ans f [s, t] = 0
  · have HTO := hid (ans_one ha).2
    by_cases hr : d.readE f s = 0
    · obtain ⟨e, po, c, hg, hv, hev, hgF⟩ := H.out.getE hr
      have HV : Hid (fileOf (findV d f L s) = .agg #[.slice po e.b.length c, .bool e.l]) := hid (by rw [hv, ← hev])
      have HEQ := hid (rename_ok ha hgF)
      have HEV := hid hev
      clear hv hev hgF
      generalize hkk : e.b.length = kk at HV HEV
      have HKK := hid hkk
      clear hkk
      go_enter Try.func25, Try.ntmps25
      go_wp2_with (first
        | (go_at_call 60; refine (HA.out _ _ _ _ _ (txt_two _ _ _ _ _ _ (by simp))).mono ?_; rintro e w' ⟨rfl, hw'⟩; rw [ha]; have hw2 := hw'.symm; subst hw2)
        | (go_at_call 59; refine (HFD.out _ _ _ _).mono ?_; rintro e1 w1 ⟨rfl, hb1⟩; rw [hr, HV.out]; have HT := hid (Three.mk1 H.out HF.out s _ _ hb1); have c0 : w1.cell? ⟨w.heap.size, 0, none⟩ = some (ptr p) := HT.out.b0.cell 0; have l0 := HT.out.b0.lt; clear hb1)
        | (go_at_call 64; refine (change_r (HT.out.dr.alloc _) (HT.out.fu.alloc _) ho _ _ _ _ (gput (gdel d.F s) t (e.b, e.l)) (fun w2 hd2 ho2 hz2 => rename_did hd2 _ _ _ _ s t HTO.out e hg po c (by rw [HKK.out]; exact HEV.out) HL.out (HT.out.box HF.out ho2 (Nat.le_refl _) (HT.out.b0.old _)) (HT.out.box HF.out ho2 (by omega) (HT.out.b1.old _)) (HT.out.box HF.out ho2 (by omega) (HT.out.b2.old _)) (by rw [HKK.out]; exact HT.out.box HF.out ho2 HT.out.be.size (CAt.made _ _ _)))).mono ?_; rintro e2 w2 ⟨rfl, hR⟩; have HR := hid hR; clear hR))
      go_ret
      rw [HEQ.out]
      exact Done.from (HT.out.be1 _) ⟨rfl, HR.out⟩
    · have HEQ := hid (rename_bad2 ha hr)
      have HV := hid (findV_bad (L := L) hr)
      have hr' : ((d.readE f s : Nat) : Int) ≠ 0 := by omega
      generalize hx : d.readE f s = x at *
      go_enter Try.func25, Try.ntmps25
      go_wp2_with (first
        | (go_at_call 60; refine (HA.out _ _ _ _ _ (txt_two _ _ _ _ _ _ (by simp))).mono ?_; rintro e w' ⟨rfl, hw'⟩; rw [ha]; have hw2 := hw'.symm; subst hw2)
        | (go_at_call 59; refine (HFD.out _ _ _ _).mono ?_; rintro e1 w1 ⟨rfl, hb1⟩; rw [hx, HV.out]; have HT := hid (Three.mk1 H.out HF.out s _ _ hb1); have c0 : w1.cell? ⟨w.heap.size, 0, none⟩ = some (ptr p) := HT.out.b0.cell 0; have l0 := HT.out.b0.lt; clear hb1))
      go_ret
      rw [HEQ.out]
      exact HT.out.same1 _ x
  · have HEQ := hid (rename_bad ha)
    have ha' : ((d.ans f [s, t] : Nat) : Int) ≠ 0 := by omega
    generalize hx : d.ans f [s, t] = x at *
    go_enter Try.func25, Try.ntmps25
    go_wp2_with (first
      | (go_at_call 60; refine (HA.out _ _ _ _ _ (txt_two _ _ _ _ _ _ (by simp))).mono ?_; rintro e w' ⟨rfl, hw'⟩; have hw2 := hw'.symm; subst hw2))
    go_ret
    rw [HEQ.out]
    exact (Three.mk0 H.out HF.out s (sv t) 9 _).same x
#print axioms rename_any
end
end Go.Proofs.Ytfppmpfmafnfmaa
