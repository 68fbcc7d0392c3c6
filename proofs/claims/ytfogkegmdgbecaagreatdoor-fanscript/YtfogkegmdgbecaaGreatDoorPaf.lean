/- Texts laid into one, cut to what is needed: the remark ahead of each part says what is proved there. -/
import Derived.Test.YtfogkegmdgbecaaGreatDoorPae
import Derived.Laws.BytesArg
import Derived.Laws.BytesString
import Derived.Deep.Grids
import Derived.ChangeArms
/- Contracts of Offline, Full and Crash of package drive. -/
namespace Go.Proofs.YtfogkegmdgbecaaGreatDoor
open Go Go.RowKit

section
variable {w : World} {S : Nat → Prop} {p m : Nat} {fu : Option Nat} {d : Pd} {L : List (Nm × Ent)}
theorem DrC.setC (h : DrC w S p m fu d L) (i : Nat) (v : Value) {d2 : Pd} {fu2 : Option Nat} (hc : (dcells p m fu d (usedOf d.F : Int)).setIfInBounds i v = dcells p m fu2 d2 (usedOf d2.F : Int)) (hF : d2.F = d.F) (hz : d2.size = d.size) :
  DrC (w.setCell ⟨p, i, none⟩ v) S p m fu2 d2 L :=
 h.turned (d2 := d2) (by have := h.c.set i v; rw [hc] at this; exact this) (h.mp.setCell (Ne.symm h.pm) _) (fun _ _ h1 _ => heap_setCell_ne _ _ _ _ h1) (Nat.le_of_eq (setCell_size _ _ _).symm) (hF.trans h.fs) h.so (fun x hx => ⟨h.nm x hx, Or.inl ⟨x, hx, rfl, rfl⟩⟩) h.ap (by rw [hF, hz]; exact h.us) hz
/-- What a call leaves that sets the drive's own cells alone. -/
def SetAt (w : World) (S : Nat → Prop) (p m : Nat) (fu : Option Nat) (d : Pd) (L : List (Nm × Ent)) (e : Ending) (w' : World) : Prop :=
 e = .returned (.int .i64 0) ∧ DrC w' S p m fu d L ∧ Only (fun b => b = p) w w' ∧ w'.heap.size = w.heap.size
theorem offline_any (h : DrC w S p m fu d L) (b : Bool) : Calls Tryz.prog 34 #[ptr p, .bool b] w (SetAt w S p m fu { d with offl := b } L) := by
 have c5 : w.cell? ⟨p, 5, none⟩ = some (.bool d.offl) := h.c.cell 5
 have z5 : w.frozen? ⟨p, 5, none⟩ = false := h.c.free 5
 have hmade := made_any h
 have H := hid (h.setC 5 (.bool b) (d2 := { d with offl := b }) (fu2 := fu) rfl rfl rfl)
 clear h
 go_enter Tryz.func34, Tryz.ntmps34
 go_wp2_with (go_at_call 88; refine hmade.mono ?_; rintro e w' ⟨rfl, hw'⟩; have hw2 := hw'.symm; subst hw2)
 go_ret
 exact ⟨rfl, H.out, Only.set (S := fun b => b = p) _ _ _ rfl, setCell_size _ _ _⟩
theorem full_any (h : DrC w S p m fu d L) (b : Bool) : Calls Tryz.prog 35 #[ptr p, .bool b] w (SetAt w S p m fu { d with full := b } L) := by
 have c6 : w.cell? ⟨p, 6, none⟩ = some (.bool d.full) := h.c.cell 6
 have z6 : w.frozen? ⟨p, 6, none⟩ = false := h.c.free 6
 have hmade := made_any h
 have H := hid (h.setC 6 (.bool b) (d2 := { d with full := b }) (fu2 := fu) rfl rfl rfl)
 clear h
 go_enter Tryz.func35, Tryz.ntmps35
 go_wp2_with (go_at_call 88; refine hmade.mono ?_; rintro e w' ⟨rfl, hw'⟩; have hw2 := hw'.symm; subst hw2)
 go_ret
 exact ⟨rfl, H.out, Only.set (S := fun b => b = p) _ _ _ rfl, setCell_size _ _ _⟩
/-- Bools that a slice tells, whose memory is not in S. -/
def KAt (w : World) (S : Nat → Prop) (po : Option Addr) (ks : List Bool) : Prop := ks = [] ∨ ∃ b o, po = some ⟨b, o, none⟩ ∧ ¬ S b ∧ ∀ i, i < ks.length → w.cell? ⟨b, o + i, none⟩ = some (.bool (ks.getD i false))
theorem KAt.only {w' : World} {T : Nat → Prop} {po : Option Addr} {ks : List Bool} (h : KAt w S po ks) (ho : Only T w w') (hT : ∀ b, b < w.heap.size → T b → S b) : KAt w' S po ks := by
 rcases h with h | ⟨b, o, rfl, hn, h⟩
 ·exact Or.inl h
 ·refine Or.inr ⟨b, o, rfl, hn, fun i hi => ?_⟩
  have hc := h i hi
  have hl : b < w.heap.size := cell_lt' (a := ⟨b, o + i, none⟩) (by rw [hc]; simp)
  exact (World.cell?_of_block (ho.block b hl (fun ht => hn (hT _ hl ht)))).trans hc
theorem kat_at {b o : Nat} {ks : List Bool} {k : Bool} (h : KAt w S (some ⟨b, o, none⟩) ks) {i : Nat} (hi : i < ks.length) (hk : ks.getD i false = k) : w.cell? ⟨b, o + i, none⟩ = some (.bool k) := by
 rcases h with h | ⟨b', o', e, _, h⟩
 ·rw [h] at hi; simp at hi
 ·cases e; rw [← hk]; exact h i hi
structure CrI (w wr : World) (S : Nat → Prop) (p m : Nat) (fu : Option Nat) (d : Pd) (ks : List Bool) (v : Value) (i : Nat) (L : List (Nm × Ent)) : Prop where
 dr : DrC wr S p m fu { d with F := crashI d.F ks i } L
 tx : TxtL w.heap.size wr v (looseN d.F)
 on : Only (fun b => b = p ∨ b = m) w wr
theorem CrI.next {wr w4 : World} {ks : List Bool} {v : Value} {i : Nat} {L L2 : List (Nm × Ent)} (h : CrI w wr S p m fu d ks v i L) (ho : Only (fun b => b = p ∨ b = m) wr w4) (hd : DrC w4 S p m fu { d with F := crashI d.F ks (i + 1) } L2) (hp : p < w.heap.size) (hm : m < w.heap.size) : CrI w w4 S p m fu d ks v (i + 1) L2 :=
 ⟨hd, h.tx.keep fun b hb => ho.block b (own_ge h.tx b hb).2 (fun e => by have := (own_ge h.tx b hb).1; rcases e with rfl | rfl <;> omega), h.on.then ho (fun _ _ h => h)⟩
theorem crOne_true {F : List (Nm × Fi)} {s : Nm} {x : Fi} (h : gget F s = some x) : crOne F s true = gput (gdel F s) s (x.1, false) := by unfold crOne; rw [h]; rfl
theorem looseN_ok (h : DrC w S p m fu d L) {s : Nm} (hs : s ∈ looseN d.F) : okNm s = true := by
 unfold looseN namesOf at hs
 obtain ⟨x, hx, rfl⟩ := List.mem_map.1 hs
 have hx := (List.mem_filter.1 hx).1
 rw [h.fs] at hx
 obtain ⟨y, hy, rfl⟩ := List.mem_map.1 hx
 exact h.nm y hy
set_option maxHeartbeats 1000000 in
set_option maxRecDepth 100000 in
theorem crash_any (h : DrC w S p m fu d L) (po : Option Addr) (c : Nat) (ks : List Bool) (hk : KAt w S po ks) (hkn : ks.length ≤ 1000000000) (hl : d.F.length < 1000000000000) :
  Calls Tryz.prog 27 #[ptr p, .slice po ks.length c] w fun e w' => e = .returned (.int .i64 0) ∧ DrAt w' S p none (d.crash ks) ∧ Only (fun b => b = p ∨ b = m) w w' := by
 have hmade := made_any h
 have HL := hid (loose_any h hl)
 have HLN := hid hl
 have H := hid h
 have HK := hid hk
 have HSF := hid h.srtF
 have hlp := h.lt p h.sp
 have hlm := h.lt m h.sm
 clear h hk hl
 go_enter Tryz.func27, Tryz.ntmps27
 go_wp2_with (first
  | (go_at_call 88; refine hmade.mono ?_; rintro e w' ⟨rfl, hw'⟩; have hw2 := hw'.symm; subst hw2)
  | (go_at_call 46; refine HL.out.mono ?_; rintro e w1 ⟨pv, cv, rfl, htx, hb⟩; have HI0 : Hid (CrI w w1 S p m fu d ks (.slice pv d.loose.length cv) 0 L) := hid ⟨by rw [crashI_zero]; exact H.out.below hb, htx, Only.of_below hb⟩; clear htx hb))
 have HNL : Hid (d.loose = looseN d.F) := hid rfl
 rw [HNL.out] at HI0 ⊢
 have hnl : (looseN d.F).length ≤ d.F.length := by unfold looseN namesOf; rw [List.length_map]; exact List.length_filter_le _ _
 have hnl2 : (looseN d.F).length < 1000000000000 := by have := HLN.out; omega
 clear hnl HNL
 go_loopw [14] (fun v wr => ∃ i : Nat, i ≤ (looseN d.F).length ∧ v = .int .i64 (i : Int) ∧ ∃ Li, CrI w wr S p m fu d ks (.slice pv (looseN d.F).length cv) i Li) (fun v _ => ((looseN d.F).length - intOf v).toNat)
 case atStart => exact ⟨0, by omega, rfl, L, HI0.out⟩
 case round =>
  obtain ⟨i, hi, rfl, Li, hI⟩ := hrel
  have HI := hid hI
  clear hI HI0
  by_cases hlt : i < (looseN d.F).length
  ·have hlt' : (i : Int) < ((looseN d.F).length : Int) := by omega
   obtain ⟨x, hx⟩ := crash_get HSF.out ks i hlt
   have hstep := crash_step HSF.out ks i hlt
   have hsok : okNm ((looseN d.F).getD i []) = true := looseN_ok H.out (by rw [getD_in _ _ _ hlt]; exact List.getElem_mem hlt)
   have htx := HI.out.tx.at
   rcases htx with ⟨h0, _⟩ | ⟨g, cg, hv, hcell⟩
   ·rw [h0] at hlt; simp at hlt
   obtain ⟨rfl, rfl⟩ : pv = some ⟨g, 0, none⟩ ∧ cv = cg := by cases hv; exact ⟨rfl, rfl⟩
   have ci := hcell i hlt
   clear hv hcell
   generalize hsn : (looseN d.F).getD i [] = s at *
   have HSN := hid hsn
   have HX := hid hx
   have HST := hid hstep
   have HSOK := hid hsok
   have hsm : s.length ≤ maxLen := by have := ok_len hsok; unfold maxLen; omega
   clear hsn hx hstep hsok
   have hge : ∃ e pe ce, gget Li s = some e ∧ e.v = .slice pe e.b.length ce ∧ x = (e.b, e.l) := by
    have h1 := HX.out
    have h2 := HI.out.dr.fs
    simp only at h2
    rw [h2, gget_map] at h1
    cases hg : gget Li s with
    | none => rw [hg] at h1; cases h1
    | some e =>
     rw [hg] at h1
     obtain ⟨pe, ce, hv⟩ := own_form (HI.out.dr.ow _ (gget_mem hg))
     exact ⟨e, pe, ce, rfl, hv, by cases h1; rfl⟩
   obtain ⟨e, pe, ce, hg, hev, rfl⟩ := hge
   have HEV := hid hev
   have hbl := used_le (by have := HI.out.dr.srtF; exact this) HX.out
   clear hev hbl
   have HDA := hid (HI.out.dr.alloc (.cells #[.slice pe e.b.length ce, .bool e.l] 130))
   have HTK := hid (take_any HDA.out s hsm)
   have d2 : wr.cell? ⟨p, 2, none⟩ = some (.map (some m)) := HI.out.dr.c.cell 2
   have hsub : (gdel (crashI d.F ks i) s).length < 1000000000000 := by have := len_del (crashI d.F ks i) s; have := crash_len d.F ks i; have := HLN.out; omega
   cases hkb : ks.getD i false
   ·rw [hkb] at HST
    by_cases hik : i < ks.length
    ·have hik' : (i : Int) < (ks.length : Int) := by omega
     have HK2 := hid (HK.out.only HI.out.on (fun b _ hb => hb.elim (fun e => e ▸ H.out.sp) (fun e => e ▸ H.out.sm)))
     rcases HK.out with h0 | ⟨bk, ok, hpo, hnb, _⟩
     ·rw [h0] at hik; simp at hik
     subst hpo
     go_wp2_with (first
      | (at_lookup; refine wpList_look _ rfl _ _ false rfl HI.out.dr.mp hsm rfl rfl (r := .agg #[.slice pe e.b.length ce, .bool e.l]) (by rw [hg, ← HEV.out]; rfl) ?_)
      | (go_at_call 89; refine HTK.out.mono ?_; rintro e1 w2 ⟨rfl, hd2, ho2, hz2⟩; have HD2 := hid hd2; have HO2 := hid ho2
         have ckk : w2.cell? ⟨bk, ok + i, none⟩ = some (.bool false) := kat_at (HK2.out.only ((Only.alloc wr _).then ho2 (fun _ _ h => h)) (fun b _ hb => hb.elim (fun e => e ▸ H.out.sp) (fun e => e ▸ H.out.sm))) hik hkb
         clear hd2 ho2 hz2))
     go_roundw
     case rel =>
      refine ⟨i + 1, by omega, by go_num, _, HI.out.next ((Only.alloc wr _).then HO2.out (fun _ _ h => h)) (by rw [HST.out]; exact HD2.out) hlp hlm⟩
     case measure => simp [intOf]; omega
    ·have hik' : ¬ (i : Int) < (ks.length : Int) := by omega
     go_wp2_with (first
      | (at_lookup; refine wpList_look _ rfl _ _ false rfl HI.out.dr.mp hsm rfl rfl (r := .agg #[.slice pe e.b.length ce, .bool e.l]) (by rw [hg, ← HEV.out]; rfl) ?_)
      | (go_at_call 89; refine HTK.out.mono ?_; rintro e1 w2 ⟨rfl, hd2, ho2, hz2⟩; have HD2 := hid hd2; have HO2 := hid ho2; clear hd2 ho2 hz2))
     go_roundw
     case rel =>
      refine ⟨i + 1, by omega, by go_num, _, HI.out.next ((Only.alloc wr _).then HO2.out (fun _ _ h => h)) (by rw [HST.out]; exact HD2.out) hlp hlm⟩
     case measure => simp [intOf]; omega
   ·rw [hkb, crOne_true HX.out] at HST
    have hik : i < ks.length := by
     rcases Nat.lt_or_ge i ks.length with h | h
     ·exact h
     ·rw [List.getD_eq_getElem?_getD, List.getElem?_eq_none h] at hkb; cases hkb
    have hik' : (i : Int) < (ks.length : Int) := by omega
    have HK2 := hid (HK.out.only HI.out.on (fun b _ hb => hb.elim (fun e => e ▸ H.out.sp) (fun e => e ▸ H.out.sm)))
    rcases HK.out with h0 | ⟨bk, ok, hpo, hnb, _⟩
    ·rw [h0] at hik; simp at hik
    subst hpo
    have hltS : ∀ b, S b → b < wr.heap.size := HI.out.dr.lt
    go_wp2_with (first
     | (at_lookup; refine wpList_look _ rfl _ _ false rfl HI.out.dr.mp hsm rfl rfl (r := .agg #[.slice pe e.b.length ce, .bool e.l]) (by rw [hg, ← HEV.out]; rfl) ?_)
     | (go_at_call 89; refine HTK.out.mono ?_; rintro e1 w2 ⟨rfl, hd2, ho2, hz2⟩; have HD2 := hid hd2; have HO2 := hid ho2
        have ckk : w2.cell? ⟨bk, ok + i, none⟩ = some (.bool true) := kat_at (HK2.out.only ((Only.alloc wr _).then ho2 (fun _ _ h => h)) (fun b _ hb => hb.elim (fun e => e ▸ H.out.sp) (fun e => e ▸ H.out.sm))) hik hkb
        have hbx : CAt w2 wr.heap.size #[.slice pe e.b.length ce, .bool e.l] 130 := (CAt.made wr _ _).keep (ho2.block _ (by rw [size_al]; omega) (fun h => by have := hltS p H.out.sp; have := hltS m H.out.sm; rcases h with h | h <;> omega))
        have x0 : w2.cell? ⟨wr.heap.size, 0, none⟩ = some (.slice pe e.b.length ce) := hbx.cell 0
        have x1 : w2.cell? ⟨wr.heap.size, 1, none⟩ = some (.bool e.l) := hbx.cell 1
        have y1 : w2.frozen? ⟨wr.heap.size, 1, none⟩ = false := hbx.free 1
        have hk3 : ∀ b, S b → (w2.setCell ⟨wr.heap.size, 1, none⟩ (.bool false)).heap[b]? = w2.heap[b]? := fun b hb => heap_setCell_ne _ _ _ _ (by have := hltS b hb; intro e; simp at e; omega)
        have HD3 := hid (hd2.keep (w' := w2.setCell ⟨wr.heap.size, 1, none⟩ (.bool false)) (Nat.le_of_eq (setCell_size _ _ _).symm) hk3)
        have hn := HDA.out.newOf hg false
        rw [HEV.out] at hn
        have hne : NewE (w2.setCell ⟨wr.heap.size, 1, none⟩ (.bool false)) S p m (gdel (gdel Li s) s) ⟨.slice pe e.b.length ce, e.b, false⟩ :=
         ⟨ownsRow_keep hn.ow fun b hb => (hk3 b (hn.sf b hb).1).trans (ho2.block b (HDA.out.lt b (hn.sf b hb).1) (fun e => e.elim (hn.sf b hb).2.1 (hn.sf b hb).2.2)), hn.by8, hn.sf, fun y hy => hn.ap y (mem_del.1 hy).1⟩
        have HP := hid (put_any HD3.out s HSOK.out pe e.b.length ce e.b false rfl hne (by rw [HD3.out.lenF]; exact hsub) (by
         show usedOf (gdel (gdel (crashI d.F ks i) s) s) + e.b.length ≤ d.size
         have h1 := HI.out.dr.used_at hg
         have h2 := used_del (HI.out.dr.srtF.del s) s
         have h3 := HI.out.dr.us
         simp only at h1 h2 h3
         omega))
        have HOT := hid (((Only.alloc wr (.cells #[.slice pe e.b.length ce, .bool e.l] 130)).then ho2 (fun _ _ h => h)).then (Only.set (S := fun b => b = wr.heap.size) w2 ⟨wr.heap.size, 1, none⟩ (.bool false) rfl) (fun j hj e => by omega))
        clear hd2 ho2 hz2 hbx hk3 hn hne)
     | (go_at_call 90; refine HP.out.mono ?_; rintro e2 w4 ⟨rfl, hd4, ho4⟩; have HD4 := hid hd4; have HO4 := hid ho4; clear hd4 ho4))
    go_roundw
    case rel =>
     refine ⟨i + 1, by omega, by go_num, _, HI.out.next (HOT.out.then HO4.out (fun _ _ h => h)) (by rw [HST.out]; exact HD4.out) hlp hlm⟩
    case measure => simp [intOf]; omega
  ·have hlt' : ¬ (i : Int) < ((looseN d.F).length : Int) := by omega
   obtain rfl : i = (looseN d.F).length := by omega
   have c7 : wr.cell? ⟨p, 7, none⟩ = some (.bool d.out) := HI.out.dr.c.cell 7
   have c8 : wr.cell? ⟨p, 8, none⟩ = some (fuV fu) := HI.out.dr.c.cell 8
   have z7 : wr.frozen? ⟨p, 7, none⟩ = false := HI.out.dr.c.free 7
   have z8 : wr.frozen? ⟨p, 8, none⟩ = false := HI.out.dr.c.free 8
   go_wp2
   go_ret
   have h1 := HI.out.dr.setC 7 (.bool false) (d2 := d.crash ks) (fu2 := fu) rfl rfl rfl
   have h2 := h1.setC 8 (.pointer none) (d2 := d.crash ks) (fu2 := none) rfl rfl rfl
   exact ⟨rfl, ⟨m, _, h2⟩, (HI.out.on.then (Only.set (S := fun b => b = p ∨ b = m) wr ⟨p, 7, none⟩ _ (Or.inl rfl)) (fun _ _ h => h)).then (Only.set (S := fun b => b = p ∨ b = m) _ ⟨p, 8, none⟩ _ (Or.inl rfl)) (fun _ _ h => h)⟩
end
end Go.Proofs.YtfogkegmdgbecaaGreatDoor

/- Contract of Clone of package drive. -/
namespace Go.Proofs.YtfogkegmdgbecaaGreatDoor
open Go Go.RowKit

structure ClI (w wr : World) (m : Nat) (fu : Option Nat) (d : Pd) (L : List (Nm × Ent)) (left : Lit → Bool) (cnt : Nat) (Lc : List (Nm × Ent)) : Prop where
 rg : wr.ranges Tryz.prog 9 RF m (w.heap.size + 1 + 1) L.length (mapD L) left cnt
 c : CAt wr w.heap.size (dcells w.heap.size (w.heap.size + 1) fu d (usedOf d.F : Int)) 92
 mp : wr.ownsMap Tryz.prog 9 RF (w.heap.size + 1) Lc.length (mapD Lc)
 so : Srt Lc
 get : ∀ x, (gget Lc x).map Ent.fi = if left (.string x) then none else (gget L x).map Ent.fi
 ow : ∀ y ∈ Lc, wr.ownsRow w.heap.size 5 1 y.2.v y.2.b.length (y.2.b.map u8)
 ap : Lc.Pairwise fun x y => x.2.v.ownBlock = none ∨ x.2.v.ownBlock ≠ y.2.v.ownBlock
 be : Below w.heap.size w wr
section
variable {w wr : World} {m : Nat} {fu : Option Nat} {d : Pd} {L : List (Nm × Ent)} {left : Lit → Bool} {cnt : Nat} {Lc : List (Nm × Ent)}
theorem ClI.sub (h : ClI w wr m fu d L left cnt Lc) {x : Nm} {e : Ent} (hx : (x, e) ∈ Lc) : ∃ e0, (x, e0) ∈ L ∧ e0.fi = e.fi := by
 have h1 := h.get x
 rw [gget_of_mem h.so hx] at h1
 split at h1
 ·cases h1
 ·cases hg : gget L x with
  | none => rw [hg] at h1; cases h1
  | some e0 => rw [hg] at h1; exact ⟨e0, gget_mem hg, (Option.some.inj h1).symm⟩
theorem ClI.len (h : ClI w wr m fu d L left cnt Lc) : Lc.length ≤ L.length := by
 have h1 : (Lc.map (·.1)).Nodup := List.pairwise_map.2 h.so.apart
 have h2 : Lc.map (·.1) ⊆ L.map (·.1) := fun x hx => by
  obtain ⟨y, hy, rfl⟩ := List.mem_map.1 hx
  obtain ⟨e0, he, _⟩ := h.sub hy
  exact List.mem_map.2 ⟨_, he, rfl⟩
 have := h1.length_le_of_subset h2
 simpa using this
theorem ClI.all (h : ClI w wr m fu d L left cnt Lc) (hs : Srt L) (hl : ∀ k, left k = false) : gmap Ent.fi Lc = gmap Ent.fi L := by
 refine srt_ext (h.so.map _) (hs.map _) fun x => ?_
 rw [gget_map, gget_map, h.get x, hl]; rfl
/-- A row of bytes is neither the copy's block, nor its map's, nor the iterator's. -/
theorem ClI.row_ne (h : ClI w wr m fu d L left cnt Lc) {B n : Nat} {v : Value} {xs : List Value} (ho : wr.ownsRow B 5 1 v n xs) : ∀ b, v.ownBlock = some b → b ≠ w.heap.size ∧ b ≠ w.heap.size + 1 ∧ b ≠ w.heap.size + 1 + 1 := by
 intro b hb
 have hc : ∃ cur, wr.heap[b]? = some (.cells cur 5) := by
  rcases ho.2 with ⟨e, _⟩ | ⟨g, cap, cur, e, _, hg, _⟩
  ·rw [e] at hb; simp [Value.ownBlock] at hb
  ·rw [e] at hb; simp [Value.ownBlock] at hb; subst hb; exact ⟨cur, hg⟩
 obtain ⟨cur, hc⟩ := hc
 obtain ⟨es, clock, hm⟩ := ownsMap_at h.mp
 refine ⟨fun e => ?_, fun e => ?_, fun e => ?_⟩
 ·have h1 : wr.heap[w.heap.size]? = _ := h.c
  rw [e, h1] at hc
  have ht := (Obj.cells.inj (Option.some.inj hc)).2.1
  revert ht; decide
 ·rw [e, hm] at hc; cases hc
 ·exact row_ne_iter ho h.rg (by rw [hb, e])
/-- One file more. -/
theorem ClI.more (h : ClI w wr m fu d L left cnt Lc) {x : Nm} {e : Ent} (hg : gget L x = some e) {w2 w6 : World} {cnt2 : Nat} (hrg : w2.ranges Tryz.prog 9 RF m (w.heap.size + 1 + 1) L.length (mapD L) (fun z => left z && !z.sameKey (.string x)) cnt2)
  (h2 : wr.grownBy w2 (some (w.heap.size + 1 + 1))) (h26 : Only (fun b => b = w.heap.size + 1) w2 w6) {v : Value} {n : Nat} (hm : w6.ownsMap Tryz.prog 9 RF (w.heap.size + 1) n (mapD (gput Lc x ⟨v, e.b, e.l⟩)))
  (ho : w6.ownsRow w2.heap.size 5 1 v e.b.length (e.b.map u8)) (hml : m < w.heap.size) : ClI w w6 m fu d L (fun z => left z && !z.sameKey (.string x)) cnt2 (gput Lc x ⟨v, e.b, e.l⟩) := by
 have hk : ∀ b, b < wr.heap.size → b ≠ w.heap.size + 1 → b ≠ w.heap.size + 1 + 1 → w6.heap[b]? = wr.heap[b]? := fun b hb h1 h3 =>
  (h26.block b (Nat.lt_of_lt_of_le hb h2.size) h1).trans (h2.block b hb (fun e => h3 (by cases e; rfl)))
 have hwr := h.be.size
 refine ⟨hrg.kept (row := some (w.heap.size + 1)) ⟨h26.os, h26.tape, h26.output, h26.size, fun k hk' hne => h26.block k hk' (fun e => hne (by rw [e]))⟩ (fun e => by have := Option.some.inj e; omega) (fun e => by have := Option.some.inj e; omega), ?_, ownsMap_exact hm, h.so.put x _, fun y => ?_, fun y hy => ?_, ?_, ?_⟩
 ·exact h.c.keep (hk _ h.c.lt (by omega) (by omega))
 ·rw [gget_put h.so]
  by_cases hy : y = x
  ·subst hy; simp [Lit.sameKey, hg, Ent.fi]
  ·rw [if_neg hy, h.get y]; simp [Lit.sameKey, hy]
 ·rcases mem_put.1 hy with rfl | ⟨hy, _⟩
  ·exact own_base ho (Nat.le_trans hwr h2.size)
  ·exact ownsRow_keep (h.ow y hy) fun b hb => hk b (own_ge (h.ow y hy) b hb).2 (h.row_ne (h.ow y hy) b hb).2.1 (h.row_ne (h.ow y hy) b hb).2.2
 ·refine ap_put (h.ap.filter _) fun y hy => ?_
  have hyL := (mem_del.1 hy).1
  by_cases e0 : y.2.v.ownBlock = none
  ·exact Or.inl e0
  ·refine Or.inr fun e2 => ?_
   obtain ⟨b, hb1⟩ := Option.ne_none_iff_exists'.1 e0
   have h3 := (own_ge (h.ow y hyL) b hb1).2
   rw [hb1] at e2
   have h4 := (own_ge ho b e2.symm).1
   have := h2.size
   omega
 ·exact ⟨h26.os.trans (h2.os.trans h.be.os), h26.tape.trans (h2.tape.trans h.be.tape), h26.output.trans (h2.output.trans h.be.output), Nat.le_trans hwr (Nat.le_trans h2.size h26.size), fun k hk' => (hk k (Nat.lt_of_lt_of_le hk' hwr) (by omega) (by omega)).trans (h.be.block k hk')⟩
end
section
variable {w : World} {S : Nat → Prop} {p m : Nat} {fu : Option Nat} {d : Pd} {L : List (Nm × Ent)}

end
end Go.Proofs.YtfogkegmdgbecaaGreatDoor

/- The statements' acts; contracts of Pick and step. -/
namespace Go.Proofs.YtfogkegmdgbecaaGreatDoor
open Go Go.RowKit

/-- An act, as it stands in memory. -/
structure AV where
 kind : Int
 which : Int
 at_ : Int
 A : Nm
 C : Nm
 pb : Option Addr
 cb : Nat
 bs : List Nat
 is_ : Bool
 mask : Int
 pk : Option Addr
 ck : Nat
 ks : List Bool
structure AV.ok (w : World) (x : AV) : Prop where
 hA : x.A.length ≤ maxLen
 hC : x.C.length ≤ maxLen
 bB : BAt w x.pb x.bs
 b8 : ∀ y ∈ x.bs, y < 256
 bK : KAt w (fun _ => False) x.pk x.ks
 k1 : -9223372036854775808 ≤ x.kind ∧ x.kind ≤ 9223372036854775807
 k2 : -9223372036854775808 ≤ x.which ∧ x.which ≤ 9223372036854775807
 k3 : -9223372036854775808 ≤ x.at_ ∧ x.at_ ≤ 9223372036854775807
 k4 : 0 ≤ x.mask ∧ x.mask ≤ 255
theorem AV.ok.below {w w' : World} {x : AV} (h : x.ok w) (hb : Below w.heap.size w w') : x.ok w' :=
 { h with bB := h.bB.keepB hb, bK := h.bK.only (T := fun _ => False) ⟨hb.os, hb.tape, hb.output, hb.size, fun k hk _ => hb.block k hk⟩ (fun _ _ h => h) }
def pkN (x : Int) (n : Nat) : Nat := if x.tmod n < 0 then (x.tmod n + n).toNat else (x.tmod n).toNat
theorem tmod_lo (x : Int) (n : Nat) (h : 1 ≤ n) : -(n : Int) < x.tmod n := by
 have := Int.tmod_lt_of_pos (-x) (b := (n : Int)) (by omega)
 rw [Int.neg_tmod] at this; omega
theorem pkN_lt (x : Int) (n : Nat) (h : 1 ≤ n) : pkN x n < n := by
 have b1 := Int.tmod_lt_of_pos x (b := (n : Int)) (by omega)
 have b2 := tmod_lo x n h
 unfold pkN; split <;> omega
theorem pick_any (x : Int) (n : Nat) (w : World) (h1 : 1 ≤ n) (hn : n ≤ 100000) :
  Calls Tryz.prog 31 #[.int .i64 x, .int .i64 (n : Int)] w fun e w' => e = .returned (.int .i64 (pkN x n : Int)) ∧ w' = w := by
 have b1 := Int.tmod_lt_of_pos x (b := (n : Int)) (by omega)
 have b2 := tmod_lo x n h1
 have hn1 : ¬ (n : Int) < 1 := by omega
 have hn0 : ¬ (n : Int) = 0 := by omega
 by_cases hneg : x.tmod n < 0
 ·have e : ((pkN x n : Nat) : Int) = x.tmod n + n := by unfold pkN; rw [if_pos hneg]; omega
  have HE := hid e
  clear e
  go_enter Tryz.func31, Tryz.ntmps31
  go_wp2
  go_ret
  exact ⟨by rw [HE.out]; rfl, rfl⟩
 ·have e : ((pkN x n : Nat) : Int) = x.tmod n := by unfold pkN; rw [if_neg hneg]; omega
  have HE := hid e
  clear e
  go_enter Tryz.func31, Tryz.ntmps31
  go_wp2
  go_ret
  exact ⟨by rw [HE.out]; rfl, rfl⟩
def Pd.step (d : Pd) (f : Fs) (x : AV) : Nat × Pd × Fs :=
 match pkN x.kind 4 with
 | 0 => d.write f x.A x.bs
 | 1 => d.sync f x.A
 | 2 => d.rename f x.A x.C
 | _ => d.delete f x.A
section
variable {w : World} {S : Nat → Prop} {p m : Nat} {fu : Option Nat} {d : Pd} {L : List (Nm × Ent)}
theorem Done.from1 {o : Obj} {w' : World} {r : Nat × Pd × Fs} {e : Ending} (h : Done (w.alloc o) S p fu r e w') : Done w S p fu r e w' := Done.from ((Below.refl _ _).alloc (Nat.le_refl _) _) h
end

end Go.Proofs.YtfogkegmdgbecaaGreatDoor

/- Contracts of SameBytes, in and names of the statements; acts and bools that came in. -/
namespace Go.Proofs.YtfogkegmdgbecaaGreatDoor
open Go Go.RowKit

/-- A row of bytes of the statements' own. -/
def Row8 (w : World) (v : Value) (bs : List Nat) : Prop := ∃ B, w.ownsRow B 5 1 v bs.length (bs.map u8)
theorem conv_row {w : World} {po : Option Addr} {n c : Nat} {bs : List Nat} (h : Row8 w (.slice po n c) bs) : (convert 30 9 (.slice po n c)).run Tryz.prog w = .ok (.string (strOfNums (bs.map fun (k : Nat) => (k : Int)))) w := by
 obtain ⟨B, h⟩ := h
 have hat := own_BAt h
 rcases h.2 with ⟨e, h0⟩ | ⟨g, cap, cur, e, _, hg, h1, _, h3, h4⟩
 ·cases e
  have : bs = [] := List.eq_nil_of_length_eq_zero h0
  subst this
  rw [run_convert_bytes_string w 30 9 5 _ 0 0 Tryz.underlying30 Tryz.underlying5 Tryz.underlying9]
  simp [Conv.bytesToString]
  rfl
 ·cases e
  rcases hat with ⟨h, _⟩ | ⟨a, ha, hc⟩
  ·cases h
  ·cases ha
   refine run_convert_bytes_arg w 30 5 Tryz.underlying30 Tryz.underlying5 g 0 bs.length c _ (by simp) (fun i hi => ?_) 9 Tryz.underlying9
   have hadd : (⟨g, 0, none⟩ : Addr).add i = ⟨g, i, none⟩ := by unfold Addr.add; split <;> simp_all
   have := hc i hi
   rw [hadd] at this
   rw [Nat.zero_add, this]; simp [List.getD, hi]
theorem sameBytes_true {w : World} {p q : Option Addr} {n k c d : Nat} {bs : List Nat} (h1 : Row8 w (.slice p n c) bs) (h2 : Row8 w (.slice q k d) bs) :
  Calls Tryz.prog 52 #[.slice p n c, .slice q k d] w fun e w' => e = .returned (.bool true) ∧ w' = w := by
 have h1 := conv_row h1
 have h2 := conv_row h2
 generalize strOfNums (bs.map fun (k : Nat) => (k : Int)) = s at *
 go_enter Tryz.func52, Tryz.ntmps52
 go_wp2
 go_ret
 exact ⟨rfl, rfl⟩
theorem sv_eq (x y : Nm) : (⟨x.toArray⟩ : ByteArray) = ⟨y.toArray⟩ ↔ x = y :=
 ⟨fun e => by have := congrArg (fun b : ByteArray => b.data.toList) e; simpa using this, fun e => by rw [e]⟩
theorem ba_ne {X Y : ByteArray} (h : X ≠ Y) : (X.toList == Y.toList) = false := by
 cases hb : (X.toList == Y.toList)
 ·rfl
 ·exfalso
  have h2 := eq_of_beq hb
  rw [ByteArray.toList_eq, ByteArray.toList_eq] at h2
  exact h (WideShapes.bytes_inj h2)
section
variable {w : World} {S : Nat → Prop} {p m : Nat} {fu : Option Nat} {d : Pd} {L : List (Nm × Ent)}
end
end Go.Proofs.YtfogkegmdgbecaaGreatDoor

/- Acts and bools that came in. -/
namespace Go.Proofs.YtfogkegmdgbecaaGreatDoor
open Go Go.RowKit

theorem add_zero' (a : Addr) : a.add 0 = a := by simp [Addr.add]
theorem plain_at (a : Addr) (w : World) (h : w.cell? a ≠ none) : ∃ b o, a = ⟨b, o, none⟩ := by
 obtain ⟨b, o, sp⟩ := a
 cases sp with
 | none => exact ⟨b, o, rfl⟩
 | some s =>
  exfalso; apply h
  unfold World.cell?
  split <;> simp
theorem bounds_u8 {k : Int} (h : (Lit.int .u8 k).wf = true) : 0 ≤ k ∧ k ≤ 255 := by
 simp [Lit.wf, IntKind.min, IntKind.max, IntKind.signed, IntKind.bits] at h; omega
theorem add_none (b o n : Nat) : (⟨b, o, none⟩ : Addr).add n = ⟨b, o + n, none⟩ := by unfold Addr.add; split <;> simp_all
section
variable {H : Type} {enc : TypeId × Value → H} {w : World} {held : Bool} {fuel : Nat}
theorem bools_read {cs : List Value} {x : DataW H × List MemPlace} (h : DataW.trod enc Tryz.prog w 0 (fun _ => true) held fuel 33 cs = some x) :
  ∃ (po : Option Addr) (c : Nat) (ks : List Bool), cs = [.slice po ks.length c] ∧ KAt w (fun _ => False) po ks := by
 rcases Go.Deep.open_bools Tryz.underlying33 Tryz.underlying4 (by kernel_rfl) h with ⟨hcs, _⟩ | ⟨a, len, cap, B, hcs, _, hl, _, _, hcell⟩
 ·exact ⟨none, 0, [], hcs, Or.inl rfl⟩
 ·refine ⟨some a, cap, (List.range len).map B, by simpa using hcs, ?_⟩
  by_cases h0 : len = 0
  ·subst h0; exact Or.inl rfl
  ·obtain ⟨b, o, rfl⟩ := plain_at a w (by have := hcell 0 (by omega); rw [add_zero'] at this; rw [this]; simp)
   refine Or.inr ⟨b, o, rfl, fun h => h, fun i hi => ?_⟩
   have hi' : i < len := by simpa using hi
   have := hcell i (by omega)
   rw [add_none] at this
   rw [this]; simp [List.getD, hi']
theorem bytes_read {cs : List Value} {x : DataW H × List MemPlace} (h : DataW.trod enc Tryz.prog w 0 (fun _ => true) held fuel 30 cs = some x) :
  ∃ (po : Option Addr) (c : Nat) (bs : List Nat), cs = [.slice po bs.length c] ∧ BAt w po bs ∧ ∀ y ∈ bs, y < 256 := by
 rcases Go.ChangeShapes.open_ints Tryz.underlying30 Tryz.underlying5 (by kernel_rfl) h with ⟨hcs, _⟩ | ⟨a, l, c, zs, hcs, _, hl, hm, hz, _, hcell, hwz⟩
 ·exact ⟨none, 0, [], hcs, Or.inl ⟨rfl, rfl⟩, by simp⟩
 ·have hz' : zs.length = c := by simpa using hz
  have hbd : ∀ i, i < l → 0 ≤ zs.getD i 0 ∧ zs.getD i 0 ≤ 255 := fun i hi => by
   have hlt : i < zs.length := by omega
   have e : zs.getD i 0 = zs[i] := by simp [List.getD, hlt]
   rw [e]; exact bounds_u8 (hwz _ (List.getElem_mem hlt))
  refine ⟨some a, c, (List.range l).map fun i => (zs.getD i 0).toNat, by simpa using hcs, Or.inr ⟨a, rfl, fun i hi => ?_⟩, fun y hy => ?_⟩
  ·have hi' : i < l := by simpa using hi
   rw [hcell i (by omega)]
   have e1 : ((List.range l).map fun i => (zs.getD i 0).toNat).getD i 0 = (zs.getD i 0).toNat := by rw [getD_in _ _ _ (by simpa using hi')]; simp
   rw [e1, Int.toNat_of_nonneg (hbd i hi').1]
  ·obtain ⟨i, hi, rfl⟩ := List.mem_map.1 hy
   have := hbd i (by simpa using hi)
   omega
theorem wf64 {k : Int} (h : (Lit.int .i64 k).wf = true) : -9223372036854775808 ≤ k ∧ k ≤ 9223372036854775807 := by
 simp [Lit.wf, IntKind.min, IntKind.max, IntKind.signed, IntKind.bits] at h; omega
end

end Go.Proofs.YtfogkegmdgbecaaGreatDoor

/- What a crash leaves, file by file; acts and what they leave of a drive. -/
namespace Go.Proofs.YtfogkegmdgbecaaGreatDoor
open Go Go.RowKit

def crashAll (F : List (Nm × Fi)) (ks : List Bool) : List (Nm × Fi) := crashI F ks (looseN F).length
theorem crashAll_f (s : Nm) (b : List Nat) (r : List (Nm × Fi)) (ks : List Bool) : crashAll ((s, (b, false)) :: r) ks = (s, (b, false)) :: crashAll r ks := by unfold crashAll; rw [looseN_f, crashI]
theorem crashAll_t (s : Nm) (b : List Nat) (r : List (Nm × Fi)) (ks : List Bool) : crashAll ((s, (b, true)) :: r) ks = if ks.headD false then (s, (b, false)) :: crashAll r ks.tail else crashAll r ks.tail := by
 unfold crashAll; rw [looseN_t, List.length_cons, crashI]
/-- A drive that answers: neither out nor offline, its files no more than its changes. -/
structure Pd.calm (d : Pd) (n : Nat) : Prop where
 out : d.out = false
 offl : d.offl = false
 len : d.F.length ≤ d.ops
 ops : d.ops ≤ n
theorem Pd.calm.more {d : Pd} {n : Nat} (h : d.calm n) : d.calm (n + 1) := ⟨h.out, h.offl, h.len, by have := h.ops; omega⟩
theorem put_len (F : List (Nm × Fi)) (s : Nm) (x : Fi) : (gput F s x).length ≤ F.length + 1 := by rw [len_put]; have := len_del F s; omega
end Go.Proofs.YtfogkegmdgbecaaGreatDoor

/- The walk of DriveKeeps. -/
namespace Go.Proofs.YtfogkegmdgbecaaGreatDoor
open Go Go.RowKit

section
variable {w wk : World} {S : Nat → Prop} {p : Nat} {d : Pd}
theorem AW.lt (h : AW w wk S p d) : ∀ b, S b → b < wk.heap.size := by obtain ⟨m, L, hd⟩ := h.dr; exact hd.lt
/-- Another drive's call. -/
theorem AW.other {T : Nat → Prop} {w' : World} (h : AW w wk S p d) (ho : Only T wk w') (hT : ∀ b, T b → w.heap.size ≤ b) (hd : ∀ b, S b → ¬ T b) : AW w w' S p d := by
 have hl := h.lt
 exact ⟨h.dr.keep ho.size fun b hb => ho.block b (hl b hb) (hd b hb), h.ge, ⟨ho.os.trans h.be.os, ho.tape.trans h.be.tape, ho.output.trans h.be.output, Nat.le_trans h.be.size ho.size, fun k hk => (ho.block k (Nat.lt_of_lt_of_le hk h.be.size) (fun e => by have := hT k e; omega)).trans (h.be.block k hk)⟩⟩
end
/-- Two drives, two lists of texts and some bools: what loop two carries. -/
structure K2 (w wr : World) (S S' : Nat → Prop) (p pc : Nat) (dc d : Pd) (vl vn : Value) (po : Option Addr) (ks : List Bool) : Prop where
 a : AW w wr S p dc
 b : AW w wr S' pc d
 tl : TxtAt wr vl (looseN d.F)
 tn : TxtAt wr vn (d.F.map (·.1))
 kp : KAt wr (fun _ => False) po ks
theorem K2.on {w wr w2 : World} {S S' : Nat → Prop} {p pc : Nat} {dc d : Pd} {vl vn : Value} {po : Option Addr} {ks : List Bool} (h : K2 w wr S S' p pc dc d vl vn po ks) (hb : Below wr.heap.size wr w2) : K2 w w2 S S' p pc dc d vl vn po ks :=
 ⟨h.a.below hb, h.b.below hb, h.tl.below hb, h.tn.below hb, h.kp.only (T := fun _ => False) ⟨hb.os, hb.tape, hb.output, hb.size, fun k hk _ => hb.block k hk⟩ (fun _ _ h => h)⟩
end Go.Proofs.YtfogkegmdgbecaaGreatDoor

/- Drives beside one another, some of them with one fuse together. -/
namespace Go.Proofs.YtfogkegmdgbecaaGreatDoor
open Go Go.RowKit

structure Dv where
 p : Nat
 S : Nat → Prop
 fu : Option Nat
 d : Pd
def fsOf (Z : Nat → Nat × Bool) (x : Dv) : Fs := x.fu.map Z
structure Sys (w wr : World) (k : Nat) (D : Nat → Dv) (Z : Nat → Nat × Bool) : Prop where
 dr : ∀ i, i < k → DrAt wr (D i).S (D i).p (D i).fu (D i).d
 fz : ∀ i, i < k → ∀ q, (D i).fu = some q → CAt wr q #[.int .i64 ((Z q).1 : Int), .bool (Z q).2] 136 ∧ (Z q).1 ≤ 9223372036854775807 ∧ w.heap.size ≤ q ∧ ∀ j, j < k → ¬ (D j).S q
 dj : ∀ i j, i < k → j < k → i ≠ j → ∀ b, (D i).S b → ¬ (D j).S b
 ge : ∀ i, i < k → ∀ b, (D i).S b → w.heap.size ≤ b
 be : Below w.heap.size w wr
def setD (D : Nat → Dv) (i : Nat) (x : Dv) : Nat → Dv := fun j => if j = i then x else D j
theorem setD_same (D : Nat → Dv) (i : Nat) (x : Dv) : setD D i x i = x := by simp [setD]
theorem setD_ne (D : Nat → Dv) {i j : Nat} (x : Dv) (h : j ≠ i) : setD D i x j = D j := by simp [setD, h]
def setZ (Z : Nat → Nat × Bool) (fu : Option Nat) (f : Fs) : Nat → Nat × Bool := fun b => if fu = some b then f.getD (0, false) else Z b
section
variable {w wr : World} {k : Nat} {D : Nat → Dv} {Z : Nat → Nat × Bool}
theorem Sys.lt (h : Sys w wr k D Z) {i : Nat} (hi : i < k) : ∀ b, (D i).S b → b < wr.heap.size := by obtain ⟨m, L, hd⟩ := h.dr i hi; exact hd.lt
theorem Sys.fu (h : Sys w wr k D Z) {i : Nat} (hi : i < k) : FuAt wr (D i).S (D i).fu (fsOf Z (D i)) := by
 unfold fsOf
 cases hq : (D i).fu with
 | none => exact trivial
 | some q =>
  obtain ⟨h1, h2, _, h4⟩ := h.fz i hi q hq
  exact ⟨h1, h4 i hi, h2⟩
theorem Sys.below (h : Sys w wr k D Z) {w' : World} (hb : Below wr.heap.size wr w') : Sys w w' k D Z :=
 ⟨fun i hi => by obtain ⟨m, L, hd⟩ := h.dr i hi; exact ⟨m, L, hd.below hb⟩, fun i hi q hq => by obtain ⟨h1, h2⟩ := h.fz i hi q hq; exact ⟨h1.below hb, h2⟩, h.dj, h.ge, below_on _ _ h.be hb⟩
/-- A call of one drive that may turn its own blocks and its fuse alone. -/
theorem Sys.turn (h : Sys w wr k D Z) {i : Nat} (hi : i < k) {w' : World} {S2 : Nat → Prop} {d2 : Pd} {fu2 : Option Nat} {f2 : Fs} (hg : Grows wr (D i).S S2) (hd : DrAt w' S2 (D i).p fu2 d2) (hfu : fu2 = (D i).fu ∨ fu2 = none)
  (hf : FuAt w' S2 (D i).fu f2) (ho : Only (fun b => (D i).S b ∨ (D i).fu = some b) wr w') : Sys w w' k (setD D i ⟨(D i).p, S2, fu2, d2⟩) (setZ Z (D i).fu f2) := by
 have hq : ∀ j, j < k → ∀ q, (D j).fu = some q → q < wr.heap.size := fun j hj q e => (h.fz j hj q e).1.lt
 have hS : ∀ j, j < k → ∀ b, b < wr.heap.size → (setD D i ⟨(D i).p, S2, fu2, d2⟩ j).S b → (D j).S b := fun j _ b hb hs => by
  by_cases e : j = i
  ·subst e; rw [setD_same] at hs; exact (hg.2 b hs).elim id (fun hle => by omega)
  ·rw [setD_ne D _ e] at hs; exact hs
 refine ⟨fun j hj => ?_, fun j hj q e => ?_, fun a b ha hb hab c hc hc2 => ?_, fun j hj b hb => ?_, ?_⟩
 ·by_cases e : j = i
  ·subst e; rw [setD_same]; exact hd
  ·rw [setD_ne D _ e]
   refine (h.dr j hj).keep ho.size fun b hb => ho.block b (h.lt hj b hb) fun e2 => ?_
   rcases e2 with e2 | e2
   ·exact h.dj j i hj hi e b hb e2
   ·exact (h.fz i hi b e2).2.2.2 j hj hb
 ·have hje : ∃ j', j' < k ∧ (D j').fu = some q := by
    by_cases ej : j = i
    ·subst ej
     rw [setD_same] at e
     rcases hfu with hfu | hfu
     ·exact ⟨j, hj, by rw [← hfu]; exact e⟩
     ·rw [hfu] at e; cases e
    ·rw [setD_ne D _ ej] at e; exact ⟨j, hj, e⟩
  obtain ⟨j', hj', e'⟩ := hje
  obtain ⟨h1, h2, h3, h4⟩ := h.fz j' hj' q e'
  have hns : ∀ j2, j2 < k → ¬ (setD D i ⟨(D i).p, S2, fu2, d2⟩ j2).S q := fun j2 hj2 hs => h4 j2 hj2 (hS j2 hj2 q h1.lt hs)
  by_cases eq : (D i).fu = some q
  ·have hz : setZ Z (D i).fu f2 q = f2.getD (0, false) := by unfold setZ; rw [if_pos eq]
   rw [hz]
   rw [eq] at hf
   match f2, hf with
   | some (n, g), hf => exact ⟨hf.1, hf.2.2, h3, hns⟩
  ·have hz : setZ Z (D i).fu f2 q = Z q := by unfold setZ; rw [if_neg eq]
   rw [hz]
   exact ⟨h1.keep (ho.block q h1.lt fun e2 => e2.elim (h4 i hi) eq), h2, h3, hns⟩
 ·by_cases e1 : a = i
  ·subst e1
   have hc' := hc
   rw [setD_same] at hc'
   rw [setD_ne D _ (Ne.symm hab)] at hc2
   exact h.dj b a hb ha (Ne.symm hab) c hc2 (hS a ha c (h.lt hb c hc2) hc)
  ·rw [setD_ne D _ e1] at hc
   exact h.dj a b ha hb hab c hc (hS b hb c (h.lt ha c hc) hc2)
 ·by_cases e : j = i
  ·subst e; rw [setD_same] at hb
   rcases hg.2 b hb with hb | hb
   ·exact h.ge j hj b hb
   ·exact Nat.le_trans h.be.size hb
  ·rw [setD_ne D _ e] at hb; exact h.ge j hj b hb
 ·exact ⟨ho.os.trans h.be.os, ho.tape.trans h.be.tape, ho.output.trans h.be.output, Nat.le_trans h.be.size ho.size, fun b hb => (ho.block b (Nat.lt_of_lt_of_le hb h.be.size) (fun e => by
    rcases e with e | e
    ·have := h.ge i hi b e; omega
    ·have := (h.fz i hi b e).2.2.1; omega)).trans (h.be.block b hb)⟩
def stD (D : Nat → Dv) (i : Nat) (S2 : Nat → Prop) (r : Nat × Pd × Fs) : Nat → Dv := setD D i ⟨(D i).p, S2, (D i).fu, r.2.1⟩
/-- What a call of drive i leaves that answers r. -/
def Stepped (w : World) (k : Nat) (D : Nat → Dv) (Z : Nat → Nat × Bool) (i : Nat) (r : Nat × Pd × Fs) (e : Ending) (w' : World) : Prop :=
 e = .returned (.int .i64 (r.1 : Int)) ∧ ∃ S2, Sys w w' k (stD D i S2 r) (setZ Z (D i).fu r.2.2)
theorem Sys.done (h : Sys w wr k D Z) {i : Nat} (hi : i < k) {r : Nat × Pd × Fs} {e : Ending} {w' : World} (hD : Done wr (D i).S (D i).p (D i).fu r e w') : Stepped w k D Z i r e w' := by
 obtain ⟨h1, S2, hg, hd, hf, ho⟩ := hD
 exact ⟨h1, S2, h.turn hi hg hd (Or.inl rfl) hf ho⟩
theorem Sys.ops (h : Sys w wr k D Z) {i : Nat} (hi : i < k) : Calls Tryz.prog 43 #[ptr (D i).p] wr fun e w' => e = .returned (.int .i64 ((D i).d.ops : Int)) ∧ w' = wr := by
 obtain ⟨m, L, hd⟩ := h.dr i hi
 exact ops_any hd
theorem setZ_same (Z : Nat → Nat × Bool) (x : Dv) : setZ Z x.fu (fsOf Z x) = Z := by
 funext b
 unfold setZ fsOf
 split
 ·rename_i e; rw [e]; rfl
 ·rfl
end
end Go.Proofs.YtfogkegmdgbecaaGreatDoor
