/- Contracts of Offline, Full and Crash of package drive. -/
import Derived.Test.YtfppmpfmafnfmaaDw
namespace Go.Proofs.Ytfppmpfmafnfmaa
open Go Go.RowKit

section
variable {w : World} {S : Nat → Prop} {p m : Nat} {fu : Option Nat} {d : Pd} {L : List (Nm × Ent)}
theorem DrC.setC (h : DrC w S p m fu d L) (i : Nat) (v : Value) {d2 : Pd} {fu2 : Option Nat} (hc : (dcells p m fu d (usedOf d.F : Int)).setIfInBounds i v = dcells p m fu2 d2 (usedOf d2.F : Int)) (hF : d2.F = d.F) (hz : d2.size = d.size) :
    DrC (w.setCell ⟨p, i, none⟩ v) S p m fu2 d2 L :=
  h.turned (d2 := d2) (by have := h.c.set i v; rw [hc] at this; exact this) (h.mp.setCell (Ne.symm h.pm) _) (fun _ _ h1 _ => heap_setCell_ne _ _ _ _ h1) (Nat.le_of_eq (setCell_size _ _ _).symm) (hF.trans h.fs) h.so (fun x hx => ⟨h.nm x hx, Or.inl ⟨x, hx, rfl, rfl⟩⟩) h.ap (by rw [hF, hz]; exact h.us) hz
/-- What a call leaves that sets the drive's own cells alone. -/
def SetAt (w : World) (S : Nat → Prop) (p m : Nat) (fu : Option Nat) (d : Pd) (L : List (Nm × Ent)) (e : Ending) (w' : World) : Prop :=
  e = .returned (.int .i64 0) ∧ DrC w' S p m fu d L ∧ Only (fun b => b = p) w w' ∧ w'.heap.size = w.heap.size
theorem offline_any (h : DrC w S p m fu d L) (b : Bool) : Calls Try.prog 27 #[ptr p, .bool b] w (SetAt w S p m fu { d with offl := b } L) := by
  have c5 : w.cell? ⟨p, 5, none⟩ = some (.bool d.offl) := h.c.cell 5
  have z5 : w.frozen? ⟨p, 5, none⟩ = false := h.c.free 5
  have hmade := made_any h
  have H := hid (h.setC 5 (.bool b) (d2 := { d with offl := b }) (fu2 := fu) rfl rfl rfl)
  clear h
  go_enter Try.func27, Try.ntmps27
  go_wp2_with (go_at_call 40; refine hmade.mono ?_; rintro e w' ⟨rfl, hw'⟩; have hw2 := hw'.symm; subst hw2)
  go_ret
  exact ⟨rfl, H.out, Only.set (S := fun b => b = p) _ _ _ rfl, setCell_size _ _ _⟩
theorem full_any (h : DrC w S p m fu d L) (b : Bool) : Calls Try.prog 28 #[ptr p, .bool b] w (SetAt w S p m fu { d with full := b } L) := by
  have c6 : w.cell? ⟨p, 6, none⟩ = some (.bool d.full) := h.c.cell 6
  have z6 : w.frozen? ⟨p, 6, none⟩ = false := h.c.free 6
  have hmade := made_any h
  have H := hid (h.setC 6 (.bool b) (d2 := { d with full := b }) (fu2 := fu) rfl rfl rfl)
  clear h
  go_enter Try.func28, Try.ntmps28
  go_wp2_with (go_at_call 40; refine hmade.mono ?_; rintro e w' ⟨rfl, hw'⟩; have hw2 := hw'.symm; subst hw2)
  go_ret
  exact ⟨rfl, H.out, Only.set (S := fun b => b = p) _ _ _ rfl, setCell_size _ _ _⟩
/-- Bools that a slice tells, whose memory is not in S. -/
def KAt (w : World) (S : Nat → Prop) (po : Option Addr) (ks : List Bool) : Prop := ks = [] ∨ ∃ b o, po = some ⟨b, o, none⟩ ∧ ¬ S b ∧ ∀ i, i < ks.length → w.cell? ⟨b, o + i, none⟩ = some (.bool (ks.getD i false))
theorem KAt.only {w' : World} {T : Nat → Prop} {po : Option Addr} {ks : List Bool} (h : KAt w S po ks) (ho : Only T w w') (hT : ∀ b, b < w.heap.size → T b → S b) : KAt w' S po ks := by
  rcases h with h | ⟨b, o, rfl, hn, h⟩
  · exact Or.inl h
  · refine Or.inr ⟨b, o, rfl, hn, fun i hi => ?_⟩
    have hc := h i hi
    have hl : b < w.heap.size := cell_lt' (a := ⟨b, o + i, none⟩) (by rw [hc]; simp)
    exact (World.cell?_of_block (ho.block b hl (fun ht => hn (hT _ hl ht)))).trans hc
theorem kat_at {b o : Nat} {ks : List Bool} {k : Bool} (h : KAt w S (some ⟨b, o, none⟩) ks) {i : Nat} (hi : i < ks.length) (hk : ks.getD i false = k) : w.cell? ⟨b, o + i, none⟩ = some (.bool k) := by
  rcases h with h | ⟨b', o', e, _, h⟩
  · rw [h] at hi; simp at hi
  · cases e; rw [← hk]; exact h i hi
structure CrI (w wr : World) (S : Nat → Prop) (p m : Nat) (fu : Option Nat) (d : Pd) (ks : List Bool) (v : Value) (i : Nat) (L : List (Nm × Ent)) : Prop where
  dr : DrC wr S p m fu { d with F := crashI d.F ks i } L
  tx : TxtL w.heap.size wr v (looseN d.F)
  on : Only (fun b => b = p ∨ b = m) w wr
theorem CrI.next {wr w4 : World} {ks : List Bool} {v : Value} {i : Nat} {L L2 : List (Nm × Ent)} (h : CrI w wr S p m fu d ks v i L) (ho : Only (fun b => b = p ∨ b = m) wr w4) (hd : DrC w4 S p m fu { d with F := crashI d.F ks (i + 1) } L2) (hp : p < w.heap.size) (hm : m < w.heap.size) : CrI w w4 S p m fu d ks v (i + 1) L2 :=
  ⟨hd, h.tx.keep fun b hb => ho.block b (own_ge h.tx b hb).2 (fun e => by have := (own_ge h.tx b hb).1; rcases e with rfl | rfl <;> omega), h.on.then ho (fun _ _ h => h)⟩
theorem crOne_true {F : List (Nm × Fi)} {s : Nm} {x : Fi} (h : gget F s = some x) : crOne F s true = gput (gdel F s) s (x.1, false) := by unfold crOne; rw [h]; rfl
theorem looseN_ok (h : DrC w S p m fu d L) {s : Nm} (hs : s ∈ looseN d.F) : okNm s = true := by
  unfold looseN namesOf at hs
  obtain ⟨x, hx, rfl⟩ := List.mem_map.1 hs
  have hx := (List.mem_filter.1 hx).1
  rw [h.fs] at hx
  obtain ⟨y, hy, rfl⟩ := List.mem_map.1 hx
  exact h.nm y hy
set_option maxHeartbeats 1000000 in
set_option maxRecDepth 100000 in
theorem crash_any (h : DrC w S p m fu d L) (po : Option Addr) (c : Nat) (ks : List Bool) (hk : KAt w S po ks) (hkn : ks.length ≤ 1000000000) (hl : d.F.length < 1000000000000) :
    Calls Try.prog 30 #[ptr p, .slice po ks.length c] w fun e w' => e = .returned (.int .i64 0) ∧ DrAt w' S p none (d.crash ks) ∧ Only (fun b => b = p ∨ b = m) w w' := by
  have hmade := made_any h
  have HL := hid (loose_any h hl)
  have HLN := hid hl
  have H := hid h
  have HK := hid hk
  have HSF := hid h.srtF
  have hlp := h.lt p h.sp
  have hlm := h.lt m h.sm
  clear h hk hl
  go_enter Try.func30, Try.ntmps30
  go_wp2_with (first
    | (go_at_call 40; refine hmade.mono ?_; rintro e w' ⟨rfl, hw'⟩; have hw2 := hw'.symm; subst hw2)
    | (go_at_call 32; refine HL.out.mono ?_; rintro e w1 ⟨pv, cv, rfl, htx, hb⟩; have HI0 : Hid (CrI w w1 S p m fu d ks (.slice pv d.loose.length cv) 0 L) := hid ⟨by rw [crashI_zero]; exact H.out.below hb, htx, Only.of_below hb⟩; clear htx hb))
  have HNL : Hid (d.loose = looseN d.F) := hid rfl
  rw [HNL.out] at HI0 ⊢
  have hnl : (looseN d.F).length ≤ d.F.length := by unfold looseN namesOf; rw [List.length_map]; exact List.length_filter_le _ _
  have hnl2 : (looseN d.F).length < 1000000000000 := by have := HLN.out; omega
  clear hnl HNL
  go_loopw [14] (fun v wr => ∃ i : Nat, i ≤ (looseN d.F).length ∧ v = .int .i64 (i : Int) ∧ ∃ Li, CrI w wr S p m fu d ks (.slice pv (looseN d.F).length cv) i Li) (fun v _ => ((looseN d.F).length - intOf v).toNat)
  case atStart => exact ⟨0, by omega, rfl, L, HI0.out⟩
  case round =>
    obtain ⟨i, hi, rfl, Li, hI⟩ := hrel
    have HI := hid hI
    clear hI HI0
    by_cases hlt : i < (looseN d.F).length
    · have hlt' : (i : Int) < ((looseN d.F).length : Int) := by omega
      obtain ⟨x, hx⟩ := crash_get HSF.out ks i hlt
      have hstep := crash_step HSF.out ks i hlt
      have hsok : okNm ((looseN d.F).getD i []) = true := looseN_ok H.out (by rw [getD_in _ _ _ hlt]; exact List.getElem_mem hlt)
      have htx := HI.out.tx.at
      rcases htx with ⟨h0, _⟩ | ⟨g, cg, hv, hcell⟩
      · rw [h0] at hlt; simp at hlt
      obtain ⟨rfl, rfl⟩ : pv = some ⟨g, 0, none⟩ ∧ cv = cg := by cases hv; exact ⟨rfl, rfl⟩
      have ci := hcell i hlt
      clear hv hcell
      generalize hsn : (looseN d.F).getD i [] = s at *
      have HSN := hid hsn
      have HX := hid hx
      have HST := hid hstep
      have HSOK := hid hsok
      have hsm : s.length ≤ maxLen := by have := ok_len hsok; unfold maxLen; omega
      clear hsn hx hstep hsok
      have hge : ∃ e pe ce, gget Li s = some e ∧ e.v = .slice pe e.b.length ce ∧ x = (e.b, e.l) := by
        have h1 := HX.out
        have h2 := HI.out.dr.fs
        simp only at h2
        rw [h2, gget_map] at h1
        cases hg : gget Li s with
        | none => rw [hg] at h1; cases h1
        | some e =>
          rw [hg] at h1
          obtain ⟨pe, ce, hv⟩ := own_form (HI.out.dr.ow _ (gget_mem hg))
          exact ⟨e, pe, ce, rfl, hv, by cases h1; rfl⟩
      obtain ⟨e, pe, ce, hg, hev, rfl⟩ := hge
      have HEV := hid hev
      have hbl := used_le (by have := HI.out.dr.srtF; exact this) HX.out
      clear hev hbl
      have HDA := hid (HI.out.dr.alloc (.cells #[.slice pe e.b.length ce, .bool e.l] 78))
      have HTK := hid (take_any HDA.out s hsm)
      have d2 : wr.cell? ⟨p, 2, none⟩ = some (.map (some m)) := HI.out.dr.c.cell 2
      have hsub : (gdel (crashI d.F ks i) s).length < 1000000000000 := by have := len_del (crashI d.F ks i) s; have := crash_len d.F ks i; have := HLN.out; omega
      cases hkb : ks.getD i false
      · rw [hkb] at HST
        by_cases hik : i < ks.length
        · have hik' : (i : Int) < (ks.length : Int) := by omega
          have HK2 := hid (HK.out.only HI.out.on (fun b _ hb => hb.elim (fun e => e ▸ H.out.sp) (fun e => e ▸ H.out.sm)))
          rcases HK.out with h0 | ⟨bk, ok, hpo, hnb, _⟩
          · rw [h0] at hik; simp at hik
          subst hpo
          go_wp2_with (first
            | (at_lookup; refine wpList_look _ rfl _ _ false rfl HI.out.dr.mp hsm rfl rfl (r := .agg #[.slice pe e.b.length ce, .bool e.l]) (by rw [hg, ← HEV.out]; rfl) ?_)
            | (go_at_call 69; refine HTK.out.mono ?_; rintro e1 w2 ⟨rfl, hd2, ho2, hz2⟩; have HD2 := hid hd2; have HO2 := hid ho2
               have ckk : w2.cell? ⟨bk, ok + i, none⟩ = some (.bool false) := kat_at (HK2.out.only ((Only.alloc wr _).then ho2 (fun _ _ h => h)) (fun b _ hb => hb.elim (fun e => e ▸ H.out.sp) (fun e => e ▸ H.out.sm))) hik hkb
               clear hd2 ho2 hz2))
          go_roundw
          case rel =>
            refine ⟨i + 1, by omega, by go_num, _, HI.out.next ((Only.alloc wr _).then HO2.out (fun _ _ h => h)) (by rw [HST.out]; exact HD2.out) hlp hlm⟩
          case measure => simp [intOf]; omega
        · have hik' : ¬ (i : Int) < (ks.length : Int) := by omega
          go_wp2_with (first
            | (at_lookup; refine wpList_look _ rfl _ _ false rfl HI.out.dr.mp hsm rfl rfl (r := .agg #[.slice pe e.b.length ce, .bool e.l]) (by rw [hg, ← HEV.out]; rfl) ?_)
            | (go_at_call 69; refine HTK.out.mono ?_; rintro e1 w2 ⟨rfl, hd2, ho2, hz2⟩; have HD2 := hid hd2; have HO2 := hid ho2; clear hd2 ho2 hz2))
          go_roundw
          case rel =>
            refine ⟨i + 1, by omega, by go_num, _, HI.out.next ((Only.alloc wr _).then HO2.out (fun _ _ h => h)) (by rw [HST.out]; exact HD2.out) hlp hlm⟩
          case measure => simp [intOf]; omega
      · rw [hkb, crOne_true HX.out] at HST
        have hik : i < ks.length := by
          rcases Nat.lt_or_ge i ks.length with h | h
          · exact h
          · rw [List.getD_eq_getElem?_getD, List.getElem?_eq_none h] at hkb; cases hkb
        have hik' : (i : Int) < (ks.length : Int) := by omega
        have HK2 := hid (HK.out.only HI.out.on (fun b _ hb => hb.elim (fun e => e ▸ H.out.sp) (fun e => e ▸ H.out.sm)))
        rcases HK.out with h0 | ⟨bk, ok, hpo, hnb, _⟩
        · rw [h0] at hik; simp at hik
        subst hpo
        have hltS : ∀ b, S b → b < wr.heap.size := HI.out.dr.lt
        go_wp2_with (first
          | (at_lookup; refine wpList_look _ rfl _ _ false rfl HI.out.dr.mp hsm rfl rfl (r := .agg #[.slice pe e.b.length ce, .bool e.l]) (by rw [hg, ← HEV.out]; rfl) ?_)
          | (go_at_call 69; refine HTK.out.mono ?_; rintro e1 w2 ⟨rfl, hd2, ho2, hz2⟩; have HD2 := hid hd2; have HO2 := hid ho2
             have ckk : w2.cell? ⟨bk, ok + i, none⟩ = some (.bool true) := kat_at (HK2.out.only ((Only.alloc wr _).then ho2 (fun _ _ h => h)) (fun b _ hb => hb.elim (fun e => e ▸ H.out.sp) (fun e => e ▸ H.out.sm))) hik hkb
             have hbx : CAt w2 wr.heap.size #[.slice pe e.b.length ce, .bool e.l] 78 := (CAt.made wr _ _).keep (ho2.block _ (by rw [size_al]; omega) (fun h => by have := hltS p H.out.sp; have := hltS m H.out.sm; rcases h with h | h <;> omega))
             have x0 : w2.cell? ⟨wr.heap.size, 0, none⟩ = some (.slice pe e.b.length ce) := hbx.cell 0
             have x1 : w2.cell? ⟨wr.heap.size, 1, none⟩ = some (.bool e.l) := hbx.cell 1
             have y1 : w2.frozen? ⟨wr.heap.size, 1, none⟩ = false := hbx.free 1
             have hk3 : ∀ b, S b → (w2.setCell ⟨wr.heap.size, 1, none⟩ (.bool false)).heap[b]? = w2.heap[b]? := fun b hb => heap_setCell_ne _ _ _ _ (by have := hltS b hb; intro e; simp at e; omega)
             have HD3 := hid (hd2.keep (w' := w2.setCell ⟨wr.heap.size, 1, none⟩ (.bool false)) (Nat.le_of_eq (setCell_size _ _ _).symm) hk3)
             have hn := HDA.out.newOf hg false
             rw [HEV.out] at hn
             have hne : NewE (w2.setCell ⟨wr.heap.size, 1, none⟩ (.bool false)) S p m (gdel (gdel Li s) s) ⟨.slice pe e.b.length ce, e.b, false⟩ :=
               ⟨ownsRow_keep hn.ow fun b hb => (hk3 b (hn.sf b hb).1).trans (ho2.block b (HDA.out.lt b (hn.sf b hb).1) (fun e => e.elim (hn.sf b hb).2.1 (hn.sf b hb).2.2)), hn.by8, hn.sf, fun y hy => hn.ap y (mem_del.1 hy).1⟩
             have HP := hid (put_any HD3.out s HSOK.out pe e.b.length ce e.b false rfl hne (by rw [HD3.out.lenF]; exact hsub) (by
               show usedOf (gdel (gdel (crashI d.F ks i) s) s) + e.b.length ≤ d.size
               have h1 := HI.out.dr.used_at hg
               have h2 := used_del (HI.out.dr.srtF.del s) s
               have h3 := HI.out.dr.us
               simp only at h1 h2 h3
               omega))
             have HOT := hid (((Only.alloc wr (.cells #[.slice pe e.b.length ce, .bool e.l] 78)).then ho2 (fun _ _ h => h)).then (Only.set (S := fun b => b = wr.heap.size) w2 ⟨wr.heap.size, 1, none⟩ (.bool false) rfl) (fun j hj e => by omega))
             clear hd2 ho2 hz2 hbx hk3 hn hne)
          | (go_at_call 66; refine HP.out.mono ?_; rintro e2 w4 ⟨rfl, hd4, ho4⟩; have HD4 := hid hd4; have HO4 := hid ho4; clear hd4 ho4))
        go_roundw
        case rel =>
          refine ⟨i + 1, by omega, by go_num, _, HI.out.next (HOT.out.then HO4.out (fun _ _ h => h)) (by rw [HST.out]; exact HD4.out) hlp hlm⟩
        case measure => simp [intOf]; omega
    · have hlt' : ¬ (i : Int) < ((looseN d.F).length : Int) := by omega
      obtain rfl : i = (looseN d.F).length := by omega
      have c7 : wr.cell? ⟨p, 7, none⟩ = some (.bool d.out) := HI.out.dr.c.cell 7
      have c8 : wr.cell? ⟨p, 8, none⟩ = some (fuV fu) := HI.out.dr.c.cell 8
      have z7 : wr.frozen? ⟨p, 7, none⟩ = false := HI.out.dr.c.free 7
      have z8 : wr.frozen? ⟨p, 8, none⟩ = false := HI.out.dr.c.free 8
      go_wp2
      go_ret
      have h1 := HI.out.dr.setC 7 (.bool false) (d2 := d.crash ks) (fu2 := fu) rfl rfl rfl
      have h2 := h1.setC 8 (.pointer none) (d2 := d.crash ks) (fu2 := none) rfl rfl rfl
      exact ⟨rfl, ⟨m, _, h2⟩, (HI.out.on.then (Only.set (S := fun b => b = p ∨ b = m) wr ⟨p, 7, none⟩ _ (Or.inl rfl)) (fun _ _ h => h)).then (Only.set (S := fun b => b = p ∨ b = m) _ ⟨p, 8, none⟩ _ (Or.inl rfl)) (fun _ _ h => h)⟩
#print axioms crash_any
end
end Go.Proofs.Ytfppmpfmafnfmaa
