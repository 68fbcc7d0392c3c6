/- Texts laid into one: the remark ahead of each part says what is proved there. -/
import Derived.Test.YtfppmpfmafnfmaaXc
import Derived.Laws.BytesArg
import Derived.Laws.BytesString
import Derived.Deep.Grids
import Derived.ChangeArms
/- Contracts of Offline, Full and Crash of package drive. -/
namespace Go.Proofs.Ytfppmpfmafnfmaa
open Go Go.RowKit

section
variable {α : Type}
theorem gget_cons_ne {p : Nm × α} {L : List (Nm × α)} {s : Nm} (h : p.1 ≠ s) : gget (p :: L) s = gget L s := by unfold gget; rw [List.find?_cons_of_neg (by simp [h])]
theorem gget_cons_eq {p : Nm × α} {L : List (Nm × α)} : gget (p :: L) p.1 = some p.2 := by unfold gget; rw [List.find?_cons_of_pos (by simp)]; rfl
theorem gdel_cons_ne {p : Nm × α} {L : List (Nm × α)} {s : Nm} (h : p.1 ≠ s) : gdel (p :: L) s = p :: gdel L s := by unfold gdel; rw [List.filter_cons_of_pos (by simp [h])]
theorem gdel_cons_eq {p : Nm × α} {L : List (Nm × α)} : gdel (p :: L) p.1 = gdel L p.1 := by unfold gdel; rw [List.filter_cons_of_neg (by simp)]
theorem gdel_none {L : List (Nm × α)} {s : Nm} (h : ∀ p ∈ L, p.1 ≠ s) : gdel L s = L := by unfold gdel; rw [List.filter_eq_self]; intro p hp; simp [h p hp]
theorem gput_cons {p : Nm × α} {L : List (Nm × α)} {s : Nm} {a : α} (h : bytesBefore p.1 s = true) : gput (p :: L) s a = p :: gput L s a := by
  have h2 : ¬ bytesBefore s p.1 = true := fun h3 => by have := bb_trans h h3; rw [bb_irrefl] at this; cases this
  unfold gput; rw [gdel_cons_ne (bb_ne h)]; rw [gins, if_neg h2]
theorem gput_first {L : List (Nm × α)} {s : Nm} {a : α} (h : ∀ p ∈ L, bytesBefore s p.1 = true) : gput L s a = (s, a) :: L := by
  unfold gput
  rw [gdel_none fun p hp => (bb_ne (h p hp)).symm]
  cases L with
  | nil => rfl
  | cons y r => rw [gins, if_pos (h y (by simp))]
end
/-- What is left of files where the first i loose ones have been looked at. -/
def crashI : List (Nm × Fi) → List Bool → Nat → List (Nm × Fi)
  | [], _, _ => []
  | (s, (b, false)) :: r, ks, i => (s, (b, false)) :: crashI r ks i
  | (s, (b, true)) :: r, _, 0 => (s, (b, true)) :: r
  | (s, (b, true)) :: r, ks, i + 1 => if ks.headD false then (s, (b, false)) :: crashI r ks.tail i else crashI r ks.tail i
def looseN (F : List (Nm × Fi)) : List Nm := namesOf F fun _ x => x.2
theorem looseN_f (s : Nm) (b : List Nat) (r : List (Nm × Fi)) : looseN ((s, (b, false)) :: r) = looseN r := by simp [looseN, namesOf]
theorem looseN_t (s : Nm) (b : List Nat) (r : List (Nm × Fi)) : looseN ((s, (b, true)) :: r) = s :: looseN r := by simp [looseN, namesOf]
def crOne (F : List (Nm × Fi)) (s : Nm) (k : Bool) : List (Nm × Fi) := if k then gput (gdel F s) s (((gget F s).getD ([], false)).1, false) else gdel F s
theorem crashI_zero : ∀ (F : List (Nm × Fi)) (ks : List Bool), crashI F ks 0 = F
  | [], _ => rfl
  | (s, (b, false)) :: r, ks => by rw [crashI, crashI_zero r ks]
  | (s, (b, true)) :: r, ks => by rw [crashI]
theorem crashI_sub : ∀ (F : List (Nm × Fi)) (ks : List Bool) (i : Nat) (p : Nm × Fi), p ∈ crashI F ks i → ∃ l, (p.1, (p.2.1, l)) ∈ F
  | [], _, _, p, h => by simp [crashI] at h
  | (s, (b, false)) :: r, ks, i, p, h => by
    rw [crashI] at h
    rcases List.mem_cons.1 h with rfl | h
    · exact ⟨false, by simp⟩
    · obtain ⟨l, hl⟩ := crashI_sub r ks i p h; exact ⟨l, by simp [hl]⟩
  | (s, (b, true)) :: r, ks, 0, p, h => by rw [crashI] at h; exact ⟨p.2.2, h⟩
  | (s, (b, true)) :: r, ks, i + 1, p, h => by
    rw [crashI] at h
    split at h
    · rcases List.mem_cons.1 h with rfl | h
      · exact ⟨true, by simp⟩
      · obtain ⟨l, hl⟩ := crashI_sub r _ i p h; exact ⟨l, by simp [hl]⟩
    · obtain ⟨l, hl⟩ := crashI_sub r _ i p h; exact ⟨l, by simp [hl]⟩
theorem crashI_first {F : List (Nm × Fi)} {s : Nm} (h : ∀ p ∈ F, bytesBefore s p.1 = true) (ks : List Bool) (i : Nat) : ∀ p ∈ crashI F ks i, bytesBefore s p.1 = true := fun p hp => by
  obtain ⟨l, hl⟩ := crashI_sub F ks i p hp; exact h (p.1, (p.2.1, l)) hl
theorem srt_crash : ∀ {F : List (Nm × Fi)} (_ : Srt F) (ks : List Bool) (i : Nat), Srt (crashI F ks i)
  | [], _, _, _ => List.Pairwise.nil
  | (s, (b, false)) :: r, h, ks, i => by
    obtain ⟨h1, h2⟩ := List.pairwise_cons.1 h
    rw [crashI]; exact List.pairwise_cons.2 ⟨crashI_first h1 ks i, srt_crash h2 ks i⟩
  | (s, (b, true)) :: r, h, ks, 0 => by rw [crashI]; exact h
  | (s, (b, true)) :: r, h, ks, i + 1 => by
    obtain ⟨h1, h2⟩ := List.pairwise_cons.1 h
    rw [crashI]; split
    · exact List.pairwise_cons.2 ⟨crashI_first h1 _ i, srt_crash h2 _ i⟩
    · exact srt_crash h2 _ i
theorem crOne_cons {p : Nm × Fi} {G : List (Nm × Fi)} {t : Nm} (h : bytesBefore p.1 t = true) (k : Bool) : crOne (p :: G) t k = p :: crOne G t k := by
  unfold crOne
  rw [gget_cons_ne (bb_ne h), gdel_cons_ne (bb_ne h)]
  cases k
  · rfl
  · simp only [if_true]; rw [gput_cons h]
theorem looseN_after {F : List (Nm × Fi)} {s : Nm} (h : ∀ p ∈ F, bytesBefore s p.1 = true) : ∀ t ∈ looseN F, bytesBefore s t = true := by
  intro t ht
  unfold looseN namesOf at ht
  obtain ⟨p, hp, rfl⟩ := List.mem_map.1 ht
  exact h p (List.mem_filter.1 hp).1
theorem crash_step : ∀ {F : List (Nm × Fi)} (_ : Srt F) (ks : List Bool) (i : Nat) (_ : i < (looseN F).length), crashI F ks (i + 1) = crOne (crashI F ks i) ((looseN F).getD i []) (ks.getD i false)
  | [], _, _, _, h => by simp [looseN, namesOf] at h
  | (s, (b, false)) :: r, hs, ks, i, h => by
    obtain ⟨h1, h2⟩ := List.pairwise_cons.1 hs
    rw [looseN_f] at h ⊢
    rw [crashI, crashI, crash_step h2 ks i h]
    rw [crOne_cons (looseN_after h1 _ (by rw [getD_in _ _ _ h]; exact List.getElem_mem h))]
  | (s, (b, true)) :: r, hs, ks, 0, h => by
    obtain ⟨h1, h2⟩ := List.pairwise_cons.1 hs
    rw [looseN_t]
    rw [crashI, crashI, crashI_zero]
    have e1 : gdel ((s, ((b, true) : Fi)) :: r) s = r := by
      have := gdel_cons_eq (p := (s, ((b, true) : Fi))) (L := r)
      rw [this, gdel_none fun p hp => (bb_ne (h1 p hp)).symm]
    have e2 : gget ((s, ((b, true) : Fi)) :: r) s = some (b, true) := gget_cons_eq (p := (s, ((b, true) : Fi)))
    unfold crOne
    simp only [List.getD_cons_zero]
    rw [e1, e2, gput_first h1]
    cases ks <;> rfl
  | (s, (b, true)) :: r, hs, ks, i + 1, h => by
    obtain ⟨h1, h2⟩ := List.pairwise_cons.1 hs
    rw [looseN_t] at h ⊢
    have h' : i < (looseN r).length := by simpa using h
    have ih := crash_step h2 ks.tail i h'
    rw [crashI, crashI, ih]
    have e3 : (s :: looseN r).getD (i + 1) [] = (looseN r).getD i [] := by simp
    have e4 : ks.getD (i + 1) false = ks.tail.getD i false := by cases ks <;> simp
    rw [e3, e4]
    split
    · rw [crOne_cons (p := (s, ((b, false) : Fi))) (looseN_after (s := s) h1 ((looseN r).getD i []) (by rw [getD_in _ _ _ h']; exact List.getElem_mem h'))]
    · rfl
/-- The i-th loose file is there still, and loose, where those ahead of it have been looked at. -/
theorem crash_get : ∀ {F : List (Nm × Fi)} (_ : Srt F) (ks : List Bool) (i : Nat) (_ : i < (looseN F).length), ∃ x, gget (crashI F ks i) ((looseN F).getD i []) = some x
  | [], _, _, _, h => by simp [looseN, namesOf] at h
  | (s, (b, false)) :: r, hs, ks, i, h => by
    obtain ⟨h1, h2⟩ := List.pairwise_cons.1 hs
    rw [looseN_f] at h ⊢
    rw [crashI, gget_cons_ne (bb_ne (looseN_after h1 _ (by rw [getD_in _ _ _ h]; exact List.getElem_mem h)))]
    exact crash_get h2 ks i h
  | (s, (b, true)) :: r, hs, ks, 0, h => by rw [looseN_t, crashI]; exact ⟨_, gget_cons_eq (p := (s, ((b, true) : Fi)))⟩
  | (s, (b, true)) :: r, hs, ks, i + 1, h => by
    obtain ⟨h1, h2⟩ := List.pairwise_cons.1 hs
    rw [looseN_t] at h ⊢
    have h' : i < (looseN r).length := by simpa using h
    have e3 : (s :: looseN r).getD (i + 1) [] = (looseN r).getD i [] := by simp
    rw [e3, crashI]
    split
    · rw [gget_cons_ne (p := (s, ((b, false) : Fi))) (bb_ne (looseN_after (s := s) h1 ((looseN r).getD i []) (by rw [getD_in _ _ _ h']; exact List.getElem_mem h')))]
      exact crash_get h2 _ i h'
    · exact crash_get h2 _ i h'
theorem crash_len : ∀ (F : List (Nm × Fi)) (ks : List Bool) (i : Nat), (crashI F ks i).length ≤ F.length
  | [], _, _ => by simp [crashI]
  | (s, (b, false)) :: r, ks, i => by rw [crashI]; have := crash_len r ks i; simp; omega
  | (s, (b, true)) :: r, ks, 0 => by rw [crashI]; exact Nat.le_refl _
  | (s, (b, true)) :: r, ks, i + 1 => by rw [crashI]; have := crash_len r ks.tail i; split <;> simp <;> omega
def Pd.crash (d : Pd) (ks : List Bool) : Pd := { d with F := crashI d.F ks (looseN d.F).length, out := false }
#print axioms crash_step
end Go.Proofs.Ytfppmpfmafnfmaa

/- Contracts of Offline, Full and Crash of package drive. -/
namespace Go.Proofs.Ytfppmpfmafnfmaa
open Go Go.RowKit

section
variable {w : World} {S : Nat → Prop} {p m : Nat} {fu : Option Nat} {d : Pd} {L : List (Nm × Ent)}
theorem DrC.setC (h : DrC w S p m fu d L) (i : Nat) (v : Value) {d2 : Pd} {fu2 : Option Nat} (hc : (dcells p m fu d (usedOf d.F : Int)).setIfInBounds i v = dcells p m fu2 d2 (usedOf d2.F : Int)) (hF : d2.F = d.F) (hz : d2.size = d.size) :
    DrC (w.setCell ⟨p, i, none⟩ v) S p m fu2 d2 L :=
  h.turned (d2 := d2) (by have := h.c.set i v; rw [hc] at this; exact this) (h.mp.setCell (Ne.symm h.pm) _) (fun _ _ h1 _ => heap_setCell_ne _ _ _ _ h1) (Nat.le_of_eq (setCell_size _ _ _).symm) (hF.trans h.fs) h.so (fun x hx => ⟨h.nm x hx, Or.inl ⟨x, hx, rfl, rfl⟩⟩) h.ap (by rw [hF, hz]; exact h.us) hz
/-- What a call leaves that sets the drive's own cells alone. -/
def SetAt (w : World) (S : Nat → Prop) (p m : Nat) (fu : Option Nat) (d : Pd) (L : List (Nm × Ent)) (e : Ending) (w' : World) : Prop :=
  e = .returned (.int .i64 0) ∧ DrC w' S p m fu d L ∧ Only (fun b => b = p) w w' ∧ w'.heap.size = w.heap.size
theorem offline_any (h : DrC w S p m fu d L) (b : Bool) : Calls Try.prog 27 #[ptr p, .bool b] w (SetAt w S p m fu { d with offl := b } L) := by
  have c5 : w.cell? ⟨p, 5, none⟩ = some (.bool d.offl) := h.c.cell 5
  have z5 : w.frozen? ⟨p, 5, none⟩ = false := h.c.free 5
  have hmade := made_any h
  have H := hid (h.setC 5 (.bool b) (d2 := { d with offl := b }) (fu2 := fu) rfl rfl rfl)
  clear h
  go_enter Try.func27, Try.ntmps27
  go_wp2_with (go_at_call 40; refine hmade.mono ?_; rintro e w' ⟨rfl, hw'⟩; have hw2 := hw'.symm; subst hw2)
  go_ret
  exact ⟨rfl, H.out, Only.set (S := fun b => b = p) _ _ _ rfl, setCell_size _ _ _⟩
theorem full_any (h : DrC w S p m fu d L) (b : Bool) : Calls Try.prog 28 #[ptr p, .bool b] w (SetAt w S p m fu { d with full := b } L) := by
  have c6 : w.cell? ⟨p, 6, none⟩ = some (.bool d.full) := h.c.cell 6
  have z6 : w.frozen? ⟨p, 6, none⟩ = false := h.c.free 6
  have hmade := made_any h
  have H := hid (h.setC 6 (.bool b) (d2 := { d with full := b }) (fu2 := fu) rfl rfl rfl)
  clear h
  go_enter Try.func28, Try.ntmps28
  go_wp2_with (go_at_call 40; refine hmade.mono ?_; rintro e w' ⟨rfl, hw'⟩; have hw2 := hw'.symm; subst hw2)
  go_ret
  exact ⟨rfl, H.out, Only.set (S := fun b => b = p) _ _ _ rfl, setCell_size _ _ _⟩
/-- Bools that a slice tells, whose memory is not in S. -/
def KAt (w : World) (S : Nat → Prop) (po : Option Addr) (ks : List Bool) : Prop := ks = [] ∨ ∃ b o, po = some ⟨b, o, none⟩ ∧ ¬ S b ∧ ∀ i, i < ks.length → w.cell? ⟨b, o + i, none⟩ = some (.bool (ks.getD i false))
theorem KAt.only {w' : World} {T : Nat → Prop} {po : Option Addr} {ks : List Bool} (h : KAt w S po ks) (ho : Only T w w') (hT : ∀ b, b < w.heap.size → T b → S b) : KAt w' S po ks := by
  rcases h with h | ⟨b, o, rfl, hn, h⟩
  · exact Or.inl h
  · refine Or.inr ⟨b, o, rfl, hn, fun i hi => ?_⟩
    have hc := h i hi
    have hl : b < w.heap.size := cell_lt' (a := ⟨b, o + i, none⟩) (by rw [hc]; simp)
    exact (World.cell?_of_block (ho.block b hl (fun ht => hn (hT _ hl ht)))).trans hc
theorem kat_at {b o : Nat} {ks : List Bool} {k : Bool} (h : KAt w S (some ⟨b, o, none⟩) ks) {i : Nat} (hi : i < ks.length) (hk : ks.getD i false = k) : w.cell? ⟨b, o + i, none⟩ = some (.bool k) := by
  rcases h with h | ⟨b', o', e, _, h⟩
  · rw [h] at hi; simp at hi
  · cases e; rw [← hk]; exact h i hi
structure CrI (w wr : World) (S : Nat → Prop) (p m : Nat) (fu : Option Nat) (d : Pd) (ks : List Bool) (v : Value) (i : Nat) (L : List (Nm × Ent)) : Prop where
  dr : DrC wr S p m fu { d with F := crashI d.F ks i } L
  tx : TxtL w.heap.size wr v (looseN d.F)
  on : Only (fun b => b = p ∨ b = m) w wr
theorem CrI.next {wr w4 : World} {ks : List Bool} {v : Value} {i : Nat} {L L2 : List (Nm × Ent)} (h : CrI w wr S p m fu d ks v i L) (ho : Only (fun b => b = p ∨ b = m) wr w4) (hd : DrC w4 S p m fu { d with F := crashI d.F ks (i + 1) } L2) (hp : p < w.heap.size) (hm : m < w.heap.size) : CrI w w4 S p m fu d ks v (i + 1) L2 :=
  ⟨hd, h.tx.keep fun b hb => ho.block b (own_ge h.tx b hb).2 (fun e => by have := (own_ge h.tx b hb).1; rcases e with rfl | rfl <;> omega), h.on.then ho (fun _ _ h => h)⟩
theorem crOne_true {F : List (Nm × Fi)} {s : Nm} {x : Fi} (h : gget F s = some x) : crOne F s true = gput (gdel F s) s (x.1, false) := by unfold crOne; rw [h]; rfl
theorem looseN_ok (h : DrC w S p m fu d L) {s : Nm} (hs : s ∈ looseN d.F) : okNm s = true := by
  unfold looseN namesOf at hs
  obtain ⟨x, hx, rfl⟩ := List.mem_map.1 hs
  have hx := (List.mem_filter.1 hx).1
  rw [h.fs] at hx
  obtain ⟨y, hy, rfl⟩ := List.mem_map.1 hx
  exact h.nm y hy
set_option maxHeartbeats 1000000 in
set_option maxRecDepth 100000 in
theorem crash_any (h : DrC w S p m fu d L) (po : Option Addr) (c : Nat) (ks : List Bool) (hk : KAt w S po ks) (hkn : ks.length ≤ 1000000000) (hl : d.F.length < 1000000000000) :
    Calls Try.prog 30 #[ptr p, .slice po ks.length c] w fun e w' => e = .returned (.int .i64 0) ∧ DrAt w' S p none (d.crash ks) ∧ Only (fun b => b = p ∨ b = m) w w' := by
  have hmade := made_any h
  have HL := hid (loose_any h hl)
  have HLN := hid hl
  have H := hid h
  have HK := hid hk
  have HSF := hid h.srtF
  have hlp := h.lt p h.sp
  have hlm := h.lt m h.sm
  clear h hk hl
  go_enter Try.func30, Try.ntmps30
  go_wp2_with (first
    | (go_at_call 40; refine hmade.mono ?_; rintro e w' ⟨rfl, hw'⟩; have hw2 := hw'.symm; subst hw2)
    | (go_at_call 32; refine HL.out.mono ?_; rintro e w1 ⟨pv, cv, rfl, htx, hb⟩; have HI0 : Hid (CrI w w1 S p m fu d ks (.slice pv d.loose.length cv) 0 L) := hid ⟨by rw [crashI_zero]; exact H.out.below hb, htx, Only.of_below hb⟩; clear htx hb))
  have HNL : Hid (d.loose = looseN d.F) := hid rfl
  rw [HNL.out] at HI0 ⊢
  have hnl : (looseN d.F).length ≤ d.F.length := by unfold looseN namesOf; rw [List.length_map]; exact List.length_filter_le _ _
  have hnl2 : (looseN d.F).length < 1000000000000 := by have := HLN.out; omega
  clear hnl HNL
  go_loopw [14] (fun v wr => ∃ i : Nat, i ≤ (looseN d.F).length ∧ v = .int .i64 (i : Int) ∧ ∃ Li, CrI w wr S p m fu d ks (.slice pv (looseN d.F).length cv) i Li) (fun v _ => ((looseN d.F).length - intOf v).toNat)
  case atStart => exact ⟨0, by omega, rfl, L, HI0.out⟩
  case round =>
    obtain ⟨i, hi, rfl, Li, hI⟩ := hrel
    have HI := hid hI
    clear hI HI0
    by_cases hlt : i < (looseN d.F).length
    · have hlt' : (i : Int) < ((looseN d.F).length : Int) := by omega
      obtain ⟨x, hx⟩ := crash_get HSF.out ks i hlt
      have hstep := crash_step HSF.out ks i hlt
      have hsok : okNm ((looseN d.F).getD i []) = true := looseN_ok H.out (by rw [getD_in _ _ _ hlt]; exact List.getElem_mem hlt)
      have htx := HI.out.tx.at
      rcases htx with ⟨h0, _⟩ | ⟨g, cg, hv, hcell⟩
      · rw [h0] at hlt; simp at hlt
      obtain ⟨rfl, rfl⟩ : pv = some ⟨g, 0, none⟩ ∧ cv = cg := by cases hv; exact ⟨rfl, rfl⟩
      have ci := hcell i hlt
      clear hv hcell
      generalize hsn : (looseN d.F).getD i [] = s at *
      have HSN := hid hsn
      have HX := hid hx
      have HST := hid hstep
      have HSOK := hid hsok
      have hsm : s.length ≤ maxLen := by have := ok_len hsok; unfold maxLen; omega
      clear hsn hx hstep hsok
      have hge : ∃ e pe ce, gget Li s = some e ∧ e.v = .slice pe e.b.length ce ∧ x = (e.b, e.l) := by
        have h1 := HX.out
        have h2 := HI.out.dr.fs
        simp only at h2
        rw [h2, gget_map] at h1
        cases hg : gget Li s with
        | none => rw [hg] at h1; cases h1
        | some e =>
          rw [hg] at h1
          obtain ⟨pe, ce, hv⟩ := own_form (HI.out.dr.ow _ (gget_mem hg))
          exact ⟨e, pe, ce, rfl, hv, by cases h1; rfl⟩
      obtain ⟨e, pe, ce, hg, hev, rfl⟩ := hge
      have HEV := hid hev
      have hbl := used_le (by have := HI.out.dr.srtF; exact this) HX.out
      clear hev hbl
      have HDA := hid (HI.out.dr.alloc (.cells #[.slice pe e.b.length ce, .bool e.l] 78))
      have HTK := hid (take_any HDA.out s hsm)
      have d2 : wr.cell? ⟨p, 2, none⟩ = some (.map (some m)) := HI.out.dr.c.cell 2
      have hsub : (gdel (crashI d.F ks i) s).length < 1000000000000 := by have := len_del (crashI d.F ks i) s; have := crash_len d.F ks i; have := HLN.out; omega
      cases hkb : ks.getD i false
      · rw [hkb] at HST
        by_cases hik : i < ks.length
        · have hik' : (i : Int) < (ks.length : Int) := by omega
          have HK2 := hid (HK.out.only HI.out.on (fun b _ hb => hb.elim (fun e => e ▸ H.out.sp) (fun e => e ▸ H.out.sm)))
          rcases HK.out with h0 | ⟨bk, ok, hpo, hnb, _⟩
          · rw [h0] at hik; simp at hik
          subst hpo
          go_wp2_with (first
            | (at_lookup; refine wpList_look _ rfl _ _ false rfl HI.out.dr.mp hsm rfl rfl (r := .agg #[.slice pe e.b.length ce, .bool e.l]) (by rw [hg, ← HEV.out]; rfl) ?_)
            | (go_at_call 69; refine HTK.out.mono ?_; rintro e1 w2 ⟨rfl, hd2, ho2, hz2⟩; have HD2 := hid hd2; have HO2 := hid ho2
               have ckk : w2.cell? ⟨bk, ok + i, none⟩ = some (.bool false) := kat_at (HK2.out.only ((Only.alloc wr _).then ho2 (fun _ _ h => h)) (fun b _ hb => hb.elim (fun e => e ▸ H.out.sp) (fun e => e ▸ H.out.sm))) hik hkb
               clear hd2 ho2 hz2))
          go_roundw
          case rel =>
            refine ⟨i + 1, by omega, by go_num, _, HI.out.next ((Only.alloc wr _).then HO2.out (fun _ _ h => h)) (by rw [HST.out]; exact HD2.out) hlp hlm⟩
          case measure => simp [intOf]; omega
        · have hik' : ¬ (i : Int) < (ks.length : Int) := by omega
          go_wp2_with (first
            | (at_lookup; refine wpList_look _ rfl _ _ false rfl HI.out.dr.mp hsm rfl rfl (r := .agg #[.slice pe e.b.length ce, .bool e.l]) (by rw [hg, ← HEV.out]; rfl) ?_)
            | (go_at_call 69; refine HTK.out.mono ?_; rintro e1 w2 ⟨rfl, hd2, ho2, hz2⟩; have HD2 := hid hd2; have HO2 := hid ho2; clear hd2 ho2 hz2))
          go_roundw
          case rel =>
            refine ⟨i + 1, by omega, by go_num, _, HI.out.next ((Only.alloc wr _).then HO2.out (fun _ _ h => h)) (by rw [HST.out]; exact HD2.out) hlp hlm⟩
          case measure => simp [intOf]; omega
      · rw [hkb, crOne_true HX.out] at HST
        have hik : i < ks.length := by
          rcases Nat.lt_or_ge i ks.length with h | h
          · exact h
          · rw [List.getD_eq_getElem?_getD, List.getElem?_eq_none h] at hkb; cases hkb
        have hik' : (i : Int) < (ks.length : Int) := by omega
        have HK2 := hid (HK.out.only HI.out.on (fun b _ hb => hb.elim (fun e => e ▸ H.out.sp) (fun e => e ▸ H.out.sm)))
        rcases HK.out with h0 | ⟨bk, ok, hpo, hnb, _⟩
        · rw [h0] at hik; simp at hik
        subst hpo
        have hltS : ∀ b, S b → b < wr.heap.size := HI.out.dr.lt
        go_wp2_with (first
          | (at_lookup; refine wpList_look _ rfl _ _ false rfl HI.out.dr.mp hsm rfl rfl (r := .agg #[.slice pe e.b.length ce, .bool e.l]) (by rw [hg, ← HEV.out]; rfl) ?_)
          | (go_at_call 69; refine HTK.out.mono ?_; rintro e1 w2 ⟨rfl, hd2, ho2, hz2⟩; have HD2 := hid hd2; have HO2 := hid ho2
             have ckk : w2.cell? ⟨bk, ok + i, none⟩ = some (.bool true) := kat_at (HK2.out.only ((Only.alloc wr _).then ho2 (fun _ _ h => h)) (fun b _ hb => hb.elim (fun e => e ▸ H.out.sp) (fun e => e ▸ H.out.sm))) hik hkb
             have hbx : CAt w2 wr.heap.size #[.slice pe e.b.length ce, .bool e.l] 78 := (CAt.made wr _ _).keep (ho2.block _ (by rw [size_al]; omega) (fun h => by have := hltS p H.out.sp; have := hltS m H.out.sm; rcases h with h | h <;> omega))
             have x0 : w2.cell? ⟨wr.heap.size, 0, none⟩ = some (.slice pe e.b.length ce) := hbx.cell 0
             have x1 : w2.cell? ⟨wr.heap.size, 1, none⟩ = some (.bool e.l) := hbx.cell 1
             have y1 : w2.frozen? ⟨wr.heap.size, 1, none⟩ = false := hbx.free 1
             have hk3 : ∀ b, S b → (w2.setCell ⟨wr.heap.size, 1, none⟩ (.bool false)).heap[b]? = w2.heap[b]? := fun b hb => heap_setCell_ne _ _ _ _ (by have := hltS b hb; intro e; simp at e; omega)
             have HD3 := hid (hd2.keep (w' := w2.setCell ⟨wr.heap.size, 1, none⟩ (.bool false)) (Nat.le_of_eq (setCell_size _ _ _).symm) hk3)
             have hn := HDA.out.newOf hg false
             rw [HEV.out] at hn
             have hne : NewE (w2.setCell ⟨wr.heap.size, 1, none⟩ (.bool false)) S p m (gdel (gdel Li s) s) ⟨.slice pe e.b.length ce, e.b, false⟩ :=
               ⟨ownsRow_keep hn.ow fun b hb => (hk3 b (hn.sf b hb).1).trans (ho2.block b (HDA.out.lt b (hn.sf b hb).1) (fun e => e.elim (hn.sf b hb).2.1 (hn.sf b hb).2.2)), hn.by8, hn.sf, fun y hy => hn.ap y (mem_del.1 hy).1⟩
             have HP := hid (put_any HD3.out s HSOK.out pe e.b.length ce e.b false rfl hne (by rw [HD3.out.lenF]; exact hsub) (by
               show usedOf (gdel (gdel (crashI d.F ks i) s) s) + e.b.length ≤ d.size
               have h1 := HI.out.dr.used_at hg
               have h2 := used_del (HI.out.dr.srtF.del s) s
               have h3 := HI.out.dr.us
               simp only at h1 h2 h3
               omega))
             have HOT := hid (((Only.alloc wr (.cells #[.slice pe e.b.length ce, .bool e.l] 78)).then ho2 (fun _ _ h => h)).then (Only.set (S := fun b => b = wr.heap.size) w2 ⟨wr.heap.size, 1, none⟩ (.bool false) rfl) (fun j hj e => by omega))
             clear hd2 ho2 hz2 hbx hk3 hn hne)
          | (go_at_call 66; refine HP.out.mono ?_; rintro e2 w4 ⟨rfl, hd4, ho4⟩; have HD4 := hid hd4; have HO4 := hid ho4; clear hd4 ho4))
        go_roundw
        case rel =>
          refine ⟨i + 1, by omega, by go_num, _, HI.out.next (HOT.out.then HO4.out (fun _ _ h => h)) (by rw [HST.out]; exact HD4.out) hlp hlm⟩
        case measure => simp [intOf]; omega
    · have hlt' : ¬ (i : Int) < ((looseN d.F).length : Int) := by omega
      obtain rfl : i = (looseN d.F).length := by omega
      have c7 : wr.cell? ⟨p, 7, none⟩ = some (.bool d.out) := HI.out.dr.c.cell 7
      have c8 : wr.cell? ⟨p, 8, none⟩ = some (fuV fu) := HI.out.dr.c.cell 8
      have z7 : wr.frozen? ⟨p, 7, none⟩ = false := HI.out.dr.c.free 7
      have z8 : wr.frozen? ⟨p, 8, none⟩ = false := HI.out.dr.c.free 8
      go_wp2
      go_ret
      have h1 := HI.out.dr.setC 7 (.bool false) (d2 := d.crash ks) (fu2 := fu) rfl rfl rfl
      have h2 := h1.setC 8 (.pointer none) (d2 := d.crash ks) (fu2 := none) rfl rfl rfl
      exact ⟨rfl, ⟨m, _, h2⟩, (HI.out.on.then (Only.set (S := fun b => b = p ∨ b = m) wr ⟨p, 7, none⟩ _ (Or.inl rfl)) (fun _ _ h => h)).then (Only.set (S := fun b => b = p ∨ b = m) _ ⟨p, 8, none⟩ _ (Or.inl rfl)) (fun _ _ h => h)⟩
#print axioms crash_any
end
end Go.Proofs.Ytfppmpfmafnfmaa

/- Contract of Clone of package drive. -/
namespace Go.Proofs.Ytfppmpfmafnfmaa
open Go Go.RowKit

structure ClI (w wr : World) (m : Nat) (fu : Option Nat) (d : Pd) (L : List (Nm × Ent)) (left : Lit → Bool) (cnt : Nat) (Lc : List (Nm × Ent)) : Prop where
  rg : wr.ranges Try.prog 9 RF m (w.heap.size + 1 + 1) L.length (mapD L) left cnt
  c : CAt wr w.heap.size (dcells w.heap.size (w.heap.size + 1) fu d (usedOf d.F : Int)) 51
  mp : wr.ownsMap Try.prog 9 RF (w.heap.size + 1) Lc.length (mapD Lc)
  so : Srt Lc
  get : ∀ x, (gget Lc x).map Ent.fi = if left (.string x) then none else (gget L x).map Ent.fi
  ow : ∀ y ∈ Lc, wr.ownsRow w.heap.size 5 1 y.2.v y.2.b.length (y.2.b.map u8)
  ap : Lc.Pairwise fun x y => x.2.v.ownBlock = none ∨ x.2.v.ownBlock ≠ y.2.v.ownBlock
  be : Below w.heap.size w wr
section
variable {w wr : World} {m : Nat} {fu : Option Nat} {d : Pd} {L : List (Nm × Ent)} {left : Lit → Bool} {cnt : Nat} {Lc : List (Nm × Ent)}
theorem ClI.sub (h : ClI w wr m fu d L left cnt Lc) {x : Nm} {e : Ent} (hx : (x, e) ∈ Lc) : ∃ e0, (x, e0) ∈ L ∧ e0.fi = e.fi := by
  have h1 := h.get x
  rw [gget_of_mem h.so hx] at h1
  split at h1
  · cases h1
  · cases hg : gget L x with
    | none => rw [hg] at h1; cases h1
    | some e0 => rw [hg] at h1; exact ⟨e0, gget_mem hg, (Option.some.inj h1).symm⟩
theorem ClI.len (h : ClI w wr m fu d L left cnt Lc) : Lc.length ≤ L.length := by
  have h1 : (Lc.map (·.1)).Nodup := List.pairwise_map.2 h.so.apart
  have h2 : Lc.map (·.1) ⊆ L.map (·.1) := fun x hx => by
    obtain ⟨y, hy, rfl⟩ := List.mem_map.1 hx
    obtain ⟨e0, he, _⟩ := h.sub hy
    exact List.mem_map.2 ⟨_, he, rfl⟩
  have := h1.length_le_of_subset h2
  simpa using this
theorem ClI.all (h : ClI w wr m fu d L left cnt Lc) (hs : Srt L) (hl : ∀ k, left k = false) : gmap Ent.fi Lc = gmap Ent.fi L := by
  refine srt_ext (h.so.map _) (hs.map _) fun x => ?_
  rw [gget_map, gget_map, h.get x, hl]; rfl
/-- A row of bytes is neither the copy's block, nor its map's, nor the iterator's. -/
theorem ClI.row_ne (h : ClI w wr m fu d L left cnt Lc) {B n : Nat} {v : Value} {xs : List Value} (ho : wr.ownsRow B 5 1 v n xs) : ∀ b, v.ownBlock = some b → b ≠ w.heap.size ∧ b ≠ w.heap.size + 1 ∧ b ≠ w.heap.size + 1 + 1 := by
  intro b hb
  have hc : ∃ cur, wr.heap[b]? = some (.cells cur 5) := by
    rcases ho.2 with ⟨e, _⟩ | ⟨g, cap, cur, e, _, hg, _⟩
    · rw [e] at hb; simp [Value.ownBlock] at hb
    · rw [e] at hb; simp [Value.ownBlock] at hb; subst hb; exact ⟨cur, hg⟩
  obtain ⟨cur, hc⟩ := hc
  obtain ⟨es, clock, hm⟩ := ownsMap_at h.mp
  refine ⟨fun e => ?_, fun e => ?_, fun e => ?_⟩
  · have h1 : wr.heap[w.heap.size]? = _ := h.c
    rw [e, h1] at hc
    have ht := (Obj.cells.inj (Option.some.inj hc)).2.1
    revert ht; decide
  · rw [e, hm] at hc; cases hc
  · exact row_ne_iter ho h.rg (by rw [hb, e])
/-- One file more. -/
theorem ClI.more (h : ClI w wr m fu d L left cnt Lc) {x : Nm} {e : Ent} (hg : gget L x = some e) {w2 w6 : World} {cnt2 : Nat} (hrg : w2.ranges Try.prog 9 RF m (w.heap.size + 1 + 1) L.length (mapD L) (fun z => left z && !z.sameKey (.string x)) cnt2)
    (h2 : wr.grownBy w2 (some (w.heap.size + 1 + 1))) (h26 : Only (fun b => b = w.heap.size + 1) w2 w6) {v : Value} {n : Nat} (hm : w6.ownsMap Try.prog 9 RF (w.heap.size + 1) n (mapD (gput Lc x ⟨v, e.b, e.l⟩)))
    (ho : w6.ownsRow w2.heap.size 5 1 v e.b.length (e.b.map u8)) (hml : m < w.heap.size) : ClI w w6 m fu d L (fun z => left z && !z.sameKey (.string x)) cnt2 (gput Lc x ⟨v, e.b, e.l⟩) := by
  have hk : ∀ b, b < wr.heap.size → b ≠ w.heap.size + 1 → b ≠ w.heap.size + 1 + 1 → w6.heap[b]? = wr.heap[b]? := fun b hb h1 h3 =>
    (h26.block b (Nat.lt_of_lt_of_le hb h2.size) h1).trans (h2.block b hb (fun e => h3 (by cases e; rfl)))
  have hwr := h.be.size
  refine ⟨hrg.kept (row := some (w.heap.size + 1)) ⟨h26.os, h26.tape, h26.output, h26.size, fun k hk' hne => h26.block k hk' (fun e => hne (by rw [e]))⟩ (fun e => by have := Option.some.inj e; omega) (fun e => by have := Option.some.inj e; omega), ?_, ownsMap_exact hm, h.so.put x _, fun y => ?_, fun y hy => ?_, ?_, ?_⟩
  · exact h.c.keep (hk _ h.c.lt (by omega) (by omega))
  · rw [gget_put h.so]
    by_cases hy : y = x
    · subst hy; simp [Lit.sameKey, hg, Ent.fi]
    · rw [if_neg hy, h.get y]; simp [Lit.sameKey, hy]
  · rcases mem_put.1 hy with rfl | ⟨hy, _⟩
    · exact own_base ho (Nat.le_trans hwr h2.size)
    · exact ownsRow_keep (h.ow y hy) fun b hb => hk b (own_ge (h.ow y hy) b hb).2 (h.row_ne (h.ow y hy) b hb).2.1 (h.row_ne (h.ow y hy) b hb).2.2
  · refine ap_put (h.ap.filter _) fun y hy => ?_
    have hyL := (mem_del.1 hy).1
    by_cases e0 : y.2.v.ownBlock = none
    · exact Or.inl e0
    · refine Or.inr fun e2 => ?_
      obtain ⟨b, hb1⟩ := Option.ne_none_iff_exists'.1 e0
      have h3 := (own_ge (h.ow y hyL) b hb1).2
      rw [hb1] at e2
      have h4 := (own_ge ho b e2.symm).1
      have := h2.size
      omega
  · exact ⟨h26.os.trans (h2.os.trans h.be.os), h26.tape.trans (h2.tape.trans h.be.tape), h26.output.trans (h2.output.trans h.be.output), Nat.le_trans hwr (Nat.le_trans h2.size h26.size), fun k hk' => (hk k (Nat.lt_of_lt_of_le hk' hwr) (by omega) (by omega)).trans (h.be.block k hk')⟩
end
theorem run_makeMapH (n : Int) (w : World) : (Instr.makeMap 48 (some (.int .i64 n))).run Try.prog w = .ok (.map (some w.heap.size)) (w.alloc (.map #[] 0)) := by
  simp [Instr.makeMap, run_underlying underM, asInt, asIntOf, Result.andThen]
def CloAt (w : World) (d : Pd) (e : Ending) (w' : World) : Prop :=
  ∃ pc, e = .returned (ptr pc) ∧ DrAt w' (fun b => w.heap.size ≤ b ∧ b < w'.heap.size) pc none d ∧ Below w.heap.size w w'
section
variable {w : World} {S : Nat → Prop} {p m : Nat} {fu : Option Nat} {d : Pd} {L : List (Nm × Ent)}
set_option maxHeartbeats 1000000 in
set_option maxRecDepth 100000 in
theorem dclone_any (h : DrC w S p m fu d L) {f : Fs} (hf : FuAt w S fu f) (hl : d.F.length < 1000000000000) : Calls Try.prog 12 #[ptr p] w (CloAt w { d with out := d.isOut f }) := by
  have hmade := made_any h
  have hmm := run_makeMapH
  have H := hid h
  have HF := hid hf
  have HL : Hid (L.length < 1000000000000) := hid (by rw [h.lenF]; exact hl)
  have hml := h.lt m h.sm
  have hpl := h.lt p h.sp
  have c0 : w.cell? ⟨p, 0, none⟩ = some (ptr p) := h.c.cell 0
  have c1 : w.cell? ⟨p, 1, none⟩ = some (.int .i64 (d.size : Int)) := h.c.cell 1
  have c2 : w.cell? ⟨p, 2, none⟩ = some (.map (some m)) := h.c.cell 2
  have c3 : w.cell? ⟨p, 3, none⟩ = some (.int .i64 (usedOf d.F : Int)) := h.c.cell 3
  have c4 : w.cell? ⟨p, 4, none⟩ = some (.int .i64 (d.ops : Int)) := h.c.cell 4
  have c5 : w.cell? ⟨p, 5, none⟩ = some (.bool d.offl) := h.c.cell 5
  have c6 : w.cell? ⟨p, 6, none⟩ = some (.bool d.full) := h.c.cell 6
  have c7 : w.cell? ⟨p, 7, none⟩ = some (.bool d.out) := h.c.cell 7
  have c8 : w.cell? ⟨p, 8, none⟩ = some (fuV fu) := h.c.cell 8
  obtain ⟨fa, hfa⟩ : ∃ fa, fuV fu = .pointer fa := by cases fu <;> exact ⟨_, rfl⟩
  rw [hfa] at c8
  have HFA := hid hfa
  clear h hf hfa hl
  go_enter Try.func12, Try.ntmps12
  go_wp2_with (first
    | (go_at_call 40; refine hmade.mono ?_; rintro e w' ⟨rfl, hw'⟩; have hw2 := hw'.symm; subst hw2)
    | (at_len; refine wpList_len_own _ rfl _ 48 rfl 9 78 underM _ m _ _ rfl (H.out.mp.alloc _) ?_)
    | (at_range; refine wpList_range_own _ rfl _ 48 rfl 9 78 strLaw underM _ m _ _ rfl ((H.out.mp.alloc _).alloc _) ?_; intro w0 hrg0 hg0 hs0))
  go_frame
  simp only [size_al] at hrg0 ⊢
  have HI0 : Hid (ClI w w0 m fu d L (Maps.has (mapD L)) (Maps.size (mapD L)) []) := hid {
    rg := hrg0
    c := by
      have h1 := ((CAt.made w _ _).old (.map #[] 0)).keep (w' := w0) (hg0.block w.heap.size (by simp only [size_al]; omega) (by simp))
      unfold dcells; rw [HFA.out]; exact h1
    mp := by
      have h1 := ownsMap_keep (w' := w0) (World.ownsMap_made (w.alloc (.cells #[.pointer (some ⟨w.heap.size, 0, none⟩), .int .i64 (d.size : Int), .map (some (w.heap.size + 1)), .int .i64 (usedOf d.F : Int), .int .i64 (d.ops : Int), .bool d.offl, .bool d.full, .bool d.out, .pointer fa] 51)) Try.prog 9 RF) (hg0.block _ (by simp only [size_al]; omega) (by simp))
      rw [size_al] at h1
      exact h1
    so := List.Pairwise.nil
    get := fun x => by rw [mapD_has]; cases gget L x <;> rfl
    ow := by simp
    ap := List.Pairwise.nil
    be := below_on_grown (((Below.refl _ _).alloc (Nat.le_refl _) _).alloc (by simp only [size_al]; omega) _) hg0 (by simp) }
  clear hrg0 hg0 hs0
  go_loopw [25] (fun _ wr => ∃ left cnt Lc, ClI w wr m fu d L left cnt Lc) (fun _ wr => wr.rangeLeft m (w.heap.size + 1 + 1))
  case atStart => exact ⟨_, _, _, HI0.out⟩
  case round =>
    obtain ⟨left, cnt, Lc, hI⟩ := hrel
    have HI := hid hI
    clear hI HI0
    go_wp2_with (first
      | (at_next; refine wpList_next_ranges _ rfl _ rfl 9 strLaw RF sv mkV invK9 invV9 m (w.heap.size + 1 + 1) L.length _ _ _ rfl HI.out.rg ?_ ?_)
      | go_in)
    · intro hc0 hl0
      have HALL := hid (HI.out.all H.out.so hl0)
      have HIO := hid (isOut_any (H.out.below HI.out.be) (HF.out.below HI.out.be))
      have k7 : wr.cell? ⟨w.heap.size, 7, none⟩ = some (.bool d.out) := HI.out.c.cell 7
      have k8 : wr.cell? ⟨w.heap.size, 8, none⟩ = some (fuV fu) := HI.out.c.cell 8
      have y7 : wr.frozen? ⟨w.heap.size, 7, none⟩ = false := HI.out.c.free 7
      have y8 : wr.frozen? ⟨w.heap.size, 8, none⟩ = false := HI.out.c.free 8
      clear hc0 hl0
      go_wp2_with (go_at_call 42; refine HIO.out.mono ?_; rintro e w' ⟨rfl, hw'⟩; have hw2 := hw'.symm; subst hw2)
      go_ret
      have hS : Only (fun b => b = w.heap.size) wr ((wr.setCell ⟨w.heap.size, 7, none⟩ (.bool (d.isOut f))).setCell ⟨w.heap.size, 8, none⟩ (.pointer none)) :=
        (Only.set (S := fun b => b = w.heap.size) wr ⟨w.heap.size, 7, none⟩ _ rfl).then (Only.set (S := fun b => b = w.heap.size) _ ⟨w.heap.size, 8, none⟩ _ rfl) (fun _ _ h => h)
      have hcc := (HI.out.c.set 7 (.bool (d.isOut f))).set 8 (.pointer none)
      generalize ((wr.setCell ⟨w.heap.size, 7, none⟩ (.bool (d.isOut f))).setCell ⟨w.heap.size, 8, none⟩ (.pointer none)) = wz at *
      have hwz : w.heap.size + 1 + 1 < wz.heap.size := Nat.lt_of_lt_of_le HI.out.rg.lt hS.size
      refine ⟨w.heap.size, rfl, ⟨w.heap.size + 1, Lc, ?_⟩, ?_⟩
      · exact {
          c := hcc
          mp := ownsMap_keep HI.out.mp (hS.block _ (by have := HI.out.rg.lt; omega) (by omega))
          fs := by show d.F = _; rw [H.out.fs, HALL.out]
          ow := fun x hx => own_base (ownsRow_keep (HI.out.ow x hx) fun b hb => hS.block b (own_ge (HI.out.ow x hx) b hb).2 (HI.out.row_ne (HI.out.ow x hx) b hb).1) (Nat.zero_le _)
          ap := HI.out.ap
          by8 := fun x hx y hy => by
            obtain ⟨e0, he, hfi⟩ := HI.out.sub (x := x.1) (e := x.2) hx
            have : e0.b = x.2.b := congrArg Prod.fst hfi
            exact H.out.by8 _ he y (by show y ∈ e0.b; rw [this]; exact hy)
          so := HI.out.so
          nm := fun x hx => by obtain ⟨e0, he, _⟩ := HI.out.sub (x := x.1) (e := x.2) hx; exact H.out.nm (x.1, e0) he
          sp := ⟨Nat.le_refl _, by omega⟩
          sm := ⟨by omega, by omega⟩
          sf := fun x hx b hb => ⟨(own_ge (HI.out.ow x hx) b hb).1, Nat.lt_of_lt_of_le (own_ge (HI.out.ow x hx) b hb).2 hS.size⟩
          lt := fun b hb => hb.2
          us := H.out.us
          sz := H.out.sz }
      · exact ⟨hS.os.trans HI.out.be.os, hS.tape.trans HI.out.be.tape, hS.output.trans HI.out.be.output, Nat.le_trans HI.out.be.size hS.size, fun k hk => (hS.block k (Nat.lt_of_lt_of_le hk HI.out.be.size) (by omega)).trans (HI.out.be.block k hk)⟩
    · intro x c kl yd yp w2 cnt2 hkey hlk hv hat hrg2 hlt hg2 hs2 hen
      clear hs2
      obtain ⟨hkl, en, hgx, hev, hel⟩ := met hkey hv hat
      subst hkl
      obtain ⟨po, n, cc, l⟩ := c
      simp only [mkV] at hen ⊢
      simp only at hel hev
      clear hkey hv hat hlk
      have hn : n = en.b.length := by
        obtain ⟨po', cc', h1⟩ := own_form (H.out.ow _ (gget_mem hgx))
        simp only at h1
        rw [hev] at h1; cases h1; rfl
      subst hn
      have HB2 := hid (below_on_grown (w := w) HI.out.be hg2 (fun b hb => by cases hb; omega))
      have hxl : x.length ≤ maxLen := by have := ok_len (H.out.nm _ (gget_mem hgx)); simp only at this; unfold maxLen; omega
      have HG := hid hgx
      have HEL := hid hel
      have HEV := hid hev
      have HLT := hid hlt
      have HRG2 := hid hrg2
      have HG2 := hid hg2
      have HM2 := hid (ownsMap_keep (w' := w2) HI.out.mp (hg2.block _ (by have := HI.out.rg.lt; omega) (fun e => by have := Option.some.inj e; omega)))
      have HC2 := hid (HI.out.c.keep (w' := w2) (hg2.block _ (by have := HI.out.rg.lt; omega) (fun e => by have := Option.some.inj e; omega)))
      have hw2l : w.heap.size + 1 + 1 < w2.heap.size := Nat.lt_of_lt_of_le HI.out.rg.lt hg2.size
      have hle : en.b.length ≤ 67108864 := by
        have h1 : gget d.F x = some en.fi := by rw [H.out.fs, gget_map, hgx]; rfl
        have h2 := used_le H.out.srtF h1
        have h3 := H.out.us
        have h4 := H.out.sz
        have h5 : en.fi.1.length = en.b.length := rfl
        omega
      clear hgx hel hev hlt hrg2 hg2
      go_wp2_with (first
        | (go_at_call 41
           have hb3 : Below w.heap.size w (w2.alloc (.cells #[.slice po en.b.length cc, .bool l] 78)) := below_on _ _ HB2.out ((Below.refl _ _).alloc (Nat.le_refl _) _)
           refine (clone_any po cc en.b _ (own_BAt (c := cc) (n := en.b.length) (B := 0) (by have := (H.out.below hb3).ow _ (gget_mem HG.out); simp only at this; rw [HEV.out] at this; exact this)) (by omega)).mono ?_
           rintro e1 w4 ⟨pv, cv, rfl, ho4, hb4⟩
           have hbx := (CAt.made w2 #[.slice po en.b.length cc, .bool l] 78).below hb4
           have x0 : w4.cell? ⟨w2.heap.size, 0, none⟩ = some (.slice po en.b.length cc) := hbx.cell 0
           have x1 : w4.cell? ⟨w2.heap.size, 1, none⟩ = some (.bool l) := hbx.cell 1
           have y0 : w4.frozen? ⟨w2.heap.size, 0, none⟩ = false := hbx.free 0
           have k2 : w4.cell? ⟨w.heap.size, 2, none⟩ = some (.map (some (w.heap.size + 1))) := ((HC2.out.old _).below hb4).cell 2
           have HO4 := hid ho4
           have HB4 := hid hb4
           have HM5 := hid ((ownsMap_keep (w' := w4) (HM2.out.alloc _) (hb4.block _ (by rw [size_al]; omega))).setCell (a := ⟨w2.heap.size, 0, none⟩) (by simp; omega) (.slice pv en.b.length cv))
           clear hbx ho4 hb4 hb3)
        | (at_mapUpdate; refine wpList_mapUpdate_in _ rfl _ _ _ 48 rfl 9 78 strLaw underM _ (w.heap.size + 1) _ _ rfl HM5.out (by have := HI.out.len; have := HL.out; unfold maxLen; omega) _ _ _ rfl rfl (keyS x hxl) _ _ (RF_mk _ _ _ _) ?_; intro w6 hown6 hturn6; have HOWN6 := hid hown6; have HT6 := hid hturn6; clear hown6 hturn6; simp only [Act.put]))
      have h26 : Only (fun b => b = w.heap.size + 1) w2 w6 :=
        (((Only.alloc w2 (.cells #[.slice po en.b.length cc, .bool l] 78)).then (Only.of_below HB4.out) (fun _ _ h => h)).then (Only.set (S := fun b => b = w2.heap.size) w4 ⟨w2.heap.size, 0, none⟩ (.slice pv en.b.length cv) rfl) (fun j hj e => by omega)).then (Only.of_grown (S := fun b => b = w.heap.size + 1) HT6.out.grown (fun k e _ => by cases e; rfl)) (fun _ _ h => h)
      have hz4 := HB4.out.size
      rw [size_al] at hz4
      have ho6 : w6.ownsRow w2.heap.size 5 1 (.slice pv en.b.length cv) en.b.length (en.b.map u8) := by
        refine own_base (B := (w2.alloc (.cells #[.slice po en.b.length cc, .bool l] 78)).heap.size) (ownsRow_keep HO4.out fun b hb => ?_) (by rw [size_al]; omega)
        have h1 := own_ge HO4.out b hb
        rw [size_al] at h1
        exact (HT6.out.grown.block b (by rw [setCell_size]; exact h1.2) (fun e => by have := Option.some.inj e; omega)).trans (heap_setCell_ne _ _ _ _ (by intro e; simp at e; omega))
      have hel := HEL.out
      subst hel
      have hm6 : w6.ownsMap Try.prog 9 RF (w.heap.size + 1) (Lc.length + 1) (mapD (gput Lc x ⟨.slice pv en.b.length cv, en.b, en.l⟩)) := by rw [← mapD_put]; exact HOWN6.out
      have HN := hid (HI.out.more HG.out HRG2.out HG2.out h26 hm6 ho6 hml)
      clear h26 ho6 hm6 hz4
      go_roundw
      case rel => exact ⟨_, cnt2, _, HN.out⟩
      case measure => rw [HN.out.rg.left_eq, HI.out.rg.left_eq]; exact HLT.out
#print axioms dclone_any
end
end Go.Proofs.Ytfppmpfmafnfmaa

/- The statements' acts; contracts of Pick and step. -/
namespace Go.Proofs.Ytfppmpfmafnfmaa
open Go Go.RowKit

/-- An act, as it stands in memory. -/
structure AV where
  kind : Int
  which : Int
  at_ : Int
  A : Nm
  C : Nm
  pb : Option Addr
  cb : Nat
  bs : List Nat
  is_ : Bool
  mask : Int
  pk : Option Addr
  ck : Nat
  ks : List Bool
def AV.val (x : AV) : Array Value := #[.int .i64 x.kind, .int .i64 x.which, .int .i64 x.at_, sv x.A, sv x.C, .slice x.pb x.bs.length x.cb, .bool x.is_, .int .u8 x.mask, .slice x.pk x.ks.length x.ck]
structure AV.ok (w : World) (x : AV) : Prop where
  hA : x.A.length ≤ maxLen
  hC : x.C.length ≤ maxLen
  bB : BAt w x.pb x.bs
  b8 : ∀ y ∈ x.bs, y < 256
  bK : KAt w (fun _ => False) x.pk x.ks
  k1 : -9223372036854775808 ≤ x.kind ∧ x.kind ≤ 9223372036854775807
  k2 : -9223372036854775808 ≤ x.which ∧ x.which ≤ 9223372036854775807
  k3 : -9223372036854775808 ≤ x.at_ ∧ x.at_ ≤ 9223372036854775807
  k4 : 0 ≤ x.mask ∧ x.mask ≤ 255
theorem AV.ok.below {w w' : World} {x : AV} (h : x.ok w) (hb : Below w.heap.size w w') : x.ok w' :=
  { h with bB := h.bB.keepB hb, bK := h.bK.only (T := fun _ => False) ⟨hb.os, hb.tape, hb.output, hb.size, fun k hk _ => hb.block k hk⟩ (fun _ _ h => h) }
theorem KAt.under {w : World} {S : Nat → Prop} {po : Option Addr} {ks : List Bool} (h : KAt w (fun _ => False) po ks) {B : Nat} (hB : ∀ b o i, po = some ⟨b, o, none⟩ → i < ks.length → b < B) (hS : ∀ b, S b → B ≤ b) : KAt w S po ks := by
  rcases h with h | ⟨b, o, rfl, _, h⟩
  · exact Or.inl h
  · by_cases h0 : ks = []
    · exact Or.inl h0
    · refine Or.inr ⟨b, o, rfl, fun hs => ?_, h⟩
      have h1 := hB b o 0 rfl (by cases ks; exact absurd rfl h0; simp)
      have := hS b hs; omega
def pkN (x : Int) (n : Nat) : Nat := if x.tmod n < 0 then (x.tmod n + n).toNat else (x.tmod n).toNat
theorem tmod_lo (x : Int) (n : Nat) (h : 1 ≤ n) : -(n : Int) < x.tmod n := by
  have := Int.tmod_lt_of_pos (-x) (b := (n : Int)) (by omega)
  rw [Int.neg_tmod] at this; omega
theorem pkN_lt (x : Int) (n : Nat) (h : 1 ≤ n) : pkN x n < n := by
  have b1 := Int.tmod_lt_of_pos x (b := (n : Int)) (by omega)
  have b2 := tmod_lo x n h
  unfold pkN; split <;> omega
theorem pick_any (x : Int) (n : Nat) (w : World) (h1 : 1 ≤ n) (hn : n ≤ 100000) :
    Calls Try.prog 11 #[.int .i64 x, .int .i64 (n : Int)] w fun e w' => e = .returned (.int .i64 (pkN x n : Int)) ∧ w' = w := by
  have b1 := Int.tmod_lt_of_pos x (b := (n : Int)) (by omega)
  have b2 := tmod_lo x n h1
  have hn1 : ¬ (n : Int) < 1 := by omega
  have hn0 : ¬ (n : Int) = 0 := by omega
  by_cases hneg : x.tmod n < 0
  · have e : ((pkN x n : Nat) : Int) = x.tmod n + n := by unfold pkN; rw [if_pos hneg]; omega
    have HE := hid e
    clear e
    go_enter Try.func11, Try.ntmps11
    go_wp2
    go_ret
    exact ⟨by rw [HE.out]; rfl, rfl⟩
  · have e : ((pkN x n : Nat) : Int) = x.tmod n := by unfold pkN; rw [if_neg hneg]; omega
    have HE := hid e
    clear e
    go_enter Try.func11, Try.ntmps11
    go_wp2
    go_ret
    exact ⟨by rw [HE.out]; rfl, rfl⟩
def Pd.step (d : Pd) (f : Fs) (x : AV) : Nat × Pd × Fs :=
  match pkN x.kind 4 with
  | 0 => d.write f x.A x.bs
  | 1 => d.sync f x.A
  | 2 => d.rename f x.A x.C
  | _ => d.delete f x.A
section
variable {w : World} {S : Nat → Prop} {p m : Nat} {fu : Option Nat} {d : Pd} {L : List (Nm × Ent)}
theorem Done.from1 {o : Obj} {w' : World} {r : Nat × Pd × Fs} {e : Ending} (h : Done (w.alloc o) S p fu r e w') : Done w S p fu r e w' := Done.from ((Below.refl _ _).alloc (Nat.le_refl _) _) h
set_option maxRecDepth 100000 in
theorem step_any (h : DrC w S p m fu d L) {f : Fs} (hf : FuAt w S fu f) (x : AV) (hx : x.ok w) (hn : x.bs.length ≤ 140737488355328) (ho : d.ops < 1000000000000) (hl : d.F.length < 1000000000000) :
    Calls Try.prog 35 #[ptr p, .agg x.val] w (Done w S p fu (d.step f x)) := by
  have H := hid h
  have HF := hid hf
  have HX := hid hx
  have HP := hid (fun W => pick_any x.kind 4 W (by omega) (by omega))
  have h4 := pkN_lt x.kind 4 (by omega)
  have HST : Hid (d.step f x = match pkN x.kind 4 with | 0 => d.write f x.A x.bs | 1 => d.sync f x.A | 2 => d.rename f x.A x.C | _ => d.delete f x.A) := hid rfl
  unfold AV.val
  clear h hf hx
  generalize hk : pkN x.kind 4 = k at *
  clear hk
  have : k = 0 ∨ k = 1 ∨ k = 2 ∨ k = 3 := by omega
  rcases this with rfl | rfl | rfl | rfl
  · go_enter Try.func35, Try.ntmps35
    go_wp2_with (first
      | (go_at_call 11; refine (HP.out _).mono ?_; rintro e w' ⟨rfl, hw'⟩; have hw2 := hw'.symm; subst hw2)
      | (go_at_call 23; refine (write_any (H.out.alloc _) (HF.out.alloc _) x.A HX.out.hA x.pb x.cb x.bs HX.out.b8 (HX.out.bB.keepB ((Below.refl _ _).alloc (Nat.le_refl _) _)) hn ho hl).mono ?_; rintro e2 w2 hD; obtain ⟨rfl, hR⟩ := Done.from1 hD; have HR := hid hR; clear hD hR))
    go_ret
    rw [HST.out]
    exact ⟨rfl, HR.out⟩
  · go_enter Try.func35, Try.ntmps35
    go_wp2_with (first
      | (go_at_call 11; refine (HP.out _).mono ?_; rintro e w' ⟨rfl, hw'⟩; have hw2 := hw'.symm; subst hw2)
      | (go_at_call 24; refine (sync_any (H.out.alloc _) (HF.out.alloc _) x.A HX.out.hA ho hl).mono ?_; rintro e2 w2 hD; obtain ⟨rfl, hR⟩ := Done.from1 hD; have HR := hid hR; clear hD hR))
    go_ret
    rw [HST.out]
    exact ⟨rfl, HR.out⟩
  · go_enter Try.func35, Try.ntmps35
    go_wp2_with (first
      | (go_at_call 11; refine (HP.out _).mono ?_; rintro e w' ⟨rfl, hw'⟩; have hw2 := hw'.symm; subst hw2)
      | (go_at_call 25; refine (rename_any (H.out.alloc _) (HF.out.alloc _) x.A x.C HX.out.hA HX.out.hC ho hl).mono ?_; rintro e2 w2 hD; obtain ⟨rfl, hR⟩ := Done.from1 hD; have HR := hid hR; clear hD hR))
    go_ret
    rw [HST.out]
    exact ⟨rfl, HR.out⟩
  · go_enter Try.func35, Try.ntmps35
    go_wp2_with (first
      | (go_at_call 11; refine (HP.out _).mono ?_; rintro e w' ⟨rfl, hw'⟩; have hw2 := hw'.symm; subst hw2)
      | (go_at_call 26; refine (delete_any (H.out.alloc _) (HF.out.alloc _) x.A HX.out.hA ho).mono ?_; rintro e2 w2 hD; obtain ⟨rfl, hR⟩ := Done.from1 hD; have HR := hid hR; clear hD hR))
    go_ret
    rw [HST.out]
    exact ⟨rfl, HR.out⟩
end
#print axioms step_any
end Go.Proofs.Ytfppmpfmafnfmaa

/- Contracts of SameBytes, in and names of the statements; acts and bools that came in. -/
namespace Go.Proofs.Ytfppmpfmafnfmaa
open Go Go.RowKit

/-- A row of bytes of the statements' own. -/
def Row8 (w : World) (v : Value) (bs : List Nat) : Prop := ∃ B, w.ownsRow B 5 1 v bs.length (bs.map u8)
theorem conv_row {w : World} {po : Option Addr} {n c : Nat} {bs : List Nat} (h : Row8 w (.slice po n c) bs) : (convert 33 9 (.slice po n c)).run Try.prog w = .ok (.string (strOfNums (bs.map fun (k : Nat) => (k : Int)))) w := by
  obtain ⟨B, h⟩ := h
  have hat := own_BAt h
  rcases h.2 with ⟨e, h0⟩ | ⟨g, cap, cur, e, _, hg, h1, _, h3, h4⟩
  · cases e
    have : bs = [] := List.eq_nil_of_length_eq_zero h0
    subst this
    rw [run_convert_bytes_string w 33 9 5 _ 0 0 Try.underlying33 Try.underlying5 Try.underlying9]
    simp [Conv.bytesToString]
    rfl
  · cases e
    rcases hat with ⟨h, _⟩ | ⟨a, ha, hc⟩
    · cases h
    · cases ha
      refine run_convert_bytes_arg w 33 5 Try.underlying33 Try.underlying5 g 0 bs.length c _ (by simp) (fun i hi => ?_) 9 Try.underlying9
      have hadd : (⟨g, 0, none⟩ : Addr).add i = ⟨g, i, none⟩ := by unfold Addr.add; split <;> simp_all
      have := hc i hi
      rw [hadd] at this
      rw [Nat.zero_add, this]; simp [List.getD, hi]
theorem sameBytes_true {w : World} {p q : Option Addr} {n k c d : Nat} {bs : List Nat} (h1 : Row8 w (.slice p n c) bs) (h2 : Row8 w (.slice q k d) bs) :
    Calls Try.prog 38 #[.slice p n c, .slice q k d] w fun e w' => e = .returned (.bool true) ∧ w' = w := by
  have h1 := conv_row h1
  have h2 := conv_row h2
  generalize strOfNums (bs.map fun (k : Nat) => (k : Int)) = s at *
  go_enter Try.func38, Try.ntmps38
  go_wp2
  go_ret
  exact ⟨rfl, rfl⟩
theorem sv_eq (x y : Nm) : (⟨x.toArray⟩ : ByteArray) = ⟨y.toArray⟩ ↔ x = y :=
  ⟨fun e => by have := congrArg (fun b : ByteArray => b.data.toList) e; simpa using this, fun e => by rw [e]⟩
theorem ba_ne {X Y : ByteArray} (h : X ≠ Y) : (X.toList == Y.toList) = false := by
  cases hb : (X.toList == Y.toList)
  · rfl
  · exfalso
    have h2 := eq_of_beq hb
    rw [ByteArray.toList_eq, ByteArray.toList_eq] at h2
    exact h (WideShapes.bytes_inj h2)
set_option maxRecDepth 100000 in
theorem in_any (v : Value) (ns : List Nm) (s : Nm) (w : World) (hn : ns.length ≤ 1000000000000) (hv : TxtAt w v ns) :
    Calls Try.prog 37 #[v, sv s] w fun e w' => e = .returned (.bool (decide (s ∈ ns))) ∧ w' = w := by
  have hform : ∃ po c, v = .slice po ns.length c := by rcases hv with ⟨rfl, rfl⟩ | ⟨b, c, rfl, _⟩ <;> exact ⟨_, _, rfl⟩
  obtain ⟨po, c, rfl⟩ := hform
  have HV := hid hv
  have HB := hid (fun x => sv_eq x s)
  clear hv
  have HD : Hid (∀ b : Bool, b = decide (s ∈ ns) → b = decide (s ∈ ns)) := hid (fun _ h => h)
  generalize hdd : decide (s ∈ ns) = dd at *
  have HDD := hid hdd
  clear hdd HD
  unfold sv
  generalize (⟨s.toArray⟩ : ByteArray) = Y at *
  go_enter Try.func37, Try.ntmps37
  go_wp2
  go_loopw [5] (fun v wr => ∃ k : Nat, k ≤ ns.length ∧ v = .int .i64 (k : Int) ∧ wr = w ∧ ∀ i, i < k → ns.getD i [] ≠ s) (fun v _ => (ns.length - intOf v).toNat)
  case atStart => exact ⟨0, by omega, rfl, rfl, fun i hi => by omega⟩
  case round =>
    obtain ⟨k, hk, rfl, hw, hok⟩ := hrel
    have HOK := hid hok
    subst hw
    clear hok
    by_cases hlt : k < ns.length
    · have hlt' : (k : Int) < (ns.length : Int) := by omega
      rcases HV.out with ⟨h0, _⟩ | ⟨b, c2, hv, hc⟩
      · rw [h0] at hlt; simp at hlt
      cases hv
      have ck := hc k hlt
      clear hc
      have hbq := HB.out (ns.getD k [])
      unfold sv at ck
      generalize (⟨(ns.getD k []).toArray⟩ : ByteArray) = X at *
      by_cases he : ns.getD k [] = s
      · have hxy := hbq.2 he
        subst hxy
        clear hbq
        go_wp2
        go_ret
        have : s ∈ ns := by rw [← he, getD_in _ _ _ hlt]; exact List.getElem_mem hlt
        exact ⟨by rw [← HDD.out, decide_eq_true this]; rfl, rfl⟩
      · have hxy : X ≠ Y := fun e => he (hbq.1 e)
        have hx2 := ba_ne hxy
        clear hbq
        go_wp2
        go_roundw
        case rel =>
          refine ⟨k + 1, by omega, by go_num, by trivial, fun i hi => ?_⟩
          by_cases e : i = k
          · rw [e]; exact he
          · exact HOK.out i (by omega)
        case measure => simp [intOf]; omega
    · have hlt' : ¬ (k : Int) < (ns.length : Int) := by omega
      have hni : ¬ s ∈ ns := fun hm => by
        obtain ⟨i, hi, e⟩ := List.mem_iff_getElem.1 hm
        exact HOK.out i (by omega) (by rw [getD_in _ _ _ hi]; exact e)
      go_wp2
      go_ret
      exact ⟨by rw [← HDD.out, decide_eq_false hni]; rfl, rfl⟩
section
variable {w : World} {S : Nat → Prop} {p m : Nat} {fu : Option Nat} {d : Pd} {L : List (Nm × Ent)}
theorem lnames_any (h : DrC w S p m fu d L) {f : Fs} (hf : FuAt w S fu f) (hl : d.F.length < 1000000000000) : Calls Try.prog 36 #[ptr p] w (NamesAt w (d.list f [])) := by
  have HL := hid (list_any h hf [] hl)
  clear h hf
  go_enter Try.func36, Try.ntmps36
  go_wp2_with (go_at_call 22; refine HL.out.mono ?_; rintro e w1 ⟨po, c, rfl, htx, hb⟩; have HR := hid (And.intro htx hb); clear htx hb)
  go_ret
  exact ⟨po, c, rfl, HR.out.1, HR.out.2⟩
end
theorem list_all (d : Pd) (f : Fs) (h : d.ans f [] = 0) : d.list f [] = d.F.map (·.1) := by
  unfold Pd.list namesOf; rw [if_pos h, List.filter_eq_self.2 (by simp)]
#print axioms in_any
end Go.Proofs.Ytfppmpfmafnfmaa

/- Acts and bools that came in. -/
namespace Go.Proofs.Ytfppmpfmafnfmaa
open Go Go.RowKit

def IsActs (w : World) (a : Option Addr) (len : Nat) : Prop := len = 0 ∨ ∃ b o, a = some ⟨b, o, none⟩ ∧ ∀ i, i < len → ∃ x : AV, x.ok w ∧ ∀ j, j < 9 → w.cell? ⟨b, o + i * 9 + j, none⟩ = x.val[j]?
def IsBools (w : World) (a : Option Addr) (len : Nat) : Prop := ∃ ks : List Bool, ks.length = len ∧ KAt w (fun _ => False) a ks
theorem add_zero' (a : Addr) : a.add 0 = a := by simp [Addr.add]
theorem plain_at (a : Addr) (w : World) (h : w.cell? a ≠ none) : ∃ b o, a = ⟨b, o, none⟩ := by
  obtain ⟨b, o, sp⟩ := a
  cases sp with
  | none => exact ⟨b, o, rfl⟩
  | some s =>
    exfalso; apply h
    unfold World.cell?
    split <;> simp
theorem bounds_u8 {k : Int} (h : (Lit.int .u8 k).wf = true) : 0 ≤ k ∧ k ≤ 255 := by
  simp [Lit.wf, IntKind.min, IntKind.max, IntKind.signed, IntKind.bits] at h; omega
theorem add_none (b o n : Nat) : (⟨b, o, none⟩ : Addr).add n = ⟨b, o + n, none⟩ := by unfold Addr.add; split <;> simp_all
section
variable {H : Type} {enc : TypeId × Value → H} {w : World} {held : Bool} {fuel : Nat}
theorem bools_read {cs : List Value} {x : DataW H × List MemPlace} (h : DataW.trod enc Try.prog w 0 (fun _ => true) held fuel 34 cs = some x) :
    ∃ (po : Option Addr) (c : Nat) (ks : List Bool), cs = [.slice po ks.length c] ∧ KAt w (fun _ => False) po ks := by
  rcases Go.Deep.open_bools Try.underlying34 Try.underlying4 (by kernel_rfl) h with ⟨hcs, _⟩ | ⟨a, len, cap, B, hcs, _, hl, _, _, hcell⟩
  · exact ⟨none, 0, [], hcs, Or.inl rfl⟩
  · refine ⟨some a, cap, (List.range len).map B, by simpa using hcs, ?_⟩
    by_cases h0 : len = 0
    · subst h0; exact Or.inl rfl
    · obtain ⟨b, o, rfl⟩ := plain_at a w (by have := hcell 0 (by omega); rw [add_zero'] at this; rw [this]; simp)
      refine Or.inr ⟨b, o, rfl, fun h => h, fun i hi => ?_⟩
      have hi' : i < len := by simpa using hi
      have := hcell i (by omega)
      rw [add_none] at this
      rw [this]; simp [List.getD, hi']
theorem bools_open {a : Option Addr} {len cap : Nat} {x : DataW H × List MemPlace} (h : DataW.trod enc Try.prog w 0 (fun _ => true) held fuel 34 (Value.slice a len cap).cells.toList = some x) : IsBools w a len := by
  obtain ⟨po, c, ks, hcs, hk⟩ := bools_read h
  simp [Value.cells] at hcs
  obtain ⟨rfl, rfl, rfl⟩ := hcs
  exact ⟨ks, rfl, hk⟩
theorem bytes_read {cs : List Value} {x : DataW H × List MemPlace} (h : DataW.trod enc Try.prog w 0 (fun _ => true) held fuel 33 cs = some x) :
    ∃ (po : Option Addr) (c : Nat) (bs : List Nat), cs = [.slice po bs.length c] ∧ BAt w po bs ∧ ∀ y ∈ bs, y < 256 := by
  rcases Go.ChangeShapes.open_ints Try.underlying33 Try.underlying5 (by kernel_rfl) h with ⟨hcs, _⟩ | ⟨a, l, c, zs, hcs, _, hl, hm, hz, _, hcell, hwz⟩
  · exact ⟨none, 0, [], hcs, Or.inl ⟨rfl, rfl⟩, by simp⟩
  · have hz' : zs.length = c := by simpa using hz
    have hbd : ∀ i, i < l → 0 ≤ zs.getD i 0 ∧ zs.getD i 0 ≤ 255 := fun i hi => by
      have hlt : i < zs.length := by omega
      have e : zs.getD i 0 = zs[i] := by simp [List.getD, hlt]
      rw [e]; exact bounds_u8 (hwz _ (List.getElem_mem hlt))
    refine ⟨some a, c, (List.range l).map fun i => (zs.getD i 0).toNat, by simpa using hcs, Or.inr ⟨a, rfl, fun i hi => ?_⟩, fun y hy => ?_⟩
    · have hi' : i < l := by simpa using hi
      rw [hcell i (by omega)]
      have e1 : ((List.range l).map fun i => (zs.getD i 0).toNat).getD i 0 = (zs.getD i 0).toNat := by rw [getD_in _ _ _ (by simpa using hi')]; simp
      rw [e1, Int.toNat_of_nonneg (hbd i hi').1]
    · obtain ⟨i, hi, rfl⟩ := List.mem_map.1 hy
      have := hbd i (by simpa using hi)
      omega
theorem wf64 {k : Int} (h : (Lit.int .i64 k).wf = true) : -9223372036854775808 ≤ k ∧ k ≤ 9223372036854775807 := by
  simp [Lit.wf, IntKind.min, IntKind.max, IntKind.signed, IntKind.bits] at h; omega
set_option maxRecDepth 100000 in
theorem act_read {cs : List Value} {x : DataW H × List MemPlace} (h : DataW.trod enc Try.prog w 0 (fun _ => true) held fuel 36 cs = some x) : ∃ v : AV, v.ok w ∧ cs = v.val.toList := by
  obtain ⟨xs, n, _, _, hcl, hxl, hf⟩ := DataW.trod_struct Try.underlying36 h
  have hc9 : cs.length = 9 := by rw [hcl]; kernel_rfl
  have hx9 : xs.length = 9 := by rw [hxl]; rfl
  have k3 : Try.prog.cellsOf 3 = 1 := by kernel_rfl
  have k9 : Try.prog.cellsOf 9 = 1 := by kernel_rfl
  have k33 : Try.prog.cellsOf 33 = 1 := by kernel_rfl
  have k34 : Try.prog.cellsOf 34 = 1 := by kernel_rfl
  have k4 : Try.prog.cellsOf 4 = 1 := by kernel_rfl
  have k5 : Try.prog.cellsOf 5 = 1 := by kernel_rfl
  match cs, hc9, xs, hx9 with
  | [c0, c1, c2, c3, c4, c5, c6, c7, c8], _, [y0, y1, y2, y3, y4, y5, y6, y7, y8], _ =>
    have f0 : DataW.trod enc Try.prog w 0 (fun _ => true) held n 3 (([c0, c1, c2, c3, c4, c5, c6, c7, c8].drop 0).take (Try.prog.cellsOf 3)) = some y0 := hf 0 _ rfl
    rw [k3] at f0
    have f1 : DataW.trod enc Try.prog w 0 (fun _ => true) held n 3 (([c0, c1, c2, c3, c4, c5, c6, c7, c8].drop 1).take (Try.prog.cellsOf 3)) = some y1 := hf 1 _ rfl
    rw [k3] at f1
    have f2 : DataW.trod enc Try.prog w 0 (fun _ => true) held n 3 (([c0, c1, c2, c3, c4, c5, c6, c7, c8].drop 2).take (Try.prog.cellsOf 3)) = some y2 := hf 2 _ rfl
    rw [k3] at f2
    have f3 : DataW.trod enc Try.prog w 0 (fun _ => true) held n 9 (([c0, c1, c2, c3, c4, c5, c6, c7, c8].drop 3).take (Try.prog.cellsOf 9)) = some y3 := hf 3 _ rfl
    rw [k9] at f3
    have f4 : DataW.trod enc Try.prog w 0 (fun _ => true) held n 9 (([c0, c1, c2, c3, c4, c5, c6, c7, c8].drop 4).take (Try.prog.cellsOf 9)) = some y4 := hf 4 _ rfl
    rw [k9] at f4
    have f5 : DataW.trod enc Try.prog w 0 (fun _ => true) held n 33 (([c0, c1, c2, c3, c4, c5, c6, c7, c8].drop 5).take (Try.prog.cellsOf 33)) = some y5 := hf 5 _ rfl
    rw [k33] at f5
    have f6 : DataW.trod enc Try.prog w 0 (fun _ => true) held n 4 (([c0, c1, c2, c3, c4, c5, c6, c7, c8].drop 6).take (Try.prog.cellsOf 4)) = some y6 := hf 6 _ rfl
    rw [k4] at f6
    have f7 : DataW.trod enc Try.prog w 0 (fun _ => true) held n 5 (([c0, c1, c2, c3, c4, c5, c6, c7, c8].drop 7).take (Try.prog.cellsOf 5)) = some y7 := hf 7 _ rfl
    rw [k5] at f7
    have f8 : DataW.trod enc Try.prog w 0 (fun _ => true) held n 34 (([c0, c1, c2, c3, c4, c5, c6, c7, c8].drop 8).take (Try.prog.cellsOf 34)) = some y8 := hf 8 _ rfl
    rw [k34] at f8
    obtain ⟨z0, e0, _, w0⟩ := DataW.trod_int Try.underlying3 f0
    obtain ⟨z1, e1, _, w1⟩ := DataW.trod_int Try.underlying3 f1
    obtain ⟨z2, e2, _, w2⟩ := DataW.trod_int Try.underlying3 f2
    obtain ⟨s3, e3, _, w3⟩ := DataW.trod_string Try.underlying9 f3
    obtain ⟨s4, e4, _, w4⟩ := DataW.trod_string Try.underlying9 f4
    obtain ⟨p5, q5, b5, e5, w5, v5⟩ := bytes_read f5
    obtain ⟨b6, e6, _⟩ := DataW.trod_bool Try.underlying4 f6
    obtain ⟨z7, e7, _, w7⟩ := DataW.trod_int Try.underlying5 f7
    obtain ⟨p8, q8, b8, e8, w8⟩ := bools_read f8
    simp at e0 e1 e2 e3 e4 e5 e6 e7 e8
    subst e0 e1 e2 e3 e4 e5 e6 e7 e8
    exact ⟨⟨z0, z1, z2, s3.data.toList, s4.data.toList, p5, q5, b5, b6, z7, p8, q8, b8⟩, ⟨by rw [Array.length_toList]; exact w3, by rw [Array.length_toList]; exact w4, w5, v5, w8, wf64 w0, wf64 w1, wf64 w2, bounds_u8 w7⟩, rfl⟩
theorem acts_open {a : Option Addr} {len cap : Nat} {x : DataW H × List MemPlace} (h : DataW.trod enc Try.prog w 0 (fun _ => true) held fuel 22 (Value.slice a len cap).cells.toList = some x) : IsActs w a len := by
  have k36 : Try.prog.cellsOf 36 = 9 := by kernel_rfl
  rcases DataW.trod_slice Try.underlying22 h with ⟨hcs, _⟩ | ⟨ad, l, c, elems, rest, n, _, hcs, _, _, hl, _, hlen, hel, _, _⟩
  · simp [Value.cells] at hcs; exact Or.inl hcs.2.1
  · simp [Value.cells] at hcs
    obtain ⟨rfl, rfl, rfl⟩ := hcs
    rw [k36] at hel
    by_cases h0 : len = 0
    · exact Or.inl h0
    have each : ∀ i, i < len → ∃ v : AV, v.ok w ∧ ∀ j, j < 9 → w.cell? ((ad.add (i * 9)).add j) = v.val[j]? := fun i hi => by
      have h1 := hel i hi
      rw [List.getElem?_eq_getElem (by omega)] at h1
      obtain ⟨cs, hc1, hc2⟩ := Option.bind_eq_some_iff.1 h1
      obtain ⟨v, hv, rfl⟩ := act_read hc2
      obtain ⟨_, _, hcell⟩ := World.cells?_some hc1
      exact ⟨v, hv, fun j hj => by rw [hcell j hj]; simp⟩
    obtain ⟨v0, _, hc0⟩ := each 0 (by omega)
    have h00 := hc0 0 (by omega)
    rw [Nat.zero_mul, add_zero', add_zero'] at h00
    obtain ⟨b, o, rfl⟩ := plain_at ad w (by rw [h00]; unfold AV.val; simp)
    refine Or.inr ⟨b, o, rfl, fun i hi => ?_⟩
    obtain ⟨v, hv, hc⟩ := each i hi
    exact ⟨v, hv, fun j hj => by have := hc j hj; rw [add_none, add_none] at this; exact this⟩
end
#print axioms acts_open
end Go.Proofs.Ytfppmpfmafnfmaa

/- What a crash leaves, file by file; acts and what they leave of a drive. -/
namespace Go.Proofs.Ytfppmpfmafnfmaa
open Go Go.RowKit

def crashAll (F : List (Nm × Fi)) (ks : List Bool) : List (Nm × Fi) := crashI F ks (looseN F).length
theorem crashAll_f (s : Nm) (b : List Nat) (r : List (Nm × Fi)) (ks : List Bool) : crashAll ((s, (b, false)) :: r) ks = (s, (b, false)) :: crashAll r ks := by unfold crashAll; rw [looseN_f, crashI]
theorem crashAll_t (s : Nm) (b : List Nat) (r : List (Nm × Fi)) (ks : List Bool) : crashAll ((s, (b, true)) :: r) ks = if ks.headD false then (s, (b, false)) :: crashAll r ks.tail else crashAll r ks.tail := by
  unfold crashAll; rw [looseN_t, List.length_cons, crashI]
/-- Which files stay. -/
def thereL : List (Nm × Fi) → List Bool → List Bool
  | [], _ => []
  | (_, (_, false)) :: r, ks => true :: thereL r ks
  | (_, (_, true)) :: r, ks => ks.headD false :: thereL r ks.tail
theorem thereL_len : ∀ (F : List (Nm × Fi)) (ks : List Bool), (thereL F ks).length = F.length
  | [], _ => rfl
  | (s, (b, false)) :: r, ks => by simp [thereL, thereL_len r ks]
  | (s, (b, true)) :: r, ks => by simp [thereL, thereL_len r ks.tail]
def cntL (F : List (Nm × Fi)) (i : Nat) : Nat := (looseN (F.take i)).length
theorem cntL_le (F : List (Nm × Fi)) (i : Nat) : cntL F i ≤ F.length := by
  unfold cntL looseN namesOf; rw [List.length_map]
  exact Nat.le_trans (List.length_filter_le _ _) (by rw [List.length_take]; omega)
def atF (F : List (Nm × Fi)) (i : Nat) : Nm × Fi := F.getD i ([], ([], false))
theorem atF_mem {F : List (Nm × Fi)} {i : Nat} (h : i < F.length) : atF F i ∈ F := by unfold atF; rw [getD_in _ _ _ h]; exact List.getElem_mem h
theorem cntL_succ {F : List (Nm × Fi)} {i : Nat} (h : i < F.length) : cntL F (i + 1) = cntL F i + (if (atF F i).2.2 then 1 else 0) := by
  unfold cntL looseN namesOf atF
  rw [List.take_add_one, List.getElem?_eq_getElem h, getD_in _ _ _ h]
  simp only [Option.toList_some, List.filter_append, List.map_append, List.length_append]
  cases hb : F[i].2.2 <;> simp [hb]
theorem thereL_get : ∀ (F : List (Nm × Fi)) (ks : List Bool) (i : Nat) (_ : i < F.length), (thereL F ks).getD i false = if (atF F i).2.2 then ks.getD (cntL F i) false else true
  | [], _, _, h => by simp at h
  | (s, (b, false)) :: r, ks, 0, _ => by simp [thereL, atF]
  | (s, (b, true)) :: r, ks, 0, _ => by cases ks <;> simp [thereL, atF, cntL, looseN, namesOf]
  | (s, (b, false)) :: r, ks, i + 1, h => by
    have h' : i < r.length := by simpa using h
    have ih := thereL_get r ks i h'
    have e1 : atF ((s, ((b, false) : Fi)) :: r) (i + 1) = atF r i := by simp [atF]
    have e2 : cntL ((s, ((b, false) : Fi)) :: r) (i + 1) = cntL r i := by unfold cntL; rw [List.take_succ_cons, looseN_f]
    rw [e1, e2, ← ih]; simp [thereL]
  | (s, (b, true)) :: r, ks, i + 1, h => by
    have h' : i < r.length := by simpa using h
    have ih := thereL_get r ks.tail i h'
    have e1 : atF ((s, ((b, true) : Fi)) :: r) (i + 1) = atF r i := by simp [atF]
    have e2 : cntL ((s, ((b, true) : Fi)) :: r) (i + 1) = cntL r i + 1 := by unfold cntL; rw [List.take_succ_cons, looseN_t]; rfl
    have e3 : ks.getD (cntL r i + 1) false = ks.tail.getD (cntL r i) false := by cases ks <;> simp
    rw [e1, e2, e3, ← ih]; simp [thereL]
theorem crashAll_first {F : List (Nm × Fi)} {s : Nm} (h : ∀ p ∈ F, bytesBefore s p.1 = true) (ks : List Bool) : ∀ p ∈ crashAll F ks, bytesBefore s p.1 = true := crashI_first h ks _
theorem crashAll_get : ∀ {F : List (Nm × Fi)} (_ : Srt F) (ks : List Bool) (i : Nat) (_ : i < F.length), gget (crashAll F ks) (atF F i).1 = if (thereL F ks).getD i false then some ((atF F i).2.1, false) else none
  | [], _, _, _, h => by simp at h
  | (s, (b, false)) :: r, hs, ks, 0, _ => by rw [crashAll_f]; simp [thereL, atF]; exact gget_cons_eq (p := (s, ((b, false) : Fi)))
  | (s, (b, true)) :: r, hs, ks, 0, _ => by
    obtain ⟨h1, h2⟩ := List.pairwise_cons.1 hs
    rw [crashAll_t]
    simp only [thereL, atF, List.getD_cons_zero]
    split
    · exact gget_cons_eq (p := (s, ((b, false) : Fi)))
    · exact gget_none.2 fun p hp => (bb_ne (crashAll_first (s := s) h1 _ p hp)).symm
  | (s, (b, false)) :: r, hs, ks, i + 1, h => by
    obtain ⟨h1, h2⟩ := List.pairwise_cons.1 hs
    have h' : i < r.length := by simpa using h
    have e1 : atF ((s, ((b, false) : Fi)) :: r) (i + 1) = atF r i := by simp [atF]
    rw [crashAll_f, e1, gget_cons_ne (p := (s, ((b, false) : Fi))) (bb_ne (h1 _ (atF_mem h'))), crashAll_get h2 ks i h']
    simp [thereL]
  | (s, (b, true)) :: r, hs, ks, i + 1, h => by
    obtain ⟨h1, h2⟩ := List.pairwise_cons.1 hs
    have h' : i < r.length := by simpa using h
    have e1 : atF ((s, ((b, true) : Fi)) :: r) (i + 1) = atF r i := by simp [atF]
    have e2 : (thereL ((s, ((b, true) : Fi)) :: r) ks).getD (i + 1) false = (thereL r ks.tail).getD i false := by simp [thereL]
    rw [crashAll_t, e1, e2, ← crashAll_get h2 ks.tail i h']
    split
    · rw [gget_cons_ne (p := (s, ((b, false) : Fi))) (bb_ne (h1 _ (atF_mem h')))]
    · rfl
theorem crashAll_len : ∀ (F : List (Nm × Fi)) (ks : List Bool), (crashAll F ks).length = (thereL F ks).count true
  | [], _ => rfl
  | (s, (b, false)) :: r, ks => by rw [crashAll_f]; simp [thereL, crashAll_len r ks]
  | (s, (b, true)) :: r, ks => by
    rw [crashAll_t]
    have ih := crashAll_len r ks.tail
    rw [thereL, List.count_cons, ← ih]
    cases hk : ks.headD false
    · simp
    · simp
theorem crashAll_loose : ∀ (F : List (Nm × Fi)) (ks : List Bool), looseN (crashAll F ks) = []
  | [], _ => rfl
  | (s, (b, false)) :: r, ks => by rw [crashAll_f, looseN_f]; exact crashAll_loose r ks
  | (s, (b, true)) :: r, ks => by
    rw [crashAll_t]
    split
    · rw [looseN_f]; exact crashAll_loose r ks.tail
    · exact crashAll_loose r ks.tail
def stayN (F : List (Nm × Fi)) (ks : List Bool) (i : Nat) : Nat := ((thereL F ks).take i).count true
theorem stayN_succ {F : List (Nm × Fi)} {ks : List Bool} {i : Nat} (h : i < F.length) : stayN F ks (i + 1) = stayN F ks i + (if (thereL F ks).getD i false then 1 else 0) := by
  unfold stayN
  have hl : i < (thereL F ks).length := by rw [thereL_len]; exact h
  rw [List.take_add_one, List.getElem?_eq_getElem hl, getD_in _ _ _ hl]
  simp only [Option.toList_some, List.count_append]
  cases (thereL F ks)[i] <;> simp
theorem stayN_all (F : List (Nm × Fi)) (ks : List Bool) : stayN F ks F.length = (crashAll F ks).length := by
  unfold stayN; rw [crashAll_len, List.take_of_length_le (by rw [thereL_len]; omega)]
theorem stayN_le (F : List (Nm × Fi)) (ks : List Bool) (i : Nat) : stayN F ks i ≤ F.length := by
  unfold stayN
  refine Nat.le_trans List.count_le_length ?_
  rw [List.length_take, thereL_len]; omega
theorem loose_mem {F : List (Nm × Fi)} (hs : Srt F) {i : Nat} (h : i < F.length) : ((atF F i).1 ∈ looseN F) ↔ (atF F i).2.2 = true := by
  unfold looseN namesOf
  rw [List.mem_map]
  constructor
  · rintro ⟨p, hp, e⟩
    obtain ⟨h1, h2⟩ := List.mem_filter.1 hp
    have := pw_key hs.apart h1 (atF_mem h) e
    rw [← this]; exact h2
  · intro hb
    exact ⟨atF F i, List.mem_filter.2 ⟨atF_mem h, hb⟩, rfl⟩
/-- A drive that answers: neither out nor offline, its files no more than its changes. -/
structure Pd.calm (d : Pd) (n : Nat) : Prop where
  out : d.out = false
  offl : d.offl = false
  len : d.F.length ≤ d.ops
  ops : d.ops ≤ n
theorem chg_calm {d : Pd} {n : Nat} (h : d.calm n) (f : Fs) {F : List (Nm × Fi)} (hF : F.length ≤ d.F.length + 1) : (d.chg f F).2.1.calm (n + 1) := by
  unfold Pd.chg; split
  · exact ⟨h.out, h.offl, by have := h.len; show F.length ≤ d.ops + 1; omega, by have := h.ops; show d.ops + 1 ≤ n + 1; omega⟩
  · exact ⟨h.out, h.offl, h.len, by have := h.ops; show d.ops ≤ n + 1; omega⟩
theorem Pd.calm.more {d : Pd} {n : Nat} (h : d.calm n) : d.calm (n + 1) := ⟨h.out, h.offl, h.len, by have := h.ops; omega⟩
theorem put_len (F : List (Nm × Fi)) (s : Nm) (x : Fi) : (gput F s x).length ≤ F.length + 1 := by rw [len_put]; have := len_del F s; omega
theorem step_calm {d : Pd} {n : Nat} (h : d.calm n) (f : Fs) (x : AV) : (d.step f x).2.1.calm (n + 1) := by
  unfold Pd.step
  split
  · unfold Pd.write; split
    · exact h.more
    · split
      · exact h.more
      · exact chg_calm h f (put_len _ _ _)
  · unfold Pd.sync; split
    · exact h.more
    · split
      · exact h.more
      · exact chg_calm h f (put_len _ _ _)
  · unfold Pd.rename; split
    · exact h.more
    · split
      · exact h.more
      · exact chg_calm h f (Nat.le_trans (put_len _ _ _) (by have := len_del d.F x.A; omega))
  · unfold Pd.delete; split
    · exact h.more
    · split
      · exact h.more
      · exact chg_calm h f (by have := len_del d.F x.A; omega)
theorem ans_calm {d : Pd} {n : Nat} (h : d.calm n) (ns : List Nm) (hn : ∀ s ∈ ns, okNm s = true) : d.ans none ns = 0 := by
  unfold Pd.ans Pd.isOut; rw [h.out, h.offl]; simp [goneF, List.all_eq_true.2 hn]
theorem AW.stepA {w wk : World} {S : Nat → Prop} {p : Nat} {d : Pd} (h : AW w wk S p d) (x : AV) (hx : x.ok wk) (hn : x.bs.length ≤ 140737488355328) (ho : d.ops < 1000000000000) (hl : d.F.length < 1000000000000) :
    Calls Try.prog 35 #[ptr p, .agg x.val] wk fun e w' => e = .returned (.int .i64 ((d.step none x).1 : Int)) ∧ ∃ S2, AW w w' S2 p (d.step none x).2.1 := by
  obtain ⟨m, L, hd⟩ := h.dr
  exact (step_any hd (f := none) trivial x hx hn ho hl).mono fun e w' hD => h.next hD
#print axioms crashAll_get
#print axioms step_calm
end Go.Proofs.Ytfppmpfmafnfmaa
