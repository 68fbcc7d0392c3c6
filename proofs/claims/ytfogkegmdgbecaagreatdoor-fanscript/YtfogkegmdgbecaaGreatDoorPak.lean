/- Texts laid into one, cut to what is needed: the remark ahead of each part says what is proved there. -/
import Derived.Test.YtfogkegmdgbecaaGreatDoorPaj
/- Contracts of New, Clone and Crash of the document's drives. -/
namespace Go.Proofs.YtfogkegmdgbecaaGreatDoor
open Go Go.RowKit

def RNewAt (w : World) (n : Nat) (e : Ending) (w' : World) : Prop :=
 ∃ q, e = .returned (.tuple #[ptr q, .int .i64 0]) ∧ RfAt w' (fun b => w.heap.size ≤ b ∧ b < w'.heap.size) q none (fresh n) ∧ Below w.heap.size w w'
theorem rnew_ok (n : Nat) (h1 : 1 ≤ n) (h2 : n ≤ 67108864) (w : World) : Calls Tryz.prog 10 #[.int .i64 (n : Int)] w (RNewAt w n) := by
 have h1' : ¬ (n : Int) < 1 := by omega
 have h2' : ¬ 67108864 < (n : Int) := by omega
 go_enter Tryz.func10, Tryz.ntmps10
 go_wp2
 go_ret2
 have hb : Below w.heap.size w (w.alloc (.cells #[.int .i64 (n : Int), .slice none 0 0, .bool false, .bool false, .bool false, .pointer none, .int .i64 0] 78)) := (Below.refl _ _).alloc (Nat.le_refl _) _
 refine ⟨w.heap.size, rfl, ⟨.slice none 0 0, [], CAt.made w _ _, World.ownsRow_nil _ _ _ _, rfl, fun x hx => (by cases hx), ⟨Nat.le_refl _, by rw [size_al]; omega⟩, fun b hb => (by cases hb), fun x hx => (by cases hx), fun b hb => hb.2⟩, hb⟩
theorem rnew_bad (n : Int) (h : n < 1 ∨ 67108864 < n) (w : World) : Calls Tryz.prog 10 #[.int .i64 n] w fun e w' => e = .returned (.tuple #[.pointer none, .int .i64 2]) ∧ w' = w := by
 by_cases h1 : n < 1
 ·go_enter Tryz.func10, Tryz.ntmps10
  go_wp2
  go_ret2
  exact ⟨rfl, rfl⟩
 ·have h2 : 67108864 < n := by omega
  go_enter Tryz.func10, Tryz.ntmps10
  go_wp2
  go_ret2
  exact ⟨rfl, rfl⟩
section
variable {w w' : World} {R : Nat → Prop} {q : Nat} {v : Value} {fu : Option Nat} {d : Pd} {L : List (Nm × Ent)} {f : Fs}
/-- The files behind a crash. -/
def crL : List (Nm × Ent) → List Bool → List (Nm × Ent)
 | [], _ => []
 | p :: r, ks => if p.2.l then (if ks.headD false then (p.1, ⟨p.2.v, p.2.b, false⟩) :: crL r ks.tail else crL r ks.tail) else p :: crL r ks
def cntT (L : List (Nm × Ent)) : Nat := (L.filter fun p => p.2.l).length
theorem crL_fi : ∀ (L : List (Nm × Ent)) (ks : List Bool), gmap Ent.fi (crL L ks) = crashAll (gmap Ent.fi L) ks
 | [], ks => by unfold crashAll; rfl
 | (s, ⟨v, b, false⟩) :: r, ks => by
  show (s, (b, false)) :: gmap Ent.fi (crL r ks) = crashAll ((s, (b, false)) :: gmap Ent.fi r) ks
  rw [crashAll_f, crL_fi]
 | (s, ⟨v, b, true⟩) :: r, ks => by
  show gmap Ent.fi (if ks.headD false then (s, ⟨v, b, false⟩) :: crL r ks.tail else crL r ks.tail) = crashAll ((s, (b, true)) :: gmap Ent.fi r) ks
  rw [crashAll_t]
  split
  ·show (s, (b, false)) :: gmap Ent.fi (crL r ks.tail) = _
   rw [crL_fi]
  ·rw [crL_fi]
theorem crL_app : ∀ (A : List (Nm × Ent)) (p : Nm × Ent) (ks : List Bool), crL (A ++ [p]) ks = crL A ks ++ crL [p] (ks.drop (cntT A))
 | [], p, ks => by simp [crL, cntT]
 | a :: r, p, ks => by
  have ih := crL_app r p
  show crL (a :: (r ++ [p])) ks = crL (a :: r) ks ++ crL [p] (ks.drop (cntT (a :: r)))
  cases hl : a.2.l
  ·have hc : cntT (a :: r) = cntT r := by simp [cntT, hl]
   have e1 : ∀ z kk, crL (a :: z) kk = a :: crL z kk := fun z kk => by
    show (if a.2.l then _ else a :: crL z kk) = _
    rw [hl]; rfl
   rw [e1, e1, hc, ih]; rfl
  ·have hc : cntT (a :: r) = cntT r + 1 := by simp [cntT, hl]
   have hd : ks.drop (cntT r + 1) = ks.tail.drop (cntT r) := by cases ks <;> simp
   have e1 : ∀ z kk, crL (a :: z) kk = if kk.headD false then (a.1, ⟨a.2.v, a.2.b, false⟩) :: crL z kk.tail else crL z kk.tail := fun z kk => by
    show (if a.2.l then (if kk.headD false then (a.1, ⟨a.2.v, a.2.b, false⟩) :: crL z kk.tail else crL z kk.tail) else _) = _
    rw [hl]; rfl
   rw [e1, e1, hc, hd, ih]
   split <;> rfl
theorem cnt_take {L : List (Nm × Ent)} {k : Nat} (h : k < L.length) : cntT (L.take (k + 1)) = cntT (L.take k) + if (atL L k).2.l then 1 else 0 := by
 rw [take_at L h]; unfold cntT; rw [List.filter_append]
 cases hl : (atL L k).2.l <;> simp [hl]
theorem cnt_le (L : List (Nm × Ent)) (k : Nat) : cntT (L.take k) ≤ L.length := by
 unfold cntT; exact Nat.le_trans (List.length_filter_le _ _) (by rw [List.length_take]; omega)
theorem crL_take {L : List (Nm × Ent)} {k : Nat} (h : k < L.length) (ks : List Bool) : crL (L.take (k + 1)) ks = crL (L.take k) ks ++ (if (atL L k).2.l then (if ks.getD (cntT (L.take k)) false then [((atL L k).1, ⟨(atL L k).2.v, (atL L k).2.b, false⟩)] else []) else [atL L k]) := by
 rw [take_at L h, crL_app]
 congr 1
 have hh : (ks.drop (cntT (L.take k))).headD false = ks.getD (cntT (L.take k)) false := by
  rw [List.headD_eq_head?_getD, List.head?_drop, List.getD_eq_getElem?_getD]
 unfold crL
 rw [hh]
 cases (atL L k).2.l <;> simp [crL]
theorem crL_len : ∀ (L : List (Nm × Ent)) (ks : List Bool), (crL L ks).length ≤ L.length
 | [], _ => Nat.le_refl _
 | p :: r, ks => by
  unfold crL
  have h1 := crL_len r ks
  have h2 := crL_len r ks.tail
  split
  ·split <;> simp <;> omega
  ·simp; omega
theorem crL_mem : ∀ {L : List (Nm × Ent)} {ks : List Bool} {x : Nm × Ent}, x ∈ crL L ks → ∃ y ∈ L, y.2.v = x.2.v ∧ y.2.b = x.2.b
 | [], _, _, h => by cases h
 | p :: r, ks, x, h => by
  unfold crL at h
  split at h
  ·split at h
   ·rcases List.mem_cons.1 h with rfl | h
    ·exact ⟨p, by simp, rfl, rfl⟩
    ·obtain ⟨y, hy, e⟩ := crL_mem h; exact ⟨y, by simp [hy], e⟩
   ·obtain ⟨y, hy, e⟩ := crL_mem h; exact ⟨y, by simp [hy], e⟩
  ·rcases List.mem_cons.1 h with rfl | h
   ·exact ⟨x, by simp, rfl, rfl⟩
   ·obtain ⟨y, hy, e⟩ := crL_mem h; exact ⟨y, by simp [hy], e⟩
/-- What a crash leaves. -/
def RCrAt (w : World) (R : Nat → Prop) (q : Nat) (d : Pd) (e : Ending) (w' : World) : Prop :=
 e = .returned (.int .i64 0) ∧ ∃ R2, Grows w R R2 ∧ RfAt w' R2 q none d ∧ Only (fun b => b = q) w w'
set_option maxHeartbeats 2000000 in
set_option maxRecDepth 100000 in
theorem rcrash_any (h : RfC w R q v fu d L) (po : Option Addr) (c : Nat) (ks : List Bool) (hk : KAt w (fun _ => False) po ks) (hkn : ks.length ≤ 1000000000) (hl : L.length < 999000) :
  Calls Tryz.prog 28 #[ptr q, .slice po ks.length c] w (RCrAt w R q (d.crash ks)) := by
 have hcq : ∀ W, Below w.heap.size w W → W.cell? ⟨q, 1, none⟩ = some v := fun W hb => (h.below hb).c.cell 1
 have hfv : ∃ p, fuV fu = .pointer p := by cases fu <;> exact ⟨_, rfl⟩
 have HFV := hid hfv
 obtain ⟨po1, c1, rfl⟩ := h.form
 have HCQ := hid hcq
 have cq := hcq w (Below.refl _ _)
 have hql := h.c.lt
 have H := hid h
 have HK := hid hk
 have HE : Hid (gmap Ent.fi (crL L ks) = (d.crash ks).F) := hid (by rw [crL_fi, ← h.fs]; rfl)
 clear h hcq hk hfv
 go_enter Tryz.func28, Tryz.ntmps28
 go_wp2
 go_loopw [5, 6, 7] (fun v5 v6 v7 wr => ∃ k : Nat, k ≤ L.length ∧ v7 = .int .i64 (k : Int) ∧ v6 = .int .i64 (cntT (L.take k) : Int) ∧ FilL w.heap.size wr v5 (crL (L.take k) ks) ∧ Below w.heap.size w wr) (fun _ _ v _ => (L.length - intOf v).toNat)
 case atStart => exact ⟨0, by omega, rfl, rfl, FilL.nil _ _, Below.refl _ _⟩
 case round =>
  obtain ⟨k, hkL, rfl, rfl, hF, hb⟩ := hrel
  obtain ⟨po5, c5, hv5⟩ := own_form hF
  subst hv5
  have HF := hid hF
  have HB := hid hb
  have d1 := HCQ.out wr hb
  have hsw := hb.size
  clear cq hF hb
  by_cases hlt : k < L.length
  ·have hlt' : (k : Int) < (L.length : Int) := by omega
   obtain ⟨g, cc, hv, ck, ck1, ck2, _⟩ := (H.out.below HB.out).at hlt
   cases hv
   obtain ⟨pb, cb, hpb⟩ := H.out.slice (atL_mem hlt)
   rw [hpb] at ck1
   have HPB := hid hpb
   have HCT := hid (crL_take hlt ks)
   have HNT := hid (cnt_take hlt)
   have hnl := cnt_le L k
   have HCL : Hid ((crL (L.take k) ks).length ≤ 1000000) := hid (by have := crL_len (L.take k) ks; rw [List.length_take] at this; omega)
   have hgl : g < wr.heap.size := cell_lt' (a := ⟨g, k * 3 + 2, none⟩) (by rw [ck2]; simp)
   clear hpb
   generalize hX : atL L k = X at *
   clear hX
   generalize hN : cntT (L.take k) = N at *
   clear hN
   cases hxl : X.2.l
   ·rw [hxl] at ck2
    have HC2 : Hid (crL (L.take (k + 1)) ks = crL (L.take k) ks ++ [X]) := hid (by rw [HCT.out, hxl]; rfl)
    have HN2 : Hid (cntT (L.take (k + 1)) = N) := hid (by rw [HNT.out, hxl]; rfl)
    obtain ⟨v4, w4, hrun, hF4, hg4⟩ := (HF.out.below ((Below.refl _ _).alloc (Nat.le_refl _) (.cells #[sv X.1, .slice pb X.2.b.length cb, .bool false] 134))).push X ⟨_, _, _, HPB.out⟩ HCL.out (by rw [size_al]; omega)
    rw [size_al, HPB.out, hxl] at hrun
    have HRUN := hid hrun
    have HF4 := hid hF4
    have HB4 := hid (below_on_grown (below_on _ _ (below_on _ _ HB.out ((Below.refl _ _).alloc (Nat.le_refl _) _)) ((Below.refl _ _).alloc (Nat.le_refl _) _)) hg4 (fun b hb => (own_ge HF.out b hb).1))
    clear hrun hF4 hg4 hxl HCT HNT
    go_wp2_with (at_builtin; refine wpList_append_run _ _ 75 rfl rfl _ _ v4 rfl rfl HRUN.out ?_)
    go_roundw
    case rel => exact ⟨k + 1, by omega, by go_num, by rw [HN2.out], by rw [HC2.out]; exact HF4.out, HB4.out⟩
    case measure => simp [intOf]; omega
   ·rw [hxl] at ck2
    have HN2 : Hid (cntT (L.take (k + 1)) = N + 1) := hid (by rw [HNT.out, hxl]; rfl)
    cases hkp : ks.getD N false
    ·have HC2 : Hid (crL (L.take (k + 1)) ks = crL (L.take k) ks) := hid (by rw [HCT.out, hxl, hkp]; simp)
     by_cases hnk : N < ks.length
     ·have hnk' : ¬ (ks.length : Int) < (N : Int) + 1 := by omega
      rcases HK.out with h0 | ⟨b, o, rfl, _, hkc⟩
      ·rw [h0] at hnk; simp at hnk
      have hkb := hkc N hnk
      rw [hkp] at hkb
      have hkb2 : wr.cell? ⟨b, o + N, none⟩ = some (.bool false) := (World.cell?_of_block (HB.out.block b (cell_lt' (a := ⟨b, o + N, none⟩) (by rw [hkb]; simp)))).trans hkb
      have hbl : b < wr.heap.size := cell_lt' (a := ⟨b, o + N, none⟩) (by rw [hkb2]; simp)
      clear hkc hkb hxl HCT HNT hkp
      go_wp2
      go_roundw
      case rel => exact ⟨k + 1, by omega, by go_num, by rw [HN2.out]; go_num, by rw [HC2.out]; exact HF.out.below ((Below.refl _ _).alloc (Nat.le_refl _) _), below_on _ _ HB.out ((Below.refl _ _).alloc (Nat.le_refl _) _)⟩
      case measure => simp [intOf]; omega
     ·have hnk' : (ks.length : Int) < (N : Int) + 1 := by omega
      clear hxl HCT HNT hkp
      go_wp2
      go_roundw
      case rel => exact ⟨k + 1, by omega, by go_num, by rw [HN2.out]; go_num, by rw [HC2.out]; exact HF.out.below ((Below.refl _ _).alloc (Nat.le_refl _) _), below_on _ _ HB.out ((Below.refl _ _).alloc (Nat.le_refl _) _)⟩
      case measure => simp [intOf]; omega
    ·have HC2 : Hid (crL (L.take (k + 1)) ks = crL (L.take k) ks ++ [(X.1, ⟨X.2.v, X.2.b, false⟩)]) := hid (by rw [HCT.out, hxl, hkp]; simp)
     have hnk : N < ks.length := by
      rcases Nat.lt_or_ge N ks.length with h | h
      ·exact h
      ·rw [List.getD_eq_getElem?_getD, List.getElem?_eq_none h] at hkp; cases hkp
     have hnk' : ¬ (ks.length : Int) < (N : Int) + 1 := by omega
     rcases HK.out with h0 | ⟨b, o, rfl, _, hkc⟩
     ·rw [h0] at hnk; simp at hnk
     have hkb := hkc N hnk
     rw [hkp] at hkb
     have hkb2 : wr.cell? ⟨b, o + N, none⟩ = some (.bool true) := (World.cell?_of_block (HB.out.block b (cell_lt' (a := ⟨b, o + N, none⟩) (by rw [hkb]; simp)))).trans hkb
     have hbl : b < wr.heap.size := cell_lt' (a := ⟨b, o + N, none⟩) (by rw [hkb2]; simp)
     obtain ⟨v4, w4, hrun, hF4, hg4⟩ := (HF.out.below ((Below.refl _ _).alloc (Nat.le_refl _) (.cells #[sv X.1, .slice pb X.2.b.length cb, .bool false] 134))).push (X.1, ⟨X.2.v, X.2.b, false⟩) ⟨_, _, _, HPB.out⟩ HCL.out (by rw [size_al]; omega)
     rw [size_al] at hrun
     simp only at hrun
     rw [HPB.out] at hrun
     have HRUN := hid hrun
     have HF4 := hid hF4
     have HB4 := hid (below_on_grown (below_on _ _ (below_on _ _ HB.out ((Below.refl _ _).alloc (Nat.le_refl _) _)) ((Below.refl _ _).alloc (Nat.le_refl _) _)) hg4 (fun b hb => (own_ge HF.out b hb).1))
     clear hrun hF4 hg4 hxl HCT HNT hkp hkc hkb
     go_wp2_with (at_builtin; refine wpList_append_run _ _ 75 rfl rfl _ _ v4 rfl rfl HRUN.out ?_)
     go_roundw
     case rel => exact ⟨k + 1, by omega, by go_num, by rw [HN2.out]; go_num, by rw [HC2.out]; exact HF4.out, HB4.out⟩
     case measure => simp [intOf]; omega
  ·have hlt' : ¬ (k : Int) < (L.length : Int) := by omega
   have e : k = L.length := by omega
   subst e
   have h1 := H.out.below HB.out
   have hL : L.take L.length = L := List.take_length
   have HFE : Hid (FilL w.heap.size wr (.slice po5 (crL (L.take L.length) ks).length c5) (crL L ks)) := hid (by have := HF.out; rw [hL] at this ⊢; exact this)
   have z1 : wr.frozen? ⟨q, 1, none⟩ = false := h1.c.free 1
   have z4 : wr.frozen? ⟨q, 4, none⟩ = false := h1.c.free 4
   have z5 : wr.frozen? ⟨q, 5, none⟩ = false := h1.c.free 5
   have d4 : wr.cell? ⟨q, 4, none⟩ = some (.bool d.out) := h1.c.cell 4
   have d5 : wr.cell? ⟨q, 5, none⟩ = some (fuV fu) := h1.c.cell 5
   obtain ⟨pf, hpf⟩ := HFV.out
   rw [hpf] at d5
   clear h1 hL
   generalize (crL (L.take L.length) ks).length = nn at *
   go_wp2
   go_ret
   have hr := H.out.relist HB.out HFE.out (fun x hx => by obtain ⟨y, hy, e1, e2⟩ := crL_mem hx; rw [← e1, ← e2]; exact ⟨(H.out.below HB.out).by_ y hy, fun b hb => Or.inl (H.out.rb y hy b hb)⟩) (F2 := (d.crash ks).F) HE.out.symm
   have h4 := hr.1.setq 4 (.bool false) (fu2 := fu) (d2 := { d with F := (d.crash ks).F, out := false }) (by simp [rcells]) rfl
   have h5 := h4.setq 5 (.pointer none) (fu2 := none) (d2 := d.crash ks) (by simp [rcells, Pd.crash, fuV]) rfl
   exact ⟨rfl, _, ⟨fun b hb => Or.inl hb, fun b hb => hb.imp id (·.1)⟩, ⟨_, _, h5⟩, (hr.2.trans (Only.set _ _ _ rfl)).trans (Only.set _ _ _ rfl)⟩
end

end Go.Proofs.YtfogkegmdgbecaaGreatDoor

/- Contract of Turn of the document's drives. -/
namespace Go.Proofs.YtfogkegmdgbecaaGreatDoor
open Go Go.RowKit

theorem set_mod : ∀ {L : List (Nm × Ent)} {s : Nm} {i : Nat} (v : Value) (a mask : Nat), Srt L → idx L s = some i → gmap Ent.fi (L.set i ((atL L i).1, ⟨v, turnB (atL L i).2.b a mask, (atL L i).2.l⟩)) = gmod (gmap Ent.fi L) s a mask
 | [], _, _, _, _, _, _, h => by cases h
 | p :: r, s, i, v, a, mask, hs, h => by
  have hs' := List.pairwise_cons.1 hs
  unfold idx at h
  by_cases ep : p.1 = s
  ·rw [if_pos ep] at h; cases h
   have h2 : gmod (gmap Ent.fi r) s a mask = gmap Ent.fi r := by
    unfold gmod
    have : ∀ y ∈ gmap Ent.fi r, (if y.1 = s then (y.1, (turnB y.2.1 a mask, y.2.2)) else y) = y := fun y hy => by
     obtain ⟨z, hz, rfl⟩ := List.mem_map.1 hy
     have := bb_ne (hs'.1 z hz)
     rw [ep] at this
     rw [if_neg (fun e => this e.symm)]
    rw [List.map_congr_left this, List.map_id']
   show (p.1, (turnB p.2.b a mask, p.2.l)) :: gmap Ent.fi r = (if p.1 = s then (p.1, (turnB p.2.b a mask, p.2.l)) else (p.1, (p.2.b, p.2.l))) :: gmod (gmap Ent.fi r) s a mask
   rw [if_pos ep, h2]
  ·rw [if_neg ep] at h
   cases hi : idx r s with
   | none => rw [hi] at h; cases h
   | some j =>
    rw [hi] at h; cases h
    have ih := set_mod v a mask hs'.2 hi
    show (p.1, p.2.fi) :: gmap Ent.fi (r.set j ((atL r j).1, ⟨v, turnB (atL r j).2.b a mask, (atL r j).2.l⟩)) = (if p.1 = s then (p.1, (turnB p.2.b a mask, p.2.l)) else (p.1, p.2.fi)) :: gmod (gmap Ent.fi r) s a mask
    rw [if_neg ep, ih]
def RTurnAt (w : World) (R : Nat → Prop) (q : Nat) (fu : Option Nat) (r : Nat × Pd) (e : Ending) (w' : World) : Prop :=
 e = .returned (.int .i64 (r.1 : Int)) ∧ ∃ R2, Grows w R R2 ∧ RfAt w' R2 q fu r.2 ∧ Only (fun b => b = q) w w'
section
variable {w w' : World} {R : Nat → Prop} {q : Nat} {v : Value} {fu : Option Nat} {d : Pd} {L : List (Nm × Ent)} {f : Fs}
set_option maxHeartbeats 2000000 in
set_option maxRecDepth 100000 in
theorem rturn_any (h : RfC w R q v fu d L) (s : Nm) (a : Int) (ha : -9223372036854775808 ≤ a ∧ a ≤ 9223372036854775807) (mask : Nat) (hm : mask < 256) (hl : L.length < 999000) (hbn : ∀ x ∈ L, x.2.b.length ≤ 1000000000) (h8 : ∀ x ∈ L, ∀ y ∈ x.2.b, y < 256) (hso : Srt d.F) :
  Calls Tryz.prog 37 #[ptr q, sv s, .int .i64 a, .int .u8 (mask : Int)] w (RTurnAt w R q fu (d.turn s a mask)) := by
 have HA := hid (at_any h s (by omega))
 have c1 : w.cell? ⟨q, 1, none⟩ = some v := h.c.cell 1
 have hql := h.c.lt
 have HGG := gget_fi h s
 have HSO : Hid (Srt L) := hid (srt_map (by rw [← h.fs]; exact hso))
 have H := hid h
 clear h hso
 cases hi : idx L s with
 | none =>
  have HE : Hid (d.turn s a mask = (6, d)) := hid (by unfold Pd.turn; rw [HGG, idx_miss hi]; rfl)
  have e : atI L s = -1 := by unfold atI; rw [hi]
  rw [e] at HA
  clear HGG
  go_enter Tryz.func37, Tryz.ntmps37
  go_wp2_with (go_at_call 95; refine HA.out.mono ?_; rintro e w' ⟨rfl, hw'⟩; have hw2 := hw'.symm; subst hw2)
  go_ret
  rw [HE.out]
  exact ⟨rfl, R, Grows.refl _ _, ⟨v, L, H.out⟩, Only.refl _ _⟩
 | some i =>
  obtain ⟨hi1, hi2, hi3⟩ := idx_get hi
  have HGF : Hid (gget d.F s = some ((atL L i).2.b, (atL L i).2.l)) := hid (by rw [HGG, hi3]; rfl)
  have e : atI L s = (i : Int) := by unfold atI; rw [hi]
  rw [e] at HA
  have hni : ¬ (i : Int) < 0 := by omega
  have hni2 : (i : Int) < (L.length : Int) := by omega
  have HI := hid hi
  obtain ⟨g, cc, hv, _, k1, _⟩ := H.out.at hi1
  subst hv
  obtain ⟨pe, ce, hpe⟩ := H.out.slice (atL_mem hi1)
  rw [hpe] at k1
  have HPE := hid hpe
  have hgl : g < w.heap.size := cell_lt' (a := ⟨g, i * 3 + 1, none⟩) (by rw [k1]; simp)
  clear HGG hi2 hi3 hpe hi
  by_cases hr : a < 0 ∨ ((atL L i).2.b.length : Int) ≤ a
  ·have HE : Hid (d.turn s a mask = (5, d)) := hid (by unfold Pd.turn; rw [HGF.out]; simp only; rw [if_pos hr])
   generalize (atL L i).2.b.length = nb at *
   by_cases h0 : a < 0
   ·go_enter Tryz.func37, Tryz.ntmps37
    go_wp2_with (go_at_call 95; refine HA.out.mono ?_; rintro e w' ⟨rfl, hw'⟩; have hw2 := hw'.symm; subst hw2)
    go_ret
    rw [HE.out]
    exact ⟨rfl, R, Grows.refl _ _, ⟨_, L, H.out⟩, Only.refl _ _⟩
   ·have h1 : (nb : Int) ≤ a := by omega
    go_enter Tryz.func37, Tryz.ntmps37
    go_wp2_with (go_at_call 95; refine HA.out.mono ?_; rintro e w' ⟨rfl, hw'⟩; have hw2 := hw'.symm; subst hw2)
    go_ret
    rw [HE.out]
    exact ⟨rfl, R, Grows.refl _ _, ⟨_, L, H.out⟩, Only.refl _ _⟩
  ·obtain ⟨j, rfl⟩ : ∃ j : Nat, a = (j : Int) := ⟨a.toNat, by omega⟩
   have hj : j < (atL L i).2.b.length := by omega
   have HE : Hid (d.turn s (j : Int) mask = (0, { d with F := gmod d.F s j mask })) := hid (by unfold Pd.turn; rw [HGF.out]; simp only; rw [if_neg hr]; rfl)
   have hat : BAt w pe (atL L i).2.b := by have := H.out.by_ _ (atL_mem hi1); rw [HPE.out] at this; exact own_BAt this
   obtain ⟨po', c', W1, hrun, how, hb1⟩ := copyB hat ce (hbn _ (atL_mem hi1))
   have hx8 : (atL L i).2.b.getD j 0 < 256 := by rw [getD_in _ _ _ hj]; exact h8 _ (atL_mem hi1) _ (List.getElem_mem hj)
   have hxor : bits .xor .u8 (((atL L i).2.b.getD j 0 : Nat) : Int) (mask : Int) = ((((atL L i).2.b.getD j 0) ^^^ mask : Nat) : Int) := u8_xor_nat _ _ hx8 hm
   have hg1 : ∃ g1, po' = some ⟨g1, 0, none⟩ := by
    rcases how.2 with ⟨h1, h2⟩ | ⟨g, cap, cur, h1, _⟩
    ·omega
    ·cases h1; exact ⟨g, rfl⟩
   obtain ⟨g1, rfl⟩ := hg1
   have hg1b := own_ge how g1 rfl
   have hcell : W1.cell? ⟨g1, j, none⟩ = some (.int .u8 (((atL L i).2.b.getD j 0 : Nat) : Int)) := by
    rcases own_BAt how with ⟨h1, _⟩ | ⟨a', h1, h2⟩
    ·cases h1
    ·cases h1
     have h3 := h2 j hj
     rw [add_none, Nat.zero_add] at h3
     exact h3
   have hfr : W1.frozen? ⟨g1, j, none⟩ = false := by
    rcases how.2 with ⟨h1, _⟩ | ⟨g, cap, cur, h1, _, hg, _⟩
    ·cases h1
    ·cases h1; exact CAt.free (cs := cur) (t := 5) hg j
   have how2 := own_set how j (.int .u8 ((((atL L i).2.b.getD j 0) ^^^ mask : Nat) : Int))
   have HTB : Hid (((atL L i).2.b.map u8).set j (.int .u8 ((((atL L i).2.b.getD j 0) ^^^ mask : Nat) : Int)) = (turnB (atL L i).2.b j mask).map u8) := hid (by unfold turnB; rw [List.map_set]; rfl)
   have HTL : Hid ((turnB (atL L i).2.b j mask).length = (atL L i).2.b.length) := hid (turnB_len _ _ _)
   rw [HTB.out] at how2
   have hb2 : Below w.heap.size w (W1.setCell ⟨g1, j, none⟩ (.int .u8 ((((atL L i).2.b.getD j 0) ^^^ mask : Nat) : Int))) := hb1.setCell hg1b.1 _
   have HFI := hid (fun (y : Value) => set_mod y j mask HSO.out HI.out)
   have h1q : W1.cell? ⟨q, 1, none⟩ = some _ := (H.out.below hb1).c.cell 1
   have h1l := (H.out.below hb1).c.lt
   have hne1 : g1 ≠ q := by omega
   have hne1' : q ≠ g1 := by omega
   have hq1 : (W1.setCell ⟨g1, j, none⟩ (.int .u8 ((((atL L i).2.b.getD j 0) ^^^ mask : Nat) : Int))).cell? ⟨q, 1, none⟩ = some _ := (H.out.below hb2).c.cell 1
   obtain ⟨g3, c3, W3, hrun3, hF3, hb3⟩ := copyF (B := 0) (H.out.below hb2).ow (fun x hx => by obtain ⟨po, c, e⟩ := H.out.slice hx; exact ⟨_, _, _, e⟩) (by omega)
   have hr3 := (H.out.below hb2).below hb3
   have cq3 : W3.cell? ⟨q, 1, none⟩ = some _ := hr3.c.cell 1
   have zq3 : W3.frozen? ⟨q, 1, none⟩ = false := hr3.c.free 1
   have hgq : g3 ≠ q := hr3.ne_q (own_base hF3 (Nat.zero_le _)) (by decide) g3 rfl
   have hgq2 : q ≠ g3 := fun e => hgq e.symm
   obtain ⟨g4, c4, hv4, _, k3, _, kz⟩ := FilL.at hF3 hi1
   cases hv4
   have kz2 := kz (i * 3 + 1)
   have HB3 := hid (below_on _ _ hb2 hb3)
   have HF3 : Hid (FilL w.heap.size W3 (.slice (some ⟨g3, 0, none⟩) L.length c3) L) := hid (own_base hF3 (by rw [setCell_size]; exact hb1.size))
   have HO3 := hid (ownsRow_keep how2 fun b hb => hb3.block b (own_ge how2 b hb).2)
   rw [setCell_size] at hrun3
   have HRUN := hid hrun
   have HRUN3 := hid hrun3
   have HG1B := hid hg1b
   have hg1l : g1 < W1.heap.size := hg1b.2
   rw [HPE.out] at k3
   clear hrun hrun3 how how2 hb1 hb2 hF3 hb3 hr3 kz hat hr
   have h1 : ¬ (j : Int) < 0 := by omega
   have h2 : ¬ ((atL L i).2.b.length : Int) ≤ (j : Int) := by omega
   have hj' : (j : Int) < ((atL L i).2.b.length : Int) := by omega
   generalize (atL L i).2.b.getD j 0 ^^^ mask = y at *
   generalize (atL L i).2.b.getD j 0 = z at *
   have t1 : True := trivial
   go_enter Tryz.func37, Tryz.ntmps37
   go_wp2_with (first
    | (go_at_call 95; refine HA.out.mono ?_; rintro e w' ⟨rfl, hw'⟩; have hw2 := hw'.symm; subst hw2)
    | (at_builtin; have _t := t1; refine wpList_append_run _ _ 30 rfl rfl _ _ _ rfl rfl HRUN.out ?_; clear t1)
    | (at_builtin; refine wpList_append_run _ _ 75 rfl rfl _ _ _ rfl rfl HRUN3.out ?_))
   go_ret
   rw [HE.out]
   have hre := H.out.relist HB3.out HF3.out (fun x hx => ⟨(H.out.below HB3.out).by_ x hx, fun b hb => Or.inl (H.out.rb x hx b hb)⟩) (F2 := d.F) H.out.fs
   have hg3 := own_ge HF3.out g3 rfl
   have hg1W : g1 < W3.heap.size := (own_ge HO3.out g1 rfl).2
   have hrow : (W3.setCell ⟨q, 1, none⟩ (.slice (some ⟨g3, 0, none⟩) L.length c3)).ownsRow 0 5 1 (.slice (some ⟨g1, 0, none⟩) (atL L i).2.b.length c') (turnB (atL L i).2.b j mask).length ((turnB (atL L i).2.b j mask).map u8) := by
    rw [HTL.out]
    exact ownsRow_keep (own_base HO3.out (Nat.zero_le _)) fun b hb => heap_setCell_ne _ _ _ _ (by cases hb; exact hne1)
   have hE := hre.1.setE (i := i) (j := 1) (flat_set1 L i (.slice (some ⟨g1, 0, none⟩) (atL L i).2.b.length c') (turnB (atL L i).2.b j mask) hi1) hrow (fun b hb => Or.inr (by cases hb; rw [setCell_size]; exact ⟨HG1B.out.1, hg1W⟩)) (F2 := gmod d.F s j mask) (by rw [H.out.fs]; exact (HFI.out _).symm)
   exact ⟨rfl, _, ⟨fun b hb => Or.inl hb, fun b hb => hb.imp id (·.1)⟩, ⟨_, _, hE⟩, hre.2.then (T := fun b => b = g3) (Only.set _ _ _ rfl) (fun b hb e => by have := hg3.1; omega)⟩
end
end Go.Proofs.YtfogkegmdgbecaaGreatDoor
