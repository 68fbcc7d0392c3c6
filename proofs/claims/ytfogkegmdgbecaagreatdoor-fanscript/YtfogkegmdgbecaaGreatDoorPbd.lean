/- Texts laid into one, cut to what is needed: the remark ahead of each part says what is proved there. -/
import Derived.Test.YtfogkegmdgbecaaGreatDoorPav
import Derived.Test.YtfogkegmdgbecaaGreatDoorPax
import Derived.Test.YtfogkegmdgbecaaGreatDoorPaf
import Derived.Test.YtfogkegmdgbecaaGreatDoorPbb
import Derived.Lib.SlBytesConst
/- The document's Commit. (Written by tools/gen_Yh.py.) -/
namespace Go.Proofs.YtfogkegmdgbecaaGreatDoor
open Go Go.RowKit Go.Shelf

/-- While files are staged, from drive to drive: what is left to do is R. -/
structure RC1 (w W0 : World) (T X : Nat → Prop) (k : Nat) (p : Nat → Nat) (fl : Nat → List Fl) (R : Bool × (Nat → Bool) × FS) (bw i n : Nat) (W : World) : Prop where
 ex : ∃ wl Y, R = forD stg fl (k - i) i wl Y ∧ RX w W0 T X k p Y.d Y.f W ∧ WlAt W bw k (fun j => wl j && decide (j < i)) ∧ (∀ j, i ≤ j → wl j = true) ∧ Bs 800000 800000000 k i Y.d ∧ n = cntW wl i
structure RC3 (w W0 : World) (T X : Nat → Prop) (k : Nat) (p : Nat → Nat) (fl : Nat → List Fl) (R : Bool × (Nat → Bool) × FS) (bw i : Nat) (W : World) : Prop where
 ex : ∃ wl Y, R = forD fin fl (k - i) i wl Y ∧ RX w W0 T X k p Y.d Y.f W ∧ WlAt W bw k wl ∧ Bs 800016 800000016 k i Y.d
structure RCD (w W0 : World) (T X : Nat → Prop) (k : Nat) (p : Nat → Nat) (fl : Nat → List Fl) (me : Nat → Bool) (R : Bool × Nat × FS) (bw : Nat) (wl : Nat → Bool) (i : Nat) (W : World) : Prop where
 ex : ∃ n Y, R = delD (unsN fl me) (k - i) i n Y ∧ RX w W0 T X k p Y.d Y.f W ∧ WlAt W bw k wl ∧ Bs 800032 800000032 k i Y.d
theorem WlAt.congr {W : World} {bw k : Nat} {a b : Nat → Bool} (h : WlAt W bw k a) (e : ∀ j, j < k → a j = b j) : WlAt W bw k b := fun j hj => by rw [← e j hj]; exact h j hj
theorem rdD_brk {fl : Nat → List Fl} {me : Nat → Bool} {m i n : Nat} {X : FS} (h : me i = true) (h2 : (delL ((fl i).map fun x => tmpN x.1) (X.d i) X.f n).1 = true) : delD (unsN fl me) (m + 1) i n X = (true, (delL ((fl i).map fun x => tmpN x.1) (X.d i) X.f n).2.1, ⟨upd X.d i (delL ((fl i).map fun x => tmpN x.1) (X.d i) X.f n).2.2.1, (delL ((fl i).map fun x => tmpN x.1) (X.d i) X.f n).2.2.2⟩) := by
 rw [delD, if_neg (by simp [unsN])]; simp only [unsN, h, if_true]; rw [if_pos h2]
theorem rdD_on {fl : Nat → List Fl} {me : Nat → Bool} {m i n : Nat} {X : FS} (h : me i = true) (h2 : (delL ((fl i).map fun x => tmpN x.1) (X.d i) X.f n).1 = false) : delD (unsN fl me) (m + 1) i n X = delD (unsN fl me) m (i + 1) (delL ((fl i).map fun x => tmpN x.1) (X.d i) X.f n).2.1 ⟨upd X.d i (delL ((fl i).map fun x => tmpN x.1) (X.d i) X.f n).2.2.1, (delL ((fl i).map fun x => tmpN x.1) (X.d i) X.f n).2.2.2⟩ := by
 rw [delD, if_neg (by simp [unsN])]; simp only [unsN, h, if_true]; rw [if_neg (by simp [h2])]
theorem rdD_not {fl : Nat → List Fl} {me : Nat → Bool} {m i n : Nat} {X : FS} (h : me i = false) : delD (unsN fl me) (m + 1) i n X = delD (unsN fl me) m (i + 1) n X := by
 rw [delD, if_neg (by simp [unsN])]; simp [unsN, h, delL, upd_id]
theorem sub_one {k i : Nat} (h : i < k) : k - i = (k - (i + 1)) + 1 := by omega
section
variable {w w1 : World} {T : Nat → Prop} {k : Nat} {p : Nat → Nat} {X0 : FS}
set_option maxHeartbeats 8000000 in
set_option maxRecDepth 100000 in
theorem rcommit_any (h : RA w w1 T k p X0.d X0.f 0) {lv : Value} (hl : LsAt w1 T lv k p) (hk : k ≤ 1000) (hG : ∀ i, i < k → Gd (X0.d i)) (hB : ∀ i, i < k → Bnd 800000 800000000 (X0.d i)) (fv : FsV) (hf : fv.ok w1 T) (hfl : fv.l.length ≤ 1000) (h8 : ∀ r ∈ fv.l, r.l.length ≤ 1000) (need : Int) :
  Calls Tryz.prog 13 #[lv, fv.v, .int .i64 need] w1 (RCM w w1 T k p (comR k fv need X0)) := by
 obtain ⟨lpo, lc, hlv⟩ := hl.form
 subst hlv
 have HMAY := hid (rmay_any lpo k lc hk fv w1 hf hfl h8 need)
 by_cases he : comE k (fv.l.map RowV.fl) need = 0
 ·rw [he] at HMAY
  have hR : comR k fv need X0 = com fv.fl k need X0 := by unfold comR; rw [if_neg (by omega)]
  rw [hR]
  obtain ⟨hk16, hlen, hnd, hr8, hrok⟩ := comE_zero he
  have hmem : ∀ i, i < k → fv.l.getD i default ∈ fv.l := fun i hi => by rw [getD_in _ _ _ (by omega)]; exact List.getElem_mem _
  have HN : Hid (∀ i, i < k → ∀ x ∈ (fv.l.getD i default).l, x.nm.length ≤ 1000) := hid (fun i hi x hx => by
   have := ok_len (okFl_names _ _ (hrok _ (hmem i hi)) x.fl (List.mem_map.2 ⟨x, hx, rfl⟩)); exact Nat.le_trans this (by decide))
  have HR8 : Hid (∀ i, i < k → (fv.l.getD i default).l.length ≤ 8) := hid (fun i hi => hr8 _ (hmem i hi))
  have HMEM := hid hmem
  obtain ⟨R1, hR1⟩ : ∃ R1, forD stg fv.fl k 0 (fun _ => true) X0 = R1 := ⟨_, rfl⟩
  obtain ⟨U1, hU1⟩ : ∃ U1, delD (unsN fv.fl (fun _ => true)) k 0 0 R1.2.2 = U1 := ⟨_, rfl⟩
  obtain ⟨R2, hR2⟩ : ∃ R2, forD fin fv.fl k 0 R1.2.1 R1.2.2 = R2 := ⟨_, rfl⟩
  obtain ⟨U2, hU2⟩ : ∃ U2, delD (unsN fv.fl (fun i => !R2.2.1 i)) k 0 0 R2.2.2 = U2 := ⟨_, rfl⟩
  have hcom : com fv.fl k need X0 = if R1.1 then (11, fun _ => false, R1.2.2) else if (cntW R1.2.1 k : Int) < need then ((if U1.1 then 11 else 10), fun _ => false, U1.2.2) else if R2.1 then (11, fun _ => false, R2.2.2) else ((if U2.1 then 11 else 0), R2.2.1, U2.2.2) := by
   unfold com; rw [hR1, hU1, hR2, hU2]
  obtain ⟨rr, hrr⟩ : ∃ rr, com fv.fl k need X0 = rr := ⟨_, rfl⟩
  rw [hrr] at hcom ⊢
  have HRR := hid hcom
  have HR1 := hid hR1
  have HU1 := hid hU1
  have HR2 := hid hR2
  have HU2 := hid hU2
  have hmk := make_bools k (by omega)
  have HK := hid hk16
  obtain ⟨bl, hbl, hnl, hlc⟩ : ∃ bl, lpo = some ⟨bl, 0, none⟩ ∧ ¬ T bl ∧ ∀ j, j < k → w1.cell? ⟨bl, j, none⟩ = some (ptr (p j)) := by
   rcases hl.ex with ⟨h0, _⟩ | ⟨h0, b, c, h1, h2, h3⟩
   ·omega
   ·cases h1; exact ⟨b, rfl, h2, h3⟩
  subst hbl
  obtain ⟨bf, fo, hbf, hnf, hfc⟩ : ∃ b o, fv.po = some ⟨b, o, none⟩ ∧ ¬ T b ∧ ∀ j, j < k → w1.cell? ⟨b, o + j, none⟩ = some (fv.l.getD j default).v := by
   rcases hf.at_ with h0 | ⟨b, o, h1, h2, h3⟩
   ·rw [h0] at hlen; simp at hlen; omega
   ·exact ⟨b, o, h1, h2, fun j hj => h3 j (by omega)⟩
  have hbll := cell_lt2 (hlc 0 (by omega))
  have hbfl := cell_lt2 (hfc 0 (by omega))
  have hrow : ∀ i, i < k → (fv.l.getD i default).ok w1 T := fun i hi => hf.el _ (hmem i hi)
  obtain ⟨fpo, fcp, rows⟩ := fv
  dsimp only at hbf hlen
  subst hbf
  -- what is known of memory behind make
  have HMK : Hid (∀ dn, ∃ X : Nat → Prop, (∀ b, X b ↔ b = w1.heap.size) ∧ RX w ((w1.drewN dn).alloc (.cells (trs 0 k).toArray 4)) T X k p X0.d X0.f ((w1.drewN dn).alloc (.cells (trs 0 k).toArray 4)) ∧ WlAt ((w1.drewN dn).alloc (.cells (trs 0 k).toArray 4)) w1.heap.size k (fun _ => false)) := hid (fun dn =>
   ⟨fun b => b = w1.heap.size, fun _ => Iff.rfl, RX.start (h.below (below_on _ _ (below_drewN w1 dn) ((Below.refl _ _).alloc (Nat.le_refl _) _))), trs_wl0 _ _ _ (CAt.made (w1.drewN dn) _ _)⟩)
  have hww := h.be.size
  have hTl : ∀ b, T b → b < w1.heap.size := h.lt
  have HFIN0 : Hid (∀ W0 X, (∀ b, X b → w1.heap.size ≤ b) → w1.heap.size < W0.heap.size → Below w1.heap.size w1 W0 → ∀ W d f (er : Nat) wlr, RX w W0 T X k p d f W → rr = (er, wlr, ⟨d, f⟩) → er ≠ 0 → RCM w w1 T k p rr (.returned (.tuple #[.slice none 0 0, .int .i64 (er : Int)])) W) := hid (fun W0 X h1 h2 h3 W d f er wlr hx e hne => by
   obtain ⟨T', hg, hr, ho, -⟩ := RX.fin h h1 h2 h3 hx
   rw [e]; exact ⟨_, T', rfl, hg, hr, ho, .inl ⟨hne, rfl⟩⟩)
  have HFOK0 : Hid (∀ W0 X, (∀ b, X b → w1.heap.size ≤ b) → w1.heap.size < W0.heap.size → Below w1.heap.size w1 W0 → ∀ W d f wlr, RX w W0 T X k p d f W → rr = (0, wlr, ⟨d, f⟩) → WlAt W w1.heap.size k wlr → RCM w w1 T k p rr (.returned (.tuple #[.slice (some ⟨w1.heap.size, 0, none⟩) k k, .int .i64 0])) W) := hid (fun W0 X h1 h2 h3 W d f wlr hx e hwl => by
   obtain ⟨T', hg, hr, ho, hn⟩ := RX.fin h h1 h2 h3 hx
   rw [e]; exact ⟨_, T', rfl, hg, hr, ho, .inr ⟨rfl, _, rfl, hwl, Nat.le_refl _, hn⟩⟩)
  have HBS : Hid (Bs 800000 800000000 k 0 X0.d) := hid (fun j hj => ⟨hG j hj, fun _ => hB j hj, (hB j hj).mono (by omega) (by omega)⟩)
  have HRW0 := hid hrow
  have HFL0 : Hid (∀ i, FsV.fl ⟨some ⟨bf, fo, none⟩, fcp, rows⟩ i = (rows.getD i default).fl) := hid (fun _ => rfl)
  generalize FsV.fl ⟨some ⟨bf, fo, none⟩, fcp, rows⟩ = FL at *
  have HLC := hid hlc
  have HFC := hid hfc
  dsimp only [FsV.v] at *
  have HLEN := hid hlen
  clear h hl hf h8 hR hG hB hrow hlc hfc hR1 hU1 hR2 hU2 hcom hrr hrok hr8 he hmem hfl hlen
  go_enter Tryz.func13, Tryz.ntmps13
  go_upto_region 5 with (go_at_call 65; refine HMAY.out.mono ?_; rintro e w2 ⟨rfl, dn, rfl⟩)
  obtain ⟨X, hX, hx0, hw0⟩ := HMK.out dn
  have hbW : Below w1.heap.size w1 ((w1.drewN dn).alloc (.cells (trs 0 k).toArray 4)) := below_on _ _ (below_drewN w1 dn) ((Below.refl _ _).alloc (Nat.le_refl _) _)
  have hsW : w1.heap.size < ((w1.drewN dn).alloc (.cells (trs 0 k).toArray 4)).heap.size := by rw [size_al]; exact Nat.lt_succ_self _
  have hdz : (w1.drewN dn).heap.size = w1.heap.size := rfl
  try rw [hdz]
  generalize ((w1.drewN dn).alloc (.cells (trs 0 k).toArray 4)) = W0 at *
  have hXl : ∀ b, X b → w1.heap.size ≤ b := fun b hb => by rw [(hX b).1 hb]; exact Nat.le_refl _
  have HLS : Hid (∀ W d f, RX w W0 T X k p d f W → ∀ i, i < k → W.cell? ⟨bl, i, none⟩ = some (ptr (p i)) ∧ W.cell? ⟨bf, fo + i, none⟩ = some (.slice (rows.getD i default).po (rows.getD i default).l.length (rows.getD i default).c)) := hid (fun W d f hx i hi =>
   ⟨((World.cell?_of_block (a := ⟨bl, i, none⟩) ((hx.on.block bl (by omega) (fun e => e.elim hnl (fun e => by have := hXl _ e; omega))).trans (hbW.block bl hbll)))).trans (HLC.out i hi),
    ((World.cell?_of_block (a := ⟨bf, fo + i, none⟩) ((hx.on.block bf (by omega) (fun e => e.elim hnf (fun e => by have := hXl _ e; omega))).trans (hbW.block bf hbfl)))).trans (HFC.out i hi)⟩)
  have HROW : Hid (∀ i, i < k → (rows.getD i default).ok W0 (fun b => T b ∨ X b)) := hid (fun i hi => (HRW0.out i hi).keep (fun b hb _ => hbW.block b hb) (fun b hb e => e.elim id (fun e => by have := hXl _ e; omega)))
  have HFIN := hid (HFIN0.out W0 X hXl hsW hbW)
  have HFOK := hid (HFOK0.out W0 X hXl hsW hbW)
  have HXB : Hid (X w1.heap.size ∧ w1.heap.size < W0.heap.size ∧ ¬ T w1.heap.size ∧ w.heap.size ≤ w1.heap.size) := hid ⟨(hX _).2 rfl, hsW, fun ht => by have := hTl _ ht; omega, hww⟩
  have HX0 := hid hx0
  have HW0 := hid hw0
  clear HFIN0 HFOK0 HMK HMAY HRW0 HLC HFC hX hx0 hw0 hXl hsW hbW hTl hww hnl hnf hbll hbfl hdz hmk
  generalize w1.heap.size = bw at *
  go_wp2_with fail
  go_loopw [10, 11] (fun q v wr => ∃ i n : Nat, i ≤ k ∧ n ≤ i ∧ q = .int .i64 (n : Int) ∧ v = .int .i64 (i : Int) ∧ RC1 w W0 T X k p FL R1 bw i n wr) (fun _ v _ => (1000 - intOf v).toNat)
  case atStart => exact ⟨0, 0, Nat.zero_le _, Nat.le_refl _, rfl, rfl, ⟨fun _ => true, X0, HR1.out.symm, HX0.out, HW0.out.congr (fun j _ => by simp), fun _ _ => rfl, HBS.out, rfl⟩⟩
  case round =>
   clear HX0 HW0 HBS HR1
   obtain ⟨i, n, hi, hn, rfl, rfl, hI⟩ := hrel
   obtain ⟨wl, Y, hRi, hX, hwl, hwt, hBs, hcn⟩ := hI.ex
   clear hI
   have HWL := hid hwl
   have HWT := hid hwt
   have HBS := hid hBs
   have HCN := hid hcn
   by_cases hlt : i < k
   ·have hlt' : (i : Int) < (k : Int) := by omega
    have hi2 : (i : Int) < 1000 := by omega
    have hlr : (i : Int) < (rows.length : Int) := by rw [HLEN.out]; exact hlt'
    have hn2 : (n : Int) < 1000 := by omega
    obtain ⟨z0, z1⟩ := HLS.out wr _ _ hX i hlt
    have HSC := hid (fun W d f h => HLS.out W d f h i hlt)
    have HST : Hid (∀ W', Below wr.heap.size wr W' → Calls Tryz.prog 66 #[ptr (p i), (rows.getD i default).v] W' fun e W2 => e = .returned (.int .i64 ((forL stg (FL i) (Y.d i) Y.f).1 : Int)) ∧ RX w W0 T X k p (upd Y.d i (forL stg (FL i) (Y.d i) Y.f).2.1) (forL stg (FL i) (Y.d i) Y.f).2.2 W2 ∧ Kpt W0 T W' W2) := hid (fun W' hb => by
     rw [HFL0.out i]
     exact (hX.below hb).call (fun T' hr hrw => rstage_any hr hlt _ (hrw _ (HROW.out i hlt)) (Nat.le_trans (HR8.out i hlt) (by decide)) (HN.out i hlt) (HBS.out i hlt).1 (((HBS.out i hlt).2.1 (Nat.le_refl _)).mono (by omega) (by omega))))
    have HCC : Hid (∀ W', Below wr.heap.size wr W' → W'.cell? ⟨bl, i, none⟩ = some (ptr (p i)) ∧ W'.cell? ⟨bf, fo + i, none⟩ = some (.slice (rows.getD i default).po (rows.getD i default).l.length (rows.getD i default).c)) := hid (fun W' hb => HSC.out _ _ _ (hX.below hb))
    rw [sub_one hlt] at hRi
    have HA := hid (fun e => hRi.trans (rD_brk (HWT.out i (Nat.le_refl _)) e))
    have HO := hid (fun e => hRi.trans (rD_ok (HWT.out i (Nat.le_refl _)) e))
    have HI := hid (fun e e2 => hRi.trans (rD_ill (HWT.out i (Nat.le_refl _)) e e2))
    have HG2 := hid (gd_forL gd_stg (FL i) (HBS.out i hlt).1 Y.f)
    have HB2 : Hid (Bnd 800016 800000016 (forL stg (FL i) (Y.d i) Y.f).2.1) := hid ((forL_bnd bnd_stg (FL i) ((HBS.out i hlt).2.1 (Nat.le_refl _)) Y.f).mono (by have := HR8.out i hlt; rw [HFL0.out i]; simp only [RowV.fl, List.length_map]; omega) (by have := HR8.out i hlt; rw [HFL0.out i]; simp only [RowV.fl, List.length_map]; omega))
    clear hRi hX hwl hwt hBs hcn
    generalize rows.getD i default = row at *
    obtain ⟨rpo, rcp, rl⟩ := row
    dsimp only [RowV.v] at *
    generalize forL stg (FL i) (Y.d i) Y.f = E at *
    obtain ⟨e1, d1, f1⟩ := E
    dsimp only at *
    go_wp2_with fail
    go_region_held3 (fun w' => w'.cell? ⟨bl, i, none⟩ = some (ptr (p i)) ∧ w'.cell? ⟨bf, fo + i, none⟩ = some (.slice rpo rl.length rcp)) (first | exact hc6 | exact HCC.out _ (Below.refl _ _) | exact HCC.out _ (below_drewN _ _)) (first | (go_at_call 66; (first | refine (HST.out _ (below_drewN _ _)).mono ?_ | refine (HST.out _ (Below.refl _ _)).mono ?_); rintro e w6 ⟨rfl, hx6, hk6⟩; have HX6 := hid hx6; have hc6 := HSC.out _ _ _ hx6; have HW6 : Hid (WlAt w6 bw k (fun j => wl j && decide (j < i))) := hid (HWL.out.keep (hk6 bw HXB.out.2.1 HXB.out.2.2.1)); clear hx6 hk6))
    obtain ⟨c9, f9⟩ := HW6.out i hlt
    clear HWL HST HCC HSC hc6 z0 z1
    by_cases q1 : e1 = 11
    ·subst q1
     have HE := hid (HA.out rfl)
     clear HA HO HI
     go_wp2
     go_ret2
     refine HFIN.out w6 _ _ 11 (fun _ => false) HX6.out ?_ (by decide)
     rw [HRR.out, HE.out]; rfl
    ·have q1' : ((e1 : Int) == 11) = false := beq_eq_false_iff_ne.2 (by omega)
     by_cases q0 : e1 = 0
     ·subst q0
      have HE := hid (HO.out rfl)
      clear HA HO HI
      have HX7 := hid (HX6.out.set HXB.out.1 HXB.out.2.1 HXB.out.2.2.1 HXB.out.2.2.2 i (.bool true))
      have HW7 := hid (HW6.out.set hlt true)
      have z9 := (HW7.out i hlt).1
      rw [upd_same] at z9
      go_wp2
      go_roundw
      case rel =>
       refine ⟨i + 1, n + 1, by omega, by omega, by go_num, by go_num, ⟨wl, _, HE.out, HX7.out, HW7.out.congr (fun j hj => ?_), fun j hj => HWT.out j (by omega), HBS.out.set HG2.out HB2.out, ?_⟩⟩
       ·by_cases e : j = i
        ·subst e; rw [upd_same, HWT.out j (Nat.le_refl _)]; simp
        ·rw [upd_ne _ _ e]
         have : decide (j < i) = decide (j < i + 1) := by congr 1; apply propext; omega
         rw [this]
       ·show n + 1 = cntW wl i + (if wl i then 1 else 0)
        rw [HWT.out i (Nat.le_refl _), ← HCN.out]; rfl
      case measure => simp only [intOf]; omega
     ·have q0' : ((e1 : Int) == 0) = false := beq_eq_false_iff_ne.2 (by omega)
      have HE := hid (HI.out q1 q0)
      clear HA HO HI
      have HX7 := hid (HX6.out.set HXB.out.1 HXB.out.2.1 HXB.out.2.2.1 HXB.out.2.2.2 i (.bool false))
      have HW7 := hid (HW6.out.set hlt false)
      have z9 := (HW7.out i hlt).1
      rw [upd_same] at z9
      go_wp2
      go_roundw
      case rel =>
       refine ⟨i + 1, n, by omega, by omega, by go_num, by go_num, ⟨upd wl i false, _, HE.out, HX7.out, HW7.out.congr (fun j hj => ?_), fun j hj => by rw [upd_ne _ _ (by omega)]; exact HWT.out j (by omega), HBS.out.set HG2.out HB2.out, ?_⟩⟩
       ·by_cases e : j = i
        ·subst e; rw [upd_same, upd_same]; simp
        ·rw [upd_ne _ _ e, upd_ne _ _ e]
         have : decide (j < i) = decide (j < i + 1) := by congr 1; apply propext; omega
         rw [this]
       ·show n = cntW (upd wl i false) i + (if upd wl i false i then 1 else 0)
        rw [upd_same, cntW_upd i (Nat.le_refl _), ← HCN.out]; rfl
      case measure => simp only [intOf]; omega
   ·have hlt' : ¬ (i : Int) < (k : Int) := by omega
    have hik : i = k := by omega
    subst hik
    have hR1' : R1 = (false, wl, Y) := by rw [hRi, Nat.sub_self]; rfl
    subst hR1'
    have HWL2 : Hid (WlAt wr bw i wl) := hid (HWL.out.congr (fun j hj => by simp [hj]))
    have HXY := hid hX
    dsimp only at HRR HU1 HR2
    simp only [Bool.false_eq_true, if_false] at HRR
    rw [← HCN.out] at HRR
    clear hRi hX hwl hwt hBs hcn HWL HWT HCN
    by_cases hq : (n : Int) < need
    ·simp only [hq, if_true] at HRR
     have HU := HU1
     have HXS := HXY
     have HWS := HWL2
     have HBSS := hid HBS.out.next.next
     clear HU1 HXY HWL2 HBS HR2 HU2
     go_wp2
     go_loopw [13] (fun v wq => ∃ j : Nat, j ≤ i ∧ v = .int .i64 (j : Int) ∧ RCD w W0 T X i p FL (fun _ => true) U1 bw wl j wq) (fun v _ => (1000 - intOf v).toNat)
     case atStart => exact ⟨0, Nat.zero_le _, rfl, ⟨0, _, HU.out.symm, HXS.out, HWS.out, HBSS.out⟩⟩
     case round =>
      clear HXS HWS HBSS HU
      obtain ⟨j, hj, rfl, hI⟩ := hrel
      obtain ⟨m, Z, hRj, hX, hwl, hBs⟩ := hI.ex
      clear hI
      have HWL := hid hwl
      have HBS := hid hBs
      by_cases hlt : j < i
      ·have hlt' : (j : Int) < (i : Int) := by omega
       have hi2 : (j : Int) < 1000 := by omega
       have hlr : (j : Int) < (rows.length : Int) := by rw [HLEN.out]; exact hlt'
       obtain ⟨z0, z1⟩ := HLS.out wr _ _ hX j hlt
       have HSC := hid (fun W d f h => HLS.out W d f h j hlt)
       have HDR : Hid (∀ W', Below wr.heap.size wr W' → Calls Tryz.prog 67 #[ptr (p j), (rows.getD j default).v] W' fun e W2 => e = .returned (.bool (delL ((FL j).map fun x => tmpN x.1) (Z.d j) Z.f m).1) ∧ RX w W0 T X i p (upd Z.d j (delL ((FL j).map fun x => tmpN x.1) (Z.d j) Z.f m).2.2.1) (delL ((FL j).map fun x => tmpN x.1) (Z.d j) Z.f m).2.2.2 W2 ∧ Kpt W0 T W' W2) := hid (fun W' hb => by
        rw [HFL0.out j]
        exact (hX.below hb).call (fun T' hr hrw => rdrop_any hr hlt _ (hrw _ (HROW.out j hlt)) (Nat.le_trans (HR8.out j hlt) (by decide)) (HN.out j hlt) (HBS.out j hlt).1 (((HBS.out j hlt).2.1 (Nat.le_refl _)).mono (by omega) (by omega)) m))
       have HCC : Hid (∀ W', Below wr.heap.size wr W' → W'.cell? ⟨bl, j, none⟩ = some (ptr (p j)) ∧ W'.cell? ⟨bf, fo + j, none⟩ = some (.slice (rows.getD j default).po (rows.getD j default).l.length (rows.getD j default).c)) := hid (fun W' hb => HSC.out _ _ _ (hX.below hb))
       rw [sub_one hlt] at hRj
       have HRJ := hid hRj
       have HG2 := hid (gd_delL ((FL j).map fun x => tmpN x.1) (HBS.out j hlt).1 Z.f m)
       have HB2 : Hid (Bnd 800048 800000048 (delL ((FL j).map fun x => tmpN x.1) (Z.d j) Z.f m).2.2.1) := hid ((bnd_delL ((FL j).map fun x => tmpN x.1) ((HBS.out j hlt).2.1 (Nat.le_refl _)) Z.f m).mono (by omega) (by have := HR8.out j hlt; rw [HFL0.out j]; simp only [RowV.fl, List.length_map]; omega))
       have HXW := hid hX
       clear hRj hX hwl hBs
       generalize rows.getD j default = row at *
       obtain ⟨rpo, rcp, rl⟩ := row
       dsimp only [RowV.v] at *
       have HA := hid (fun e => HRJ.out.trans (rdD_brk rfl e))
       have HO := hid (fun e => HRJ.out.trans (rdD_on rfl e))
       clear HRJ
       generalize delL ((FL j).map fun x => tmpN x.1) (Z.d j) Z.f m = E at *
       obtain ⟨b1, m1, d1, f1⟩ := E
       dsimp only at *
       go_wp2_with fail
       go_region_held3 (fun w' => w'.cell? ⟨bl, j, none⟩ = some (ptr (p j)) ∧ w'.cell? ⟨bf, fo + j, none⟩ = some (.slice rpo rl.length rcp)) (first | exact hc6 | exact HCC.out _ (Below.refl _ _) | exact HCC.out _ (below_drewN _ _)) (first | (go_at_call 67; (first | refine (HDR.out _ (below_drewN _ _)).mono ?_ | refine (HDR.out _ (Below.refl _ _)).mono ?_); rintro e w6 ⟨rfl, hx6, hk6⟩; have HX6 := hid hx6; have HW6 : Hid (WlAt w6 bw i wl) := hid (HWL.out.keep (hk6 bw HXB.out.2.1 HXB.out.2.2.1)); have hc6 := HSC.out _ _ _ hx6; have hw6 := (HW6.out j hlt).1; clear hx6 hk6))
       clear HWL HDR HCC HSC hc6 z0 z1 hw6
       cases b1 with
       | true =>
        have HE := hid (HA.out rfl)
        clear HA HO
        go_wp2
        go_ret2
        refine HFIN.out w6 _ _ 11 (fun _ => false) HX6.out ?_ (by decide)
        rw [HRR.out, HE.out]; rfl
       | false =>
        have HE := hid (HO.out rfl)
        clear HA HO
        go_wp2
        go_roundw
        case rel => exact ⟨j + 1, by omega, by go_num, ⟨m1, _, HE.out, HX6.out, HW6.out, HBS.out.set HG2.out HB2.out⟩⟩
        case measure => simp only [intOf]; omega
      ·have hlt' : ¬ (j : Int) < (i : Int) := by omega
       have hji : j = i := by omega
       have hU : U1 = (false, m, Z) := by rw [hRj, hji, Nat.sub_self]; rfl
       have HXW := hid hX
       clear hRj hX hwl hBs
       rw [hU] at HRR
       go_wp2
       go_ret2
       exact HFIN.out wr _ _ 10 (fun _ => false) HXW.out (by rw [HRR.out]; rfl) (by decide)
    ·simp only [hq, if_false] at HRR
     have HBS1 := hid HBS.out.next
     clear HBS HU1
     go_wp2
     go_loopw [14] (fun v wq => ∃ j : Nat, j ≤ i ∧ v = .int .i64 (j : Int) ∧ RC3 w W0 T X i p FL R2 bw j wq) (fun v _ => (1000 - intOf v).toNat)
     case atStart => exact ⟨0, Nat.zero_le _, rfl, ⟨wl, Y, HR2.out.symm, HXY.out, HWL2.out, HBS1.out⟩⟩
     case round =>
      clear HXY HWL2 HBS1 HR2
      obtain ⟨j, hj, rfl, hI⟩ := hrel
      obtain ⟨wl2, Z, hRj, hX, hwl, hBs⟩ := hI.ex
      clear hI
      have HWL := hid hwl
      have HBS := hid hBs
      by_cases hlt : j < i
      ·have hlt' : (j : Int) < (i : Int) := by omega
       have hi2 : (j : Int) < 1000 := by omega
       have hlr : (j : Int) < (rows.length : Int) := by rw [HLEN.out]; exact hlt'
       obtain ⟨c9, f9⟩ := HWL.out j hlt
       rw [sub_one hlt] at hRj
       cases hb : wl2 j with
       | false =>
        rw [hb] at c9
        have HE := hid (hRj.trans (rD_not hb))
        have HXW := hid hX
        clear hRj hX hwl hBs
        go_wp2
        go_roundw
        case rel => exact ⟨j + 1, by omega, by go_num, ⟨wl2, _, HE.out, HXW.out, HWL.out, HBS.out.pass⟩⟩
        case measure => simp only [intOf]; omega
       | true =>
        rw [hb] at c9
        obtain ⟨z0, z1⟩ := HLS.out wr _ _ hX j hlt
        have HSC := hid (fun W d f h => HLS.out W d f h j hlt)
        have HST : Hid (∀ W', Below wr.heap.size wr W' → Calls Tryz.prog 68 #[ptr (p j), (rows.getD j default).v] W' fun e W2 => e = .returned (.int .i64 ((forL fin (FL j) (Z.d j) Z.f).1 : Int)) ∧ RX w W0 T X i p (upd Z.d j (forL fin (FL j) (Z.d j) Z.f).2.1) (forL fin (FL j) (Z.d j) Z.f).2.2 W2 ∧ Kpt W0 T W' W2) := hid (fun W' hb' => by
         rw [HFL0.out j]
         exact (hX.below hb').call (fun T' hr hrw => rfinish_any hr hlt _ (hrw _ (HROW.out j hlt)) (Nat.le_trans (HR8.out j hlt) (by decide)) (HN.out j hlt) (HBS.out j hlt).1 (((HBS.out j hlt).2.1 (Nat.le_refl _)).mono (by omega) (by omega))))
        have HCC : Hid (∀ W', Below wr.heap.size wr W' → W'.cell? ⟨bl, j, none⟩ = some (ptr (p j)) ∧ W'.cell? ⟨bf, fo + j, none⟩ = some (.slice (rows.getD j default).po (rows.getD j default).l.length (rows.getD j default).c)) := hid (fun W' hb' => HSC.out _ _ _ (hX.below hb'))
        have HA := hid (fun e => hRj.trans (rD_brk hb e))
        have HO := hid (fun e => hRj.trans (rD_ok hb e))
        have HI := hid (fun e e2 => hRj.trans (rD_ill hb e e2))
        have HG2 := hid (gd_forL gd_fin (FL j) (HBS.out j hlt).1 Z.f)
        have HB2 : Hid (Bnd 800032 800000032 (forL fin (FL j) (Z.d j) Z.f).2.1) := hid ((forL_bnd bnd_fin (FL j) ((HBS.out j hlt).2.1 (Nat.le_refl _)) Z.f).mono (by have := HR8.out j hlt; rw [HFL0.out j]; simp only [RowV.fl, List.length_map]; omega) (by have := HR8.out j hlt; rw [HFL0.out j]; simp only [RowV.fl, List.length_map]; omega))
        clear hRj hX hwl hBs
        generalize rows.getD j default = row at *
        obtain ⟨rpo, rcp, rl⟩ := row
        dsimp only [RowV.v] at *
        generalize forL fin (FL j) (Z.d j) Z.f = E at *
        obtain ⟨e1, d1, f1⟩ := E
        dsimp only at *
        go_wp2_with fail
        go_region_held3 (fun w' => w'.cell? ⟨bl, j, none⟩ = some (ptr (p j)) ∧ w'.cell? ⟨bf, fo + j, none⟩ = some (.slice rpo rl.length rcp)) (first | exact hc6 | exact HCC.out _ (Below.refl _ _) | exact HCC.out _ (below_drewN _ _)) (first | (go_at_call 68; (first | refine (HST.out _ (below_drewN _ _)).mono ?_ | refine (HST.out _ (Below.refl _ _)).mono ?_); rintro e w6 ⟨rfl, hx6, hk6⟩; have HX6 := hid hx6; have hc6 := HSC.out _ _ _ hx6; have HW6 : Hid (WlAt w6 bw i wl2) := hid (HWL.out.keep (hk6 bw HXB.out.2.1 HXB.out.2.2.1)); clear hx6 hk6))
        clear c9 f9
        obtain ⟨c9, f9⟩ := HW6.out j hlt
        clear HWL HST HCC HSC hc6 z0 z1
        by_cases q1 : e1 = 11
        ·subst q1
         have HE := hid (HA.out rfl)
         clear HA HO HI
         go_wp2
         go_ret2
         refine HFIN.out w6 _ _ 11 (fun _ => false) HX6.out ?_ (by decide)
         rw [HRR.out, HE.out]; rfl
        ·have q1' : ((e1 : Int) == 11) = false := beq_eq_false_iff_ne.2 (by omega)
         by_cases q0 : e1 = 0
         ·subst q0
          have HE := hid (HO.out rfl)
          clear HA HO HI
          have HX7 := hid (HX6.out.set HXB.out.1 HXB.out.2.1 HXB.out.2.2.1 HXB.out.2.2.2 j (.bool true))
          have HW7 := hid (HW6.out.set hlt true)
          go_wp2
          go_roundw
          case rel =>
           refine ⟨j + 1, by omega, by go_num, ⟨wl2, _, HE.out, HX7.out, HW7.out.congr (fun x hx => ?_), HBS.out.set HG2.out HB2.out⟩⟩
           by_cases e : x = j
           ·subst e; rw [upd_same, hb]
           ·rw [upd_ne _ _ e]
          case measure => simp only [intOf]; omega
         ·have q0' : ((e1 : Int) == 0) = false := beq_eq_false_iff_ne.2 (by omega)
          have HE := hid (HI.out q1 q0)
          clear HA HO HI
          have HX7 := hid (HX6.out.set HXB.out.1 HXB.out.2.1 HXB.out.2.2.1 HXB.out.2.2.2 j (.bool false))
          have HW7 := hid (HW6.out.set hlt false)
          go_wp2
          go_roundw
          case rel => exact ⟨j + 1, by omega, by go_num, ⟨upd wl2 j false, _, HE.out, HX7.out, HW7.out, HBS.out.set HG2.out HB2.out⟩⟩
          case measure => simp only [intOf]; omega
      ·have hlt' : ¬ (j : Int) < (i : Int) := by omega
       have hji : j = i := by omega
       have hR2' : R2 = (false, wl2, Z) := by rw [hRj, hji, Nat.sub_self]; rfl
       subst hR2'
       have HXS := hid hX
       have HBSS := hid HBS.out.next
       have HWS := HWL
       dsimp only at HRR HU2
       simp only [Bool.false_eq_true, if_false] at HRR
       have HU := HU2
       clear hRj hX hwl hBs HBS HWL HU2 hji hj
       go_wp2
       go_loopw [16] (fun v wq => ∃ j : Nat, j ≤ i ∧ v = .int .i64 (j : Int) ∧ RCD w W0 T X i p FL (fun i => !wl2 i) U2 bw wl2 j wq) (fun v _ => (1000 - intOf v).toNat)
       case atStart => exact ⟨0, Nat.zero_le _, rfl, ⟨0, _, HU.out.symm, HXS.out, HWS.out, HBSS.out⟩⟩
       case round =>
        clear HXS HWS HBSS HU
        obtain ⟨j, hj, rfl, hI⟩ := hrel
        obtain ⟨m, Z, hRj, hX, hwl, hBs⟩ := hI.ex
        clear hI
        have HWL := hid hwl
        have HBS := hid hBs
        by_cases hlt : j < i
        ·have hlt' : (j : Int) < (i : Int) := by omega
         have hi2 : (j : Int) < 1000 := by omega
         have hlr : (j : Int) < (rows.length : Int) := by rw [HLEN.out]; exact hlt'
         obtain ⟨z0, z1⟩ := HLS.out wr _ _ hX j hlt
         have HSC := hid (fun W d f h => HLS.out W d f h j hlt)
         have HDR : Hid (∀ W', Below wr.heap.size wr W' → Calls Tryz.prog 67 #[ptr (p j), (rows.getD j default).v] W' fun e W2 => e = .returned (.bool (delL ((FL j).map fun x => tmpN x.1) (Z.d j) Z.f m).1) ∧ RX w W0 T X i p (upd Z.d j (delL ((FL j).map fun x => tmpN x.1) (Z.d j) Z.f m).2.2.1) (delL ((FL j).map fun x => tmpN x.1) (Z.d j) Z.f m).2.2.2 W2 ∧ Kpt W0 T W' W2) := hid (fun W' hb => by
          rw [HFL0.out j]
          exact (hX.below hb).call (fun T' hr hrw => rdrop_any hr hlt _ (hrw _ (HROW.out j hlt)) (Nat.le_trans (HR8.out j hlt) (by decide)) (HN.out j hlt) (HBS.out j hlt).1 (((HBS.out j hlt).2.1 (Nat.le_refl _)).mono (by omega) (by omega)) m))
         have HCC : Hid (∀ W', Below wr.heap.size wr W' → W'.cell? ⟨bl, j, none⟩ = some (ptr (p j)) ∧ W'.cell? ⟨bf, fo + j, none⟩ = some (.slice (rows.getD j default).po (rows.getD j default).l.length (rows.getD j default).c)) := hid (fun W' hb => HSC.out _ _ _ (hX.below hb))
         rw [sub_one hlt] at hRj
         have HRJ := hid hRj
         have HG2 := hid (gd_delL ((FL j).map fun x => tmpN x.1) (HBS.out j hlt).1 Z.f m)
         have HB2 : Hid (Bnd 800048 800000048 (delL ((FL j).map fun x => tmpN x.1) (Z.d j) Z.f m).2.2.1) := hid ((bnd_delL ((FL j).map fun x => tmpN x.1) ((HBS.out j hlt).2.1 (Nat.le_refl _)) Z.f m).mono (by omega) (by have := HR8.out j hlt; rw [HFL0.out j]; simp only [RowV.fl, List.length_map]; omega))
         have HXW := hid hX
         clear hRj hX hwl hBs
         generalize rows.getD j default = row at *
         obtain ⟨rpo, rcp, rl⟩ := row
         dsimp only [RowV.v] at *
         obtain ⟨c9, -⟩ := HWL.out j hlt
         cases hb : wl2 j with
         | true =>
          rw [hb] at c9
          have HE := hid (HRJ.out.trans (rdD_not (by simp [hb])))
          clear HRJ
          go_wp2_with fail
          go_quiet (fail)
          go_wp2
          go_roundw
          case rel => exact ⟨j + 1, by omega, by go_num, ⟨m, _, HE.out, HXW.out.below (below_drewN _ _), HWL.out.keep rfl, HBS.out.pass⟩⟩
          case measure => simp only [intOf]; omega
         | false =>
          rw [hb] at c9
          have HC9 : Hid (∀ W', Below wr.heap.size wr W' → W'.cell? ⟨bw, j, none⟩ = some (.bool false)) := hid (fun W' hb' => (World.cell?_of_block (a := ⟨bw, j, none⟩) (hb'.block bw (cell_lt2 c9))).trans c9)
          have HA := hid (fun e => HRJ.out.trans (rdD_brk (by simp [hb]) e))
          have HO := hid (fun e => HRJ.out.trans (rdD_on (by simp [hb]) e))
          clear HRJ
          generalize delL ((FL j).map fun x => tmpN x.1) (Z.d j) Z.f m = E at *
          obtain ⟨b1, m1, d1, f1⟩ := E
          dsimp only at *
          go_wp2_with fail
          go_region_held3 (fun w' => (w'.cell? ⟨bl, j, none⟩ = some (ptr (p j)) ∧ w'.cell? ⟨bf, fo + j, none⟩ = some (.slice rpo rl.length rcp)) ∧ w'.cell? ⟨bw, j, none⟩ = some (.bool false)) (first | exact ⟨hc6, hw6⟩ | exact ⟨HCC.out _ (Below.refl _ _), HC9.out _ (Below.refl _ _)⟩ | exact ⟨HCC.out _ (below_drewN _ _), HC9.out _ (below_drewN _ _)⟩) (first | (go_at_call 67; (first | refine (HDR.out _ (below_drewN _ _)).mono ?_ | refine (HDR.out _ (Below.refl _ _)).mono ?_); rintro e w6 ⟨rfl, hx6, hk6⟩; have HX6 := hid hx6; have HW6 : Hid (WlAt w6 bw i wl2) := hid (HWL.out.keep (hk6 bw HXB.out.2.1 HXB.out.2.2.1)); have hc6 := HSC.out _ _ _ hx6; have hw6 := (HW6.out j hlt).1; rw [hb] at hw6; clear hx6 hk6))
          clear HWL HDR HCC HSC hc6 z0 z1 hw6
          cases b1 with
          | true =>
           have HE := hid (HA.out rfl)
           clear HA HO
           go_wp2
           go_ret2
           refine HFIN.out w6 _ _ 11 wl2 HX6.out ?_ (by decide)
           rw [HRR.out, HE.out]; rfl
          | false =>
           have HE := hid (HO.out rfl)
           clear HA HO
           go_wp2
           go_roundw
           case rel => exact ⟨j + 1, by omega, by go_num, ⟨m1, _, HE.out, HX6.out, HW6.out, HBS.out.set HG2.out HB2.out⟩⟩
           case measure => simp only [intOf]; omega
        ·have hlt' : ¬ (j : Int) < (i : Int) := by omega
         have hji : j = i := by omega
         have hU : U2 = (false, m, Z) := by rw [hRj, hji, Nat.sub_self]; rfl
         have HXW := hid hX
         clear hRj hX hwl hBs
         rw [hU] at HRR
         go_wp2
         go_ret2
         exact HFOK.out wr _ _ _ HXW.out (by rw [HRR.out]; rfl) HWL.out
 ·have hR : comR k fv need X0 = (comE k (fv.l.map RowV.fl) need, fun _ => false, X0) := by unfold comR; rw [if_pos he]
  rw [hR]
  have HH := hid h
  obtain ⟨er, her⟩ : ∃ er, comE k (fv.l.map RowV.fl) need = er := ⟨_, rfl⟩
  rw [her] at HMAY he ⊢
  have he' : ((er : Int) == 0) = false := beq_eq_false_iff_ne.2 (by omega)
  clear her hR hf hl h hG hB h8
  obtain ⟨fpo, fcp, rows⟩ := fv
  dsimp only [FsV.v] at *
  go_enter Tryz.func13, Tryz.ntmps13
  go_wp2_with (go_at_call 65; refine HMAY.out.mono ?_; rintro e w2 ⟨rfl, dn, rfl⟩)
  go_ret2
  exact ⟨_, T, rfl, Grows.refl _ _, HH.out.below (below_drewN _ _), Only.of_below (below_drewN _ _), .inl ⟨he, rfl⟩⟩
end
end Go.Proofs.YtfogkegmdgbecaaGreatDoor

/- SameBools; a set of drives with the list of them; the examples (awake). -/
namespace Go.Proofs.YtfogkegmdgbecaaGreatDoor
open Go Go.RowKit Go.Shelf

/-- Bools in memory. -/
def BoAt (w : World) (v : Value) (n : Nat) (g : Nat → Bool) : Prop := ∃ po c, v = .slice po n c ∧ (n = 0 ∨ ∃ b, po = some ⟨b, 0, none⟩ ∧ ∀ i, i < n → w.cell? ⟨b, i, none⟩ = some (.bool (g i)))
theorem BoAt.below {w w' : World} {v : Value} {n : Nat} {g : Nat → Bool} (h : BoAt w v n g) (hb : Below w.heap.size w w') : BoAt w' v n g := by
 obtain ⟨po, c, rfl, h⟩ := h
 refine ⟨po, c, rfl, ?_⟩
 rcases h with h | ⟨b, rfl, h⟩
 ·exact .inl h
 ·exact .inr ⟨b, rfl, fun i hi => (World.cell?_of_block (hb.block b (cell_lt2 (h i hi)))).trans (h i hi)⟩
set_option maxHeartbeats 400000 in
theorem sameBools_true (a b : Value) (n : Nat) (g : Nat → Bool) (w : World) (hn : n ≤ 1000) (ha : BoAt w a n g) (hb : BoAt w b n g) :
  Calls Tryz.prog 14 #[a, b] w fun e w' => e = .returned (.bool true) ∧ ∃ k, w' = w.drewN k := by
 obtain ⟨pa, ca, rfl, ha⟩ := ha
 obtain ⟨pb, cb, rfl, hb⟩ := hb
 rcases Nat.eq_zero_or_pos n with h0 | h0
 ·subst h0
  clear ha hb
  go_enter Tryz.func14, Tryz.ntmps14
  go_wp2
  refine wp_loop_rounds 1 ?_
  rw [rounds_succ]
  go_wp2
  go_ret
  exact ⟨rfl, 0, rfl⟩
 ·rcases ha with h | ⟨ga, rfl, ha⟩
  ·omega
  rcases hb with h | ⟨gb, rfl, hb⟩
  ·omega
  have HP := hid ha
  have HQ := hid hb
  clear ha hb
  go_enter Tryz.func14, Tryz.ntmps14
  go_wp2
  go_loopw [5] (fun v wr => ∃ i : Nat, i ≤ n ∧ v = .int .i64 (i : Int) ∧ ∃ k, wr = w.drewN k) (fun v _ => (n - intOf v).toNat)
  case atStart => exact ⟨0, by omega, rfl, 0, rfl⟩
  case round =>
   obtain ⟨i, hi, rfl, hw⟩ := hrel
   have HW := hid hw
   have hcell : ∀ a : Addr, wr.cell? a = w.cell? a := by obtain ⟨k, rfl⟩ := hw; intro a; rfl
   have HCE := hid hcell
   clear hw hcell
   by_cases hlt : i < n
   ·have c1 := (HCE.out _).trans (HP.out i hlt)
    have c2 := (HCE.out _).trans (HQ.out i hlt)
    have hlt' : (i : Int) < (n : Int) := by omega
    generalize g i = bs at c1 c2
    cases bs <;>
    ·go_wp2
     go_quiet (fail)
     go_wp2
     go_roundw
     case rel =>
      refine ⟨i + 1, by omega, by go_num, ?_⟩
      obtain ⟨k, rfl⟩ := HW.out
      first | exact ⟨_, rfl⟩ | exact ⟨k + nq, by simp [World.drewN, Nat.add_assoc]⟩
     case measure => simp [intOf]; omega
   ·have hlt' : ¬ (i : Int) < (n : Int) := by omega
    go_wp2
    go_ret
    exact ⟨rfl, HW.out⟩
/-- A set of drives since w, and the list of them. -/
structure DS (w W : World) (T : Nat → Prop) (lv : Value) (k : Nat) (p : Nat → Nat) (X : FS) : Prop where
 fa : FA w W T k p X.d X.f 0
 ls : LsAt W T lv k p
section
variable {w W W' : World} {T : Nat → Prop} {lv : Value} {k : Nat} {p : Nat → Nat} {X X2 : FS}
theorem DS.below (h : DS w W T lv k p X) (hb : Below W.heap.size W W') : DS w W' T lv k p X := ⟨h.fa.below hb, h.ls.keep (fun b hb' _ => hb.block b hb') (fun _ _ h => h)⟩
theorem DS.alloc (h : DS w W T lv k p X) (o : Obj) : DS w (W.alloc o) T lv k p X := h.below ((Below.refl _ _).alloc (Nat.le_refl _) _)
theorem DS.on {T' : Nat → Prop} (h : DS w W T lv k p X) (hg : Grows W T T') (hf : FA w W' T' k p X2.d X2.f 0) (ho : Only T W W') : DS w W' T' lv k p X2 :=
 ⟨hf, h.ls.keep (fun b hb hn => ho.block b hb hn) (fun b hb ht => (hg.2 b ht).elim id (fun hl => by omega))⟩
/-- Another set's call. -/
theorem DS.only {Y : Nat → Prop} (h : DS w W T lv k p X) (ho : Only Y W W') (hY : ∀ b, Y b → w.heap.size ≤ b) (hT : ∀ b, T b → ¬ Y b) (hL : ∀ b c, lv = .slice (some ⟨b, 0, none⟩) k c → ¬ Y b) : DS w W' T lv k p X := by
 refine ⟨h.fa.only ho (fun b hb hy => by have := hY b hy; omega) hT, ⟨?_⟩⟩
 rcases h.ls.ex with h1 | ⟨h0, b, c, h1, h2, h3⟩
 ·exact .inl h1
 ·exact .inr ⟨h0, b, c, h1, h2, fun j hj => (World.cell?_of_block (a := ⟨b, j, none⟩) (ho.block b (cell_lt2 (h3 j hj)) (hL b c h1))).trans (h3 j hj)⟩
theorem DS.cell (h : DS w W T lv k p X) (hk : 0 < k) : ∃ b c, lv = .slice (some ⟨b, 0, none⟩) k c ∧ ¬ T b ∧ ∀ j, j < k → W.cell? ⟨b, j, none⟩ = some (ptr (p j)) := by
 rcases h.ls.ex with ⟨h1, _⟩ | ⟨h0, h1⟩
 ·omega
 ·exact h1
theorem DS.list (h : DS w W T lv k p X) {i : Nat} (hi : i < k) (pre : Nm) (hl : (X.d i).F.length < 1000000000000) : Calls Tryz.prog 41 #[ptr (p i), sv pre] W (ListAt W ((X.d i).ans X.f []) ((X.d i).list X.f pre)) := h.fa.look hi fun _ _ _ _ hd hf => list_any hd hf pre hl
end
theorem Erh.on {w w' : World} (h : Erh w) (hb : Below w.heap.size w w') : Erh w' := h.below hb h.lt
theorem StrAt.below {w w' : World} {po : Option Addr} {n : Nat} {x : Nat → Nat} (h : StrAt w po n x) (hb : Below w.heap.size w w') : StrAt w' po n x := by
 rcases h with h | ⟨b, o, rfl, h⟩
 ·exact .inl h
 ·exact .inr ⟨b, o, rfl, fun i hi => (World.cell?_of_block (hb.block b (cell_lt2 (h i hi)))).trans (h i hi)⟩
end Go.Proofs.YtfogkegmdgbecaaGreatDoor
