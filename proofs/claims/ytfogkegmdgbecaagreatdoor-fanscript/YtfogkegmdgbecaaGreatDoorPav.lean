/- Texts laid into one, cut to what is needed: the remark ahead of each part says what is proved there. -/
import Derived.Test.YtfogkegmdgbecaaGreatDoorPaq
import Derived.Test.YtfogkegmdgbecaaGreatDoorPau
import Derived.Test.YtfogkegmdgbecaaGreatDoorPat
/- Commit. -/
namespace Go.Proofs.YtfogkegmdgbecaaGreatDoor
open Go Go.RowKit Go.Shelf

theorem forL_bnd {op : Op3} (hop : ∀ {a b : Nat} {d : Pd}, Bnd a b d → ∀ f x, Bnd (a + 2) (b + 2) (op d f x).2.1) : ∀ (l : List Fl) {a b : Nat} {d : Pd} (_ : Bnd a b d) (f : Fs), Bnd (a + 2 * l.length) (b + 2 * l.length) (forL op l d f).2.1
 | [], _, _, _, h, _ => h
 | x :: r, a, b, d, h, f => by
  unfold forL
  split
  ·have := forL_bnd hop r (hop h f x) (op d f x).2.2
   exact this.mono (by simp; omega) (by simp; omega)
  ·exact (hop h f x).mono (by simp; omega) (by simp; omega)
theorem forD_bnd {op : Op3} (hop : ∀ {a b : Nat} {d : Pd}, Bnd a b d → ∀ f x, Bnd (a + 2) (b + 2) (op d f x).2.1) (fl : Nat → List Fl) (k : Nat) (h8 : ∀ i, i < k → (fl i).length ≤ 8) {a b : Nat} : ∀ (n i : Nat) (wl : Nat → Bool) (X : FS), n + i = k → (∀ j, j < k → Bnd (if j < i then a + 16 else a) (if j < i then b + 16 else b) (X.d j)) → ∀ j, j < k → Bnd (a + 16) (b + 16) ((forD op fl n i wl X).2.2.d j)
 | 0, i, wl, X, hn, h, j, hj => by
  unfold forD
  have := h j hj
  rw [if_pos (by omega), if_pos (by omega)] at this
  exact this
 | n + 1, i, wl, X, hn, h, j, hj => by
  have hstep : ∀ j, j < k → Bnd (if j < i + 1 then a + 16 else a) (if j < i + 1 then b + 16 else b) ((⟨upd X.d i (forL op (fl i) (X.d i) X.f).2.1, (forL op (fl i) (X.d i) X.f).2.2⟩ : FS).d j) := fun j hj => by
   show Bnd _ _ (upd X.d i _ j)
   by_cases e : j = i
   ·subst e
    rw [upd_same, if_pos (by omega), if_pos (by omega)]
    have h1 := h j hj
    rw [if_neg (by omega), if_neg (by omega)] at h1
    have := forL_bnd hop (fl j) h1 X.f
    have h8' := h8 j hj
    exact this.mono (by omega) (by omega)
   ·rw [upd_ne _ _ e]
    have := h j hj
    by_cases hji : j < i
    ·rw [if_pos hji, if_pos hji] at this; rw [if_pos (by omega), if_pos (by omega)]; exact this
    ·rw [if_neg hji, if_neg hji] at this; rw [if_neg (by omega), if_neg (by omega)]; exact this
  have hskip : ∀ j, j < k → Bnd (if j < i + 1 then a + 16 else a) (if j < i + 1 then b + 16 else b) (X.d j) := fun j hj => by
   have := h j hj
   by_cases hji : j < i
   ·rw [if_pos hji, if_pos hji] at this; rw [if_pos (by omega), if_pos (by omega)]; exact this
   ·rw [if_neg hji, if_neg hji] at this; by_cases hj2 : j < i + 1
    ·rw [if_pos hj2, if_pos hj2]; exact this.mono (by omega) (by omega)
    ·rw [if_neg hj2, if_neg hj2]; exact this
  unfold forD
  split
  ·split
   ·have := hstep j hj
    by_cases h1 : j < i + 1
    ·rw [if_pos h1, if_pos h1] at this; exact this
    ·rw [if_neg h1, if_neg h1] at this; exact this.mono (by omega) (by omega)
   ·exact forD_bnd hop fl k h8 n (i + 1) _ _ (by omega) hstep j hj
  ·exact forD_bnd hop fl k h8 n (i + 1) _ _ (by omega) hskip j hj
/-- What Commit answers and leaves. -/
def CMat (w w1 : World) (T : Nat → Prop) (k : Nat) (p : Nat → Nat) (r : Nat × (Nat → Bool) × FS) (e : Ending) (w' : World) : Prop :=
 ∃ v T', e = .returned (.tuple #[v, .int .i64 (r.1 : Int)]) ∧ Grows w1 T T' ∧ FA w w' T' k p r.2.2.d r.2.2.f 0 ∧ Only T w1 w' ∧
  ((r.1 ≠ 0 ∧ v = .slice none 0 0) ∨ (r.1 = 0 ∧ ∃ bw, v = .slice (some ⟨bw, 0, none⟩) k k ∧ WlAt w' bw k r.2.1 ∧ w1.heap.size ≤ bw ∧ ¬ T' bw))
def comR (k : Nat) (fv : FsV) (need : Int) (X : FS) : Nat × (Nat → Bool) × FS :=
 if comE k (fv.l.map RowV.fl) need ≠ 0 then (comE k (fv.l.map RowV.fl) need, fun _ => false, X) else com fv.fl k need X
theorem trs_wl (W : World) (g k : Nat) (h : CAt W g (trs k k).toArray 4) : WlAt W g k (fun _ => true) := fun j hj => ⟨by rw [h.cell j]; simp [trs, hj], h.free j⟩
theorem okFl_names : ∀ (l : List Fl) (seen : List Nm), okFl seen l = true → ∀ x ∈ l, okNm x.1 = true
 | [], _, _, x, hx => by simp at hx
 | y :: r, seen, h, x, hx => by
  rw [okFl_cons] at h
  simp only [Bool.and_eq_true] at h
  rcases List.mem_cons.1 hx with rfl | hx
  ·have := h.1; unfold okSt at this; simp only [Bool.and_eq_true] at this; exact this.1
  ·exact okFl_names r _ h.2.2 x hx
theorem comE_zero {k : Nat} {rows : List RowV} {need : Int} (h : comE k (rows.map RowV.fl) need = 0) : (1 ≤ k ∧ k ≤ 16) ∧ rows.length = k ∧ (1 ≤ need ∧ need ≤ k) ∧ (∀ r ∈ rows, r.l.length ≤ 8) ∧ ∀ r ∈ rows, okFl [] r.fl = true := by
 rw [comE_any] at h
 split at h
 ·contradiction
 ·rename_i h1
  have hk : 1 ≤ k ∧ k ≤ 16 := by unfold ckD at h1; split at h1 <;> simp_all
  split at h
  ·cases h
  ·rename_i h2
   split at h
   ·cases h
   ·rename_i h3
    split at h
    ·cases h
    ·rename_i h4
     refine ⟨hk, by omega, by omega, fun r hr => ?_, fun r hr => ?_⟩
     ·rcases Nat.lt_or_ge 8 r.l.length with hlt | hlt
      ·exact absurd (List.any_eq_true.2 ⟨r, hr, by simpa using hlt⟩) h3
      ·exact hlt
     ·cases hb : okFl [] r.fl
      ·exact absurd (List.any_eq_true.2 ⟨r, hr, by simp [hb]⟩) h4
      ·rfl
/-- While a Commit goes on, since w1. -/
structure CmS (w w1 : World) (T0 : Nat → Prop) (k : Nat) (p : Nat → Nat) (g : Nat) (lv : Value) (fv : FsV) (bw : Nat) (wl : Nat → Bool) (X : FS) (W : World) : Prop where
 ex : ∃ T', Grows w1 T0 T' ∧ FA w W T' k p X.d X.f 0 ∧ CmA W T' g lv fv bw k k p
 wlf : WlAt W bw k wl
 on : Only T0 w1 W
 bwf : w1.heap.size ≤ bw
 lt : bw < W.heap.size
section
variable {w w1 : World} {T0 : Nat → Prop} {k : Nat} {p : Nat → Nat} {g : Nat} {lv : Value} {fv : FsV} {bw : Nat} {wl : Nat → Bool} {X : FS} {W : World}
theorem CmS.below (h : CmS w w1 T0 k p g lv fv bw wl X W) {W' : World} (hb : Below W.heap.size W W') : CmS w w1 T0 k p g lv fv bw wl X W' := by
 obtain ⟨T', hg, hf, hM⟩ := h.ex
 exact ⟨⟨T', hg, hf.below hb, hM.keep h.lt (fun b hb' _ => hb.block b hb') (fun _ _ h => h)⟩, h.wlf.keep (hb.block bw h.lt), h.on.then (Only.of_below (S := fun _ => False) hb) (fun _ _ h => h.elim), h.bwf, Nat.lt_of_lt_of_le h.lt hb.size⟩
theorem CmS.erh (h : CmS w w1 T0 k p g lv fv bw wl X W) (hE : Erh w) : Erh W := by obtain ⟨T', hg, hf, hM⟩ := h.ex; exact hE.below hf.be hE.lt
theorem CmS.next {T' : Nat → Prop} (h : CmS w w1 T0 k p g lv fv bw wl X W) (hg : Grows w1 T0 T') (hM : CmA W T' g lv fv bw k k p) {W' : World} {wl2 : Nat → Bool} {X2 : FS} (hx : ∃ T2, Grows W T' T2 ∧ FA w W' T2 k p X2.d X2.f 0) (ho : Only (fun b => T' b ∨ b = bw) W W') (hw : WlAt W' bw k wl2) : CmS w w1 T0 k p g lv fv bw wl2 X2 W' := by
 obtain ⟨T2, hg2, hf2⟩ := hx
 refine ⟨⟨T2, ⟨fun b hb => hg2.1 b (hg.1 b hb), fun b hb => (hg2.2 b hb).elim (hg.2 b) (fun hl => .inr (Nat.le_trans h.on.size hl))⟩, hf2, hM.keep h.lt (fun b hb hn => ho.block b hb hn) (fun b hb ht => (hg2.2 b ht).elim id (fun hl => by omega))⟩, hw, h.on.then ho (fun b hb hx => ?_), h.bwf, Nat.lt_of_lt_of_le h.lt ho.size⟩
 rcases hx with hx | hx
 ·exact (hg.2 b hx).elim id (fun hl => by omega)
 ·have := h.bwf; omega
theorem CmS.runS (h : CmS w w1 T0 k p g lv fv bw wl X W) (hk : 1 ≤ k ∧ k ≤ 16) (hww : w.heap.size ≤ w1.heap.size) (hB : ∀ i, i < k → Bnd 10000000000 10000000000 (X.d i)) (hN : ∀ i, i < k → ∀ x ∈ fv.fl i, x.1.length ≤ 1000) :
  Calls Tryz.prog 56 #[ptr g, .func (.func 57) #[] #[]] W fun e W' => e = .returned (brk (if (forD stg fv.fl k 0 wl X).1 then 11 else 0)) ∧ CmS w w1 T0 k p g lv fv bw (forD stg fv.fl k 0 wl X).2.1 (forD stg fv.fl k 0 wl X).2.2 W' := by
 obtain ⟨T', hg, hf, hM⟩ := h.ex
 refine (forFilesS hf hM h.wlf hk hB hN (Nat.le_trans hww h.bwf)).mono ?_
 rintro e W' ⟨h1, h2, h3, h4⟩
 exact ⟨h1, h.next hg hM h2 h3 h4⟩
theorem CmS.runF (h : CmS w w1 T0 k p g lv fv bw wl X W) (hk : 1 ≤ k ∧ k ≤ 16) (hww : w.heap.size ≤ w1.heap.size) (hB : ∀ i, i < k → Bnd 10000000000 10000000000 (X.d i)) (hN : ∀ i, i < k → ∀ x ∈ fv.fl i, x.1.length ≤ 1000) :
  Calls Tryz.prog 56 #[ptr g, .func (.func 62) #[] #[]] W fun e W' => e = .returned (brk (if (forD fin fv.fl k 0 wl X).1 then 11 else 0)) ∧ CmS w w1 T0 k p g lv fv bw (forD fin fv.fl k 0 wl X).2.1 (forD fin fv.fl k 0 wl X).2.2 W' := by
 obtain ⟨T', hg, hf, hM⟩ := h.ex
 refine (forFilesF hf hM h.wlf hk hB hN (Nat.le_trans hww h.bwf)).mono ?_
 rintro e W' ⟨h1, h2, h3, h4⟩
 exact ⟨h1, h.next hg hM h2 h3 h4⟩
theorem CmS.unA (h : CmS w w1 T0 k p g lv fv bw wl X W) (hk : 1 ≤ k ∧ k ≤ 16) (hB : ∀ i, i < k → Bnd 10000000000 10000000000 (X.d i)) (hN : ∀ i, i < k → ∀ x ∈ fv.fl i, x.1.length ≤ 1000) :
  Calls Tryz.prog 60 #[ptr g, .func (.func 61) #[] #[]] W fun e W' => e = .returned (brk (if (delD (unsN fv.fl (fun _ => true)) k 0 0 X).1 then 11 else 0)) ∧ CmS w w1 T0 k p g lv fv bw wl (delD (unsN fv.fl (fun _ => true)) k 0 0 X).2.2 W' := by
 obtain ⟨T', hg, hf, hM⟩ := h.ex
 refine (unstageA hf hM h.wlf hk hB hN).mono ?_
 rintro e W' ⟨h1, h2, h3⟩
 exact ⟨h1, h.next hg hM h2 (h3.mono fun b hb => .inl hb) (h.wlf.keep (h3.block bw h.lt hM.wt))⟩
theorem CmS.unB (h : CmS w w1 T0 k p g lv fv bw wl X W) (hk : 1 ≤ k ∧ k ≤ 16) (hB : ∀ i, i < k → Bnd 10000000000 10000000000 (X.d i)) (hN : ∀ i, i < k → ∀ x ∈ fv.fl i, x.1.length ≤ 1000) :
  Calls Tryz.prog 60 #[ptr g, .func (.func 64) #[] #[ptr g]] W fun e W' => e = .returned (brk (if (delD (unsN fv.fl (fun i => !wl i)) k 0 0 X).1 then 11 else 0)) ∧ CmS w w1 T0 k p g lv fv bw wl (delD (unsN fv.fl (fun i => !wl i)) k 0 0 X).2.2 W' := by
 obtain ⟨T', hg, hf, hM⟩ := h.ex
 refine (unstageB hf hM h.wlf hk hB hN).mono ?_
 rintro e W' ⟨h1, h2, h3⟩
 exact ⟨h1, h.next hg hM h2 (h3.mono fun b hb => .inl hb) (h.wlf.keep (h3.block bw h.lt hM.wt))⟩
theorem CmS.cnt (h : CmS w w1 T0 k p g lv fv bw wl X W) (hk : 1 ≤ k ∧ k ≤ 16) : Calls Tryz.prog 59 #[ptr g] W fun e W' => e = .returned (.int .i64 (cntW wl k : Int)) ∧ CmS w w1 T0 k p g lv fv bw wl X W' := by
 obtain ⟨T', hg, hf, hM⟩ := h.ex
 refine (count_any W g lv fv.v bw k k p wl (by omega) hM.cg hM.ls.none h.wlf).mono ?_
 rintro e W' ⟨h1, h2⟩
 exact ⟨h1, h.below h2⟩
theorem CmS.bad (h : CmS w w1 T0 k p g lv fv bw wl X W) {er : Nat} (he : er ≠ 0) (wx : Nat → Bool) : CMat w w1 T0 k p (er, wx, X) (.returned (.tuple #[.slice none 0 0, .int .i64 (er : Int)])) W := by
 obtain ⟨T', hg, hf, hM⟩ := h.ex
 exact ⟨_, T', rfl, hg, hf, h.on, .inl ⟨he, rfl⟩⟩
theorem CmS.good (h : CmS w w1 T0 k p g lv fv bw wl X W) : CMat w w1 T0 k p (0, wl, X) (.returned (.tuple #[.slice (some ⟨bw, 0, none⟩) k k, .int .i64 0])) W := by
 obtain ⟨T', hg, hf, hM⟩ := h.ex
 exact ⟨_, T', rfl, hg, hf, h.on, .inr ⟨rfl, bw, rfl, h.wlf, h.bwf, hM.wt⟩⟩
theorem CmS.cell (h : CmS w w1 T0 k p g lv fv bw wl X W) : W.cell? ⟨g, 2, none⟩ = some (.slice (some ⟨bw, 0, none⟩) k k) := by obtain ⟨T', hg, hf, hM⟩ := h.ex; exact hM.cg.cell 2
theorem CmS.start (h : FA w w1 T0 k p X.d X.f 0) (hl : LsAt w1 T0 lv k p) (hf : fv.ok w1 T0) (hfl : fv.l.length = k) (h8 : ∀ r ∈ fv.l, r.l.length ≤ 8) (hb : Below w1.heap.size w1 W) (hg : w1.heap.size ≤ bw) (hc : CAt W bw (trs k k).toArray 4) :
  CmS w w1 T0 k p W.heap.size lv fv bw (fun _ => true) X (W.alloc (.cells #[lv, fv.v, .slice (some ⟨bw, 0, none⟩) k k] 96)) := by
 have hb2 : Below w1.heap.size w1 (W.alloc (.cells #[lv, fv.v, .slice (some ⟨bw, 0, none⟩) k k] 96)) := below_on _ _ hb ((Below.refl _ _).alloc (Nat.le_refl _) _)
 have hlt := hc.lt
 refine ⟨⟨T0, Grows.refl _ _, h.below hb2, ⟨CAt.made _ _ _, fun ht => ?_, by omega, hl.keep (fun b hb' _ => hb2.block b hb') (fun _ _ h => h), fun b c e => ?_, hf.keep (fun b hb' _ => hb2.block b hb') (fun b hb' ht => ht.elim id (fun e => by omega)), hfl, fun i hi => ?_, fun ht => ?_⟩⟩, trs_wl _ _ _ (hc.old _), Only.of_below hb2, hg, by simp; omega⟩
 ·have := h.lt _ ht; have := hb.size; omega
 ·rcases hl.ex with ⟨_, h2⟩ | ⟨h0, b', c', h1, h2, h3⟩
  ·rw [h2] at e; cases e
  ·rw [h1] at e; cases e
   have := cell_lt2 (h3 0 h0); omega
 ·have hm : fv.l.getD i default ∈ fv.l := by rw [getD_in _ _ _ (by omega)]; exact List.getElem_mem _
  have := h8 _ hm
  simpa [FsV.fl, RowV.fl] using this
 ·have := h.lt _ ht; omega
end
section
variable {w w1 : World} {T : Nat → Prop} {k : Nat} {p : Nat → Nat} {X0 : FS}
set_option maxRecDepth 100000 in
set_option maxHeartbeats 4000000 in
theorem commit_any (h : FA w w1 T k p X0.d X0.f 0) {lv : Value} (hl : LsAt w1 T lv k p) (hk : k ≤ 1000) (hE : Erh w) (hB : ∀ i, i < k → Bnd 1000000000 1000000000 (X0.d i)) (fv : FsV) (hf : fv.ok w1 T) (hfl : fv.l.length ≤ 1000) (h8 : ∀ r ∈ fv.l, r.l.length ≤ 1000) (need : Int) :
  Calls Tryz.prog 12 #[lv, fv.v, .int .i64 need] w1 (CMat w w1 T k p (comR k fv need X0)) := by
 have HCC := hid (checkCommit_any h hl hk fv hf hfl h8 need)
 have hmf := run_mf Tryz.prog
 by_cases he : comE k (fv.l.map RowV.fl) need = 0
 ·rw [he] at HCC
  have hR : comR k fv need X0 = com fv.fl k need X0 := by unfold comR; rw [if_neg (by omega)]
  rw [hR]
  obtain ⟨hk16, hlen, hnd, hr8, hrok⟩ := comE_zero he
  have hN : ∀ i, i < k → ∀ x ∈ fv.fl i, x.1.length ≤ 1000 := fun i hi x hx => by
   have hm : fv.l.getD i default ∈ fv.l := by rw [getD_in _ _ _ (by omega)]; exact List.getElem_mem _
   have := ok_len (okFl_names _ _ (hrok _ hm) x hx); omega
  have h8f : ∀ i, i < k → (fv.fl i).length ≤ 8 := fun i hi => by
   have hm : fv.l.getD i default ∈ fv.l := by rw [getD_in _ _ _ (by omega)]; exact List.getElem_mem _
   simpa [FsV.fl, RowV.fl] using hr8 _ hm
  have HST := hid (fun W bw (hb : Below w1.heap.size w1 W) hg hc => CmS.start (bw := bw) h hl hf hlen hr8 hb hg hc)
  have hww : w.heap.size ≤ w1.heap.size := h.be.size
  obtain ⟨R1, hR1⟩ : ∃ R1, forD stg fv.fl k 0 (fun _ => true) X0 = R1 := ⟨_, rfl⟩
  obtain ⟨U1, hU1⟩ : ∃ U1, delD (unsN fv.fl (fun _ => true)) k 0 0 R1.2.2 = U1 := ⟨_, rfl⟩
  obtain ⟨R2, hR2⟩ : ∃ R2, forD fin fv.fl k 0 R1.2.1 R1.2.2 = R2 := ⟨_, rfl⟩
  obtain ⟨U2, hU2⟩ : ∃ U2, delD (unsN fv.fl (fun i => !R2.2.1 i)) k 0 0 R2.2.2 = U2 := ⟨_, rfl⟩
  have hB1 : ∀ i, i < k → Bnd 1000000016 1000000016 (R1.2.2.d i) := by rw [← hR1]; exact forD_bnd (a := 1000000000) (b := 1000000000) bnd_stg fv.fl k h8f k 0 _ X0 rfl (fun j hj => by simpa using hB j hj)
  have hB2 : ∀ i, i < k → Bnd 1000000032 1000000032 (R2.2.2.d i) := by rw [← hR2]; exact forD_bnd (a := 1000000016) (b := 1000000016) bnd_fin fv.fl k h8f k 0 _ R1.2.2 rfl (fun j hj => by simpa using hB1 j hj)
  have HS1 := hid (fun g bw W (hs : CmS w w1 T k p g lv fv bw (fun _ => true) X0 W) => hs.runS hk16 hww (fun i hi => (hB i hi).mono (by omega) (by omega)) hN)
  have HC1 := hid (fun g bw W (hs : CmS w w1 T k p g lv fv bw R1.2.1 R1.2.2 W) => hs.cnt hk16)
  have HU1 := hid (fun g bw W (hs : CmS w w1 T k p g lv fv bw R1.2.1 R1.2.2 W) => hs.unA hk16 (fun i hi => (hB1 i hi).mono (by omega) (by omega)) hN)
  have HS2 := hid (fun g bw W (hs : CmS w w1 T k p g lv fv bw R1.2.1 R1.2.2 W) => hs.runF hk16 hww (fun i hi => (hB1 i hi).mono (by omega) (by omega)) hN)
  have HU2 := hid (fun g bw W (hs : CmS w w1 T k p g lv fv bw R2.2.1 R2.2.2 W) => hs.unB hk16 (fun i hi => (hB2 i hi).mono (by omega) (by omega)) hN)
  rw [hR1] at HS1
  rw [hU1] at HU1
  rw [hR2] at HS2
  rw [hU2] at HU2
  have hcom : com fv.fl k need X0 = if R1.1 then (11, fun _ => false, R1.2.2) else if (cntW R1.2.1 k : Int) < need then ((if U1.1 then 11 else 10), fun _ => false, U1.2.2) else if R2.1 then (11, fun _ => false, R2.2.2) else ((if U2.1 then 11 else 0), R2.2.1, U2.2.2) := by
   unfold com; rw [hR1, hU1, hR2, hU2]
  obtain ⟨rr, hrr⟩ : ∃ rr, com fv.fl k need X0 = rr := ⟨_, rfl⟩
  rw [hrr] at hcom ⊢
  have HRR := hid hcom
  have HER := hid (fun g bw wl X W (hs : CmS w w1 T k p g lv fv bw wl X W) => hs.erh hE)
  have HRP := hid (fun b W (hb : CAt W b #[.bool true] 4) => repeat_any b k hk16 W hb)
  obtain ⟨lpo, lc, rfl⟩ := hl.form
  clear h hl hf h8 hR hB hB1 hB2 hN h8f hR1 hU1 hR2 hU2 hcom hrr hrok hr8 hE he hlen hfl
  have hb11 : brk 11 = .iface 160 (.agg #[.int .i64 11]) := rfl
  have hb0 : brk 0 = .nilIface := rfl
  have ht11 : ((tld 11 : Nat) : Int) = 11 := rfl
  have HNEED := hid hnd
  have hcl : cntW R1.2.1 k ≤ 16 := Nat.le_trans (cntW_le _ _) hk16.2
  generalize hcw : cntW R1.2.1 k = cw at *
  clear hcw
  go_enter Tryz.func12, Tryz.ntmps12
  go_upto_region 5 with (first
   | (go_at_call 54; refine HCC.out.mono ?_; rintro e w2 ⟨rfl, hb2⟩; have HB2 := hid hb2; clear hb2)
   | (go_at_call 55; refine (HRP.out _ _ (CAt.made _ _ _)).mono ?_; rintro e w4 ⟨bw, rfl, hgb, hcb, hb4⟩; have HS0 := hid (HST.out w4 bw (below_on _ _ (below_on _ _ HB2.out ((Below.refl _ _).alloc (Nat.le_refl _) _)) hb4) (by have := HB2.out.size; simp at hgb; omega) hcb); clear hgb hcb hb4))
  revert HS0
  generalize w4.alloc _ = w5
  intro HS0
  have HTL : Hid (∀ W, Erh W → Calls Tryz.prog 58 #[.iface 160 (.agg #[.int .i64 11])] W fun e W' => e = .returned (.int .i64 11) ∧ Below W.heap.size W W') := fun W hW => told_any 11 W hW
  rcases R1 with ⟨r1, wl1, X1⟩
  rcases U1 with ⟨u1, uw1, V1⟩
  rcases R2 with ⟨r2, wl2, X2⟩
  rcases U2 with ⟨u2, uw2, V2⟩
  dsimp only at *
  cases r1 with
  | true =>
   simp only [if_true] at *
   go_wp2_with (first
    | (go_at_call 56; refine (HS1.out _ _ _ HS0.out).mono ?_; rintro e w6 ⟨rfl, hs6⟩; have HS6 := hid hs6; clear hs6; rw [hb11])
    | (go_at_call 58; refine (HTL.out _ (HER.out _ _ _ _ _ HS6.out)).mono ?_; rintro e w7 ⟨rfl, hb7⟩; have HS7 := hid (HS6.out.below hb7); clear hb7))
   go_ret2
   rw [HRR.out]
   exact HS7.out.bad (by decide) _
  | false =>
   simp only [Bool.false_eq_true, if_false] at *
   rw [hb0] at HS1
   go_upto_region 8 with
    (go_at_call 56; refine (HS1.out _ _ _ HS0.out).mono ?_; rintro e w6 ⟨rfl, hs6⟩; have HS6 := hid hs6; clear hs6)
   by_cases hcn : (cw : Int) < need
   ·rw [if_pos hcn] at HRR
    cases u1 with
    | true =>
     simp only [if_true] at *
     go_wp2_with (first
      | (go_at_call 59; refine (HC1.out _ _ _ HS6.out).mono ?_; rintro e w7 ⟨rfl, hs7⟩; have HS7 := hid hs7; clear hs7; try rw [hb11]; try rw [hb0])
      | (go_at_call 60; refine (HU1.out _ _ _ HS7.out).mono ?_; rintro e w8 ⟨rfl, hs8⟩; have HS8 := hid hs8; clear hs8; try rw [hb11]; try rw [hb0])
      | (go_at_call 58; refine (HTL.out _ (HER.out _ _ _ _ _ HS8.out)).mono ?_; rintro e w9 ⟨rfl, hb9⟩; have HS9 := hid (HS8.out.below hb9); clear hb9))
     go_ret2
     rw [HRR.out]
     exact HS9.out.bad (by decide) _
    | false =>
     simp only [Bool.false_eq_true, if_false] at *
     go_wp2_with (first
      | (go_at_call 59; refine (HC1.out _ _ _ HS6.out).mono ?_; rintro e w7 ⟨rfl, hs7⟩; have HS7 := hid hs7; clear hs7; try rw [hb11]; try rw [hb0])
      | (go_at_call 60; refine (HU1.out _ _ _ HS7.out).mono ?_; rintro e w8 ⟨rfl, hs8⟩; have HS8 := hid hs8; clear hs8; try rw [hb11]; try rw [hb0]))
     go_ret2
     rw [HRR.out]
     exact HS8.out.bad (by decide) _
   ·rw [if_neg hcn] at HRR
    cases r2 with
    | true =>
     simp only [if_true] at *
     go_wp2_with (first
      | (go_at_call 59; refine (HC1.out _ _ _ HS6.out).mono ?_; rintro e w7 ⟨rfl, hs7⟩; have HS7 := hid hs7; clear hs7; try rw [hb11]; try rw [hb0])
      | (go_at_call 56; refine (HS2.out _ _ _ HS7.out).mono ?_; rintro e w8 ⟨rfl, hs8⟩; have HS8 := hid hs8; clear hs8; try rw [hb11]; try rw [hb0])
      | (go_at_call 58; refine (HTL.out _ (HER.out _ _ _ _ _ HS8.out)).mono ?_; rintro e w9 ⟨rfl, hb9⟩; have HS9 := hid (HS8.out.below hb9); clear hb9))
     go_ret2
     rw [HRR.out]
     exact HS9.out.bad (by decide) _
    | false =>
     simp only [Bool.false_eq_true, if_false] at *
     rw [hb0] at HS2
     go_upto_region 16 with (first
      | (go_at_call 59; refine (HC1.out _ _ _ HS6.out).mono ?_; rintro e w7 ⟨rfl, hs7⟩; have HS7 := hid hs7; clear hs7; try rw [hb11]; try rw [hb0])
      | (go_at_call 56; refine (HS2.out _ _ _ HS7.out).mono ?_; rintro e w8 ⟨rfl, hs8⟩; have HS8 := hid hs8; clear hs8; try rw [hb11]; try rw [hb0]))
     cases u2 with
     | true =>
      simp only [if_true] at *
      go_wp2_with (first
       | (go_at_call 60; refine (HU2.out _ _ _ HS8.out).mono ?_; rintro e w9 ⟨rfl, hs9⟩; have HS9 := hid hs9; clear hs9; try rw [hb11]; try rw [hb0])
       | (go_at_call 58; refine (HTL.out _ (HER.out _ _ _ _ _ HS9.out)).mono ?_; rintro e w10 ⟨rfl, hb10⟩; have HS10 := hid (HS9.out.below hb10); clear hb10))
      go_ret2
      rw [HRR.out]
      exact HS10.out.bad (by decide) _
     | false =>
      simp only [Bool.false_eq_true, if_false] at *
      go_wp2_with (first
       | (go_at_call 60; refine (HU2.out _ _ _ HS8.out).mono ?_; rintro e w9 ⟨rfl, hs9⟩; have HS9 := hid hs9; have HC9 := HS9.out.cell; clear hs9; try rw [hb11]; try rw [hb0]))
      go_ret2
      rw [HRR.out]
      exact HS9.out.good
 ·have hR : comR k fv need X0 = (comE k (fv.l.map RowV.fl) need, fun _ => false, X0) := by unfold comR; rw [if_pos he]
  rw [hR]
  have hne : (((comE k (fv.l.map RowV.fl) need : Nat) : Int) != 0) = true := by simp; omega
  have FIN : Hid (∀ w', Below w1.heap.size w1 w' → CMat w w1 T k p (comE k (fv.l.map RowV.fl) need, fun _ => false, X0) (.returned (.tuple #[.slice none 0 0, .int .i64 (comE k (fv.l.map RowV.fl) need : Int)])) w') := fun w' hb => ⟨_, T, rfl, Grows.refl _ _, h.below hb, Only.of_below hb, .inl ⟨he, rfl⟩⟩
  obtain ⟨lpo, lc, rfl⟩ := hl.form
  obtain ⟨fpo, fc, fl⟩ := fv
  clear h hl hf h8 hR hB
  generalize comE k _ need = q at *
  go_enter Tryz.func12, Tryz.ntmps12
  go_wp2_with (go_at_call 54; refine HCC.out.mono ?_; rintro e w5 ⟨rfl, hb5⟩; have HB5 := hid hb5; clear hb5)
  go_ret2
  exact FIN.out w5 HB5.out
end
end Go.Proofs.YtfogkegmdgbecaaGreatDoor

/- The document's drives of a set while calls change them and other blocks are written. -/
namespace Go.Proofs.YtfogkegmdgbecaaGreatDoor
open Go Go.RowKit Go.Shelf

theorem gd_forL {op : Op3} (hop : ∀ {d : Pd}, Gd d → ∀ f x, Gd (op d f x).2.1) : ∀ (l : List Fl) {d : Pd} (_ : Gd d) (f : Fs), Gd (forL op l d f).2.1
 | [], _, h, _ => h
 | x :: r, d, h, f => by
  unfold forL; split
  ·exact gd_forL hop r (hop h f x) _
  ·exact hop h f x
theorem gd_delL : ∀ (l : List Nm) {d : Pd} (_ : Gd d) (f : Fs) (n : Nat), Gd (delL l d f n).2.2.1
 | [], _, h, _, _ => h
 | s :: r, d, h, f, n => by
  unfold delL; split
  ·exact gd_delete h _ _
  ·exact gd_delL r (gd_delete h _ _) _ _
theorem bnd_delL : ∀ (l : List Nm) {a b : Nat} {d : Pd} (_ : Bnd a b d) (f : Fs) (n : Nat), Bnd a (b + l.length) (delL l d f n).2.2.1
 | [], _, _, _, h, _, _ => h
 | s :: r, a, b, d, h, f, n => by
  unfold delL; split
  ·exact (bnd_delete h _ _).mono (Nat.le_refl _) (by simp only [List.length_cons]; omega)
  ·exact (bnd_delL r (bnd_delete h _ _) _ _).mono (Nat.le_refl _) (by simp only [List.length_cons]; omega)
/-- Drives that may be; those from i on are as they were bounded first. -/
def Bs (a b k i : Nat) (d : Nat → Pd) : Prop := ∀ j, j < k → Gd (d j) ∧ (i ≤ j → Bnd a b (d j)) ∧ Bnd (a + 16) (b + 16) (d j)
theorem Bs.set {a b k i : Nat} {d : Nat → Pd} {x : Pd} (h : Bs a b k i d) (hg : Gd x) (hb : Bnd (a + 16) (b + 16) x) : Bs a b k (i + 1) (upd d i x) := fun j hj => by
 by_cases e : j = i
 ·subst e; rw [upd_same]; exact ⟨hg, fun h => by omega, hb⟩
 ·rw [upd_ne _ _ e]; exact ⟨(h j hj).1, fun hl => (h j hj).2.1 (by omega), (h j hj).2.2⟩
theorem Bs.pass {a b k i : Nat} {d : Nat → Pd} (h : Bs a b k i d) : Bs a b k (i + 1) d := fun j hj => ⟨(h j hj).1, fun hl => (h j hj).2.1 (by omega), (h j hj).2.2⟩
theorem Bs.next {a b k i : Nat} {d : Nat → Pd} (h : Bs a b k i d) : Bs (a + 16) (b + 16) k 0 d := fun j hj => ⟨(h j hj).1, fun _ => (h j hj).2.2, (h j hj).2.2.mono (by omega) (by omega)⟩

structure RX (w W0 : World) (T X : Nat → Prop) (k : Nat) (p : Nat → Nat) (d : Nat → Pd) (f : Fs) (W : World) : Prop where
 ex : ∃ T', Grows W0 T T' ∧ RA w W T' k p d f 0
 on : Only (fun b => T b ∨ X b) W0 W
section
variable {w W0 W W' : World} {T X : Nat → Prop} {k : Nat} {p : Nat → Nat} {d d2 : Nat → Pd} {f f2 : Fs}
theorem RX.start (h : RA w W0 T k p d f 0) : RX w W0 T X k p d f W0 := ⟨⟨T, Grows.refl _ _, h⟩, Only.refl _ _⟩
theorem RX.below (h : RX w W0 T X k p d f W) (hb : Below W.heap.size W W') : RX w W0 T X k p d f W' := by
 obtain ⟨T', hg, hr⟩ := h.ex
 exact ⟨⟨T', hg, hr.below hb⟩, h.on.then (Only.of_below (S := fun _ => False) hb) (fun _ _ h => h.elim)⟩
theorem RX.set (h : RX w W0 T X k p d f W) {b : Nat} (hX : X b) (hb : b < W0.heap.size) (hT : ¬ T b) (hw : w.heap.size ≤ b) (i : Nat) (v : Value) : RX w W0 T X k p d f (W.setCell ⟨b, i, none⟩ v) := by
 obtain ⟨T', hg, hf⟩ := h.ex
 have ho : Only (fun x => x = b) W (W.setCell ⟨b, i, none⟩ v) := Only.set W _ v rfl
 exact ⟨⟨T', hg, hf.only ho (fun x hx e => by omega) (fun x hx e => by subst e; exact (hg.2 x hx).elim hT (fun h => by omega))⟩, h.on.then ho (fun x _ e => by subst e; exact Or.inr hX)⟩
theorem RX.call (h : RX w W0 T X k p d f W) {g : FuncId} {args : Array Value} {Q : Ending → Prop}
  (hc : ∀ T', RA w W T' k p d f 0 → (∀ r : RowV, r.ok W0 (fun b => T b ∨ X b) → r.ok W T') → Calls Tryz.prog g args W fun e W' => Q e ∧ RStep w W T' k p d2 f2 0 W') :
  Calls Tryz.prog g args W fun e W' => Q e ∧ RX w W0 T X k p d2 f2 W' ∧ Kpt W0 T W W' := by
 obtain ⟨T', hg, hr⟩ := h.ex
 have hTT : ∀ b, b < W0.heap.size → T' b → T b := fun b hb ht => (hg.2 b ht).elim id (fun h => by omega)
 have hs := h.on.size
 refine (hc T' hr (fun r hr => hr.keep (fun b hb hn => h.on.block b hb hn) (fun b hb ht => Or.inl (hTT b hb ht)))).mono ?_
 rintro e W' ⟨hQ, T2, hg2, hr2, ho⟩
 exact ⟨hQ, ⟨⟨T2, ⟨fun b hb => hg2.1 b (hg.1 b hb), fun b hb => (hg2.2 b hb).elim (hg.2 b) (fun hl => Or.inr (by omega))⟩, hr2⟩, h.on.then ho (fun b hb ht => Or.inl (hTT b hb ht))⟩,
  fun b hb hT => ho.block b (by omega) (fun ht => hT (hTT b hb ht))⟩
theorem RX.ls (h : RX w W0 T X k p d f W) {lv : Value} {q : Nat → Nat} {m : Nat} (hl : LsAt W0 (fun b => T b ∨ X b) lv m q) : LsAt W (fun b => T b ∨ X b) lv m q := hl.keep (fun b hb hn => h.on.block b hb hn) (fun _ _ h => h)
/-- One new block besides. -/
theorem RX.fin {w1 : World} (h0 : RA w w1 T k p d2 f2 0) (hX : ∀ b, X b → w1.heap.size ≤ b) (hs : w1.heap.size < W0.heap.size) (hb : Below w1.heap.size w1 W0) (h : RX w W0 T X k p d f W) : ∃ T', Grows w1 T T' ∧ RA w W T' k p d f 0 ∧ Only T w1 W ∧ ¬ T' w1.heap.size := by
 obtain ⟨T', hg, hr⟩ := h.ex
 refine ⟨T', ⟨hg.1, fun b hb => (hg.2 b hb).elim Or.inl (fun h => Or.inr (by omega))⟩, hr, ?_, fun ht => (hg.2 _ ht).elim (fun h => by have := h0.lt _ h; omega) (fun h => by omega)⟩
 refine ⟨h.on.os.trans hb.os, h.on.tape.trans hb.tape, h.on.output.trans hb.output, Nat.le_trans hb.size h.on.size, fun b hb' hn => ?_⟩
 exact (h.on.block b (by omega) (fun e => e.elim hn (fun e => by have := hX b e; omega))).trans (hb.block b hb')
end
def RCM (w w1 : World) (T : Nat → Prop) (k : Nat) (p : Nat → Nat) (r : Nat × (Nat → Bool) × FS) (e : Ending) (w' : World) : Prop :=
 ∃ v T', e = .returned (.tuple #[v, .int .i64 (r.1 : Int)]) ∧ Grows w1 T T' ∧ RA w w' T' k p r.2.2.d r.2.2.f 0 ∧ Only T w1 w' ∧
  ((r.1 ≠ 0 ∧ v = .slice none 0 0) ∨ (r.1 = 0 ∧ ∃ bw, v = .slice (some ⟨bw, 0, none⟩) k k ∧ WlAt w' bw k r.2.1 ∧ w1.heap.size ≤ bw ∧ ¬ T' bw))
theorem trs_wl0 (W : World) (g k : Nat) (h : CAt W g (trs 0 k).toArray 4) : WlAt W g k (fun _ => false) := fun j hj => ⟨by rw [h.cell j]; simp [trs, hj], h.free j⟩
theorem rD_brk {op : Op3} {fl : Nat → List Fl} {n i : Nat} {wl : Nat → Bool} {X : FS} (h : wl i = true) (h2 : (forL op (fl i) (X.d i) X.f).1 = 11) : forD op fl (n + 1) i wl X = (true, wl, ⟨upd X.d i (forL op (fl i) (X.d i) X.f).2.1, (forL op (fl i) (X.d i) X.f).2.2⟩) := by rw [forD, if_pos h, if_pos h2]
theorem rD_ok {op : Op3} {fl : Nat → List Fl} {n i : Nat} {wl : Nat → Bool} {X : FS} (h : wl i = true) (h2 : (forL op (fl i) (X.d i) X.f).1 = 0) : forD op fl (n + 1) i wl X = forD op fl n (i + 1) wl ⟨upd X.d i (forL op (fl i) (X.d i) X.f).2.1, (forL op (fl i) (X.d i) X.f).2.2⟩ := by rw [forD, if_pos h, if_neg (by omega), if_pos h2]
theorem rD_ill {op : Op3} {fl : Nat → List Fl} {n i : Nat} {wl : Nat → Bool} {X : FS} (h : wl i = true) (h2 : ¬ (forL op (fl i) (X.d i) X.f).1 = 11) (h3 : ¬ (forL op (fl i) (X.d i) X.f).1 = 0) : forD op fl (n + 1) i wl X = forD op fl n (i + 1) (upd wl i false) ⟨upd X.d i (forL op (fl i) (X.d i) X.f).2.1, (forL op (fl i) (X.d i) X.f).2.2⟩ := by rw [forD, if_pos h, if_neg h2, if_neg h3]
theorem rD_not {op : Op3} {fl : Nat → List Fl} {n i : Nat} {wl : Nat → Bool} {X : FS} (h : wl i = false) : forD op fl (n + 1) i wl X = forD op fl n (i + 1) wl X := by rw [forD, if_neg (by simp [h])]
theorem cntW_upd {wl : Nat → Bool} {i : Nat} {b : Bool} : ∀ n, n ≤ i → cntW (upd wl i b) n = cntW wl n
 | 0, _ => rfl
 | n + 1, h => by
  show cntW (upd wl i b) n + _ = cntW wl n + _
  rw [cntW_upd n (by omega), upd_ne _ _ (by omega)]
end Go.Proofs.YtfogkegmdgbecaaGreatDoor

/- Finish. -/
namespace Go.Proofs.YtfogkegmdgbecaaGreatDoor
open Go Go.RowKit Go.Shelf

/-- Staged files of a drive get their names, up to the first that answers an error other than that it is missing. -/
def finL : List Nm → Pd → Fs → Nat × Pd × Fs
 | [], d, f => (0, d, f)
 | s :: r, d, f => if (d.rename f (tmpN s) s).1 = 0 ∨ (d.rename f (tmpN s) s).1 = 6 then finL r (d.rename f (tmpN s) s).2.1 (d.rename f (tmpN s) s).2.2 else d.rename f (tmpN s) s
def finR (ns : List Nm) (d : Pd) (f : Fs) : Nat × Pd × Fs := if ckN ns ≠ 0 then (ckN ns, d, f) else finL ns d f
theorem finL_go {s : Nm} {r : List Nm} {d : Pd} {f : Fs} (h : (d.rename f (tmpN s) s).1 = 0 ∨ (d.rename f (tmpN s) s).1 = 6) : finL (s :: r) d f = finL r (d.rename f (tmpN s) s).2.1 (d.rename f (tmpN s) s).2.2 := by rw [finL, if_pos h]
theorem finL_stop {s : Nm} {r : List Nm} {d : Pd} {f : Fs} (h : ¬ ((d.rename f (tmpN s) s).1 = 0 ∨ (d.rename f (tmpN s) s).1 = 6)) : finL (s :: r) d f = d.rename f (tmpN s) s := by rw [finL, if_neg h]
theorem none_one {W : World} {S : Nat → Prop} {p m : Nat} {fu : Option Nat} {d : Pd} {L : List (Nm × Ent)} (hd : DrC W S p m fu d L) (b : Nat) (hc : CAt W b #[ptr p] 38) : Calls Tryz.prog 93 #[.slice (some ⟨b, 0, none⟩) 1 1] W fun e w' => e = .returned (.bool false) ∧ w' = W := by
 have HF : Hid (Calls Tryz.prog 29 #[.slice (some ⟨b, 0, none⟩) 1 1, .int .i64 (-1)] W fun e w' => e = .returned (.int .i64 2) ∧ w' = W) := by
  have HM := hid (made_any hd)
  have c0 : W.cell? ⟨b, 0, none⟩ = some (ptr p) := hc.cell 0
  clear hd hc
  show Calls _ _ _ _ _
  go_enter Tryz.func29, Tryz.ntmps29
  go_wp2
  refine wp_loop_rounds 2 ?_
  rw [rounds_succ]
  go_wp2_with (go_at_call 88; refine HM.out.mono ?_; rintro e w' ⟨rfl, hw'⟩; have hw2 := hw'.symm; subst hw2)
  rw [rounds_succ]
  go_wp2
  go_ret
  exact ⟨rfl, by first | rfl | trivial⟩
 clear hd hc
 go_enter Tryz.func93, Tryz.ntmps93
 go_wp2_with (go_at_call 29; refine HF.out.mono ?_; rintro e w' ⟨rfl, hw'⟩; have hw2 := hw'.symm; subst hw2)
 go_ret
 exact ⟨rfl, by first | rfl | trivial⟩
/-- What Finish leaves. -/
def FnAt (w w1 : World) (T : Nat → Prop) (k : Nat) (p : Nat → Nat) (er : Nat) (d : Nat → Pd) (f : Fs) (e : Ending) (w' : World) : Prop :=
 e = .returned (.int .i64 (er : Int)) ∧ (∃ T', Grows w1 T T' ∧ FA w w' T' k p d f 0) ∧ Only T w1 w'
structure FNI (w w1 W0 : World) (T : Nat → Prop) (k : Nat) (p : Nat → Nat) (i : Nat) (X0 : FS) (ns : List Nm) (v : Value) (R : Nat × Pd × Fs) (j : Nat) (W : World) : Prop where
 ex : ∃ dj fj, R = finL (ns.drop j) dj fj ∧ FI w W0 T (fun _ => False) k p (upd X0.d i dj) fj W ∧ Bnd (1000000000 + j) (1000000000 + j) dj
 tx : TxtAt W v ns
set_option maxHeartbeats 2000000 in
set_option maxRecDepth 100000 in
theorem ffinish_any {w w1 : World} {T : Nat → Prop} {k : Nat} {p : Nat → Nat} {X0 : FS} (h : FA w w1 T k p X0.d X0.f 0) {i : Nat} (hi : i < k) (hB : Bnd 1000000000 1000000000 (X0.d i)) (po : Option Addr) (c : Nat) (ns : List Nm) (hv : TxtAt w1 (.slice po ns.length c) ns) (hT : ∀ b, (Value.slice po ns.length c).ownBlock = some b → ¬ T b) (hls : ∀ x ∈ ns, x.length ≤ maxLen) (hn : ns.length ≤ 1000000) :
  Calls Tryz.prog 32 #[ptr (p i), .slice po ns.length c] w1 (FnAt w w1 T k p (finR ns (X0.d i) X0.f).1 (upd X0.d i (finR ns (X0.d i) X0.f).2.1) (finR ns (X0.d i) X0.f).2.2) := by
 have hb0 : Below w1.heap.size w1 (w1.alloc (.cells #[ptr (p i)] 38)) := (Below.refl _ _).alloc (Nat.le_refl _) _
 have hA0 := h.below hb0
 have hv0 := hv.below hb0
 have HNO := hid (hA0.look hi fun fu S m L hd _ => none_one hd w1.heap.size (CAt.made w1 _ _))
 have HCK := hid (checkNames_any po c ns _ hv0 hls hn)
 have hupd : upd X0.d i (X0.d i) = X0.d := by funext j; unfold upd; split <;> simp_all
 have hwW : w.heap.size ≤ (w1.alloc (.cells #[ptr (p i)] 38)).heap.size := Nat.le_trans h.be.size hb0.size
 have HB0 := hid hb0
 have hTl := h.lt
 have FINA : Hid (∀ W r, FI w (w1.alloc (.cells #[ptr (p i)] 38)) T (fun _ => False) k p (upd X0.d i r.2.1) r.2.2 W → finR ns (X0.d i) X0.f = r → FnAt w w1 T k p (finR ns (X0.d i) X0.f).1 (upd X0.d i (finR ns (X0.d i) X0.f).2.1) (finR ns (X0.d i) X0.f).2.2 (.returned (.int .i64 (r.1 : Int))) W) := fun W r hf e => by
  rw [e]
  obtain ⟨T', hg, hfa⟩ := hf.ex
  have z := HB0.out.size
  exact ⟨rfl, ⟨T', ⟨hg.1, fun b hb => (hg.2 b hb).imp id (fun h => by omega)⟩, hfa⟩, (Only.of_below HB0.out).then hf.on (fun b _ hx => hx.elim id (fun hx => hx.elim))⟩
 by_cases hck : ckN ns = 0
 ·have hR : finR ns (X0.d i) X0.f = finL ns (X0.d i) X0.f := by unfold finR; rw [if_neg (by omega)]
  have hls8 : ∀ x ∈ ns, x.length ≤ 1000 := fun x hx => by
   unfold ckN at hck
   split at hck
   ·cases hck
   ·split at hck
    ·rename_i ha; exact Nat.le_trans (ok_len (List.all_eq_true.1 ha x hx)) (by omega)
    ·cases hck
  obtain ⟨R, hRR⟩ : ∃ R, R = finL ns (X0.d i) X0.f := ⟨_, rfl⟩
  have I0 : Hid (FNI w w1 (w1.alloc (.cells #[ptr (p i)] 38)) T k p i X0 ns (.slice po ns.length c) R 0 (w1.alloc (.cells #[ptr (p i)] 38))) := ⟨⟨X0.d i, X0.f, by rw [List.drop_zero]; exact hRR, by rw [hupd]; exact FI.start hA0, hB⟩, hv0⟩
  have HRR := hid (hR.trans hRR.symm)
  rw [hck] at HCK
  have H8 := hid hls8
  have HV0 := hid hv0
  have HN := hid hn
  have HT := hid hT
  have HTL := hid hTl
  clear h hv hA0 hv0 hupd hR hRR hls hB hls8 hn hT hTl
  go_enter Tryz.func32, Tryz.ntmps32
  go_upto_region 6 with (first
   | (go_at_call 93; refine HNO.out.mono ?_; rintro e w' ⟨rfl, hw'⟩; have hw2 := hw'.symm; subst hw2)
   | (go_at_call 77; refine HCK.out.mono ?_; rintro e w' ⟨rfl, hw'⟩; have hw2 := hw'.symm; subst hw2))
  generalize w1.alloc (.cells #[ptr (p i)] 38) = W0 at *
  go_wp2
  go_loopw [19] (fun x wr => ∃ j : Nat, j ≤ ns.length ∧ x = .int .i64 (j : Int) ∧ FNI w w1 W0 T k p i X0 ns (.slice po ns.length c) R j wr) (fun x _ => (ns.length - intOf x).toNat)
  case atStart => exact ⟨0, Nat.zero_le _, rfl, I0.out⟩
  case round =>
   clear I0 HNO HCK
   obtain ⟨j, hj, rfl, hI⟩ := hrel
   have HI := hid hI
   clear hI
   by_cases hlt : j < ns.length
   ·have hlt' : (j : Int) < (ns.length : Int) := by omega
    obtain ⟨dj, fj, hRj, hFj, hBj⟩ := HI.out.ex
    rcases HI.out.tx with ⟨e, _⟩ | ⟨b, c', e, hcell⟩
    ·rw [e] at hlt; simp at hlt
    cases e
    have cj := hcell j hlt
    have HCL := hid hcell
    have HBL : Hid (b < W0.heap.size) := hid (HV0.out.elim (fun h => absurd hlt (by rw [h.1]; simp)) (fun ⟨b', c', e, h3⟩ => by cases e; exact cell_lt2 (h3 j hlt)))
    have hj2 : (j : Int) < 1000000 := by have := HN.out; omega
    have hdrop : ns.drop j = ns.getD j [] :: ns.drop (j + 1) := by rw [getD_in _ _ _ hlt]; exact List.drop_eq_getElem_cons hlt
    have hmem : ns.getD j [] ∈ ns := by rw [getD_in _ _ _ hlt]; exact List.getElem_mem _
    rw [hdrop] at hRj
    have HST := hid (hFj.step (i := i) hi (g := 63) (args := #[ptr (p i), sv (ns.getD j [])]) (r := dj.rename fj (tmpN (ns.getD j [])) (ns.getD j [])) (fun fu S m L hd hf => by
     rw [upd_same] at hd
     have := HN.out
     exact finish_any hd hf _ (H8.out _ hmem) (by have := hBj.2; omega) (by have := hBj.1; omega)) (rename_sm _ _ _ _))
    have hBn : Bnd (1000000000 + (j + 1)) (1000000000 + (j + 1)) (dj.rename fj (tmpN (ns.getD j [])) (ns.getD j [])).2.1 := (bnd_rename hBj fj _ _).mono (by omega) (by omega)
    have hgo := fun hh => hRj.trans (finL_go (r := ns.drop (j + 1)) (s := ns.getD j []) (d := dj) (f := fj) hh)
    have hst := fun hh => hRj.trans (finL_stop (r := ns.drop (j + 1)) (s := ns.getD j []) (d := dj) (f := fj) hh)
    have hcd := rename_cd dj fj (tmpN (ns.getD j [])) (ns.getD j [])
    generalize dj.rename fj (tmpN (ns.getD j [])) (ns.getD j []) = r at *
    have NXT : Hid (∀ W', FIs w W0 T (fun _ => False) k p (upd (upd X0.d i dj) i r.2.1) r.2.2 wr W' → FI w W0 T (fun _ => False) k p (upd X0.d i r.2.1) r.2.2 W' ∧ TxtAt W' (.slice (some ⟨b, 0, none⟩) ns.length c) ns) := fun W' ⟨hf, hk, _⟩ => by
     refine ⟨by rw [upd_upd] at hf; exact hf, .inr ⟨b, c, rfl, fun x hx => ?_⟩⟩
     have hbl : b < W0.heap.size := HBL.out
     exact (World.cell?_of_block (a := ⟨b, x, none⟩) (hk b hbl (HT.out b rfl))).trans (HCL.out x hx)
    clear hcell hFj hRj
    have HIN : Hid (∀ W', FIs w W0 T (fun _ => False) k p (upd (upd X0.d i dj) i r.2.1) r.2.2 wr W' → (r.1 = 0 ∨ r.1 = 6) → FNI w w1 W0 T k p i X0 ns (.slice (some ⟨b, 0, none⟩) ns.length c) R (j + 1) W') := fun W' hs hh => by
     obtain ⟨h1, h2⟩ := NXT.out W' hs
     exact ⟨⟨r.2.1, r.2.2, hgo hh, h1, hBn⟩, h2⟩
    have HFN : Hid (∀ W', FIs w W0 T (fun _ => False) k p (upd (upd X0.d i dj) i r.2.1) r.2.2 wr W' → ¬ (r.1 = 0 ∨ r.1 = 6) → FnAt w w1 T k p (finR ns (X0.d i) X0.f).1 (upd X0.d i (finR ns (X0.d i) X0.f).2.1) (finR ns (X0.d i) X0.f).2.2 (.returned (.int .i64 (r.1 : Int))) W') := fun W' hs hh =>
     FINA.out W' r (NXT.out W' hs).1 (HRR.out.trans (hst hh))
    clear hgo hst hBn NXT FINA hBj
    unfold sv at cj HST
    generalize (⟨(ns.getD j []).toArray⟩ : ByteArray) = sx at *
    clear hdrop hmem
    by_cases h0 : r.1 = 0
    ·have z0 : (((r.1 : Nat) : Int) != 0) = false := by simp [h0]
     go_wp2_with (go_at_call 63; refine HST.out.mono ?_; rintro e w5 ⟨rfl, hs5⟩; have H5 := hid (HIN.out w5 hs5 (.inl h0)); clear hs5)
     go_roundw
     case rel => exact ⟨j + 1, by omega, by go_num, H5.out⟩
     case measure => simp [intOf]; omega
    ·have z0 : (((r.1 : Nat) : Int) != 0) = true := by simp; omega
     by_cases h6 : r.1 = 6
     ·have z6 : (((r.1 : Nat) : Int) != 6) = false := by simp; omega
      go_wp2_with (go_at_call 63; refine HST.out.mono ?_; rintro e w5 ⟨rfl, hs5⟩; have H5 := hid (HIN.out w5 hs5 (.inr h6)); clear hs5)
      go_roundw
      case rel => exact ⟨j + 1, by omega, by go_num, H5.out⟩
      case measure => simp [intOf]; omega
     ·have z6 : (((r.1 : Nat) : Int) != 6) = true := by simp; omega
      go_wp2_with (go_at_call 63; refine HST.out.mono ?_; rintro e w5 ⟨rfl, hs5⟩; have H5 := hid (HFN.out w5 hs5 (fun hh => hh.elim h0 h6)); clear hs5)
      go_ret
      exact H5.out
   ·have hlt' : ¬ (j : Int) < (ns.length : Int) := by omega
    have hF : Hid (FnAt w w1 T k p (finR ns (X0.d i) X0.f).1 (upd X0.d i (finR ns (X0.d i) X0.f).2.1) (finR ns (X0.d i) X0.f).2.2 (.returned (.int .i64 0)) wr) := by
     obtain ⟨dj, fj, hRj, hFj, hBj⟩ := HI.out.ex
     rw [List.drop_eq_nil_of_le (by omega)] at hRj
     exact FINA.out wr (0, dj, fj) hFj (HRR.out.trans hRj)
    go_wp2
    go_ret
    exact hF.out
 ·have hR : finR ns (X0.d i) X0.f = (ckN ns, X0.d i, X0.f) := by unfold finR; rw [if_pos hck]
  have HF := hid (FINA.out _ (ckN ns, X0.d i, X0.f) (by rw [hupd]; exact FI.start hA0) hR)
  have hne : (((ckN ns : Nat) : Int) != 0) = true := by simp; omega
  clear h hv hA0 hv0 hupd hR hls hB hn hT hTl FINA
  generalize ckN ns = q at *
  go_enter Tryz.func32, Tryz.ntmps32
  go_wp2_with (first
   | (go_at_call 93; refine HNO.out.mono ?_; rintro e w' ⟨rfl, hw'⟩; have hw2 := hw'.symm; subst hw2)
   | (go_at_call 77; refine HCK.out.mono ?_; rintro e w' ⟨rfl, hw'⟩; have hw2 := hw'.symm; subst hw2))
  go_ret
  exact HF.out
end Go.Proofs.YtfogkegmdgbecaaGreatDoor
