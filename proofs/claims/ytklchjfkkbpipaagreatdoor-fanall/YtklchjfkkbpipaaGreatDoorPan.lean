/- Texts laid into one, cut to what is needed: the remark ahead of each part says what is proved there. -/
import Derived.Test.YtklchjfkkbpipaaGreatDoorPak
import Derived.Test.YtklchjfkkbpipaaGreatDoorPam
import Derived.Maps.AppendAt
import Derived.Test.YtklchjfkkbpipaaGreatDoorPae
import Derived.Test.YtklchjfkkbpipaaGreatDoorPaf
/- Commit. -/
namespace Go.Proofs.YtklchjfkkbpipaaGreatDoor
open Go Go.RowKit Go.Shelf

theorem forL_bnd {op : Op3} (hop : ∀ {a b : Nat} {d : Pd}, Bnd a b d → ∀ f x, Bnd (a + 2) (b + 2) (op d f x).2.1) : ∀ (l : List Fl) {a b : Nat} {d : Pd} (_ : Bnd a b d) (f : Fs), Bnd (a + 2 * l.length) (b + 2 * l.length) (forL op l d f).2.1
  | [], _, _, _, h, _ => h
  | x :: r, a, b, d, h, f => by
    unfold forL
    split
    · have := forL_bnd hop r (hop h f x) (op d f x).2.2
      exact this.mono (by simp; omega) (by simp; omega)
    · exact (hop h f x).mono (by simp; omega) (by simp; omega)
theorem forD_bnd {op : Op3} (hop : ∀ {a b : Nat} {d : Pd}, Bnd a b d → ∀ f x, Bnd (a + 2) (b + 2) (op d f x).2.1) (fl : Nat → List Fl) (k : Nat) (h8 : ∀ i, i < k → (fl i).length ≤ 8) {a b : Nat} : ∀ (n i : Nat) (wl : Nat → Bool) (X : FS), n + i = k → (∀ j, j < k → Bnd (if j < i then a + 16 else a) (if j < i then b + 16 else b) (X.d j)) → ∀ j, j < k → Bnd (a + 16) (b + 16) ((forD op fl n i wl X).2.2.d j)
  | 0, i, wl, X, hn, h, j, hj => by
    unfold forD
    have := h j hj
    rw [if_pos (by omega), if_pos (by omega)] at this
    exact this
  | n + 1, i, wl, X, hn, h, j, hj => by
    have hstep : ∀ j, j < k → Bnd (if j < i + 1 then a + 16 else a) (if j < i + 1 then b + 16 else b) ((⟨upd X.d i (forL op (fl i) (X.d i) X.f).2.1, (forL op (fl i) (X.d i) X.f).2.2⟩ : FS).d j) := fun j hj => by
      show Bnd _ _ (upd X.d i _ j)
      by_cases e : j = i
      · subst e
        rw [upd_same, if_pos (by omega), if_pos (by omega)]
        have h1 := h j hj
        rw [if_neg (by omega), if_neg (by omega)] at h1
        have := forL_bnd hop (fl j) h1 X.f
        have h8' := h8 j hj
        exact this.mono (by omega) (by omega)
      · rw [upd_ne _ _ e]
        have := h j hj
        by_cases hji : j < i
        · rw [if_pos hji, if_pos hji] at this; rw [if_pos (by omega), if_pos (by omega)]; exact this
        · rw [if_neg hji, if_neg hji] at this; rw [if_neg (by omega), if_neg (by omega)]; exact this
    have hskip : ∀ j, j < k → Bnd (if j < i + 1 then a + 16 else a) (if j < i + 1 then b + 16 else b) (X.d j) := fun j hj => by
      have := h j hj
      by_cases hji : j < i
      · rw [if_pos hji, if_pos hji] at this; rw [if_pos (by omega), if_pos (by omega)]; exact this
      · rw [if_neg hji, if_neg hji] at this; by_cases hj2 : j < i + 1
        · rw [if_pos hj2, if_pos hj2]; exact this.mono (by omega) (by omega)
        · rw [if_neg hj2, if_neg hj2]; exact this
    unfold forD
    split
    · split
      · have := hstep j hj
        by_cases h1 : j < i + 1
        · rw [if_pos h1, if_pos h1] at this; exact this
        · rw [if_neg h1, if_neg h1] at this; exact this.mono (by omega) (by omega)
      · exact forD_bnd hop fl k h8 n (i + 1) _ _ (by omega) hstep j hj
    · exact forD_bnd hop fl k h8 n (i + 1) _ _ (by omega) hskip j hj
/-- What Commit answers and leaves. -/
def CMat (w w1 : World) (T : Nat → Prop) (k : Nat) (p : Nat → Nat) (r : Nat × (Nat → Bool) × FS) (e : Ending) (w' : World) : Prop :=
  ∃ v T', e = .returned (.tuple #[v, .int .i64 (r.1 : Int)]) ∧ Grows w1 T T' ∧ FA w w' T' k p r.2.2.d r.2.2.f 0 ∧ Only T w1 w' ∧
    ((r.1 ≠ 0 ∧ v = .slice none 0 0) ∨ (r.1 = 0 ∧ ∃ bw, v = .slice (some ⟨bw, 0, none⟩) k k ∧ WlAt w' bw k r.2.1 ∧ w1.heap.size ≤ bw ∧ ¬ T' bw))
def comR (k : Nat) (fv : FsV) (need : Int) (X : FS) : Nat × (Nat → Bool) × FS :=
  if comE k (fv.l.map RowV.fl) need ≠ 0 then (comE k (fv.l.map RowV.fl) need, fun _ => false, X) else com fv.fl k need X
theorem trs_wl (W : World) (g k : Nat) (h : CAt W g (trs k k).toArray 4) : WlAt W g k (fun _ => true) := fun j hj => ⟨by rw [h.cell j]; simp [trs, hj], h.free j⟩
theorem okFl_names : ∀ (l : List Fl) (seen : List Nm), okFl seen l = true → ∀ x ∈ l, okNm x.1 = true
  | [], _, _, x, hx => by simp at hx
  | y :: r, seen, h, x, hx => by
    rw [okFl_cons] at h
    simp only [Bool.and_eq_true] at h
    rcases List.mem_cons.1 hx with rfl | hx
    · have := h.1; unfold okSt at this; simp only [Bool.and_eq_true] at this; exact this.1
    · exact okFl_names r _ h.2.2 x hx
theorem comE_zero {k : Nat} {rows : List RowV} {need : Int} (h : comE k (rows.map RowV.fl) need = 0) : (1 ≤ k ∧ k ≤ 16) ∧ rows.length = k ∧ (1 ≤ need ∧ need ≤ k) ∧ (∀ r ∈ rows, r.l.length ≤ 8) ∧ ∀ r ∈ rows, okFl [] r.fl = true := by
  rw [comE_any] at h
  split at h
  · contradiction
  · rename_i h1
    have hk : 1 ≤ k ∧ k ≤ 16 := by unfold ckD at h1; split at h1 <;> simp_all
    split at h
    · cases h
    · rename_i h2
      split at h
      · cases h
      · rename_i h3
        split at h
        · cases h
        · rename_i h4
          refine ⟨hk, by omega, by omega, fun r hr => ?_, fun r hr => ?_⟩
          · rcases Nat.lt_or_ge 8 r.l.length with hlt | hlt
            · exact absurd (List.any_eq_true.2 ⟨r, hr, by simpa using hlt⟩) h3
            · exact hlt
          · cases hb : okFl [] r.fl
            · exact absurd (List.any_eq_true.2 ⟨r, hr, by simp [hb]⟩) h4
            · rfl
/-- While a Commit goes on, since w1. -/
structure CmS (w w1 : World) (T0 : Nat → Prop) (k : Nat) (p : Nat → Nat) (g : Nat) (lv : Value) (fv : FsV) (bw : Nat) (wl : Nat → Bool) (X : FS) (W : World) : Prop where
  ex : ∃ T', Grows w1 T0 T' ∧ FA w W T' k p X.d X.f 0 ∧ CmA W T' g lv fv bw k k p
  wlf : WlAt W bw k wl
  on : Only T0 w1 W
  bwf : w1.heap.size ≤ bw
  lt : bw < W.heap.size
section
variable {w w1 : World} {T0 : Nat → Prop} {k : Nat} {p : Nat → Nat} {g : Nat} {lv : Value} {fv : FsV} {bw : Nat} {wl : Nat → Bool} {X : FS} {W : World}
theorem CmS.below (h : CmS w w1 T0 k p g lv fv bw wl X W) {W' : World} (hb : Below W.heap.size W W') : CmS w w1 T0 k p g lv fv bw wl X W' := by
  obtain ⟨T', hg, hf, hM⟩ := h.ex
  exact ⟨⟨T', hg, hf.below hb, hM.keep h.lt (fun b hb' _ => hb.block b hb') (fun _ _ h => h)⟩, h.wlf.keep (hb.block bw h.lt), h.on.then (Only.of_below (S := fun _ => False) hb) (fun _ _ h => h.elim), h.bwf, Nat.lt_of_lt_of_le h.lt hb.size⟩
theorem CmS.erh (h : CmS w w1 T0 k p g lv fv bw wl X W) (hE : Erh w) : Erh W := by obtain ⟨T', hg, hf, hM⟩ := h.ex; exact hE.below hf.be hE.lt
theorem CmS.next {T' : Nat → Prop} (h : CmS w w1 T0 k p g lv fv bw wl X W) (hg : Grows w1 T0 T') (hM : CmA W T' g lv fv bw k k p) {W' : World} {wl2 : Nat → Bool} {X2 : FS} (hx : ∃ T2, Grows W T' T2 ∧ FA w W' T2 k p X2.d X2.f 0) (ho : Only (fun b => T' b ∨ b = bw) W W') (hw : WlAt W' bw k wl2) : CmS w w1 T0 k p g lv fv bw wl2 X2 W' := by
  obtain ⟨T2, hg2, hf2⟩ := hx
  refine ⟨⟨T2, ⟨fun b hb => hg2.1 b (hg.1 b hb), fun b hb => (hg2.2 b hb).elim (hg.2 b) (fun hl => .inr (Nat.le_trans h.on.size hl))⟩, hf2, hM.keep h.lt (fun b hb hn => ho.block b hb hn) (fun b hb ht => (hg2.2 b ht).elim id (fun hl => by omega))⟩, hw, h.on.then ho (fun b hb hx => ?_), h.bwf, Nat.lt_of_lt_of_le h.lt ho.size⟩
  rcases hx with hx | hx
  · exact (hg.2 b hx).elim id (fun hl => by omega)
  · have := h.bwf; omega
theorem CmS.runS (h : CmS w w1 T0 k p g lv fv bw wl X W) (hk : 1 ≤ k ∧ k ≤ 16) (hww : w.heap.size ≤ w1.heap.size) (hB : ∀ i, i < k → Bnd 10000000000 10000000000 (X.d i)) (hN : ∀ i, i < k → ∀ x ∈ fv.fl i, x.1.length ≤ 1000) :
    Calls Tryz.prog 72 #[ptr g, .func (.func 73) #[] #[]] W fun e W' => e = .returned (brk (if (forD stg fv.fl k 0 wl X).1 then 11 else 0)) ∧ CmS w w1 T0 k p g lv fv bw (forD stg fv.fl k 0 wl X).2.1 (forD stg fv.fl k 0 wl X).2.2 W' := by
  obtain ⟨T', hg, hf, hM⟩ := h.ex
  refine (forFilesS hf hM h.wlf hk hB hN (Nat.le_trans hww h.bwf)).mono ?_
  rintro e W' ⟨h1, h2, h3, h4⟩
  exact ⟨h1, h.next hg hM h2 h3 h4⟩
theorem CmS.runF (h : CmS w w1 T0 k p g lv fv bw wl X W) (hk : 1 ≤ k ∧ k ≤ 16) (hww : w.heap.size ≤ w1.heap.size) (hB : ∀ i, i < k → Bnd 10000000000 10000000000 (X.d i)) (hN : ∀ i, i < k → ∀ x ∈ fv.fl i, x.1.length ≤ 1000) :
    Calls Tryz.prog 72 #[ptr g, .func (.func 77) #[] #[]] W fun e W' => e = .returned (brk (if (forD fin fv.fl k 0 wl X).1 then 11 else 0)) ∧ CmS w w1 T0 k p g lv fv bw (forD fin fv.fl k 0 wl X).2.1 (forD fin fv.fl k 0 wl X).2.2 W' := by
  obtain ⟨T', hg, hf, hM⟩ := h.ex
  refine (forFilesF hf hM h.wlf hk hB hN (Nat.le_trans hww h.bwf)).mono ?_
  rintro e W' ⟨h1, h2, h3, h4⟩
  exact ⟨h1, h.next hg hM h2 h3 h4⟩
theorem CmS.unA (h : CmS w w1 T0 k p g lv fv bw wl X W) (hk : 1 ≤ k ∧ k ≤ 16) (hB : ∀ i, i < k → Bnd 10000000000 10000000000 (X.d i)) (hN : ∀ i, i < k → ∀ x ∈ fv.fl i, x.1.length ≤ 1000) :
    Calls Tryz.prog 75 #[ptr g, .func (.func 76) #[] #[]] W fun e W' => e = .returned (brk (if (delD (unsN fv.fl (fun _ => true)) k 0 0 X).1 then 11 else 0)) ∧ CmS w w1 T0 k p g lv fv bw wl (delD (unsN fv.fl (fun _ => true)) k 0 0 X).2.2 W' := by
  obtain ⟨T', hg, hf, hM⟩ := h.ex
  refine (unstageA hf hM h.wlf hk hB hN).mono ?_
  rintro e W' ⟨h1, h2, h3⟩
  exact ⟨h1, h.next hg hM h2 (h3.mono fun b hb => .inl hb) (h.wlf.keep (h3.block bw h.lt hM.wt))⟩
theorem CmS.unB (h : CmS w w1 T0 k p g lv fv bw wl X W) (hk : 1 ≤ k ∧ k ≤ 16) (hB : ∀ i, i < k → Bnd 10000000000 10000000000 (X.d i)) (hN : ∀ i, i < k → ∀ x ∈ fv.fl i, x.1.length ≤ 1000) :
    Calls Tryz.prog 75 #[ptr g, .func (.func 79) #[] #[ptr g]] W fun e W' => e = .returned (brk (if (delD (unsN fv.fl (fun i => !wl i)) k 0 0 X).1 then 11 else 0)) ∧ CmS w w1 T0 k p g lv fv bw wl (delD (unsN fv.fl (fun i => !wl i)) k 0 0 X).2.2 W' := by
  obtain ⟨T', hg, hf, hM⟩ := h.ex
  refine (unstageB hf hM h.wlf hk hB hN).mono ?_
  rintro e W' ⟨h1, h2, h3⟩
  exact ⟨h1, h.next hg hM h2 (h3.mono fun b hb => .inl hb) (h.wlf.keep (h3.block bw h.lt hM.wt))⟩
theorem CmS.cnt (h : CmS w w1 T0 k p g lv fv bw wl X W) (hk : 1 ≤ k ∧ k ≤ 16) : Calls Tryz.prog 74 #[ptr g] W fun e W' => e = .returned (.int .i64 (cntW wl k : Int)) ∧ CmS w w1 T0 k p g lv fv bw wl X W' := by
  obtain ⟨T', hg, hf, hM⟩ := h.ex
  refine (count_any W g lv fv.v bw k k p wl (by omega) hM.cg hM.ls.none h.wlf).mono ?_
  rintro e W' ⟨h1, h2⟩
  exact ⟨h1, h.below h2⟩
theorem CmS.bad (h : CmS w w1 T0 k p g lv fv bw wl X W) {er : Nat} (he : er ≠ 0) (wx : Nat → Bool) : CMat w w1 T0 k p (er, wx, X) (.returned (.tuple #[.slice none 0 0, .int .i64 (er : Int)])) W := by
  obtain ⟨T', hg, hf, hM⟩ := h.ex
  exact ⟨_, T', rfl, hg, hf, h.on, .inl ⟨he, rfl⟩⟩
theorem CmS.good (h : CmS w w1 T0 k p g lv fv bw wl X W) : CMat w w1 T0 k p (0, wl, X) (.returned (.tuple #[.slice (some ⟨bw, 0, none⟩) k k, .int .i64 0])) W := by
  obtain ⟨T', hg, hf, hM⟩ := h.ex
  exact ⟨_, T', rfl, hg, hf, h.on, .inr ⟨rfl, bw, rfl, h.wlf, h.bwf, hM.wt⟩⟩
theorem CmS.cell (h : CmS w w1 T0 k p g lv fv bw wl X W) : W.cell? ⟨g, 2, none⟩ = some (.slice (some ⟨bw, 0, none⟩) k k) := by obtain ⟨T', hg, hf, hM⟩ := h.ex; exact hM.cg.cell 2
theorem CmS.start (h : FA w w1 T0 k p X.d X.f 0) (hl : LsAt w1 T0 lv k p) (hf : fv.ok w1 T0) (hfl : fv.l.length = k) (h8 : ∀ r ∈ fv.l, r.l.length ≤ 8) (hb : Below w1.heap.size w1 W) (hg : w1.heap.size ≤ bw) (hc : CAt W bw (trs k k).toArray 4) :
    CmS w w1 T0 k p W.heap.size lv fv bw (fun _ => true) X (W.alloc (.cells #[lv, fv.v, .slice (some ⟨bw, 0, none⟩) k k] 120)) := by
  have hb2 : Below w1.heap.size w1 (W.alloc (.cells #[lv, fv.v, .slice (some ⟨bw, 0, none⟩) k k] 120)) := below_on _ _ hb ((Below.refl _ _).alloc (Nat.le_refl _) _)
  have hlt := hc.lt
  refine ⟨⟨T0, Grows.refl _ _, h.below hb2, ⟨CAt.made _ _ _, fun ht => ?_, by omega, hl.keep (fun b hb' _ => hb2.block b hb') (fun _ _ h => h), fun b c e => ?_, hf.keep (fun b hb' _ => hb2.block b hb') (fun b hb' ht => ht.elim id (fun e => by omega)), hfl, fun i hi => ?_, fun ht => ?_⟩⟩, trs_wl _ _ _ (hc.old _), Only.of_below hb2, hg, by simp; omega⟩
  · have := h.lt _ ht; have := hb.size; omega
  · rcases hl.ex with ⟨_, h2⟩ | ⟨h0, b', c', h1, h2, h3⟩
    · rw [h2] at e; cases e
    · rw [h1] at e; cases e
      have := cell_lt2 (h3 0 h0); omega
  · have hm : fv.l.getD i default ∈ fv.l := by rw [getD_in _ _ _ (by omega)]; exact List.getElem_mem _
    have := h8 _ hm
    simpa [FsV.fl, RowV.fl] using this
  · have := h.lt _ ht; omega
end
section
variable {w w1 : World} {T : Nat → Prop} {k : Nat} {p : Nat → Nat} {X0 : FS}
set_option maxRecDepth 100000 in
set_option maxHeartbeats 4000000 in
theorem commit_any (h : FA w w1 T k p X0.d X0.f 0) {lv : Value} (hl : LsAt w1 T lv k p) (hk : k ≤ 1000) (hE : Erh w) (hB : ∀ i, i < k → Bnd 1000000000 1000000000 (X0.d i)) (fv : FsV) (hf : fv.ok w1 T) (hfl : fv.l.length ≤ 1000) (h8 : ∀ r ∈ fv.l, r.l.length ≤ 1000) (need : Int) :
    Calls Tryz.prog 15 #[lv, fv.v, .int .i64 need] w1 (CMat w w1 T k p (comR k fv need X0)) := by
  have HCC := hid (checkCommit_any h hl hk fv hf hfl h8 need)
  have hmf := run_mf Tryz.prog
  by_cases he : comE k (fv.l.map RowV.fl) need = 0
  · rw [he] at HCC
    have hR : comR k fv need X0 = com fv.fl k need X0 := by unfold comR; rw [if_neg (by omega)]
    rw [hR]
    obtain ⟨hk16, hlen, hnd, hr8, hrok⟩ := comE_zero he
    have hN : ∀ i, i < k → ∀ x ∈ fv.fl i, x.1.length ≤ 1000 := fun i hi x hx => by
      have hm : fv.l.getD i default ∈ fv.l := by rw [getD_in _ _ _ (by omega)]; exact List.getElem_mem _
      have := ok_len (okFl_names _ _ (hrok _ hm) x hx); omega
    have h8f : ∀ i, i < k → (fv.fl i).length ≤ 8 := fun i hi => by
      have hm : fv.l.getD i default ∈ fv.l := by rw [getD_in _ _ _ (by omega)]; exact List.getElem_mem _
      simpa [FsV.fl, RowV.fl] using hr8 _ hm
    have HST := hid (fun W bw (hb : Below w1.heap.size w1 W) hg hc => CmS.start (bw := bw) h hl hf hlen hr8 hb hg hc)
    have hww : w.heap.size ≤ w1.heap.size := h.be.size
    obtain ⟨R1, hR1⟩ : ∃ R1, forD stg fv.fl k 0 (fun _ => true) X0 = R1 := ⟨_, rfl⟩
    obtain ⟨U1, hU1⟩ : ∃ U1, delD (unsN fv.fl (fun _ => true)) k 0 0 R1.2.2 = U1 := ⟨_, rfl⟩
    obtain ⟨R2, hR2⟩ : ∃ R2, forD fin fv.fl k 0 R1.2.1 R1.2.2 = R2 := ⟨_, rfl⟩
    obtain ⟨U2, hU2⟩ : ∃ U2, delD (unsN fv.fl (fun i => !R2.2.1 i)) k 0 0 R2.2.2 = U2 := ⟨_, rfl⟩
    have hB1 : ∀ i, i < k → Bnd 1000000016 1000000016 (R1.2.2.d i) := by rw [← hR1]; exact forD_bnd (a := 1000000000) (b := 1000000000) bnd_stg fv.fl k h8f k 0 _ X0 rfl (fun j hj => by simpa using hB j hj)
    have hB2 : ∀ i, i < k → Bnd 1000000032 1000000032 (R2.2.2.d i) := by rw [← hR2]; exact forD_bnd (a := 1000000016) (b := 1000000016) bnd_fin fv.fl k h8f k 0 _ R1.2.2 rfl (fun j hj => by simpa using hB1 j hj)
    have HS1 := hid (fun g bw W (hs : CmS w w1 T k p g lv fv bw (fun _ => true) X0 W) => hs.runS hk16 hww (fun i hi => (hB i hi).mono (by omega) (by omega)) hN)
    have HC1 := hid (fun g bw W (hs : CmS w w1 T k p g lv fv bw R1.2.1 R1.2.2 W) => hs.cnt hk16)
    have HU1 := hid (fun g bw W (hs : CmS w w1 T k p g lv fv bw R1.2.1 R1.2.2 W) => hs.unA hk16 (fun i hi => (hB1 i hi).mono (by omega) (by omega)) hN)
    have HS2 := hid (fun g bw W (hs : CmS w w1 T k p g lv fv bw R1.2.1 R1.2.2 W) => hs.runF hk16 hww (fun i hi => (hB1 i hi).mono (by omega) (by omega)) hN)
    have HU2 := hid (fun g bw W (hs : CmS w w1 T k p g lv fv bw R2.2.1 R2.2.2 W) => hs.unB hk16 (fun i hi => (hB2 i hi).mono (by omega) (by omega)) hN)
    rw [hR1] at HS1
    rw [hU1] at HU1
    rw [hR2] at HS2
    rw [hU2] at HU2
    have hcom : com fv.fl k need X0 = if R1.1 then (11, fun _ => false, R1.2.2) else if (cntW R1.2.1 k : Int) < need then ((if U1.1 then 11 else 10), fun _ => false, U1.2.2) else if R2.1 then (11, fun _ => false, R2.2.2) else ((if U2.1 then 11 else 0), R2.2.1, U2.2.2) := by
      unfold com; rw [hR1, hU1, hR2, hU2]
    obtain ⟨rr, hrr⟩ : ∃ rr, com fv.fl k need X0 = rr := ⟨_, rfl⟩
    rw [hrr] at hcom ⊢
    have HRR := hid hcom
    have HER := hid (fun g bw wl X W (hs : CmS w w1 T k p g lv fv bw wl X W) => hs.erh hE)
    have HRP := hid (fun b W (hb : CAt W b #[.bool true] 4) => repeat_any b k hk16 W hb)
    obtain ⟨lpo, lc, rfl⟩ := hl.form
    clear h hl hf h8 hR hB hB1 hB2 hN h8f hR1 hU1 hR2 hU2 hcom hrr hrok hr8 hE he hlen hfl
    have hb11 : brk 11 = .iface 166 (.agg #[.int .i64 11]) := rfl
    have hb0 : brk 0 = .nilIface := rfl
    have ht11 : ((tld 11 : Nat) : Int) = 11 := rfl
    have HNEED := hid hnd
    have hcl : cntW R1.2.1 k ≤ 16 := Nat.le_trans (cntW_le _ _) hk16.2
    generalize hcw : cntW R1.2.1 k = cw at *
    clear hcw
    go_enter Tryz.func15, Tryz.ntmps15
    go_upto_region 5 with (first
      | (go_at_call 70; refine HCC.out.mono ?_; rintro e w2 ⟨rfl, hb2⟩; have HB2 := hid hb2; clear hb2)
      | (go_at_call 71; refine (HRP.out _ _ (CAt.made _ _ _)).mono ?_; rintro e w4 ⟨bw, rfl, hgb, hcb, hb4⟩; have HS0 := hid (HST.out w4 bw (below_on _ _ (below_on _ _ HB2.out ((Below.refl _ _).alloc (Nat.le_refl _) _)) hb4) (by have := HB2.out.size; simp at hgb; omega) hcb); clear hgb hcb hb4))
    revert HS0
    generalize w4.alloc _ = w5
    intro HS0
    have HTL : Hid (∀ W, Erh W → Calls Tryz.prog 69 #[.iface 166 (.agg #[.int .i64 11])] W fun e W' => e = .returned (.int .i64 11) ∧ Below W.heap.size W W') := fun W hW => told_any 11 W hW
    rcases R1 with ⟨r1, wl1, X1⟩
    rcases U1 with ⟨u1, uw1, V1⟩
    rcases R2 with ⟨r2, wl2, X2⟩
    rcases U2 with ⟨u2, uw2, V2⟩
    dsimp only at *
    cases r1 with
    | true =>
      simp only [if_true] at *
      go_wp2_with (first
        | (go_at_call 72; refine (HS1.out _ _ _ HS0.out).mono ?_; rintro e w6 ⟨rfl, hs6⟩; have HS6 := hid hs6; clear hs6; rw [hb11])
        | (go_at_call 69; refine (HTL.out _ (HER.out _ _ _ _ _ HS6.out)).mono ?_; rintro e w7 ⟨rfl, hb7⟩; have HS7 := hid (HS6.out.below hb7); clear hb7))
      go_ret2
      rw [HRR.out]
      exact HS7.out.bad (by decide) _
    | false =>
      simp only [Bool.false_eq_true, if_false] at *
      rw [hb0] at HS1
      go_upto_region 8 with
        (go_at_call 72; refine (HS1.out _ _ _ HS0.out).mono ?_; rintro e w6 ⟨rfl, hs6⟩; have HS6 := hid hs6; clear hs6)
      by_cases hcn : (cw : Int) < need
      · rw [if_pos hcn] at HRR
        cases u1 with
        | true =>
          simp only [if_true] at *
          go_wp2_with (first
            | (go_at_call 74; refine (HC1.out _ _ _ HS6.out).mono ?_; rintro e w7 ⟨rfl, hs7⟩; have HS7 := hid hs7; clear hs7; try rw [hb11]; try rw [hb0])
            | (go_at_call 75; refine (HU1.out _ _ _ HS7.out).mono ?_; rintro e w8 ⟨rfl, hs8⟩; have HS8 := hid hs8; clear hs8; try rw [hb11]; try rw [hb0])
            | (go_at_call 69; refine (HTL.out _ (HER.out _ _ _ _ _ HS8.out)).mono ?_; rintro e w9 ⟨rfl, hb9⟩; have HS9 := hid (HS8.out.below hb9); clear hb9))
          go_ret2
          rw [HRR.out]
          exact HS9.out.bad (by decide) _
        | false =>
          simp only [Bool.false_eq_true, if_false] at *
          go_wp2_with (first
            | (go_at_call 74; refine (HC1.out _ _ _ HS6.out).mono ?_; rintro e w7 ⟨rfl, hs7⟩; have HS7 := hid hs7; clear hs7; try rw [hb11]; try rw [hb0])
            | (go_at_call 75; refine (HU1.out _ _ _ HS7.out).mono ?_; rintro e w8 ⟨rfl, hs8⟩; have HS8 := hid hs8; clear hs8; try rw [hb11]; try rw [hb0]))
          go_ret2
          rw [HRR.out]
          exact HS8.out.bad (by decide) _
      · rw [if_neg hcn] at HRR
        cases r2 with
        | true =>
          simp only [if_true] at *
          go_wp2_with (first
            | (go_at_call 74; refine (HC1.out _ _ _ HS6.out).mono ?_; rintro e w7 ⟨rfl, hs7⟩; have HS7 := hid hs7; clear hs7; try rw [hb11]; try rw [hb0])
            | (go_at_call 72; refine (HS2.out _ _ _ HS7.out).mono ?_; rintro e w8 ⟨rfl, hs8⟩; have HS8 := hid hs8; clear hs8; try rw [hb11]; try rw [hb0])
            | (go_at_call 69; refine (HTL.out _ (HER.out _ _ _ _ _ HS8.out)).mono ?_; rintro e w9 ⟨rfl, hb9⟩; have HS9 := hid (HS8.out.below hb9); clear hb9))
          go_ret2
          rw [HRR.out]
          exact HS9.out.bad (by decide) _
        | false =>
          simp only [Bool.false_eq_true, if_false] at *
          rw [hb0] at HS2
          go_upto_region 16 with (first
            | (go_at_call 74; refine (HC1.out _ _ _ HS6.out).mono ?_; rintro e w7 ⟨rfl, hs7⟩; have HS7 := hid hs7; clear hs7; try rw [hb11]; try rw [hb0])
            | (go_at_call 72; refine (HS2.out _ _ _ HS7.out).mono ?_; rintro e w8 ⟨rfl, hs8⟩; have HS8 := hid hs8; clear hs8; try rw [hb11]; try rw [hb0]))
          cases u2 with
          | true =>
            simp only [if_true] at *
            go_wp2_with (first
              | (go_at_call 75; refine (HU2.out _ _ _ HS8.out).mono ?_; rintro e w9 ⟨rfl, hs9⟩; have HS9 := hid hs9; clear hs9; try rw [hb11]; try rw [hb0])
              | (go_at_call 69; refine (HTL.out _ (HER.out _ _ _ _ _ HS9.out)).mono ?_; rintro e w10 ⟨rfl, hb10⟩; have HS10 := hid (HS9.out.below hb10); clear hb10))
            go_ret2
            rw [HRR.out]
            exact HS10.out.bad (by decide) _
          | false =>
            simp only [Bool.false_eq_true, if_false] at *
            go_wp2_with (first
              | (go_at_call 75; refine (HU2.out _ _ _ HS8.out).mono ?_; rintro e w9 ⟨rfl, hs9⟩; have HS9 := hid hs9; have HC9 := HS9.out.cell; clear hs9; try rw [hb11]; try rw [hb0]))
            go_ret2
            rw [HRR.out]
            exact HS9.out.good
  · have hR : comR k fv need X0 = (comE k (fv.l.map RowV.fl) need, fun _ => false, X0) := by unfold comR; rw [if_pos he]
    rw [hR]
    have hne : (((comE k (fv.l.map RowV.fl) need : Nat) : Int) != 0) = true := by simp; omega
    have FIN : Hid (∀ w', Below w1.heap.size w1 w' → CMat w w1 T k p (comE k (fv.l.map RowV.fl) need, fun _ => false, X0) (.returned (.tuple #[.slice none 0 0, .int .i64 (comE k (fv.l.map RowV.fl) need : Int)])) w') := fun w' hb => ⟨_, T, rfl, Grows.refl _ _, h.below hb, Only.of_below hb, .inl ⟨he, rfl⟩⟩
    obtain ⟨lpo, lc, rfl⟩ := hl.form
    obtain ⟨fpo, fc, fl⟩ := fv
    clear h hl hf h8 hR hB
    generalize comE k _ need = q at *
    go_enter Tryz.func15, Tryz.ntmps15
    go_wp2_with (go_at_call 70; refine HCC.out.mono ?_; rintro e w5 ⟨rfl, hb5⟩; have HB5 := hid hb5; clear hb5)
    go_ret2
    exact FIN.out w5 HB5.out
end
end Go.Proofs.YtklchjfkkbpipaaGreatDoor

/- The statements' own functions: some drives (some), the same file for each (each). -/
namespace Go.Proofs.YtklchjfkkbpipaaGreatDoor
open Go Go.RowKit Go.Shelf

/-- append(v, x), the new row of k cells just made. -/
theorem own_push {t T : TypeId} {k bytes B n : Nat} {z : Value} {w : World} {v : Value} {xs : List Value} (hT : Tryz.prog.underlying T = some (.slice t)) (hi : (Tryz.prog.info? t).map (fun i => (i.zero, i.size, i.bytes)) = some (some z, k, bytes)) (hz : z.cells.size = k) (hk : 0 < k)
    (h : w.ownsRow B t k v n xs) (cs : Array Value) (hcs : cs.size = k) (h1 : ∀ u ∈ cs.toList, u.oneCell' = true) (hn : n ≤ 100000) (hby : bytes ≤ 1000) (hB : B ≤ w.heap.size) :
    ∃ v' w', (Builtin.append_ #[T, T] T #[v, .slice (some ⟨w.heap.size, 0, none⟩) 1 1]).run Tryz.prog (w.alloc (.cells cs t)) = .ok v' w' ∧ w'.ownsRow B t k v' (n + 1) (xs ++ cs.toList) ∧ Only (fun b => v.ownBlock = some b) w w' ∧ (v'.ownBlock = v.ownBlock ∨ ∃ b, v'.ownBlock = some b ∧ w.heap.size ≤ b) ∧ w'.heap[w.heap.size]? = some (.cells cs t (0, 0)) := by
  obtain ⟨i0, hi0, hz0, hz1, hz2⟩ := info_parts hi
  have hc : CAt (w.alloc (.cells cs t)) w.heap.size cs t := CAt.made w _ _
  have h2 : (w.alloc (.cells cs t)).ownsRow B t k v n xs := h.kept (World.grownBy_alloc w _ none) (by
    cases hv : v.ownBlock
    · exact Or.inl rfl
    · exact Or.inr (by simp))
  obtain ⟨v', w', hr, h3, h4, _, h5⟩ := run_append_own_at (P := Tryz.prog) (w.alloc (.cells cs t)) B T T t i0 z k bytes hT hi0 hz0 hz1 hz2 hz hk v n xs h2 ⟨w.heap.size, 0, none⟩ 1 1 cs.toList (by simp [hcs]) (fun j u hj => by
      rw [add_none, hc.cell]
      simpa using hj) h1 (by unfold maxLen; omega) (Nat.le_trans (Nat.mul_le_mul (show n + 1 ≤ 100001 by omega) hby) (by decide)) (by rw [size_al]; omega)
  have hne : v.ownBlock ≠ some w.heap.size := fun e => by have := (own_ge h _ e).2; omega
  refine ⟨v', w', hr, h3, ?_, ?_, ?_⟩
  · refine (Only.alloc (S := fun b => v.ownBlock = some b) w (.cells cs t)).then (Only.of_grown (S := fun b => v.ownBlock = some b) h4 (fun k hk _ => hk)) (fun _ _ h => h)
  · rcases h5 with h5 | h5
    · exact .inl h5
    · exact .inr ⟨_, h5, by rw [size_al]; omega⟩
  · exact (h4.block _ (by rw [size_al]; omega) (fun e => hne e.symm)).trans hc
theorem Tryz.infoDp : (Tryz.prog.info? 38).map (fun i => (i.zero, i.size, i.bytes)) = some (some (.pointer none), 1, 8) := by kernel_rfl
theorem Tryz.infoFr : (Tryz.prog.info? 63).map (fun i => (i.zero, i.size, i.bytes)) = some (some (.slice none 0 0), 1, 24) := by kernel_rfl
theorem own_get {w : World} {B n : Nat} {t : TypeId} {v : Value} {xs : List Value} (h : w.ownsRow B t 1 v n xs) (h0 : 0 < n) : ∃ g c, v = .slice (some ⟨g, 0, none⟩) n c ∧ n ≤ c ∧ B ≤ g ∧ ∀ j, j < n → w.cell? ⟨g, j, none⟩ = xs[j]? := by
  rcases h.2 with ⟨rfl, h0'⟩ | ⟨g, cap, cur, rfl, hB, hg, h1, _, h3, h4⟩
  · omega
  have hc : CAt w g cur t := hg
  refine ⟨g, cap, rfl, h1, hB, fun j hj => ?_⟩
  rw [hc.cell, ← h4, List.getElem?_take, if_pos (by omega)]
  simp
/-- While some goes on. -/
structure SmI (w w1 wr : World) (T : Nat → Prop) (n i : Nat) (p : Nat → Nat) (v : Value) : Prop where
  fa : FA w wr T i p (fun _ => fresh n) none 0
  ow : wr.ownsRow w1.heap.size 38 1 v i ((List.range i).map fun j => ptr (p j))
  nt : ∀ b, v.ownBlock = some b → ¬ T b
  ge : ∀ b, T b → w1.heap.size ≤ b
  be : Below w1.heap.size w1 wr
  ww : w.heap.size ≤ w1.heap.size
  zz : i = 0 → v = .slice none 0 0
theorem SmI.new {w w1 wr w2 : World} {T : Nat → Prop} {n i q : Nat} {p : Nat → Nat} {v : Value} (h : SmI w w1 wr T n i p v) (hd : DrAt w2 (fun b => wr.heap.size ≤ b ∧ b < w2.heap.size) q none (fresh n)) (hb : Below wr.heap.size wr w2) (hi : i ≤ 1000) :
    ∃ v' w', (Builtin.append_ #[23, 23] 23 #[v, .slice (some ⟨w2.heap.size, 0, none⟩) 1 1]).run Tryz.prog (w2.alloc (.cells #[ptr q] 38)) = .ok v' w' ∧ ∃ T' p', SmI w w1 w' T' n (i + 1) p' v' := by
  obtain ⟨T', hg, hf⟩ := h.fa.more hd hb
  have e : upd (fun _ => fresh n) i (fresh n) = fun _ => fresh n := by funext j; unfold upd; split <;> rfl
  rw [e] at hf
  have how : w2.ownsRow w1.heap.size 38 1 v i ((List.range i).map fun j => ptr (p j)) := ownsRow_keep h.ow fun b hv => hb.block b (own_ge h.ow b hv).2
  obtain ⟨v', w', hr, h1, h2, h3, _⟩ := own_push (T := 23) Tryz.underlying23 Tryz.infoDp rfl (by decide) how #[ptr q] rfl (by simp [ptr, Value.oneCell']) (by omega) (by decide) (Nat.le_trans h.be.size hb.size)
  have hnt : ∀ b, v.ownBlock = some b → ¬ T' b := fun b hv ht => (hg.2 b ht).elim (h.nt b hv) (fun hl => by have := (own_ge h.ow b hv).2; omega)
  refine ⟨v', w', hr, T', upd p i q, hf.only h2 (fun b hb' hv => ?_) (fun b ht hv => hnt b hv ht), ?_, fun b hv ht => ?_, fun b ht => ?_, ?_, h.ww, fun e => by omega⟩
  · have := (own_ge h.ow b hv).1; have := h.ww; omega
  · rw [List.range_succ, List.map_append]
    have : (List.range i).map (fun j => ptr (upd p i q j)) = (List.range i).map fun j => ptr (p j) := List.map_congr_left fun j hj => by rw [upd_ne _ _ (by have := List.mem_range.1 hj; omega)]
    rw [this]
    simp only [List.map_cons, List.map_nil, upd_same]
    exact h1
  · rcases h3 with h3 | ⟨c, h3, hc⟩
    · exact hnt b (h3 ▸ hv) ht
    · rw [h3] at hv; cases hv
      have := hf.lt _ ht; omega
  · exact (hg.2 b ht).elim (h.ge b) (fun hl => Nat.le_trans h.be.size hl)
  · refine ⟨h2.os.trans (hb.os.trans h.be.os), h2.tape.trans (hb.tape.trans h.be.tape), h2.output.trans (hb.output.trans h.be.output), Nat.le_trans h.be.size (Nat.le_trans hb.size h2.size), fun b hb' => ?_⟩
    have l1 : b < wr.heap.size := Nat.lt_of_lt_of_le hb' h.be.size
    exact (h2.block b (Nat.lt_of_lt_of_le l1 hb.size) (fun hv => by have := (own_ge h.ow b hv).1; omega)).trans ((hb.block b l1).trans (h.be.block b hb'))
/-- What some answers. -/
def SomeAt (w w1 : World) (n size : Nat) (e : Ending) (w' : World) : Prop :=
  ∃ v p T, e = .returned (.tuple #[v, .bool true]) ∧ FA w w' T n p (fun _ => fresh size) none 0 ∧ LsAt w' T v n p ∧ Below w1.heap.size w1 w' ∧ (∀ b, T b → w1.heap.size ≤ b)
theorem SmI.done {w w1 wr : World} {T : Nat → Prop} {n i : Nat} {p : Nat → Nat} {v : Value} (h : SmI w w1 wr T n i p v) : SomeAt w w1 i n (.returned (.tuple #[v, .bool true])) wr := by
  refine ⟨v, p, T, rfl, h.fa, ⟨?_⟩, h.be, h.ge⟩
  rcases Nat.eq_zero_or_pos i with rfl | hi
  · exact .inl ⟨rfl, h.zz rfl⟩
  · obtain ⟨g, c, rfl, _, _, hc⟩ := own_get h.ow hi
    exact .inr ⟨hi, g, c, rfl, h.nt g rfl, fun j hj => by rw [hc j hj]; simp [hj]⟩
set_option maxRecDepth 100000 in
theorem some_any (w w1 : World) (hb : Below w.heap.size w w1) (n size : Nat) (hn : n ≤ 20) (h1 : 1 ≤ size) (h2 : size ≤ 67108864) : Calls Tryz.prog 21 #[.int .i64 (n : Int), .int .i64 (size : Int)] w1 (SomeAt w w1 n size) := by
  have H0 : Hid (SmI w w1 w1 (fun _ => False) size 0 (fun _ => 0) (.slice none 0 0)) := ⟨FA.empty w w1 hb _ _, World.ownsRow_nil _ _ _ _, fun _ e => (by cases e), fun _ h => h.elim, Below.refl _ _, hb.size, fun _ => rfl⟩
  have HN := hid (fun W => new_ok size h1 h2 W)
  clear hb
  go_enter Tryz.func21, Tryz.ntmps21
  go_wp2
  go_loopw [6, 7] (fun v q wr => ∃ i T p, i ≤ n ∧ q = .int .i64 (i : Int) ∧ SmI w w1 wr T size i p v) (fun _ q _ => (1000 - intOf q).toNat)
  case atStart => exact ⟨0, _, _, Nat.zero_le _, rfl, H0.out⟩
  case round =>
    obtain ⟨i, T, p, hi, rfl, hI⟩ := hrel
    have HI := hid hI
    clear hI
    by_cases hlt : i < n
    · have hlt' : (i : Int) < (n : Int) := by omega
      have hi2 : (i : Int) < 1000 := by omega
      have hi3 : i ≤ 1000 := by omega
      obtain ⟨po, cc, hv⟩ := own_form HI.out.ow
      subst hv
      go_wp2_with (first
        | (go_at_call 13; refine (HN.out _).mono ?_; rintro e w2 ⟨q, rfl, hd, hb2⟩; obtain ⟨v4, w4, hrun, T4, p4, hS4⟩ := HI.out.new hd hb2 hi3; have HRUN := hid hrun; have HS4 := hid hS4; clear hd hb2 hrun hS4)
        | (at_builtin; refine wpList_append_run _ _ 23 rfl rfl _ _ v4 rfl rfl HRUN.out ?_))
      go_roundw
      case rel => exact ⟨i + 1, T4, p4, by omega, by go_num, HS4.out⟩
      case measure => simp [intOf]; omega
    · have hlt' : ¬ (i : Int) < (n : Int) := by omega
      have e : i = n := by omega
      subst e
      have HD := hid HI.out.done
      obtain ⟨po, cc, hv⟩ := own_form HI.out.ow
      subst hv
      go_wp2
      go_ret2
      exact HD.out
/-- While each goes on: rows of one file each. -/
structure EaI (w1 wr : World) (T : Nat → Prop) (x : FlV) (i : Nat) (v : Value) (rows : List RowV) : Prop where
  ow : wr.ownsRow w1.heap.size 63 1 v i (rows.map RowV.v)
  fl : rows.map RowV.fl = List.replicate i [x.fl]
  ok : ∀ r ∈ rows, r.ok wr (fun b => T b ∨ v.ownBlock = some b)
  xo : x.ok wr (fun b => T b ∨ v.ownBlock = some b)
  be : Below w1.heap.size w1 wr
  ln : rows.length = i
  Tl : ∀ b, T b → b < w1.heap.size
theorem EaI.next {w1 wr : World} {T : Nat → Prop} {x : FlV} {i : Nat} {v : Value} {rows : List RowV} (h : EaI w1 wr T x i v rows) (hi : i ≤ 1000) :
    ∃ v' w', (Builtin.append_ #[31, 31] 31 #[v, .slice (some ⟨wr.heap.size + 1, 0, none⟩) 1 1]).run Tryz.prog ((wr.alloc (.cells #[sv x.nm, x.bv] 66)).alloc (.cells #[.slice (some ⟨wr.heap.size, 0, none⟩) 1 1] 63)) = .ok v' w' ∧ ∃ rows', EaI w1 w' T x (i + 1) v' rows' := by
  have hb : Below wr.heap.size wr (wr.alloc (.cells #[sv x.nm, x.bv] 66)) := (Below.refl _ _).alloc (Nat.le_refl _) _
  have hc : CAt (wr.alloc (.cells #[sv x.nm, x.bv] 66)) wr.heap.size #[sv x.nm, x.bv] 66 := CAt.made _ _ _
  have hs : (wr.alloc (.cells #[sv x.nm, x.bv] 66)).heap.size = wr.heap.size + 1 := size_al _ _
  have hT := h.Tl
  have hbs := h.be.size
  generalize wr.alloc (.cells #[sv x.nm, x.bv] 66) = w2 at *
  have how : w2.ownsRow w1.heap.size 63 1 v i (rows.map RowV.v) := ownsRow_keep h.ow fun b hv => hb.block b (own_ge h.ow b hv).2
  obtain ⟨v', w', hr, h1, h2, h3, _⟩ := own_push (T := 31) Tryz.underlying31 Tryz.infoFr rfl (by decide) how #[.slice (some ⟨wr.heap.size, 0, none⟩) 1 1] rfl (by simp [Value.oneCell']) (by omega) (by decide) (by omega)
  rw [hs] at hr
  have hob : ∀ b, v.ownBlock = some b → w1.heap.size ≤ b ∧ b < wr.heap.size := fun b hv => own_ge h.ow b hv
  have hk2 : ∀ b, b < wr.heap.size → ¬ (T b ∨ v.ownBlock = some b) → w'.heap[b]? = wr.heap[b]? := fun b hb' hn => (h2.block b (by omega) (fun hv => hn (.inr hv))).trans (hb.block b hb')
  have hT2 : ∀ b, b < wr.heap.size → (T b ∨ v'.ownBlock = some b) → (T b ∨ v.ownBlock = some b) := fun b hb' ht => by
    rcases ht with ht | ht
    · exact .inl ht
    · rcases h3 with h3 | ⟨c, h3, hc⟩
      · exact .inr (h3 ▸ ht)
      · rw [h3] at ht; cases ht; omega
  have hxo := h.xo.keep hk2 hT2
  refine ⟨v', w', hr, rows ++ [⟨some ⟨wr.heap.size, 0, none⟩, 1, [x]⟩], ?_, ?_, fun r hr' => ?_, hxo, ?_, by simp [h.ln], hT⟩
  · rw [List.map_append]; exact h1
  · rw [List.map_append, h.fl, List.replicate_succ']; rfl
  · rcases List.mem_append.1 hr' with hr' | hr'
    · exact (h.ok r hr').keep hk2 hT2
    · simp at hr'; subst hr'
      have hne : ¬ v.ownBlock = some wr.heap.size := fun hv => by have := (hob _ hv).2; omega
      have hc' : CAt w' wr.heap.size #[sv x.nm, x.bv] 66 := hc.keep (h2.block _ (by omega) hne)
      refine ⟨.inr ⟨wr.heap.size, 0, rfl, fun ht => ?_, fun j hj => ?_⟩, fun y hy => ?_, Nat.le_refl _⟩
      · rcases ht with ht | ht
        · have := hT _ ht; omega
        · rcases h3 with h3 | ⟨c, h3, hc⟩
          · exact hne (h3 ▸ ht)
          · rw [h3] at ht; cases ht; omega
      · have : j = 0 := by simp at hj; omega
        subst this
        exact ⟨hc'.cell 0, hc'.cell 1⟩
      · simp at hy; subst hy; exact hxo
  · refine ⟨h2.os.trans (hb.os.trans h.be.os), h2.tape.trans (hb.tape.trans h.be.tape), h2.output.trans (hb.output.trans h.be.output), by have := h2.size; omega, fun b hb' => ?_⟩
    exact (h2.block b (by omega) (fun hv => by have := (hob b hv).1; omega)).trans ((hb.block b (by omega)).trans (h.be.block b hb'))
/-- What each answers. -/
def EachAt (w1 : World) (T : Nat → Prop) (x : FlV) (n : Nat) (e : Ending) (w' : World) : Prop :=
  ∃ fv : FsV, e = .returned fv.v ∧ fv.ok w' T ∧ fv.l.map RowV.fl = List.replicate n [x.fl] ∧ Below w1.heap.size w1 w'
theorem EaI.done {w1 wr : World} {T : Nat → Prop} {x : FlV} {i : Nat} {v : Value} {rows : List RowV} (h : EaI w1 wr T x i v rows) (hi : 0 < i) : EachAt w1 T x i (.returned v) wr := by
  obtain ⟨g, c, rfl, _, hg, hc⟩ := own_get h.ow hi
  refine ⟨⟨some ⟨g, 0, none⟩, c, rows⟩, by rw [FsV.v, h.ln], ⟨.inr ⟨g, 0, rfl, fun ht => by have := h.Tl _ ht; omega, fun j hj => ?_⟩, fun r hr => (h.ok r hr).keep (fun _ _ _ => rfl) (fun _ _ ht => .inl ht)⟩, h.fl, h.be⟩
  have hj' : j < rows.length := hj
  rw [Nat.zero_add, hc j (by have := h.ln; omega), getD_in _ _ _ hj]
  simp [hj']
set_option maxRecDepth 100000 in
theorem leach_any (w1 : World) (T : Nat → Prop) (hT : ∀ b, T b → b < w1.heap.size) (x : FlV) (hx : x.ok w1 T) (n : Nat) (h0 : 0 < n) (hn : n ≤ 20) : Calls Tryz.prog 33 #[.int .i64 (n : Int), sv x.nm, x.bv] w1 (EachAt w1 T x n) := by
  have H0 : Hid (EaI w1 w1 T x 0 (.slice none 0 0) []) := ⟨World.ownsRow_nil _ _ _ _, rfl, fun _ h => absurd h (by simp), hx.keep (fun _ _ _ => rfl) (fun b _ h => h.elim id (fun e => by cases e)), Below.refl _ _, rfl, hT⟩
  clear hx hT
  go_enter Tryz.func33, Tryz.ntmps33
  go_wp2
  go_loopw [7, 8] (fun v q wr => ∃ i rows, i ≤ n ∧ q = .int .i64 (i : Int) ∧ EaI w1 wr T x i v rows) (fun _ q _ => (1000 - intOf q).toNat)
  case atStart => exact ⟨0, _, Nat.zero_le _, rfl, H0.out⟩
  case round =>
    obtain ⟨i, rows, hi, rfl, hI⟩ := hrel
    have HI := hid hI
    clear hI
    by_cases hlt : i < n
    · have hlt' : (i : Int) < (n : Int) := by omega
      have hi2 : (i : Int) < 1000 := by omega
      have hi3 : i ≤ 1000 := by omega
      obtain ⟨v4, w4, hrun, rows4, hS4⟩ := HI.out.next hi3
      have HRUN := hid hrun
      have HS4 := hid hS4
      clear hrun hS4
      obtain ⟨po, cc, hv⟩ := own_form HI.out.ow
      subst hv
      go_wp2_with (at_builtin; refine wpList_append_run _ _ 31 rfl rfl _ _ v4 rfl rfl HRUN.out ?_)
      go_roundw
      case rel => exact ⟨i + 1, rows4, by omega, by go_num, HS4.out⟩
      case measure => simp [intOf]; omega
    · have hlt' : ¬ (i : Int) < (n : Int) := by omega
      have e : i = n := by omega
      subst e
      have HD := hid (HI.out.done h0)
      obtain ⟨po, cc, hv⟩ := own_form HI.out.ow
      subst hv
      go_wp2
      go_ret
      exact HD.out
end Go.Proofs.YtklchjfkkbpipaaGreatDoor

/- Four drives, two of them with a fuse: what the statement on fuses carries. -/
namespace Go.Proofs.YtklchjfkkbpipaaGreatDoor
open Go Go.RowKit

section
variable (d : Pd) (x : AV)
end
def D4 (pa pb pc pd q : Nat) (Sa Sb Sc Sd : Nat → Prop) (da db dc dd : Pd) : Nat → Dv
  | 0 => ⟨pa, Sa, some q, da⟩
  | 1 => ⟨pb, Sb, some q, db⟩
  | 2 => ⟨pc, Sc, none, dc⟩
  | _ => ⟨pd, Sd, none, dd⟩
theorem Sys.congr {w wr : World} {k : Nat} {D D' : Nat → Dv} {Z : Nat → Nat × Bool} (h : Sys w wr k D Z) (e : ∀ i, i < k → D' i = D i) : Sys w wr k D' Z :=
  ⟨fun i hi => by rw [e i hi]; exact h.dr i hi, fun i hi q hq => by
    rw [e i hi] at hq
    obtain ⟨h1, h2, h3, h4⟩ := h.fz i hi q hq
    exact ⟨h1, h2, h3, fun j hj => by rw [e j hj]; exact h4 j hj⟩, fun i j hi hj hij => by rw [e i hi, e j hj]; exact h.dj i j hi hj hij, fun i hi => by rw [e i hi]; exact h.ge i hi, h.be⟩
/-- Four drives; the first two have the fuse at q, which stands at z. -/
def FZ (w wr : World) (pa pb pc pd q : Nat) (da db dc dd : Pd) (z : Nat × Bool) : Prop := ∃ Sa Sb Sc Sd Z, Sys w wr 4 (D4 pa pb pc pd q Sa Sb Sc Sd da db dc dd) Z ∧ Z q = z
section
variable {w wr : World} {pa pb pc pd q : Nat} {da db dc dd : Pd} {z : Nat × Bool}
theorem FZ.below (h : FZ w wr pa pb pc pd q da db dc dd z) {w' : World} (hb : Below wr.heap.size wr w') : FZ w w' pa pb pc pd q da db dc dd z := by
  obtain ⟨Sa, Sb, Sc, Sd, Z, hs, hz⟩ := h
  exact ⟨Sa, Sb, Sc, Sd, Z, hs.below hb, hz⟩
theorem FZ.be (h : FZ w wr pa pb pc pd q da db dc dd z) : Below w.heap.size w wr := by obtain ⟨_, _, _, _, _, hs, _⟩ := h; exact hs.be
end
end Go.Proofs.YtklchjfkkbpipaaGreatDoor

/- Two drives beside one another, each with a fuse, with one together, or with none. -/
namespace Go.Proofs.YtklchjfkkbpipaaGreatDoor
open Go Go.RowKit

structure Dl where
  p : Nat
  fu : Option Nat
  d : Pd
def D2 (a b : Dl) (S0 S1 : Nat → Prop) : Nat → Dv
  | 0 => ⟨a.p, S0, a.fu, a.d⟩
  | _ => ⟨b.p, S1, b.fu, b.d⟩
def SZ (w wr : World) (a b : Dl) (Z : Nat → Nat × Bool) : Prop := ∃ S0 S1, Sys w wr 2 (D2 a b S0 S1) Z
theorem lt2 {i : Nat} (h : i < 2) : i = 0 ∨ i = 1 := by omega
section
variable {w wr : World} {a b : Dl} {Z : Nat → Nat × Bool}
theorem SZ.be (h : SZ w wr a b Z) : Below w.heap.size w wr := by obtain ⟨_, _, hs⟩ := h; exact hs.be
theorem SZ.below (h : SZ w wr a b Z) {w' : World} (hb : Below wr.heap.size wr w') : SZ w w' a b Z := by obtain ⟨S0, S1, hs⟩ := h; exact ⟨S0, S1, hs.below hb⟩
theorem SZ.turned (h : SZ w wr a b Z) {f : FuncId} {args : Array Value} {r : Nat × Pd} (hc : ∀ S m L, DrC wr S a.p m a.fu a.d L → Calls Tryz.prog f args wr (TurnAt wr S a.p a.fu r)) :
    Calls Tryz.prog f args wr fun e w' => e = .returned (.int .i64 (r.1 : Int)) ∧ SZ w w' ⟨a.p, a.fu, r.2⟩ b Z := by
  obtain ⟨S0, S1, hs⟩ := h
  obtain ⟨m, L, hd⟩ := hs.dr 0 (by omega)
  refine (hc S0 m L hd).mono fun e w' ⟨h1, h2, h3⟩ => ⟨h1, S0, S1, ?_⟩
  have hf := hs.fu (i := 0) (by omega)
  have := hs.turn (i := 0) (by omega) (Grows.refl _ _) h2 (Or.inl rfl) (hf.kept h3 (fun q hq => hf.ne q hq)) (h3.mono fun b hb => Or.inl hb)
  rw [setZ_same] at this
  exact this.congr fun i hi => by rcases lt2 hi with rfl | rfl <;> rfl
theorem SZ.setA (h : SZ w wr a b Z) {f : FuncId} {args : Array Value} {d2 : Pd} (hc : ∀ S m L, DrC wr S a.p m a.fu a.d L → Calls Tryz.prog f args wr (SetAt wr S a.p m a.fu d2 L)) :
    Calls Tryz.prog f args wr fun e w' => e = .returned (.int .i64 0) ∧ SZ w w' ⟨a.p, a.fu, d2⟩ b Z := by
  refine (h.turned (r := (0, d2)) fun S m L hd => (hc S m L hd).mono fun e w' ⟨h1, h2, h3, _⟩ => ?_)
  exact ⟨h1, ⟨m, L, h2⟩, h3.mono fun b hb => by rw [hb]; exact hd.sp⟩
/-- Both have a fuse together. -/
theorem SZ.fuse2 (h : SZ w wr a b Z) (bl c : Nat) (hc : CAt wr bl #[ptr a.p, ptr b.p] 38) (n : Nat) (hn : n ≤ 9223372036854775807) :
    Calls Tryz.prog 30 #[.slice (some ⟨bl, 0, none⟩) 2 c, .int .i64 (n : Int)] wr fun e w' => e = .returned (.int .i64 0) ∧ ∃ q, (∀ i, a.fu = some i → i ≠ q) ∧ (∀ i, b.fu = some i → i ≠ q) ∧ SZ w w' ⟨a.p, some q, a.d.lit (a.fu.map Z)⟩ ⟨b.p, some q, b.d.lit (b.fu.map Z)⟩ (fun x => if x = q then (n, false) else Z x) := by
  obtain ⟨S0, S1, hs⟩ := h
  obtain ⟨m1, L1, h1⟩ := hs.dr 0 (by omega)
  obtain ⟨m2, L2, h2⟩ := hs.dr 1 (by omega)
  refine (fuse2_any h1 (hs.fu (i := 0) (by omega)) h2 (hs.fu (i := 1) (by omega)) (hs.dj 0 1 (by omega) (by omega) (by omega)) bl c hc n hn).mono fun e w' ⟨e1, q, hq, k1, k2, k3, k4⟩ => ⟨e1, q, fun i hi => ?_, fun i hi => ?_, S0, S1, ?_⟩
  · have := (hs.fz 0 (by omega) i hi).1.lt; omega
  · have := (hs.fz 1 (by omega) i hi).1.lt; omega
  · exact (hs.lit2 (i := 0) (j := 1) (by omega) (by omega) (by omega) hn hq k1 k2 k3 k4).congr fun i hi => by rcases lt2 hi with rfl | rfl <;> rfl
end
end Go.Proofs.YtklchjfkkbpipaaGreatDoor

/- The walk of DriveKnown. -/
namespace Go.Proofs.YtklchjfkkbpipaaGreatDoor
open Go Go.RowKit

/-- Two drives that have a fuse together, or none. -/
def S2 (w wr : World) (p1 p2 : Nat) (d1 d2 : Pd) (f : Fs) : Prop := ∃ fu Z, SZ w wr ⟨p1, fu, d1⟩ ⟨p2, fu, d2⟩ Z ∧ fu.map Z = f
section
variable {w wr : World} {p1 p2 : Nat} {d1 d2 : Pd} {f : Fs}
theorem S2.be (h : S2 w wr p1 p2 d1 d2 f) : Below w.heap.size w wr := by obtain ⟨_, _, hs, _⟩ := h; exact hs.be
theorem S2.below (h : S2 w wr p1 p2 d1 d2 f) {w' : World} (hb : Below wr.heap.size wr w') : S2 w w' p1 p2 d1 d2 f := by obtain ⟨fu, Z, hs, e⟩ := h; exact ⟨fu, Z, hs.below hb, e⟩
theorem S2.alloc (h : S2 w wr p1 p2 d1 d2 f) (o : Obj) : S2 w (wr.alloc o) p1 p2 d1 d2 f := h.below ((Below.refl _ _).alloc (Nat.le_refl _) _)
theorem S2.turned (h : S2 w wr p1 p2 d1 d2 f) {g : FuncId} {args : Array Value} {r0 r : Nat × Pd} (hc : ∀ fu S m L, DrC wr S p1 m fu d1 L → Calls Tryz.prog g args wr (TurnAt wr S p1 fu r0)) (hr : r0 = r) :
    Calls Tryz.prog g args wr fun e w' => e = .returned (.int .i64 (r.1 : Int)) ∧ S2 w w' p1 p2 r.2 d2 f := by
  obtain ⟨fu, Z, hs, rfl⟩ := h
  subst hr
  exact (hs.turned (r := r0) fun S m L hd => hc fu S m L hd).mono fun e w' ⟨h1, h2⟩ => ⟨h1, fu, _, h2, rfl⟩
theorem S2.offline (h : S2 w wr p1 p2 d1 d2 f) (b : Bool) {d3 : Pd} (hr : { d1 with offl := b } = d3) :
    Calls Tryz.prog 25 #[ptr p1, .bool b] wr fun e w' => e = .returned (.int .i64 0) ∧ S2 w w' p1 p2 d3 d2 f := by
  obtain ⟨fu, Z, hs, rfl⟩ := h
  subst hr
  exact (hs.setA fun S m L hd => offline_any hd b).mono fun e w' ⟨h1, h2⟩ => ⟨h1, fu, _, h2, rfl⟩
theorem S2.turn (h : S2 w wr p1 p2 d1 d2 f) (s : Nm) (hs : s.length ≤ maxLen) (a : Int) (ha : -9223372036854775808 ≤ a ∧ a ≤ 9223372036854775807) (mask : Nat) (hm : mask < 256) {r : Nat × Pd} (hr : d1.turn s a mask = r) :
    Calls Tryz.prog 51 #[ptr p1, sv s, .int .i64 a, .int .u8 (mask : Int)] wr fun e w' => e = .returned (.int .i64 (r.1 : Int)) ∧ S2 w w' p1 p2 r.2 d2 f :=
  h.turned (fun _ _ _ _ hd => turn_any hd s hs a ha mask hm) hr
theorem S2.fuse (h : S2 w wr p1 p2 d1 d2 f) (bl c : Nat) (hc : CAt wr bl #[ptr p1, ptr p2] 38) (n : Nat) (hn : n ≤ 9223372036854775807) {d3 d4 : Pd} (h3 : d1.lit f = d3) (h4 : d2.lit f = d4) :
    Calls Tryz.prog 30 #[.slice (some ⟨bl, 0, none⟩) 2 c, .int .i64 (n : Int)] wr fun e w' => e = .returned (.int .i64 0) ∧ S2 w w' p1 p2 d3 d4 (some (n, false)) := by
  obtain ⟨fu, Z, hs, rfl⟩ := h
  subst h3 h4
  exact (hs.fuse2 bl c hc n hn).mono fun e w' ⟨h1, q, _, _, h2⟩ => ⟨h1, some q, _, h2, by simp⟩
end
end Go.Proofs.YtklchjfkkbpipaaGreatDoor
