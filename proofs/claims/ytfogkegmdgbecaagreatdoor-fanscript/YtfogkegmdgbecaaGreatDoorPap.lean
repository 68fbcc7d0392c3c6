/- Texts laid into one, cut to what is needed: the remark ahead of each part says what is proved there. -/
import Derived.Test.YtfogkegmdgbecaaGreatDoorPan
/- The same to each file of each drive that is well. -/
namespace Go.Proofs.YtfogkegmdgbecaaGreatDoor
open Go Go.RowKit Go.Shelf

/-- What a Commit keeps in memory, while it goes on; none of it lies in T. -/
structure CmA (W : World) (T : Nat → Prop) (g : Nat) (lv : Value) (fv : FsV) (bw cw k : Nat) (p : Nat → Nat) : Prop where
 cg : CAt W g #[lv, fv.v, .slice (some ⟨bw, 0, none⟩) k cw] 96
 gt : ¬ T g
 gw : g ≠ bw
 ls : LsAt W T lv k p
 lw : ∀ b c, lv = .slice (some ⟨b, 0, none⟩) k c → b ≠ bw
 fs : fv.ok W (fun b => T b ∨ b = bw)
 fl : fv.l.length = k
 f8 : ∀ i, i < k → (fv.fl i).length ≤ 8
 wt : ¬ T bw
theorem CmA.keep {W W' : World} {T T' : Nat → Prop} {g : Nat} {lv : Value} {fv : FsV} {bw cw k : Nat} {p : Nat → Nat} (h : CmA W T g lv fv bw cw k p) (hb : bw < W.heap.size) (hk : ∀ b, b < W.heap.size → ¬ (T b ∨ b = bw) → W'.heap[b]? = W.heap[b]?) (hT : ∀ b, b < W.heap.size → T' b → T b) : CmA W' T' g lv fv bw cw k p where
 cg := h.cg.keep (hk g h.cg.lt fun e => e.elim h.gt h.gw)
 gt := fun ht => h.gt (hT g h.cg.lt ht)
 gw := h.gw
 ls := by
  rcases h.ls.ex with hl | ⟨h0, b, c, h1, h2, h3⟩
  ·exact ⟨.inl hl⟩
  ·have hl := cell_lt2 (h3 0 h0)
   exact ⟨.inr ⟨h0, b, c, h1, fun ht => h2 (hT b hl ht), fun j hj => (World.cell?_of_block (a := ⟨b, j, none⟩) (hk b hl fun e => e.elim h2 (h.lw b c h1))).trans (h3 j hj)⟩⟩
 lw := h.lw
 fs := h.fs.keep hk (fun b hb ht => ht.elim (fun ht => .inl (hT b hb ht)) .inr)
 fl := h.fl
 f8 := h.f8
 wt := fun ht => h.wt (hT bw hb ht)
/-- What forFiles leaves. -/
def FFat (w w1 : World) (T : Nat → Prop) (k : Nat) (p : Nat → Nat) (bw : Nat) (R : Bool × (Nat → Bool) × FS) (e : Ending) (w' : World) : Prop :=
 e = .returned (brk (if R.1 then 11 else 0)) ∧ (∃ T', Grows w1 T T' ∧ FA w w' T' k p R.2.2.d R.2.2.f 0) ∧ Only (fun b => T b ∨ b = bw) w1 w' ∧ WlAt w' bw k R.2.1
theorem row_at {fv : FsV} {W : World} {T : Nat → Prop} (h : fv.ok W T) {i : Nat} (hi : i < fv.l.length) : ∃ b o, fv.po = some ⟨b, o, none⟩ ∧ W.cell? ⟨b, o + i, none⟩ = some (fv.l.getD i default).v ∧ (fv.l.getD i default).ok W T := by
 have hm : fv.l.getD i default ∈ fv.l := by rw [getD_in _ _ _ hi]; exact List.getElem_mem hi
 rcases h.at_ with h1 | ⟨b, o, h1, h2, h3⟩
 ·rw [h1] at hi; simp at hi
 ·exact ⟨b, o, h1, h3 i hi, h.el _ hm⟩
theorem file_at' {r : RowV} {W : World} {T : Nat → Prop} (h : r.ok W T) {j : Nat} (hj : j < r.l.length) : ∃ b o, r.po = some ⟨b, o, none⟩ ∧ W.cell? ⟨b, o + j * 2, none⟩ = some (sv (r.l.getD j default).nm) ∧ W.cell? ⟨b, o + j * 2 + 1, none⟩ = some (r.l.getD j default).bv ∧ (r.l.getD j default).ok W T := by
 have hm : r.l.getD j default ∈ r.l := by rw [getD_in _ _ _ hj]; exact List.getElem_mem hj
 rcases h.at_ with h1 | ⟨b, o, h1, h2, h3⟩
 ·rw [h1] at hj; simp at hj
 ·exact ⟨b, o, h1, (h3 j hj).1, (h3 j hj).2, h.el _ hm⟩
theorem fl_drop {r : RowV} {j : Nat} (hj : j < r.l.length) : r.fl.drop j = (r.l.getD j default).fl :: r.fl.drop (j + 1) := by
 have h1 : j < r.fl.length := by unfold RowV.fl; simpa using hj
 rw [List.drop_eq_getElem_cons h1, getD_in _ _ _ hj]
 simp [RowV.fl]
theorem forD_skip {op : Op3} {fl : Nat → List Fl} {k i : Nat} {wl : Nat → Bool} {X : FS} (hi : i < k) (hw : wl i = false) : forD op fl (k - i) i wl X = forD op fl (k - (i + 1)) (i + 1) wl X := by
 rw [show k - i = (k - (i + 1)) + 1 by omega, forD, if_neg (by rw [hw]; simp)]
theorem forD_brk {op : Op3} {fl : Nat → List Fl} {k i : Nat} {wl : Nat → Bool} {X : FS} (hi : i < k) (hw : wl i = true) {z : Nat × Pd × Fs} (hz : forL op (fl i) (X.d i) X.f = z) (h : z.1 = 11) : forD op fl (k - i) i wl X = (true, wl, ⟨upd X.d i z.2.1, z.2.2⟩) := by
 rw [show k - i = (k - (i + 1)) + 1 by omega, forD, if_pos hw, hz, if_pos h]
theorem forD_bad {op : Op3} {fl : Nat → List Fl} {k i : Nat} {wl : Nat → Bool} {X : FS} (hi : i < k) (hw : wl i = true) {z : Nat × Pd × Fs} (hz : forL op (fl i) (X.d i) X.f = z) (h : z.1 ≠ 11) (h0 : z.1 ≠ 0) : forD op fl (k - i) i wl X = forD op fl (k - (i + 1)) (i + 1) (upd wl i false) ⟨upd X.d i z.2.1, z.2.2⟩ := by
 rw [show k - i = (k - (i + 1)) + 1 by omega, forD, if_pos hw, hz, if_neg h, if_neg h0]
theorem forD_ok {op : Op3} {fl : Nat → List Fl} {k i : Nat} {wl : Nat → Bool} {X : FS} (hi : i < k) (hw : wl i = true) {z : Nat × Pd × Fs} (hz : forL op (fl i) (X.d i) X.f = z) (h0 : z.1 = 0) : forD op fl (k - i) i wl X = forD op fl (k - (i + 1)) (i + 1) wl ⟨upd X.d i z.2.1, z.2.2⟩ := by
 rw [show k - i = (k - (i + 1)) + 1 by omega, forD, if_pos hw, hz, if_neg (by omega), if_pos h0]
theorem cell_tn {A C : World} {B : Nat} {a : Addr} {v : Value} (h : A.cell? a = some v) (ht : Tn B A C) : C.cell? a = some v := by
 obtain ⟨o, ho, hc⟩ := cells_of_cell h
 exact (World.cell?_of_block (a := a) (ht.other ho (by cases o <;> first | rfl | (simp [Obj.isCells] at hc)))).trans h
theorem FI.keepX {w w1 W0 W : World} {T X : Nat → Prop} {k : Nat} {p : Nat → Nat} {d : Nat → Pd} {f : Fs} (h : FI w W0 T X k p d f W) (hb : Below w1.heap.size w1 W0) {b : Nat} (h1 : b < w1.heap.size) (hT : ¬ T b) (hX : ¬ X b) : W.heap[b]? = w1.heap[b]? :=
 (h.on.block b (Nat.lt_of_lt_of_le h1 hb.size) fun e => e.elim hT hX).trans (hb.block b h1)

/-- Between two drives. -/
structure FIS (w w1 W0 : World) (T : Nat → Prop) (g : Nat) (lv : Value) (fv : FsV) (bw cw k : Nat) (p : Nat → Nat) (X0 : FS) (R : Bool × (Nat → Bool) × FS) (i : Nat) (W : World) : Prop where
 ex : ∃ wl X, R = forD stg fv.fl (k - i) i wl X ∧ FI w W0 T (fun b => b = bw ∨ b = w1.heap.size + 1 + 1) k p X.d X.f W ∧ WlAt W bw k wl ∧ ∀ j, i ≤ j → X.d j = X0.d j
 er : CAt W (w1.heap.size + 1 + 1) #[.nilIface] 98
/-- A drive broke the call. -/
def FXS (w w1 W0 : World) (T : Nat → Prop) (bw k : Nat) (p : Nat → Nat) (R : Bool × (Nat → Bool) × FS) (c : Code) (W : World) : Prop :=
 c = .exit 0 ∧ R.1 = true ∧ FI w W0 T (fun b => b = bw ∨ b = w1.heap.size + 1 + 1) k p R.2.2.d R.2.2.f W ∧ WlAt W bw k R.2.1 ∧ CAt W (w1.heap.size + 1 + 1) #[brk 11] 98
/-- Between two files of drive i, begun in Wi. -/
structure FJS (w w1 W0 Wi : World) (T : Nat → Prop) (fv : FsV) (bw k : Nat) (p : Nat → Nat) (X : FS) (wl : Nat → Bool) (i j : Nat) (W : World) : Prop where
 ex : ∃ dj fj, forL stg (fv.fl i) (X.d i) X.f = forL stg ((fv.fl i).drop j) dj fj ∧ FI w W0 T (fun b => b = bw ∨ b = w1.heap.size + 1 + 1) k p (upd X.d i dj) fj W ∧ Bnd (10000000000 + 2 * j) (10000000000 + 2 * j) dj
 wl : WlAt W bw k wl
 er : CAt W (w1.heap.size + 1 + 1) #[.nilIface] 98
 kp : KpL W0.heap.size Wi W
set_option maxHeartbeats 4000000 in
set_option maxRecDepth 100000 in
theorem forFilesS {w w1 : World} {T : Nat → Prop} {k : Nat} {p : Nat → Nat} {X0 : FS} (h : FA w w1 T k p X0.d X0.f 0) {g : Nat} {lv : Value} {fv : FsV} {bw cw : Nat} (hM : CmA w1 T g lv fv bw cw k p) {wl0 : Nat → Bool} (hW : WlAt w1 bw k wl0) (hk : 1 ≤ k ∧ k ≤ 16)
  (hB : ∀ i, i < k → Bnd 10000000000 10000000000 (X0.d i)) (hN : ∀ i, i < k → ∀ x ∈ fv.fl i, x.1.length ≤ 1000) (hww : w.heap.size ≤ bw) :
  Calls Tryz.prog 56 #[ptr g, .func (.func 57) #[] #[]] w1 (FFat w w1 T k p bw (forD stg fv.fl k 0 wl0 X0)) := by
 have hbw := cell_lt2 (hW 0 hk.1).1
 obtain ⟨R, hR⟩ : ∃ R, R = forD stg fv.fl k 0 wl0 X0 := ⟨_, rfl⟩
 rw [← hR]
 have HR := hid hR
 have HB := hid hB
 have HN := hid hN
 have HK := hid hk
 have HWW := hid hww
 have HWT := hid hM.wt
 have HBE := hid h.be
 have hmf := run_mf Tryz.prog
 clear hR hB hN
 refine (callsIn_wide (n := 0)).1 ?_
 refine callsIn_of_wp_marks Tryz.func56 rfl trivial ?_ rfl
 refine wpIn_wide.2 ?_
 simp only [Tryz.ntmps56, List.size_toArray, List.length_cons, List.length_nil, Nat.reduceAdd, Nat.reduceSub, Array.replicate_succ, Array.replicate_zero, List.push_toArray, List.append_toArray, List.nil_append, List.cons_append]
 go_wp2
 go_step3
 go_wp2
 go_step3
 go_wp2_with (go_at_call 112; refine (working_any _ _).mono ?_; rintro e w5 ⟨rfl, rfl⟩)
 rename_i Kx hKx
 refine (wpIn_wide (n := 0)).1 ?_
 have hb0 : Below w1.heap.size w1 ((((w1.alloc (.cells #[ptr g] 156)).alloc (.cells #[.func (.func 57) #[] #[]] 100)).alloc (.cells #[.nilIface] 98)).alloc (.cells #[ptr g] 156)) := below3 _ _ _ _ _
 have x0 := ((CAt.made w1 #[ptr g] 156).old (.cells #[.func (.func 57) #[] #[]] 100)).old (.cells #[.nilIface] 98) |>.old (.cells #[ptr g] 156)
 have x1 := (CAt.made (w1.alloc (.cells #[ptr g] 156)) #[.func (.func 57) #[] #[]] 100).old (.cells #[.nilIface] 98) |>.old (.cells #[ptr g] 156)
 have x2 := (CAt.made ((w1.alloc (.cells #[ptr g] 156)).alloc (.cells #[.func (.func 57) #[] #[]] 100)) #[.nilIface] 98).old (.cells #[ptr g] 156)
 have x3 := CAt.made (((w1.alloc (.cells #[ptr g] 156)).alloc (.cells #[.func (.func 57) #[] #[]] 100)).alloc (.cells #[.nilIface] 98)) #[ptr g] 156
 have hsz : ((((w1.alloc (.cells #[ptr g] 156)).alloc (.cells #[.func (.func 57) #[] #[]] 100)).alloc (.cells #[.nilIface] 98)).alloc (.cells #[ptr g] 156)).heap.size = w1.heap.size + 4 := by simp
 simp only [World.size_alloc] at x1 x2 x3
 generalize ((((w1.alloc (.cells #[ptr g] 156)).alloc (.cells #[.func (.func 57) #[] #[]] 100)).alloc (.cells #[.nilIface] 98)).alloc (.cells #[ptr g] 156)) = W0 at hb0 x0 x1 x2 x3 hsz ⊢
 have hTl : ∀ b, T b → b < w1.heap.size := h.lt
 have hA0 : FA w W0 T k p X0.d X0.f 0 := h.below hb0
 have hW0 : WlAt W0 bw k wl0 := hW.keep (hb0.block bw hbw)
 have mem : ∀ d f W, FI w W0 T (fun b => b = bw ∨ b = w1.heap.size + 1 + 1) k p d f W → CmA W T g lv fv bw cw k p ∧ CAt W w1.heap.size #[ptr g] 156 ∧ CAt W (w1.heap.size + 1) #[.func (.func 57) #[] #[]] 100 ∧ CAt W (w1.heap.size + 1 + 1 + 1) #[ptr g] 156 := fun d f W hf =>
  have bx : ∀ b, w1.heap.size ≤ b → b < W0.heap.size → b ≠ w1.heap.size + 1 + 1 → W.heap[b]? = W0.heap[b]? := fun b h1 h2 h3 => hf.on.block b h2 fun e => e.elim (fun ht => by have := hTl b ht; omega) (fun e => e.elim (fun e => by omega) h3)
  ⟨hM.keep hbw (fun b hb hn => hf.keepX hb0 hb (fun ht => hn (.inl ht)) (fun e => e.elim (fun e => hn (.inr e)) (fun e => by omega))) (fun _ _ h => h), x0.keep (bx _ (by omega) (by omega) (by omega)), x1.keep (bx _ (by omega) (by omega) (by omega)), x3.keep (bx _ (by omega) (by omega) (by omega))⟩
 have MEM := hid mem
 have HTL := hid hTl
 have HBW := hid hbw
 have HSZ := hid hsz
 have HB0 := hid hb0
 have hwW : w.heap.size ≤ W0.heap.size := by have := HBE.out.size; omega
 clear hM hW mem x0 x1 x3 h
 refine range_plain (gf := 135) (lb := #[ptr (w1.heap.size + 1 + 1 + 1)]) rfl (enters_of Tryz.func135 (by kernel_rfl) rfl) k (eEnc p) (fun _ => rfl) (fun i W => W.cell? ⟨bw, i, none⟩ = some (.bool true)) (FIS w w1 W0 T g lv fv bw cw k p X0 R)
  (FXS w w1 W0 T bw k p R) (fun i A C h ht => cell_tn h ht) ?hI ?hIx ?h0 ?hseq ?asg ?assign ?body ?done ?stop
 case hI =>
  intro i A C hi ht
  obtain ⟨⟨wl, X, h1, h2, h3, h4⟩, h5⟩ := hi
  exact ⟨⟨wl, X, h1, h2.tn ht hwW, h3.tn ht, h4⟩, h5.tn ht⟩
 case hIx =>
  intro c A C hi ht
  obtain ⟨h1, h2, h3, h4, h5⟩ := hi
  exact ⟨h1, h2, h3.tn ht hwW, h4.tn ht, h5.tn ht⟩
 case h0 => exact ⟨⟨wl0, X0, HR.out, FI.start hA0, hW0, fun _ _ => rfl⟩, x2⟩
 case hseq =>
  refine working_it _ _ g lv fv.v bw cw k p _ (by have := HK.out.2; omega) (fun i W hi => ?_) (fun i W hi h hc => ?_)
  ·obtain ⟨⟨wl, X, h1, h2, h3, h4⟩, h5⟩ := hi
   obtain ⟨m1, m2, m3, m4⟩ := MEM.out _ _ W h2
   exact ⟨m4, m1.cg, m1.ls.none, fun j hj => ⟨_, (h3 j hj).1⟩⟩
  ·obtain ⟨⟨wl, X, h1, h2, h3, h4⟩, h5⟩ := h
   have hf : wl i = false := by have := (h3 i hi).1; rw [hc] at this; simpa using this
   exact ⟨⟨wl, X, h1.trans (forD_skip hi hf), h2, h3, fun j hj => h4 j (by omega)⟩, h5⟩
 case assign =>
  intro l i W K hik hK
  unfold eEnc
  refine wpIn_seq (round_list (fun _ _ h => h) (by kernel_rfl) ?_)
  go_wp2
  refine round_list (fun _ _ h => h) (by kernel_rfl) ?_
  go_wp2
  exact hK
 case done =>
  intro D W hD hi hd
  obtain ⟨⟨wl, X, h1, h2, h3, h4⟩, h5⟩ := hi
  have hR2 : R = (false, wl, X) := by rw [h1, Nat.sub_self]; rfl
  have c5 : W.cell? ⟨w1.heap.size + 1 + 1, 0, none⟩ = some .nilIface := h5.cell 0
  have ht : Tn W0.heap.size W (W.putObj D (.deferred none)) := Tn.put _ hD hd rfl
  have FIN : Hid (FFat w w1 T k p bw R (.returned .nilIface) (W.putObj D (.deferred none))) := by
   have f2 := h2.tn ht hwW
   obtain ⟨T', hg, hf⟩ := f2.ex
   refine ⟨by rw [hR2]; rfl, ⟨T', ⟨hg.1, fun b hb => (hg.2 b hb).imp id (fun h => by omega)⟩, by rw [hR2]; exact hf⟩, (Only.of_below HB0.out).then f2.on (fun b hb hx => hx.elim .inl (fun hx => hx.elim .inr (fun hx => by omega))), by rw [hR2]; exact h3.tn ht⟩
  refine hKx _ _ ?_
  dsimp only [endAct]
  clear hKx h1 h2 h3 h4 h5 ht
  go_wp2
  rw [Exit.noGoto_ret]
  refine ⟨by simp, .inl ⟨_, _, rfl, run_takeDeferred hd, ?_⟩⟩
  refine ⟨_, results_tmp rfl _ _ _, ?_⟩
  exact FIN.out
 case stop =>
  intro D c W hD hi hd
  obtain ⟨rfl, h1, h2, h3, h5⟩ := hi
  have c5 : W.cell? ⟨w1.heap.size + 1 + 1, 0, none⟩ = some (brk 11) := h5.cell 0
  have ht : Tn W0.heap.size W (W.putObj D (.deferred none)) := Tn.put _ hD hd rfl
  have FIN : Hid (FFat w w1 T k p bw R (.returned (brk 11)) (W.putObj D (.deferred none))) := by
   have f2 := h2.tn ht hwW
   obtain ⟨T', hg, hf⟩ := f2.ex
   refine ⟨by rw [h1]; rfl, ⟨T', ⟨hg.1, fun b hb => (hg.2 b hb).imp id (fun h => by omega)⟩, hf⟩, (Only.of_below HB0.out).then f2.on (fun b hb hx => hx.elim .inl (fun hx => hx.elim .inr (fun hx => by omega))), h3.tn ht⟩
  refine wpIn_exit ?_
  refine hKx _ _ ?_
  dsimp only [endAct]
  clear hKx h1 h2 h3 h5 ht
  go_wp2
  rw [Exit.noGoto_ret]
  refine ⟨by simp, .inl ⟨_, _, rfl, run_takeDeferred hd, ?_⟩⟩
  refine ⟨_, results_tmp rfl _ _ _, ?_⟩
  exact FIN.out
 case body =>
  intro l i W hik hi hen
  clear hsz
  obtain ⟨⟨wl, X, hRR, hFI, hWl, hsm⟩, her⟩ := hi
  have hwl : wl i = true := by have := (hWl i hik).1; rw [hen] at this; simpa using this
  obtain ⟨m1, m2, m3, m4⟩ := MEM.out _ _ W hFI
  obtain ⟨fb, fo, hfp, hfc, hrow⟩ := row_at m1.fs (i := i) (by rw [m1.fl]; exact hik)
  have hlen : fv.l.length = k := m1.fl
  have h8 := m1.f8 i hik
  have efl : fv.fl i = (fv.l.getD i default).fl := rfl
  have c0 : W.cell? ⟨w1.heap.size, 0, none⟩ = some (ptr g) := m2.cell 0
  have c1 : W.cell? ⟨g, 1, none⟩ = some (.slice (some ⟨fb, fo, none⟩) k fv.c) := by have := m1.cg.cell 1; rw [this, ← hfp, ← hlen]; rfl
  have hrk : ∀ W', fv.ok W' (fun b => T b ∨ b = bw) → (fv.l.getD i default).ok W' (fun b => T b ∨ b = bw) := fun W' h => h.el _ (by rw [getD_in _ _ _ (by rw [hlen]; exact hik)]; exact List.getElem_mem _)
  generalize fv.l.getD i default = row at *
  obtain ⟨rpo, rc, rl⟩ := row
  have hfc' : W.cell? ⟨fb, fo + i, none⟩ = some (.slice rpo rl.length rc) := hfc
  have hrl : rl.length ≤ 8 := by rw [efl] at h8; simpa [RowV.fl] using h8
  have hik' : (i : Int) < (k : Int) := by omega
  have J0 : Hid (FJS w w1 W0 W T fv bw k p X wl i 0 W) := ⟨⟨X.d i, X.f, rfl, by rw [upd_id]; exact hFI, by rw [hsm i (Nat.le_refl _)]; exact HB.out i hik⟩, hWl, her, KpL.refl _ _⟩
  have HRK := hid hrk
  have HRR := hid hRR
  have HSM := hid hsm
  have HWL := hid hwl
  have HEFL := hid efl
  clear hFI hWl her m1 m2 m3 m4 hrow hRR hsm hwl efl hfc hen hrk
  refine wpIn_block (wpIn_seq (round_list (fun _ _ h => h) (by kernel_rfl) ?_))
  go_wp2
  clear c0 c1 hfc'
  refine wpIn_block ?_
  gi_loopw [23] (fun v wr => ∃ j : Nat, j ≤ rl.length ∧ v = .int .i64 (j : Int) ∧ FJS w w1 W0 W T fv bw k p X wl i j wr) (fun v _ => (100 - intOf v).toNat)
  case atStart => exact ⟨0, by omega, rfl, J0.out⟩
  case round =>
   obtain ⟨j, hj, rfl, hJ⟩ := hrel
   obtain ⟨⟨dj, fj, hfor, hFI, hbd⟩, hWl, her, hkp⟩ := hJ
   have hjf : IntKind.i64.wrap ((j : Int) + 1) = (j : Int) + 1 := IntWalk.i64_in _ ⟨by omega, by omega⟩
   refine wpIn_seq (round_list (fun _ _ h => h) (by kernel_rfl) ?_)
   by_cases hlt : j < rl.length
   ·have hlt' : (j : Int) < (rl.length : Int) := by omega
    go_wp2
    refine wpIn_seq (wpIn_cond_true rfl (wpIn_skip ?_))
    obtain ⟨m1, m2, m3, m4⟩ := MEM.out _ _ wr hFI
    have hrow2 : (RowV.mk rpo rc rl).ok wr (fun b => T b ∨ b = bw) := by
     exact HRK.out wr m1.fs
    obtain ⟨b, o, hrp, cf0, cf1, hfo⟩ := file_at' hrow2 (j := j) hlt
    have hrp' : rpo = some ⟨b, o, none⟩ := hrp
    subst hrp'
    generalize hx : rl.getD j default = x at *
    obtain ⟨nm, pb, cb, bs⟩ := x
    have cf0' : wr.cell? ⟨b, o + j * 2, none⟩ = some (sv nm) := cf0
    have cf1' : wr.cell? ⟨b, o + j * 2 + 1, none⟩ = some (.slice pb bs.length cb) := cf1
    have cd : wr.cell? ⟨w1.heap.size + 1, 0, none⟩ = some (.func (.func 57) #[] #[]) := m3.cell 0
    have hdrop : (fv.fl i).drop j = (nm, bs) :: (fv.fl i).drop (j + 1) := by rw [HEFL.out, fl_drop (r := ⟨some ⟨b, o, none⟩, rc, rl⟩) (j := j) hlt]; show (rl.getD j default).fl :: _ = _; rw [hx]; rfl
    have hnm : nm.length ≤ 1000 := HN.out i hik (nm, bs) (by have : (nm, bs) ∈ (fv.fl i).drop j := (by rw [hdrop]; exact List.mem_cons_self); exact List.mem_of_mem_drop this)
    rw [hdrop] at hfor
    have hbA : Below wr.heap.size wr (wr.alloc (.cells #[sv nm, .slice pb bs.length cb] 47)) := (Below.refl _ _).alloc (Nat.le_refl _) _
    have hFA := hFI.below hbA
    have hcA := CAt.made wr #[sv nm, .slice pb bs.length cb] 47
    have hbt : BAt (wr.alloc (.cells #[sv nm, .slice pb bs.length cb] 47)) pb bs := hfo.bt.keepB hbA
    have HST := hid (hFA.step hik (fun fu S m L hd hf => stage_any hd hf (nm, bs) pb cb hnm hfo.b8 hbt hfo.bl (by rw [upd_same]; have := hbd.2; omega) (by rw [upd_same]; have := hbd.1; omega)) (stg_sm _ _ _))
    have HWA : Hid (WlAt (wr.alloc (.cells #[sv nm, .slice pb bs.length cb] 47)) bw k wl) := hWl.keep (hbA.block bw (by have := hFI.sz; have := HSZ.out; have := HBW.out; omega))
    have HEA := hid (her.below hbA)
    have HKA := hid (hkp.trans (KpL.below hbA))
    have cdA : (wr.alloc (.cells #[sv nm, .slice pb bs.length cb] 47)).cell? ⟨w1.heap.size + 1, 0, none⟩ = some (.func (.func 57) #[] #[]) := (m3.below hbA).cell 0
    have cA0 : (wr.alloc (.cells #[sv nm, .slice pb bs.length cb] 47)).cell? ⟨wr.heap.size, 0, none⟩ = some (sv nm) := hcA.cell 0
    have cA1 : (wr.alloc (.cells #[sv nm, .slice pb bs.length cb] 47)).cell? ⟨wr.heap.size, 1, none⟩ = some (.slice pb bs.length cb) := hcA.cell 1
    rw [upd_same, upd_upd] at HST
    have hcd := stg_cd dj fj (nm, bs)
    have HBD := hid (bnd_stg hbd fj (nm, bs))
    have hforL : forL stg ((nm, bs) :: (fv.fl i).drop (j + 1)) dj fj = if (stg dj fj (nm, bs)).1 = 0 then forL stg ((fv.fl i).drop (j + 1)) (stg dj fj (nm, bs)).2.1 (stg dj fj (nm, bs)).2.2 else stg dj fj (nm, bs) := rfl
    rw [hforL] at hfor
    clear hforL
    generalize stg dj fj (nm, bs) = r at *
    have HFOR := hid hfor
    clear cf0 cf1 hfor hdrop hFI hFA hWl her hkp m1 m2 m3 m4 hrow2 hfo hbt hbA hcA hx hbd cd hrp
    refine wpIn_seq (wpIn_block (wpIn_seq (round_list (fun _ _ h => h) (by kernel_rfl) ?_)))
    go_wp2
    clear cf0' cf1'
    generalize wr.alloc (.cells #[sv nm, .slice pb bs.length cb] 47) = wA at *
    refine wpIn_seq (round_list (fun _ _ h => h) (by kernel_rfl) ?_)
    go_wp2_with (go_at_call 57; refine HST.out.mono ?_; rintro e w5 ⟨rfl, hs5⟩; have HS5 := hid hs5; clear hs5)
    obtain ⟨f5, k5, q5⟩ := HS5.out
    have herr : w1.heap.size + 1 + 1 < W0.heap.size := by have := HSZ.out; omega
    have e5 : CAt w5 (w1.heap.size + 1 + 1) #[.nilIface] 98 := HEA.out.kpl q5 (Nat.zero_le _) rfl
    have ce5 : w5.cell? ⟨w1.heap.size + 1 + 1, 0, none⟩ = some .nilIface := e5.cell 0
    have fe5 : w5.frozen? ⟨w1.heap.size + 1 + 1, 0, none⟩ = false := e5.free 0
    have F6 : Hid (∀ v, FI w W0 T (fun b => b = bw ∨ b = w1.heap.size + 1 + 1) k p (upd X.d i r.2.1) r.2.2 (w5.setCell ⟨w1.heap.size + 1 + 1, 0, none⟩ v)) := fun v => f5.set (.inr rfl) herr (fun ht => by have := HTL.out _ ht; omega) (by have := HBE.out.size; omega) 0 v
    have W6 : Hid (∀ v, WlAt (w5.setCell ⟨w1.heap.size + 1 + 1, 0, none⟩ v) bw k wl) := fun v => (HWA.out.keep (k5 bw (by have := HSZ.out; have := HBW.out; omega) HWT.out)).keep (heap_setCell_ne _ _ _ _ (by show bw ≠ w1.heap.size + 1 + 1; have := HBW.out; omega))
    have E6 : Hid (∀ v, CAt (w5.setCell ⟨w1.heap.size + 1 + 1, 0, none⟩ v) (w1.heap.size + 1 + 1) #[v] 98) := fun v => by have := e5.set 0 v; simpa using this
    have K6 : Hid (∀ v, KpL W0.heap.size W (w5.setCell ⟨w1.heap.size + 1 + 1, 0, none⟩ v)) := fun v => (HKA.out.trans (q5.mono (Nat.zero_le _))).trans (KpL.set herr _ _ _)
    clear f5 k5 q5 e5 cdA cA0 cA1 HS5 HST HEA HWA HKA
    refine wpIn_seq (wpIn_seq (round_list (fun _ _ h => h) (by kernel_rfl) ?_))
    by_cases h11 : r.1 = 11
    ·have hb11 : brk 11 = .iface 160 (.agg #[.int .i64 11]) := rfl
     rw [h11]
     go_wp2_with (go_at_call 113; refine (breaks_any 11 _ (by omega)).mono ?_; rintro e w6 ⟨rfl, hw6⟩; have hw6' := hw6.symm; subst hw6'; rw [hb11])
     have e6 := E6.out (brk 11)
     rw [hb11] at e6
     have ce6 := e6.cell 0
     have FIN : Hid (rdP W0.heap.size (FIS w w1 W0 T g lv fv bw cw k p X0 R (i + 1)) (FXS w w1 W0 T bw k p R) W (.exit 0) { tmps := #[], defers := [] } (w5.setCell ⟨w1.heap.size + 1 + 1, 0, none⟩ (.iface 160 (.agg #[.int .i64 11])))) := by
      have hR2 : R = (true, wl, ⟨upd X.d i r.2.1, r.2.2⟩) := by
       rw [HRR.out, forD_brk hik HWL.out rfl (by rw [HFOR.out, if_neg (by omega)]; exact h11), HFOR.out, if_neg (by omega)]
      exact ⟨K6.out _, rfl, by rw [hR2], by rw [hR2]; exact F6.out _, by rw [hR2]; exact W6.out _, E6.out _⟩
     generalize w5.setCell ⟨w1.heap.size + 1 + 1, 0, none⟩ (.iface 160 (.agg #[.int .i64 11])) = w7 at *
     refine wpIn_seq (round_list (fun _ _ h => h) (by kernel_rfl) ?_)
     go_wp2
     refine wpIn_cond_true rfl (wpIn_exit ?_)
     exact FIN.out
    ·have hbn : brk r.1 = .nilIface := by unfold brk; rw [if_neg h11]
     go_wp2_with (go_at_call 113; refine (breaks_any r.1 _ (by omega)).mono ?_; rintro e w6 ⟨rfl, hw6⟩; have hw6' := hw6.symm; subst hw6'; rw [hbn])
     have f7 := F6.out .nilIface
     have wl7 := W6.out .nilIface
     have e7 := E6.out .nilIface
     have k7 := K6.out .nilIface
     have ce7 : (w5.setCell ⟨w1.heap.size + 1 + 1, 0, none⟩ .nilIface).cell? ⟨w1.heap.size + 1 + 1, 0, none⟩ = some .nilIface := e7.cell 0
     clear ce5 fe5
     generalize w5.setCell ⟨w1.heap.size + 1 + 1, 0, none⟩ .nilIface = w7 at *
     clear F6 W6 E6 K6
     obtain ⟨m1, m2, m3, m4⟩ := MEM.out _ _ w7 f7
     have c7 : w7.cell? ⟨w1.heap.size, 0, none⟩ = some (ptr g) := m2.cell 0
     have g7 : w7.cell? ⟨g, 2, none⟩ = some (.slice (some ⟨bw, 0, none⟩) k cw) := m1.cg.cell 2
     have wc7 := (wl7 i hik).1
     have wf7 := (wl7 i hik).2
     have HF7 := hid f7
     have HW7 := hid wl7
     have HE7 := hid e7
     have HK7 := hid k7
     clear f7 wl7 e7 k7 m1 m2 m3 m4
     refine wpIn_seq (round_list (fun _ _ h => h) (by kernel_rfl) ?_)
     go_wp2
     refine wpIn_cond_false rfl (wpIn_skip ?_)
     refine wpIn_seq (round_list (fun _ _ h => h) (by kernel_rfl) ?_)
     by_cases h0 : r.1 = 0
     ·have h0' : ((r.1 : Nat) : Int) = 0 := by omega
      go_wp2
      refine wpIn_cond_false rfl (wpIn_skip ?_)
      refine round_list (fun _ _ h => h) (by kernel_rfl) ?_
      go_wp2
      refine ⟨⟨.pointer (some ⟨wr.heap.size, 0, none⟩), .int .i64 (r.1 : Int), .int .i64 ((j : Int) + 1), ⟨j + 1, hlt, by congr 1, ⟨⟨r.2.1, r.2.2, by rw [HFOR.out, if_pos h0], HF7.out, by have := HBD.out; rwa [show 10000000000 + 2 * (j + 1) = 10000000000 + 2 * j + 2 by omega]⟩, HW7.out, HE7.out, HK7.out⟩⟩, ?_⟩, ?_⟩
      ·exact ⟨_, _, _, _, _, _, _, _, _, _, _, _, _, _, _, _, _, _, _, _, rfl⟩
      ·simp [intOf]; omega
     ·have h0' : (((r.1 : Nat) : Int) != 0) = true := by simp; omega
      have FIN : Hid (rdP W0.heap.size (FIS w w1 W0 T g lv fv bw cw k p X0 R (i + 1)) (FXS w w1 W0 T bw k p R) W .normal { tmps := #[], defers := [] } (w7.setCell ⟨bw, i, none⟩ (.bool false))) := by
       have hbs : bw < W0.heap.size := by have := HSZ.out; have := HBW.out; omega
       refine ⟨HK7.out.trans (KpL.set hbs _ _ _), ⟨⟨upd wl i false, ⟨upd X.d i r.2.1, r.2.2⟩, ?_, HF7.out.set (.inl rfl) hbs HWT.out HWW.out i _, HW7.out.set hik false, fun q hq => ?_⟩, HE7.out.keep (heap_setCell_ne _ _ _ _ (by show w1.heap.size + 1 + 1 ≠ bw; have := HBW.out; omega))⟩⟩
       ·rw [HRR.out, forD_bad hik HWL.out rfl (by rw [HFOR.out, if_neg h0]; exact h11) (by rw [HFOR.out, if_neg h0]; exact h0), HFOR.out, if_neg h0]
       ·show upd X.d i r.2.1 q = _
        rw [upd_ne _ _ (by omega)]; exact HSM.out q (by omega)
      go_wp2
      refine wpIn_cond_true rfl (wpIn_seq (round_list (fun _ _ h => h) (by kernel_rfl) ?_))
      go_wp2
      refine wpIn_exit ?_
      exact FIN.out
   ·have hlt' : ¬ (j : Int) < (rl.length : Int) := by omega
    go_wp2
    refine wpIn_seq (wpIn_cond_false rfl (wpIn_exit ?_))
    have hnil : (fv.fl i).drop j = [] := by rw [HEFL.out]; apply List.drop_eq_nil_of_le; simp [RowV.fl]; omega
    rw [hnil] at hfor
    have hz : (forL stg (fv.fl i) (X.d i) X.f).1 = 0 := by rw [hfor]; rfl
    refine ⟨hkp, ⟨⟨wl, ⟨upd X.d i dj, fj⟩, ?_, hFI, hWl, fun q hq => ?_⟩, her⟩⟩
    ·rw [HRR.out, forD_ok hik HWL.out rfl hz, hfor]; rfl
    ·show upd X.d i dj q = _
     rw [upd_ne _ _ (by omega)]; exact HSM.out q (by omega)

/-- Between two drives. -/
structure FIF (w w1 W0 : World) (T : Nat → Prop) (g : Nat) (lv : Value) (fv : FsV) (bw cw k : Nat) (p : Nat → Nat) (X0 : FS) (R : Bool × (Nat → Bool) × FS) (i : Nat) (W : World) : Prop where
 ex : ∃ wl X, R = forD fin fv.fl (k - i) i wl X ∧ FI w W0 T (fun b => b = bw ∨ b = w1.heap.size + 1 + 1) k p X.d X.f W ∧ WlAt W bw k wl ∧ ∀ j, i ≤ j → X.d j = X0.d j
 er : CAt W (w1.heap.size + 1 + 1) #[.nilIface] 98
/-- A drive broke the call. -/
def FXF (w w1 W0 : World) (T : Nat → Prop) (bw k : Nat) (p : Nat → Nat) (R : Bool × (Nat → Bool) × FS) (c : Code) (W : World) : Prop :=
 c = .exit 0 ∧ R.1 = true ∧ FI w W0 T (fun b => b = bw ∨ b = w1.heap.size + 1 + 1) k p R.2.2.d R.2.2.f W ∧ WlAt W bw k R.2.1 ∧ CAt W (w1.heap.size + 1 + 1) #[brk 11] 98
/-- Between two files of drive i, begun in Wi. -/
structure FJF (w w1 W0 Wi : World) (T : Nat → Prop) (fv : FsV) (bw k : Nat) (p : Nat → Nat) (X : FS) (wl : Nat → Bool) (i j : Nat) (W : World) : Prop where
 ex : ∃ dj fj, forL fin (fv.fl i) (X.d i) X.f = forL fin ((fv.fl i).drop j) dj fj ∧ FI w W0 T (fun b => b = bw ∨ b = w1.heap.size + 1 + 1) k p (upd X.d i dj) fj W ∧ Bnd (10000000000 + 2 * j) (10000000000 + 2 * j) dj
 wl : WlAt W bw k wl
 er : CAt W (w1.heap.size + 1 + 1) #[.nilIface] 98
 kp : KpL W0.heap.size Wi W
set_option maxHeartbeats 4000000 in
set_option maxRecDepth 100000 in
theorem forFilesF {w w1 : World} {T : Nat → Prop} {k : Nat} {p : Nat → Nat} {X0 : FS} (h : FA w w1 T k p X0.d X0.f 0) {g : Nat} {lv : Value} {fv : FsV} {bw cw : Nat} (hM : CmA w1 T g lv fv bw cw k p) {wl0 : Nat → Bool} (hW : WlAt w1 bw k wl0) (hk : 1 ≤ k ∧ k ≤ 16)
  (hB : ∀ i, i < k → Bnd 10000000000 10000000000 (X0.d i)) (hN : ∀ i, i < k → ∀ x ∈ fv.fl i, x.1.length ≤ 1000) (hww : w.heap.size ≤ bw) :
  Calls Tryz.prog 56 #[ptr g, .func (.func 62) #[] #[]] w1 (FFat w w1 T k p bw (forD fin fv.fl k 0 wl0 X0)) := by
 have hbw := cell_lt2 (hW 0 hk.1).1
 obtain ⟨R, hR⟩ : ∃ R, R = forD fin fv.fl k 0 wl0 X0 := ⟨_, rfl⟩
 rw [← hR]
 have HR := hid hR
 have HB := hid hB
 have HN := hid hN
 have HK := hid hk
 have HWW := hid hww
 have HWT := hid hM.wt
 have HBE := hid h.be
 have hmf := run_mf Tryz.prog
 clear hR hB hN
 refine (callsIn_wide (n := 0)).1 ?_
 refine callsIn_of_wp_marks Tryz.func56 rfl trivial ?_ rfl
 refine wpIn_wide.2 ?_
 simp only [Tryz.ntmps56, List.size_toArray, List.length_cons, List.length_nil, Nat.reduceAdd, Nat.reduceSub, Array.replicate_succ, Array.replicate_zero, List.push_toArray, List.append_toArray, List.nil_append, List.cons_append]
 go_wp2
 go_step3
 go_wp2
 go_step3
 go_wp2_with (go_at_call 112; refine (working_any _ _).mono ?_; rintro e w5 ⟨rfl, rfl⟩)
 rename_i Kx hKx
 refine (wpIn_wide (n := 0)).1 ?_
 have hb0 : Below w1.heap.size w1 ((((w1.alloc (.cells #[ptr g] 156)).alloc (.cells #[.func (.func 62) #[] #[]] 100)).alloc (.cells #[.nilIface] 98)).alloc (.cells #[ptr g] 156)) := below3 _ _ _ _ _
 have x0 := ((CAt.made w1 #[ptr g] 156).old (.cells #[.func (.func 62) #[] #[]] 100)).old (.cells #[.nilIface] 98) |>.old (.cells #[ptr g] 156)
 have x1 := (CAt.made (w1.alloc (.cells #[ptr g] 156)) #[.func (.func 62) #[] #[]] 100).old (.cells #[.nilIface] 98) |>.old (.cells #[ptr g] 156)
 have x2 := (CAt.made ((w1.alloc (.cells #[ptr g] 156)).alloc (.cells #[.func (.func 62) #[] #[]] 100)) #[.nilIface] 98).old (.cells #[ptr g] 156)
 have x3 := CAt.made (((w1.alloc (.cells #[ptr g] 156)).alloc (.cells #[.func (.func 62) #[] #[]] 100)).alloc (.cells #[.nilIface] 98)) #[ptr g] 156
 have hsz : ((((w1.alloc (.cells #[ptr g] 156)).alloc (.cells #[.func (.func 62) #[] #[]] 100)).alloc (.cells #[.nilIface] 98)).alloc (.cells #[ptr g] 156)).heap.size = w1.heap.size + 4 := by simp
 simp only [World.size_alloc] at x1 x2 x3
 generalize ((((w1.alloc (.cells #[ptr g] 156)).alloc (.cells #[.func (.func 62) #[] #[]] 100)).alloc (.cells #[.nilIface] 98)).alloc (.cells #[ptr g] 156)) = W0 at hb0 x0 x1 x2 x3 hsz ⊢
 have hTl : ∀ b, T b → b < w1.heap.size := h.lt
 have hA0 : FA w W0 T k p X0.d X0.f 0 := h.below hb0
 have hW0 : WlAt W0 bw k wl0 := hW.keep (hb0.block bw hbw)
 have mem : ∀ d f W, FI w W0 T (fun b => b = bw ∨ b = w1.heap.size + 1 + 1) k p d f W → CmA W T g lv fv bw cw k p ∧ CAt W w1.heap.size #[ptr g] 156 ∧ CAt W (w1.heap.size + 1) #[.func (.func 62) #[] #[]] 100 ∧ CAt W (w1.heap.size + 1 + 1 + 1) #[ptr g] 156 := fun d f W hf =>
  have bx : ∀ b, w1.heap.size ≤ b → b < W0.heap.size → b ≠ w1.heap.size + 1 + 1 → W.heap[b]? = W0.heap[b]? := fun b h1 h2 h3 => hf.on.block b h2 fun e => e.elim (fun ht => by have := hTl b ht; omega) (fun e => e.elim (fun e => by omega) h3)
  ⟨hM.keep hbw (fun b hb hn => hf.keepX hb0 hb (fun ht => hn (.inl ht)) (fun e => e.elim (fun e => hn (.inr e)) (fun e => by omega))) (fun _ _ h => h), x0.keep (bx _ (by omega) (by omega) (by omega)), x1.keep (bx _ (by omega) (by omega) (by omega)), x3.keep (bx _ (by omega) (by omega) (by omega))⟩
 have MEM := hid mem
 have HTL := hid hTl
 have HBW := hid hbw
 have HSZ := hid hsz
 have HB0 := hid hb0
 have hwW : w.heap.size ≤ W0.heap.size := by have := HBE.out.size; omega
 clear hM hW mem x0 x1 x3 h
 refine range_plain (gf := 135) (lb := #[ptr (w1.heap.size + 1 + 1 + 1)]) rfl (enters_of Tryz.func135 (by kernel_rfl) rfl) k (eEnc p) (fun _ => rfl) (fun i W => W.cell? ⟨bw, i, none⟩ = some (.bool true)) (FIF w w1 W0 T g lv fv bw cw k p X0 R)
  (FXF w w1 W0 T bw k p R) (fun i A C h ht => cell_tn h ht) ?hI ?hIx ?h0 ?hseq ?asg ?assign ?body ?done ?stop
 case hI =>
  intro i A C hi ht
  obtain ⟨⟨wl, X, h1, h2, h3, h4⟩, h5⟩ := hi
  exact ⟨⟨wl, X, h1, h2.tn ht hwW, h3.tn ht, h4⟩, h5.tn ht⟩
 case hIx =>
  intro c A C hi ht
  obtain ⟨h1, h2, h3, h4, h5⟩ := hi
  exact ⟨h1, h2, h3.tn ht hwW, h4.tn ht, h5.tn ht⟩
 case h0 => exact ⟨⟨wl0, X0, HR.out, FI.start hA0, hW0, fun _ _ => rfl⟩, x2⟩
 case hseq =>
  refine working_it _ _ g lv fv.v bw cw k p _ (by have := HK.out.2; omega) (fun i W hi => ?_) (fun i W hi h hc => ?_)
  ·obtain ⟨⟨wl, X, h1, h2, h3, h4⟩, h5⟩ := hi
   obtain ⟨m1, m2, m3, m4⟩ := MEM.out _ _ W h2
   exact ⟨m4, m1.cg, m1.ls.none, fun j hj => ⟨_, (h3 j hj).1⟩⟩
  ·obtain ⟨⟨wl, X, h1, h2, h3, h4⟩, h5⟩ := h
   have hf : wl i = false := by have := (h3 i hi).1; rw [hc] at this; simpa using this
   exact ⟨⟨wl, X, h1.trans (forD_skip hi hf), h2, h3, fun j hj => h4 j (by omega)⟩, h5⟩
 case assign =>
  intro l i W K hik hK
  unfold eEnc
  refine wpIn_seq (round_list (fun _ _ h => h) (by kernel_rfl) ?_)
  go_wp2
  refine round_list (fun _ _ h => h) (by kernel_rfl) ?_
  go_wp2
  exact hK
 case done =>
  intro D W hD hi hd
  obtain ⟨⟨wl, X, h1, h2, h3, h4⟩, h5⟩ := hi
  have hR2 : R = (false, wl, X) := by rw [h1, Nat.sub_self]; rfl
  have c5 : W.cell? ⟨w1.heap.size + 1 + 1, 0, none⟩ = some .nilIface := h5.cell 0
  have ht : Tn W0.heap.size W (W.putObj D (.deferred none)) := Tn.put _ hD hd rfl
  have FIN : Hid (FFat w w1 T k p bw R (.returned .nilIface) (W.putObj D (.deferred none))) := by
   have f2 := h2.tn ht hwW
   obtain ⟨T', hg, hf⟩ := f2.ex
   refine ⟨by rw [hR2]; rfl, ⟨T', ⟨hg.1, fun b hb => (hg.2 b hb).imp id (fun h => by omega)⟩, by rw [hR2]; exact hf⟩, (Only.of_below HB0.out).then f2.on (fun b hb hx => hx.elim .inl (fun hx => hx.elim .inr (fun hx => by omega))), by rw [hR2]; exact h3.tn ht⟩
  refine hKx _ _ ?_
  dsimp only [endAct]
  clear hKx h1 h2 h3 h4 h5 ht
  go_wp2
  rw [Exit.noGoto_ret]
  refine ⟨by simp, .inl ⟨_, _, rfl, run_takeDeferred hd, ?_⟩⟩
  refine ⟨_, results_tmp rfl _ _ _, ?_⟩
  exact FIN.out
 case stop =>
  intro D c W hD hi hd
  obtain ⟨rfl, h1, h2, h3, h5⟩ := hi
  have c5 : W.cell? ⟨w1.heap.size + 1 + 1, 0, none⟩ = some (brk 11) := h5.cell 0
  have ht : Tn W0.heap.size W (W.putObj D (.deferred none)) := Tn.put _ hD hd rfl
  have FIN : Hid (FFat w w1 T k p bw R (.returned (brk 11)) (W.putObj D (.deferred none))) := by
   have f2 := h2.tn ht hwW
   obtain ⟨T', hg, hf⟩ := f2.ex
   refine ⟨by rw [h1]; rfl, ⟨T', ⟨hg.1, fun b hb => (hg.2 b hb).imp id (fun h => by omega)⟩, hf⟩, (Only.of_below HB0.out).then f2.on (fun b hb hx => hx.elim .inl (fun hx => hx.elim .inr (fun hx => by omega))), h3.tn ht⟩
  refine wpIn_exit ?_
  refine hKx _ _ ?_
  dsimp only [endAct]
  clear hKx h1 h2 h3 h5 ht
  go_wp2
  rw [Exit.noGoto_ret]
  refine ⟨by simp, .inl ⟨_, _, rfl, run_takeDeferred hd, ?_⟩⟩
  refine ⟨_, results_tmp rfl _ _ _, ?_⟩
  exact FIN.out
 case body =>
  intro l i W hik hi hen
  clear hsz
  obtain ⟨⟨wl, X, hRR, hFI, hWl, hsm⟩, her⟩ := hi
  have hwl : wl i = true := by have := (hWl i hik).1; rw [hen] at this; simpa using this
  obtain ⟨m1, m2, m3, m4⟩ := MEM.out _ _ W hFI
  obtain ⟨fb, fo, hfp, hfc, hrow⟩ := row_at m1.fs (i := i) (by rw [m1.fl]; exact hik)
  have hlen : fv.l.length = k := m1.fl
  have h8 := m1.f8 i hik
  have efl : fv.fl i = (fv.l.getD i default).fl := rfl
  have c0 : W.cell? ⟨w1.heap.size, 0, none⟩ = some (ptr g) := m2.cell 0
  have c1 : W.cell? ⟨g, 1, none⟩ = some (.slice (some ⟨fb, fo, none⟩) k fv.c) := by have := m1.cg.cell 1; rw [this, ← hfp, ← hlen]; rfl
  have hrk : ∀ W', fv.ok W' (fun b => T b ∨ b = bw) → (fv.l.getD i default).ok W' (fun b => T b ∨ b = bw) := fun W' h => h.el _ (by rw [getD_in _ _ _ (by rw [hlen]; exact hik)]; exact List.getElem_mem _)
  generalize fv.l.getD i default = row at *
  obtain ⟨rpo, rc, rl⟩ := row
  have hfc' : W.cell? ⟨fb, fo + i, none⟩ = some (.slice rpo rl.length rc) := hfc
  have hrl : rl.length ≤ 8 := by rw [efl] at h8; simpa [RowV.fl] using h8
  have hik' : (i : Int) < (k : Int) := by omega
  have J0 : Hid (FJF w w1 W0 W T fv bw k p X wl i 0 W) := ⟨⟨X.d i, X.f, rfl, by rw [upd_id]; exact hFI, by rw [hsm i (Nat.le_refl _)]; exact HB.out i hik⟩, hWl, her, KpL.refl _ _⟩
  have HRK := hid hrk
  have HRR := hid hRR
  have HSM := hid hsm
  have HWL := hid hwl
  have HEFL := hid efl
  clear hFI hWl her m1 m2 m3 m4 hrow hRR hsm hwl efl hfc hen hrk
  refine wpIn_block (wpIn_seq (round_list (fun _ _ h => h) (by kernel_rfl) ?_))
  go_wp2
  clear c0 c1 hfc'
  refine wpIn_block ?_
  gi_loopw [23] (fun v wr => ∃ j : Nat, j ≤ rl.length ∧ v = .int .i64 (j : Int) ∧ FJF w w1 W0 W T fv bw k p X wl i j wr) (fun v _ => (100 - intOf v).toNat)
  case atStart => exact ⟨0, by omega, rfl, J0.out⟩
  case round =>
   obtain ⟨j, hj, rfl, hJ⟩ := hrel
   obtain ⟨⟨dj, fj, hfor, hFI, hbd⟩, hWl, her, hkp⟩ := hJ
   have hjf : IntKind.i64.wrap ((j : Int) + 1) = (j : Int) + 1 := IntWalk.i64_in _ ⟨by omega, by omega⟩
   refine wpIn_seq (round_list (fun _ _ h => h) (by kernel_rfl) ?_)
   by_cases hlt : j < rl.length
   ·have hlt' : (j : Int) < (rl.length : Int) := by omega
    go_wp2
    refine wpIn_seq (wpIn_cond_true rfl (wpIn_skip ?_))
    obtain ⟨m1, m2, m3, m4⟩ := MEM.out _ _ wr hFI
    have hrow2 : (RowV.mk rpo rc rl).ok wr (fun b => T b ∨ b = bw) := by
     exact HRK.out wr m1.fs
    obtain ⟨b, o, hrp, cf0, cf1, hfo⟩ := file_at' hrow2 (j := j) hlt
    have hrp' : rpo = some ⟨b, o, none⟩ := hrp
    subst hrp'
    generalize hx : rl.getD j default = x at *
    obtain ⟨nm, pb, cb, bs⟩ := x
    have cf0' : wr.cell? ⟨b, o + j * 2, none⟩ = some (sv nm) := cf0
    have cf1' : wr.cell? ⟨b, o + j * 2 + 1, none⟩ = some (.slice pb bs.length cb) := cf1
    have cd : wr.cell? ⟨w1.heap.size + 1, 0, none⟩ = some (.func (.func 62) #[] #[]) := m3.cell 0
    have hdrop : (fv.fl i).drop j = (nm, bs) :: (fv.fl i).drop (j + 1) := by rw [HEFL.out, fl_drop (r := ⟨some ⟨b, o, none⟩, rc, rl⟩) (j := j) hlt]; show (rl.getD j default).fl :: _ = _; rw [hx]; rfl
    have hnm : nm.length ≤ 1000 := HN.out i hik (nm, bs) (by have : (nm, bs) ∈ (fv.fl i).drop j := (by rw [hdrop]; exact List.mem_cons_self); exact List.mem_of_mem_drop this)
    rw [hdrop] at hfor
    have hbA : Below wr.heap.size wr (wr.alloc (.cells #[sv nm, .slice pb bs.length cb] 47)) := (Below.refl _ _).alloc (Nat.le_refl _) _
    have hFA := hFI.below hbA
    have hcA := CAt.made wr #[sv nm, .slice pb bs.length cb] 47
    have hbt : BAt (wr.alloc (.cells #[sv nm, .slice pb bs.length cb] 47)) pb bs := hfo.bt.keepB hbA
    have HST := hid (hFA.step hik (fun fu S m L hd hf => commit2_any hd hf (nm, bs) pb bs.length cb hnm (by rw [upd_same]; have := hbd.2; omega) (by rw [upd_same]; have := hbd.1; omega)) (fin_sm _ _ _))
    have HWA : Hid (WlAt (wr.alloc (.cells #[sv nm, .slice pb bs.length cb] 47)) bw k wl) := hWl.keep (hbA.block bw (by have := hFI.sz; have := HSZ.out; have := HBW.out; omega))
    have HEA := hid (her.below hbA)
    have HKA := hid (hkp.trans (KpL.below hbA))
    have cdA : (wr.alloc (.cells #[sv nm, .slice pb bs.length cb] 47)).cell? ⟨w1.heap.size + 1, 0, none⟩ = some (.func (.func 62) #[] #[]) := (m3.below hbA).cell 0
    have cA0 : (wr.alloc (.cells #[sv nm, .slice pb bs.length cb] 47)).cell? ⟨wr.heap.size, 0, none⟩ = some (sv nm) := hcA.cell 0
    have cA1 : (wr.alloc (.cells #[sv nm, .slice pb bs.length cb] 47)).cell? ⟨wr.heap.size, 1, none⟩ = some (.slice pb bs.length cb) := hcA.cell 1
    rw [upd_same, upd_upd] at HST
    have hcd := fin_cd dj fj (nm, bs)
    have HBD := hid (bnd_fin hbd fj (nm, bs))
    have hforL : forL fin ((nm, bs) :: (fv.fl i).drop (j + 1)) dj fj = if (fin dj fj (nm, bs)).1 = 0 then forL fin ((fv.fl i).drop (j + 1)) (fin dj fj (nm, bs)).2.1 (fin dj fj (nm, bs)).2.2 else fin dj fj (nm, bs) := rfl
    rw [hforL] at hfor
    clear hforL
    generalize fin dj fj (nm, bs) = r at *
    have HFOR := hid hfor
    clear cf0 cf1 hfor hdrop hFI hFA hWl her hkp m1 m2 m3 m4 hrow2 hfo hbt hbA hcA hx hbd cd hrp
    refine wpIn_seq (wpIn_block (wpIn_seq (round_list (fun _ _ h => h) (by kernel_rfl) ?_)))
    go_wp2
    clear cf0' cf1'
    generalize wr.alloc (.cells #[sv nm, .slice pb bs.length cb] 47) = wA at *
    refine wpIn_seq (round_list (fun _ _ h => h) (by kernel_rfl) ?_)
    go_wp2_with (go_at_call 62; refine HST.out.mono ?_; rintro e w5 ⟨rfl, hs5⟩; have HS5 := hid hs5; clear hs5)
    obtain ⟨f5, k5, q5⟩ := HS5.out
    have herr : w1.heap.size + 1 + 1 < W0.heap.size := by have := HSZ.out; omega
    have e5 : CAt w5 (w1.heap.size + 1 + 1) #[.nilIface] 98 := HEA.out.kpl q5 (Nat.zero_le _) rfl
    have ce5 : w5.cell? ⟨w1.heap.size + 1 + 1, 0, none⟩ = some .nilIface := e5.cell 0
    have fe5 : w5.frozen? ⟨w1.heap.size + 1 + 1, 0, none⟩ = false := e5.free 0
    have F6 : Hid (∀ v, FI w W0 T (fun b => b = bw ∨ b = w1.heap.size + 1 + 1) k p (upd X.d i r.2.1) r.2.2 (w5.setCell ⟨w1.heap.size + 1 + 1, 0, none⟩ v)) := fun v => f5.set (.inr rfl) herr (fun ht => by have := HTL.out _ ht; omega) (by have := HBE.out.size; omega) 0 v
    have W6 : Hid (∀ v, WlAt (w5.setCell ⟨w1.heap.size + 1 + 1, 0, none⟩ v) bw k wl) := fun v => (HWA.out.keep (k5 bw (by have := HSZ.out; have := HBW.out; omega) HWT.out)).keep (heap_setCell_ne _ _ _ _ (by show bw ≠ w1.heap.size + 1 + 1; have := HBW.out; omega))
    have E6 : Hid (∀ v, CAt (w5.setCell ⟨w1.heap.size + 1 + 1, 0, none⟩ v) (w1.heap.size + 1 + 1) #[v] 98) := fun v => by have := e5.set 0 v; simpa using this
    have K6 : Hid (∀ v, KpL W0.heap.size W (w5.setCell ⟨w1.heap.size + 1 + 1, 0, none⟩ v)) := fun v => (HKA.out.trans (q5.mono (Nat.zero_le _))).trans (KpL.set herr _ _ _)
    clear f5 k5 q5 e5 cdA cA0 cA1 HS5 HST HEA HWA HKA
    refine wpIn_seq (wpIn_seq (round_list (fun _ _ h => h) (by kernel_rfl) ?_))
    by_cases h11 : r.1 = 11
    ·have hb11 : brk 11 = .iface 160 (.agg #[.int .i64 11]) := rfl
     rw [h11]
     go_wp2_with (go_at_call 113; refine (breaks_any 11 _ (by omega)).mono ?_; rintro e w6 ⟨rfl, hw6⟩; have hw6' := hw6.symm; subst hw6'; rw [hb11])
     have e6 := E6.out (brk 11)
     rw [hb11] at e6
     have ce6 := e6.cell 0
     have FIN : Hid (rdP W0.heap.size (FIF w w1 W0 T g lv fv bw cw k p X0 R (i + 1)) (FXF w w1 W0 T bw k p R) W (.exit 0) { tmps := #[], defers := [] } (w5.setCell ⟨w1.heap.size + 1 + 1, 0, none⟩ (.iface 160 (.agg #[.int .i64 11])))) := by
      have hR2 : R = (true, wl, ⟨upd X.d i r.2.1, r.2.2⟩) := by
       rw [HRR.out, forD_brk hik HWL.out rfl (by rw [HFOR.out, if_neg (by omega)]; exact h11), HFOR.out, if_neg (by omega)]
      exact ⟨K6.out _, rfl, by rw [hR2], by rw [hR2]; exact F6.out _, by rw [hR2]; exact W6.out _, E6.out _⟩
     generalize w5.setCell ⟨w1.heap.size + 1 + 1, 0, none⟩ (.iface 160 (.agg #[.int .i64 11])) = w7 at *
     refine wpIn_seq (round_list (fun _ _ h => h) (by kernel_rfl) ?_)
     go_wp2
     refine wpIn_cond_true rfl (wpIn_exit ?_)
     exact FIN.out
    ·have hbn : brk r.1 = .nilIface := by unfold brk; rw [if_neg h11]
     go_wp2_with (go_at_call 113; refine (breaks_any r.1 _ (by omega)).mono ?_; rintro e w6 ⟨rfl, hw6⟩; have hw6' := hw6.symm; subst hw6'; rw [hbn])
     have f7 := F6.out .nilIface
     have wl7 := W6.out .nilIface
     have e7 := E6.out .nilIface
     have k7 := K6.out .nilIface
     have ce7 : (w5.setCell ⟨w1.heap.size + 1 + 1, 0, none⟩ .nilIface).cell? ⟨w1.heap.size + 1 + 1, 0, none⟩ = some .nilIface := e7.cell 0
     clear ce5 fe5
     generalize w5.setCell ⟨w1.heap.size + 1 + 1, 0, none⟩ .nilIface = w7 at *
     clear F6 W6 E6 K6
     obtain ⟨m1, m2, m3, m4⟩ := MEM.out _ _ w7 f7
     have c7 : w7.cell? ⟨w1.heap.size, 0, none⟩ = some (ptr g) := m2.cell 0
     have g7 : w7.cell? ⟨g, 2, none⟩ = some (.slice (some ⟨bw, 0, none⟩) k cw) := m1.cg.cell 2
     have wc7 := (wl7 i hik).1
     have wf7 := (wl7 i hik).2
     have HF7 := hid f7
     have HW7 := hid wl7
     have HE7 := hid e7
     have HK7 := hid k7
     clear f7 wl7 e7 k7 m1 m2 m3 m4
     refine wpIn_seq (round_list (fun _ _ h => h) (by kernel_rfl) ?_)
     go_wp2
     refine wpIn_cond_false rfl (wpIn_skip ?_)
     refine wpIn_seq (round_list (fun _ _ h => h) (by kernel_rfl) ?_)
     by_cases h0 : r.1 = 0
     ·have h0' : ((r.1 : Nat) : Int) = 0 := by omega
      go_wp2
      refine wpIn_cond_false rfl (wpIn_skip ?_)
      refine round_list (fun _ _ h => h) (by kernel_rfl) ?_
      go_wp2
      refine ⟨⟨.pointer (some ⟨wr.heap.size, 0, none⟩), .int .i64 (r.1 : Int), .int .i64 ((j : Int) + 1), ⟨j + 1, hlt, by congr 1, ⟨⟨r.2.1, r.2.2, by rw [HFOR.out, if_pos h0], HF7.out, by have := HBD.out; rwa [show 10000000000 + 2 * (j + 1) = 10000000000 + 2 * j + 2 by omega]⟩, HW7.out, HE7.out, HK7.out⟩⟩, ?_⟩, ?_⟩
      ·exact ⟨_, _, _, _, _, _, _, _, _, _, _, _, _, _, _, _, _, _, _, _, rfl⟩
      ·simp [intOf]; omega
     ·have h0' : (((r.1 : Nat) : Int) != 0) = true := by simp; omega
      have FIN : Hid (rdP W0.heap.size (FIF w w1 W0 T g lv fv bw cw k p X0 R (i + 1)) (FXF w w1 W0 T bw k p R) W .normal { tmps := #[], defers := [] } (w7.setCell ⟨bw, i, none⟩ (.bool false))) := by
       have hbs : bw < W0.heap.size := by have := HSZ.out; have := HBW.out; omega
       refine ⟨HK7.out.trans (KpL.set hbs _ _ _), ⟨⟨upd wl i false, ⟨upd X.d i r.2.1, r.2.2⟩, ?_, HF7.out.set (.inl rfl) hbs HWT.out HWW.out i _, HW7.out.set hik false, fun q hq => ?_⟩, HE7.out.keep (heap_setCell_ne _ _ _ _ (by show w1.heap.size + 1 + 1 ≠ bw; have := HBW.out; omega))⟩⟩
       ·rw [HRR.out, forD_bad hik HWL.out rfl (by rw [HFOR.out, if_neg h0]; exact h11) (by rw [HFOR.out, if_neg h0]; exact h0), HFOR.out, if_neg h0]
       ·show upd X.d i r.2.1 q = _
        rw [upd_ne _ _ (by omega)]; exact HSM.out q (by omega)
      go_wp2
      refine wpIn_cond_true rfl (wpIn_seq (round_list (fun _ _ h => h) (by kernel_rfl) ?_))
      go_wp2
      refine wpIn_exit ?_
      exact FIN.out
   ·have hlt' : ¬ (j : Int) < (rl.length : Int) := by omega
    go_wp2
    refine wpIn_seq (wpIn_cond_false rfl (wpIn_exit ?_))
    have hnil : (fv.fl i).drop j = [] := by rw [HEFL.out]; apply List.drop_eq_nil_of_le; simp [RowV.fl]; omega
    rw [hnil] at hfor
    have hz : (forL fin (fv.fl i) (X.d i) X.f).1 = 0 := by rw [hfor]; rfl
    refine ⟨hkp, ⟨⟨wl, ⟨upd X.d i dj, fj⟩, ?_, hFI, hWl, fun q hq => ?_⟩, her⟩⟩
    ·rw [HRR.out, forD_ok hik HWL.out rfl hz, hfor]; rfl
    ·show upd X.d i dj q = _
     rw [upd_ne _ _ (by omega)]; exact HSM.out q (by omega)
end Go.Proofs.YtfogkegmdgbecaaGreatDoor
