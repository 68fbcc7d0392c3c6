/- Texts laid into one, cut to what is needed: the remark ahead of each part says what is proved there. -/
import Derived.Test.YtfogkegmdgbecaaGreatDoorPar
/- deleteEach (C). -/
namespace Go.Proofs.YtfogkegmdgbecaaGreatDoor
open Go Go.RowKit Go.Shelf

structure DIC (w w1 W0 : World) (T : Nat → Prop) (k : Nat) (p : Nat → Nat) (nm : Nat → Pd → Fs → Nat × List Nm) (X0 : FS) (R : Bool × Nat × FS) (i : Nat) (W : World) : Prop where
 ex : ∃ n X, R = delD nm (k - i) i n X ∧ FI w W0 T (fun b => b = w1.heap.size + 1 ∨ b = w1.heap.size + 1 + 1 ∨ b = w1.heap.size + 1 + 1 + 1) k p X.d X.f W ∧ CAt W (w1.heap.size + 1 + 1 + 1) #[.int .i64 (n : Int)] 3 ∧ n ≤ i * 10000000000 ∧ ∀ j, i ≤ j → X.d j = X0.d j
 r1 : CAt W (w1.heap.size + 1) #[.int .i64 0] 3
 r2 : CAt W (w1.heap.size + 1 + 1) #[.nilIface] 98
def DXC (w w1 W0 : World) (T : Nat → Prop) (k : Nat) (p : Nat → Nat) (R : Bool × Nat × FS) (c : Code) (W : World) : Prop :=
 c = .ret ∧ R.1 = true ∧ FI w W0 T (fun b => b = w1.heap.size + 1 ∨ b = w1.heap.size + 1 + 1 ∨ b = w1.heap.size + 1 + 1 + 1) k p R.2.2.d R.2.2.f W ∧ CAt W (w1.heap.size + 1) #[.int .i64 0] 3 ∧ CAt W (w1.heap.size + 1 + 1) #[brk 11] 98
structure DJC (w w1 W0 Wi : World) (T : Nat → Prop) (k : Nat) (p : Nat → Nat) (X : FS) (ns : List Nm) (v : Value) (n i j : Nat) (W : World) : Prop where
 ex : ∃ dj fj nj, delL ns (X.d i) X.f n = delL (ns.drop j) dj fj nj ∧ FI w W0 T (fun b => b = w1.heap.size + 1 ∨ b = w1.heap.size + 1 + 1 ∨ b = w1.heap.size + 1 + 1 + 1) k p (upd X.d i dj) fj W ∧ CAt W (w1.heap.size + 1 + 1 + 1) #[.int .i64 (nj : Int)] 3 ∧ nj ≤ n + j ∧ Bnd 10000000000 (10000000000 + j) dj
 tx : TxtL 0 W v ns
 r1 : CAt W (w1.heap.size + 1) #[.int .i64 0] 3
 r2 : CAt W (w1.heap.size + 1 + 1) #[.nilIface] 98
 kp : KpL W0.heap.size Wi W
set_option maxHeartbeats 4000000 in
set_option maxRecDepth 100000 in
theorem deleteEachC {w w1 : World} {T : Nat → Prop} {k : Nat} {p : Nat → Nat} {X0 : FS} (h : FA w w1 T k p X0.d X0.f 0) {lv : Value} (hl : LsAt w1 T lv k p) (hk : 1 ≤ k ∧ k ≤ 16) (Bx : Nat) (nm : Nat → Pd → Fs → Nat × List Nm)
  (hB : ∀ i, i < k → Bnd 10000000000 10000000000 (X0.d i)) (hN : ∀ i f, i < k → (nm i (X0.d i) f).2.length ≤ 10000000000 ∧ (nm i (X0.d i) f).1 ≤ 1000 ∧ ∀ s ∈ (nm i (X0.d i) f).2, s.length ≤ maxLen)
  (hnm : ∀ i d f W, i < k → Ctx w w1 T k p d f W → Bnd 10000000000 10000000000 (d i) → Calls Tryz.prog 82 #[.int .i64 (i : Int), ptr (p i), ptr Bx] W (NmAt W (nm i (d i) f))) :
  Calls Tryz.prog 78 #[lv, .func (.func 82) #[] #[ptr Bx]] w1 (DEat w w1 T k p (delD nm k 0 0 X0)) := by
 obtain ⟨R, hR⟩ : ∃ R, R = delD nm k 0 0 X0 := ⟨_, rfl⟩
 rw [← hR]
 obtain ⟨po, cc, rfl⟩ := hl.form
 have HR := hid hR
 have HB := hid hB
 have HN := hid hN
 have HK := hid hk
 have HL := hid hl
 have HBE := hid h.be
 have HNM := hid hnm
 have hmf := run_mf Tryz.prog
 clear hR hB hN hnm hl
 refine (callsIn_wide (n := 0)).1 ?_
 refine callsIn_of_wp_marks Tryz.func78 rfl trivial ?_ rfl
 refine wpIn_wide.2 ?_
 simp only [Tryz.ntmps78, List.size_toArray, List.length_cons, List.length_nil, Nat.reduceAdd, Nat.reduceSub, Array.replicate_succ, Array.replicate_zero, List.push_toArray, List.append_toArray, List.nil_append, List.cons_append]
 go_wp2_with (go_at_call 73; refine (each_any _ _ _ _).mono ?_; rintro e w5 ⟨rfl, rfl⟩)
 rename_i Kx hKx
 refine (wpIn_wide (n := 0)).1 ?_
 have hb0 : Below w1.heap.size w1 (((((w1.alloc (.cells #[.func (.func 82) #[] #[ptr Bx]] 122)).alloc (.cells #[.int .i64 0] 3)).alloc (.cells #[.nilIface] 98)).alloc (.cells #[.int .i64 0] 3)).alloc (.cells #[.slice po k cc] 23)) := (below3 _ _ _ _ _).alloc (below3 _ _ _ _ _).size _
 have x0 := ((((CAt.made w1 #[.func (.func 82) #[] #[ptr Bx]] 122).old (.cells #[.int .i64 0] 3)).old (.cells #[.nilIface] 98)).old (.cells #[.int .i64 0] 3)).old (.cells #[.slice po k cc] 23)
 have x1 := (((CAt.made (w1.alloc (.cells #[.func (.func 82) #[] #[ptr Bx]] 122)) #[.int .i64 0] 3).old (.cells #[.nilIface] 98)).old (.cells #[.int .i64 0] 3)).old (.cells #[.slice po k cc] 23)
 have x2 := ((CAt.made ((w1.alloc (.cells #[.func (.func 82) #[] #[ptr Bx]] 122)).alloc (.cells #[.int .i64 0] 3)) #[.nilIface] 98).old (.cells #[.int .i64 0] 3)).old (.cells #[.slice po k cc] 23)
 have x3 := (CAt.made (((w1.alloc (.cells #[.func (.func 82) #[] #[ptr Bx]] 122)).alloc (.cells #[.int .i64 0] 3)).alloc (.cells #[.nilIface] 98)) #[.int .i64 0] 3).old (.cells #[.slice po k cc] 23)
 have x4 := CAt.made ((((w1.alloc (.cells #[.func (.func 82) #[] #[ptr Bx]] 122)).alloc (.cells #[.int .i64 0] 3)).alloc (.cells #[.nilIface] 98)).alloc (.cells #[.int .i64 0] 3)) #[.slice po k cc] 23
 have hsz : ((((((w1.alloc (.cells #[.func (.func 82) #[] #[ptr Bx]] 122)).alloc (.cells #[.int .i64 0] 3)).alloc (.cells #[.nilIface] 98)).alloc (.cells #[.int .i64 0] 3)).alloc (.cells #[.slice po k cc] 23))).heap.size = w1.heap.size + 5 := by simp
 simp only [World.size_alloc] at x1 x2 x3 x4
 generalize (((((w1.alloc (.cells #[.func (.func 82) #[] #[ptr Bx]] 122)).alloc (.cells #[.int .i64 0] 3)).alloc (.cells #[.nilIface] 98)).alloc (.cells #[.int .i64 0] 3)).alloc (.cells #[.slice po k cc] 23)) = W0 at hb0 x0 x1 x2 x3 x4 hsz ⊢
 have hTl : ∀ b, T b → b < w1.heap.size := h.lt
 have hA0 : FA w W0 T k p X0.d X0.f 0 := h.below hb0
 have mem : ∀ d f W, FI w W0 T (fun b => b = w1.heap.size + 1 ∨ b = w1.heap.size + 1 + 1 ∨ b = w1.heap.size + 1 + 1 + 1) k p d f W → CAt W w1.heap.size #[.func (.func 82) #[] #[ptr Bx]] 122 ∧ CAt W (w1.heap.size + 1 + 1 + 1 + 1) #[.slice po k cc] 23 ∧ LsAt W T (.slice po k cc) k p ∧ Ctx w w1 T k p d f W := fun d f W hf =>
  have bx : ∀ b, w1.heap.size ≤ b → b < W0.heap.size → b ≠ w1.heap.size + 1 → b ≠ w1.heap.size + 1 + 1 → b ≠ w1.heap.size + 1 + 1 + 1 → W.heap[b]? = W0.heap[b]? := fun b h1 h2 h3 h4 h5 => hf.on.block b h2 fun e => e.elim (fun ht => by have := hTl b ht; omega) (fun e => e.elim h3 (fun e => e.elim h4 h5))
  have lo : ∀ b, b < w1.heap.size → ¬ T b → W.heap[b]? = w1.heap[b]? := fun b hb hT => hf.keepX hb0 hb hT (fun e => by omega)
  ⟨x0.keep (bx _ (by omega) (by omega) (by omega) (by omega) (by omega)), x4.keep (bx _ (by omega) (by omega) (by omega) (by omega) (by omega)), HL.out.keep lo (fun _ _ h => h), by obtain ⟨T', hg, hf2⟩ := hf.ex; exact ⟨⟨T', hf2⟩, lo, Nat.le_trans hb0.size hf.sz⟩⟩
 have MEM := hid mem
 have HTL := hid hTl
 have HSZ := hid hsz
 have HB0 := hid hb0
 have hwW : w.heap.size ≤ W0.heap.size := by have := HBE.out.size; omega
 have hwW1 : Hid (w.heap.size ≤ w1.heap.size) := HBE.out.size
 clear mem x0 x4 h
 refine range_plain (gf := 121) (lb := #[ptr (w1.heap.size + 1 + 1 + 1 + 1)]) rfl (enters_of Tryz.func121 (by kernel_rfl) rfl) k (eEnc p) (fun _ => rfl) (fun _ _ => True) (DIC w w1 W0 T k p nm X0 R)
  (DXC w w1 W0 T k p R) (fun _ _ _ h _ => h) ?hI ?hIx ?h0 ?hseq ?asg ?assign ?body ?done ?stop
 case hI =>
  intro i A C hi ht
  obtain ⟨⟨n, X, h1, h2, h3, h4, h5⟩, h6, h7⟩ := hi
  exact ⟨⟨n, X, h1, h2.tn ht hwW, h3.tn ht, h4, h5⟩, h6.tn ht, h7.tn ht⟩
 case hIx =>
  intro c A C hi ht
  obtain ⟨h1, h2, h3, h4, h5⟩ := hi
  exact ⟨h1, h2, h3.tn ht hwW, h4.tn ht, h5.tn ht⟩
 case h0 => exact ⟨⟨0, X0, HR.out, FI.start hA0, x3, by omega, fun _ _ => rfl⟩, x1, x2⟩
 case hseq =>
  refine each_it _ _ (.slice po k cc) k p _ (by have := HK.out.2; omega) fun i W hi => ?_
  obtain ⟨⟨n, X, h1, h2, h3, h4, h5⟩, h6, h7⟩ := hi
  obtain ⟨m1, m2, m3, m4⟩ := MEM.out _ _ W h2
  exact ⟨m2, m3.none⟩
 case assign =>
  intro l i W K hik hK
  unfold eEnc
  refine wpIn_seq (round_list (fun _ _ h => h) (by kernel_rfl) ?_)
  go_wp2
  refine round_list (fun _ _ h => h) (by kernel_rfl) ?_
  go_wp2
  exact hK
 case done =>
  intro D W hD hi hd
  obtain ⟨⟨n, X, h1, h2, h3, h4, h5⟩, h6, h7⟩ := hi
  have hR2 : R = (false, n, X) := by rw [h1, Nat.sub_self]; rfl
  have c6 : W.cell? ⟨w1.heap.size + 1 + 1 + 1, 0, none⟩ = some (.int .i64 (n : Int)) := h3.cell 0
  have a1 : W.cell? ⟨w1.heap.size + 1, 0, none⟩ = some (.int .i64 0) := h6.cell 0
  have y1 : W.frozen? ⟨w1.heap.size + 1, 0, none⟩ = false := h6.free 0
  have g2 := h2.set (b := w1.heap.size + 1) (.inl rfl) (by omega) (fun ht => by have := HTL.out _ ht; omega) (by have := hwW1.out; omega) 0 (.int .i64 (n : Int))
  have r7 : CAt (W.setCell ⟨w1.heap.size + 1, 0, none⟩ (.int .i64 (n : Int))) (w1.heap.size + 1 + 1) #[.nilIface] 98 := h7.keep (heap_setCell_ne _ _ _ _ (by show w1.heap.size + 1 + 1 ≠ w1.heap.size + 1; omega))
  have r6 : CAt (W.setCell ⟨w1.heap.size + 1, 0, none⟩ (.int .i64 (n : Int))) (w1.heap.size + 1) #[.int .i64 (n : Int)] 3 := by have := h6.set 0 (.int .i64 (n : Int)); simpa using this
  have a2 : (W.setCell ⟨w1.heap.size + 1, 0, none⟩ (.int .i64 (n : Int))).cell? ⟨w1.heap.size + 1 + 1, 0, none⟩ = some .nilIface := r7.cell 0
  have y2 : (W.setCell ⟨w1.heap.size + 1, 0, none⟩ (.int .i64 (n : Int))).frozen? ⟨w1.heap.size + 1 + 1, 0, none⟩ = false := r7.free 0
  have g3 := g2.set (b := w1.heap.size + 1 + 1) (.inr (.inl rfl)) (by omega) (fun ht => by have := HTL.out _ ht; omega) (by have := hwW1.out; omega) 0 .nilIface
  have r8 : CAt ((W.setCell ⟨w1.heap.size + 1, 0, none⟩ (.int .i64 (n : Int))).setCell ⟨w1.heap.size + 1 + 1, 0, none⟩ .nilIface) (w1.heap.size + 1 + 1) #[.nilIface] 98 := by have := r7.set 0 .nilIface; simpa using this
  have r9 : CAt ((W.setCell ⟨w1.heap.size + 1, 0, none⟩ (.int .i64 (n : Int))).setCell ⟨w1.heap.size + 1 + 1, 0, none⟩ .nilIface) (w1.heap.size + 1) #[.int .i64 (n : Int)] 3 := r6.keep (heap_setCell_ne _ _ _ _ (by show w1.heap.size + 1 ≠ w1.heap.size + 1 + 1; omega))
  have hd2 : ((W.setCell ⟨w1.heap.size + 1, 0, none⟩ (.int .i64 (n : Int))).setCell ⟨w1.heap.size + 1 + 1, 0, none⟩ .nilIface).heap[D]? = some (.deferred (some [])) := (heap_setCell_ne _ _ _ _ (by show D ≠ w1.heap.size + 1 + 1; omega)).trans ((heap_setCell_ne _ _ _ _ (by show D ≠ w1.heap.size + 1; omega)).trans hd)
  refine hKx _ _ ?_
  dsimp only [endAct]
  clear hKx h1 h2 h3 h4 h5 h6 h7 g2 r6 r7 hd
  go_wp2
  clear a1 y1 a2 y2 c6
  generalize ((W.setCell ⟨w1.heap.size + 1, 0, none⟩ (.int .i64 (n : Int))).setCell ⟨w1.heap.size + 1 + 1, 0, none⟩ .nilIface) = w7 at *
  have ht : Tn W0.heap.size w7 (w7.putObj D (.deferred none)) := Tn.put _ (by omega) hd2 rfl
  refine ⟨by simp, .inl ⟨_, _, rfl, run_takeDeferred hd2, ?_⟩⟩
  have q4 := (r9.tn ht).cell 0
  have q5 := (r8.tn ht).cell 0
  refine ⟨.tuple #[.int .i64 (n : Int), .nilIface], ?_, ?_⟩
  ·simp [results, Tryz.f78, go_sem, q4, q5]
  ·have f2 := g3.tn ht hwW
   obtain ⟨T', hg, hf⟩ := f2.ex
   refine ⟨by rw [hR2]; rfl, ⟨T', ⟨hg.1, fun b hb => (hg.2 b hb).imp id (fun h => by omega)⟩, by rw [hR2]; exact hf⟩, (Only.of_below HB0.out).then f2.on (fun b hb hx => hx.elim id (fun hx => by omega))⟩
 case stop =>
  intro D c W hD hi hd
  obtain ⟨rfl, h1, h2, h3, h5⟩ := hi
  have ht : Tn W0.heap.size W (W.putObj D (.deferred none)) := Tn.put _ (by omega) hd rfl
  refine wpIn_ret ?_
  refine ⟨by simp, .inl ⟨_, _, rfl, run_takeDeferred hd, ?_⟩⟩
  have q4 := (h3.tn ht).cell 0
  have q5 := (h5.tn ht).cell 0
  refine ⟨.tuple #[.int .i64 0, brk 11], ?_, ?_⟩
  ·simp [results, Tryz.f78, endAct, go_sem, q4, q5]
  ·have f2 := h2.tn ht hwW
   obtain ⟨T', hg, hf⟩ := f2.ex
   refine ⟨by rw [h1]; rfl, ⟨T', ⟨hg.1, fun b hb => (hg.2 b hb).imp id (fun h => by omega)⟩, hf⟩, (Only.of_below HB0.out).then f2.on (fun b hb hx => hx.elim id (fun hx => by omega))⟩
 case body =>
  intro l i W hik hi _
  clear hsz
  obtain ⟨⟨n, X, hRR, hFI, hn, hnb, hsm⟩, hr1, hr2⟩ := hi
  obtain ⟨m1, m2, m3, m4⟩ := MEM.out _ _ W hFI
  have c0 : W.cell? ⟨w1.heap.size, 0, none⟩ = some (.func (.func 82) #[] #[ptr Bx]) := m1.cell 0
  have hbi := HB.out i hik
  rw [← hsm i (Nat.le_refl _)] at hbi
  have HNC := hid (HNM.out i X.d X.f W hik m4 hbi)
  obtain ⟨hq1, hq2, hq3⟩ := HN.out i X.f hik
  rw [← hsm i (Nat.le_refl _)] at hq1 hq2 hq3
  have HBI := hid hbi
  generalize hq : nm i (X.d i) X.f = q at *
  have HQ := hid hq
  have HQ3 := hid hq3
  have HRR := hid hRR
  have HSM := hid hsm
  have HNB := hid hnb
  have S5 : Hid (∀ w5, Below W.heap.size W w5 → FI w W0 T (fun b => b = w1.heap.size + 1 ∨ b = w1.heap.size + 1 + 1 ∨ b = w1.heap.size + 1 + 1 + 1) k p X.d X.f w5 ∧ CAt w5 (w1.heap.size + 1 + 1 + 1) #[.int .i64 (n : Int)] 3 ∧ CAt w5 (w1.heap.size + 1) #[.int .i64 0] 3 ∧ CAt w5 (w1.heap.size + 1 + 1) #[.nilIface] 98) := fun w5 hb => ⟨hFI.below hb, hn.below hb, hr1.below hb, hr2.below hb⟩
  clear hFI hn hr1 hr2 m1 m2 m3 m4 hbi hq hq3 hRR hsm hnb
  refine wpIn_block (wpIn_seq (round_list (fun _ _ h => h) (by kernel_rfl) ?_))
  by_cases h11 : q.1 = 11
  ·have hb11 : brk q.1 = .iface 160 (.agg #[.int .i64 11]) := by rw [h11]; rfl
   go_wp2_with (go_at_call 82; refine HNC.out.mono ?_; rintro e w5 ⟨qpo, qc, rfl, htx, hb5⟩; rw [hb11]; have HB5 := hid hb5; clear hb5 htx)
   obtain ⟨f5, n5, a5, b5⟩ := S5.out w5 HB5.out
   have a1 : w5.cell? ⟨w1.heap.size + 1, 0, none⟩ = some (.int .i64 0) := a5.cell 0
   have y1 : w5.frozen? ⟨w1.heap.size + 1, 0, none⟩ = false := a5.free 0
   have r7 : CAt (w5.setCell ⟨w1.heap.size + 1, 0, none⟩ (.int .i64 0)) (w1.heap.size + 1 + 1) #[.nilIface] 98 := b5.keep (heap_setCell_ne _ _ _ _ (by show w1.heap.size + 1 + 1 ≠ w1.heap.size + 1; omega))
   have a2 : (w5.setCell ⟨w1.heap.size + 1, 0, none⟩ (.int .i64 0)).cell? ⟨w1.heap.size + 1 + 1, 0, none⟩ = some .nilIface := r7.cell 0
   have y2 : (w5.setCell ⟨w1.heap.size + 1, 0, none⟩ (.int .i64 0)).frozen? ⟨w1.heap.size + 1 + 1, 0, none⟩ = false := r7.free 0
   have FIN : Hid (rdP W0.heap.size (DIC w w1 W0 T k p nm X0 R (i + 1)) (DXC w w1 W0 T k p R) W .ret { tmps := #[], defers := [] } ((w5.setCell ⟨w1.heap.size + 1, 0, none⟩ (.int .i64 0)).setCell ⟨w1.heap.size + 1 + 1, 0, none⟩ (.iface 160 (.agg #[.int .i64 11])))) := by
    have z := HSZ.out
    have zw := hwW1.out
    have hR2 : R = (true, n, X) := by rw [HRR.out, delD_err hik HQ.out h11]
    refine ⟨((KpL.below HB5.out).trans (KpL.set (by omega) _ _ _)).trans (KpL.set (by omega) _ _ _), rfl, by rw [hR2], ?_, ?_, ?_⟩
    ·rw [hR2]
     exact (f5.set (b := w1.heap.size + 1) (.inl rfl) (by omega) (fun ht => by have := HTL.out _ ht; omega) (by omega) 0 _).set (b := w1.heap.size + 1 + 1) (.inr (.inl rfl)) (by omega) (fun ht => by have := HTL.out _ ht; omega) (by omega) 0 _
    ·refine CAt.keep (w := w5.setCell ⟨w1.heap.size + 1, 0, none⟩ (.int .i64 0)) ?_ (heap_setCell_ne _ _ _ _ (by show w1.heap.size + 1 ≠ w1.heap.size + 1 + 1; omega))
     have := a5.set 0 (.int .i64 0); simpa using this
    ·have := r7.set 0 (.iface 160 (.agg #[.int .i64 11])); simpa [brk] using this
   clear f5 n5 a5 b5 r7
   refine wpIn_seq (wpIn_seq (round_list (fun _ _ h => h) (by kernel_rfl) ?_))
   go_wp2
   refine wpIn_cond_true rfl (wpIn_seq (round_list (fun _ _ h => h) (by kernel_rfl) ?_))
   go_wp2
   refine wpIn_ret ?_
   exact FIN.out
  ·have hbn : brk q.1 = .nilIface := by unfold brk; rw [if_neg h11]
   go_wp2_with (go_at_call 82; refine HNC.out.mono ?_; rintro e w5 ⟨qpo, qc, rfl, htx, hb5⟩; rw [hbn]; have HB5 := hid hb5; have HTX := hid htx; clear hb5 htx)
   have J0 : Hid (DJC w w1 W0 W T k p X q.2 (.slice qpo q.2.length qc) n i 0 w5) := by
    obtain ⟨f5, n5, a5, b5⟩ := S5.out w5 HB5.out
    exact ⟨⟨X.d i, X.f, n, rfl, by rw [upd_id]; exact f5, n5, Nat.le_refl _, HBI.out⟩, HTX.out, a5, b5, KpL.below HB5.out⟩
   refine wpIn_seq (wpIn_seq (round_list (fun _ _ h => h) (by kernel_rfl) ?_))
   go_wp2
   refine wpIn_cond_false rfl (wpIn_skip ?_)
   refine wpIn_seq (round_list (fun _ _ h => h) (by kernel_rfl) ?_)
   go_wp2
   have hql : (q.2.length : Int) ≤ 10000000000 := by omega
   refine wpIn_block ?_
   gi_loopw [31] (fun v wr => ∃ j : Nat, j ≤ q.2.length ∧ v = .int .i64 (j : Int) ∧ DJC w w1 W0 W T k p X q.2 (.slice qpo q.2.length qc) n i j wr) (fun v _ => ((q.2.length : Int) - intOf v).toNat)
   case atStart => exact ⟨0, Nat.zero_le _, rfl, J0.out⟩
   case round =>
    obtain ⟨j, hj, rfl, hJ⟩ := hrel
    obtain ⟨⟨dj, fj, nj, hdel, hFI, hn, hnj, hbd⟩, htx, hr1, hr2, hkp⟩ := hJ
    have hjf : IntKind.i64.wrap ((j : Int) + 1) = (j : Int) + 1 := IntWalk.i64_in _ ⟨by omega, by omega⟩
    refine wpIn_seq (round_list (fun _ _ h => h) (by kernel_rfl) ?_)
    by_cases hlt : j < q.2.length
    ·have hlt' : (j : Int) < (q.2.length : Int) := by omega
     go_wp2
     refine wpIn_seq (wpIn_cond_true rfl (wpIn_skip ?_))
     rcases htx.at with ⟨he, _⟩ | ⟨b, c, he, hc⟩
     ·rw [he] at hlt; simp at hlt
     have hqp : qpo = some ⟨b, 0, none⟩ := by injection he
     subst hqp
     have hcj := hc j hlt
     have hmem : q.2.getD j [] ∈ q.2 := by rw [getD_in _ _ _ hlt]; exact List.getElem_mem hlt
     have hdrop : q.2.drop j = q.2.getD j [] :: q.2.drop (j + 1) := by rw [List.drop_eq_getElem_cons hlt, getD_in _ _ _ hlt]
     have hsl := HQ3.out _ hmem
     rw [hdrop] at hdel
     clear hc he hmem hdrop
     generalize q.2.getD j [] = s at *
     have HST := hid (hFI.step hik (fun fu S m L hd hf => delete_any hd hf s hsl (by rw [upd_same]; have := hbd.2; omega)) (delete_sm _ _ _))
     rw [upd_same, upd_upd] at HST
     have hcd := delete_cd dj fj s
     have HBD := hid (bnd_delete hbd fj s)
     have hdl : delL (s :: q.2.drop (j + 1)) dj fj nj = if (dj.delete fj s).1 = 11 then (true, nj, (dj.delete fj s).2.1, (dj.delete fj s).2.2) else delL (q.2.drop (j + 1)) (dj.delete fj s).2.1 (dj.delete fj s).2.2 (if (dj.delete fj s).1 = 0 then nj + 1 else nj) := rfl
     rw [hdl] at hdel
     clear hdl
     generalize dj.delete fj s = r at *
     have HDEL := hid hdel
     have HNJ := hid hnj
     have S6 : Hid (∀ w6, FIs w W0 T (fun b => b = w1.heap.size + 1 ∨ b = w1.heap.size + 1 + 1 ∨ b = w1.heap.size + 1 + 1 + 1) k p (upd X.d i r.2.1) r.2.2 wr w6 → FI w W0 T (fun b => b = w1.heap.size + 1 ∨ b = w1.heap.size + 1 + 1 ∨ b = w1.heap.size + 1 + 1 + 1) k p (upd X.d i r.2.1) r.2.2 w6 ∧ CAt w6 (w1.heap.size + 1 + 1 + 1) #[.int .i64 (nj : Int)] 3 ∧ CAt w6 (w1.heap.size + 1) #[.int .i64 0] 3 ∧ CAt w6 (w1.heap.size + 1 + 1) #[.nilIface] 98 ∧ TxtL 0 w6 (.slice (some ⟨b, 0, none⟩) q.2.length qc) q.2 ∧ KpL W0.heap.size W w6) := fun w6 ⟨h1, h2, h3⟩ =>
      ⟨h1, hn.kpl h3 (Nat.zero_le _) rfl, hr1.kpl h3 (Nat.zero_le _) rfl, hr2.kpl h3 (Nat.zero_le _) rfl, htx.kpl h3 rfl, hkp.trans (h3.mono (Nat.zero_le _))⟩
     clear hFI hn hr1 hr2 htx hkp hbd hdel hnj
     refine wpIn_seq (wpIn_block (wpIn_seq (round_list (fun _ _ h => h) (by kernel_rfl) ?_)))
     go_wp2
     clear hcj
     refine wpIn_seq (round_list (fun _ _ h => h) (by kernel_rfl) ?_)
     go_wp2_with (go_at_call 122; refine HST.out.mono ?_; rintro e w6 ⟨rfl, hs6⟩; have HS6 := hid (S6.out w6 hs6); clear hs6)
     clear HST S6
     refine wpIn_seq (wpIn_seq (round_list (fun _ _ h => h) (by kernel_rfl) ?_))
     by_cases r11 : r.1 = 11
     ·have hb11 : brk 11 = .iface 160 (.agg #[.int .i64 11]) := rfl
      rw [r11]
      go_wp2_with (go_at_call 113; refine (breaks_any 11 _ (by omega)).mono ?_; rintro e w6' ⟨rfl, hw6⟩; have hw6' := hw6.symm; subst hw6'; rw [hb11])
      obtain ⟨f5, n5, a5, b5, t5, k5⟩ := HS6.out
      have a1 : w6.cell? ⟨w1.heap.size + 1, 0, none⟩ = some (.int .i64 0) := a5.cell 0
      have y1 : w6.frozen? ⟨w1.heap.size + 1, 0, none⟩ = false := a5.free 0
      have r7 : CAt (w6.setCell ⟨w1.heap.size + 1, 0, none⟩ (.int .i64 0)) (w1.heap.size + 1 + 1) #[.nilIface] 98 := b5.keep (heap_setCell_ne _ _ _ _ (by show w1.heap.size + 1 + 1 ≠ w1.heap.size + 1; omega))
      have a2 : (w6.setCell ⟨w1.heap.size + 1, 0, none⟩ (.int .i64 0)).cell? ⟨w1.heap.size + 1 + 1, 0, none⟩ = some .nilIface := r7.cell 0
      have y2 : (w6.setCell ⟨w1.heap.size + 1, 0, none⟩ (.int .i64 0)).frozen? ⟨w1.heap.size + 1 + 1, 0, none⟩ = false := r7.free 0
      have FIN : Hid (rdP W0.heap.size (DIC w w1 W0 T k p nm X0 R (i + 1)) (DXC w w1 W0 T k p R) W .ret { tmps := #[], defers := [] } ((w6.setCell ⟨w1.heap.size + 1, 0, none⟩ (.int .i64 0)).setCell ⟨w1.heap.size + 1 + 1, 0, none⟩ (.iface 160 (.agg #[.int .i64 11])))) := by
       have z := HSZ.out
       have zw := hwW1.out
       have hR2 : R = (true, nj, ⟨upd X.d i r.2.1, r.2.2⟩) := by rw [HRR.out, delD_brk hik HQ.out h11 (HDEL.out.trans (if_pos r11)) rfl]
       refine ⟨(k5.trans (KpL.set (by omega) _ _ _)).trans (KpL.set (by omega) _ _ _), rfl, by rw [hR2], ?_, ?_, ?_⟩
       ·rw [hR2]
        exact (f5.set (b := w1.heap.size + 1) (.inl rfl) (by omega) (fun ht => by have := HTL.out _ ht; omega) (by omega) 0 _).set (b := w1.heap.size + 1 + 1) (.inr (.inl rfl)) (by omega) (fun ht => by have := HTL.out _ ht; omega) (by omega) 0 _
       ·refine CAt.keep (w := w6.setCell ⟨w1.heap.size + 1, 0, none⟩ (.int .i64 0)) ?_ (heap_setCell_ne _ _ _ _ (by show w1.heap.size + 1 ≠ w1.heap.size + 1 + 1; omega))
        have := a5.set 0 (.int .i64 0); simpa using this
       ·have := r7.set 0 (.iface 160 (.agg #[.int .i64 11])); simpa [brk] using this
      clear f5 n5 a5 b5 t5 k5 r7 HS6
      refine wpIn_seq (round_list (fun _ _ h => h) (by kernel_rfl) ?_)
      go_wp2
      refine wpIn_cond_true rfl (wpIn_seq (round_list (fun _ _ h => h) (by kernel_rfl) ?_))
      go_wp2
      refine wpIn_ret ?_
      exact FIN.out
     ·have hbn2 : brk r.1 = .nilIface := by unfold brk; rw [if_neg r11]
      go_wp2_with (go_at_call 113; refine (breaks_any r.1 _ (by omega)).mono ?_; rintro e w6' ⟨rfl, hw6⟩; have hw6' := hw6.symm; subst hw6'; rw [hbn2])
      refine wpIn_seq (round_list (fun _ _ h => h) (by kernel_rfl) ?_)
      go_wp2
      refine wpIn_cond_false rfl (wpIn_skip ?_)
      refine wpIn_seq (round_list (fun _ _ h => h) (by kernel_rfl) ?_)
      by_cases r0 : r.1 = 0
      ·have r0' : ((r.1 : Nat) : Int) = 0 := by omega
       obtain ⟨f5, n5, a5, b5, t5, k5⟩ := HS6.out
       have z := HSZ.out
       have zw := hwW1.out
       have hni : (nj : Int) ≤ 200000000000 := by have := HNJ.out; have := HNB.out; have := HK.out.2; have : i * 10000000000 ≤ 15 * 10000000000 := Nat.mul_le_mul_right _ (by omega); omega
       have a1 : w6.cell? ⟨w1.heap.size + 1 + 1 + 1, 0, none⟩ = some (.int .i64 (nj : Int)) := n5.cell 0
       have y1 : w6.frozen? ⟨w1.heap.size + 1 + 1 + 1, 0, none⟩ = false := n5.free 0
       have NXT : Hid (DJC w w1 W0 W T k p X q.2 (.slice (some ⟨b, 0, none⟩) q.2.length qc) n i (j + 1) (w6.setCell ⟨w1.heap.size + 1 + 1 + 1, 0, none⟩ (.int .i64 ((nj : Int) + 1)))) := by
        refine ⟨⟨r.2.1, r.2.2, nj + 1, by rw [HDEL.out, if_neg r11, if_pos r0], f5.set (b := w1.heap.size + 1 + 1 + 1) (.inr (.inr rfl)) (by omega) (fun ht => by have := HTL.out _ ht; omega) (by omega) 0 _, ?_, by have := HNJ.out; omega, HBD.out⟩, ?_, ?_, ?_, k5.trans (KpL.set (by omega) _ _ _)⟩
        ·have := n5.set 0 (.int .i64 ((nj : Int) + 1)); simpa using this
        ·refine t5.keep fun x hx => heap_setCell_ne _ _ _ _ ?_
         obtain ⟨cur, hc⟩ := t5.blk hx
         show x ≠ w1.heap.size + 1 + 1 + 1
         intro e
         rw [e, show w6.heap[w1.heap.size + 1 + 1 + 1]? = _ from n5] at hc
         cases hc
        ·exact a5.keep (heap_setCell_ne _ _ _ _ (by show w1.heap.size + 1 ≠ w1.heap.size + 1 + 1 + 1; omega))
        ·exact b5.keep (heap_setCell_ne _ _ _ _ (by show w1.heap.size + 1 + 1 ≠ w1.heap.size + 1 + 1 + 1; omega))
       clear f5 n5 a5 b5 t5 k5 HS6
       go_wp2
       refine wpIn_cond_true rfl (round_list (fun _ _ h => h) (by kernel_rfl) ?_)
       go_wp2
       clear a1 y1
       generalize w6.setCell ⟨w1.heap.size + 1 + 1 + 1, 0, none⟩ (.int .i64 ((nj : Int) + 1)) = w7 at *
       refine round_list (fun _ _ h => h) (by kernel_rfl) ?_
       go_wp2
       refine ⟨⟨j + 1, hlt, by congr 1, NXT.out⟩, ?_⟩
       simp only [intOf]; omega
      ·have r0' : (((r.1 : Nat) : Int) == 0) = false := by simp; omega
       have NXT : Hid (DJC w w1 W0 W T k p X q.2 (.slice (some ⟨b, 0, none⟩) q.2.length qc) n i (j + 1) w6) := by
        obtain ⟨f5, n5, a5, b5, t5, k5⟩ := HS6.out
        exact ⟨⟨r.2.1, r.2.2, nj, by rw [HDEL.out, if_neg r11, if_neg r0], f5, n5, by have := HNJ.out; omega, HBD.out⟩, t5, a5, b5, k5⟩
       go_wp2
       refine wpIn_cond_false rfl (wpIn_skip ?_)
       refine round_list (fun _ _ h => h) (by kernel_rfl) ?_
       go_wp2
       refine ⟨⟨j + 1, hlt, by congr 1, NXT.out⟩, ?_⟩
       simp only [intOf]; omega
    ·have hlt' : ¬ (j : Int) < (q.2.length : Int) := by omega
     go_wp2
     refine wpIn_seq (wpIn_cond_false rfl (wpIn_exit ?_))
     have hnil : q.2.drop j = [] := List.drop_eq_nil_of_le (by omega)
     rw [hnil] at hdel
     refine ⟨hkp, ⟨⟨nj, ⟨upd X.d i dj, fj⟩, ?_, hFI, hn, ?_, fun x hx => ?_⟩, hr1, hr2⟩⟩
     ·rw [HRR.out, delD_ok hik HQ.out h11 hdel rfl]; rfl
     ·have := HNB.out; rw [Nat.add_mul]; omega
     ·show upd X.d i dj x = _
      rw [upd_ne _ _ (by omega)]; exact HSM.out x (by omega)
end Go.Proofs.YtfogkegmdgbecaaGreatDoor
