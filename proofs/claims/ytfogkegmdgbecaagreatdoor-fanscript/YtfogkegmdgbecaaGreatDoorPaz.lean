/- Texts laid into one, cut to what is needed: the remark ahead of each part says what is proved there. -/
import Derived.Test.YtfogkegmdgbecaaGreatDoorPay
import Derived.Test.YtfogkegmdgbecaaGreatDoorPax
import Derived.Lib.SliceRun
/- Read (the walk). -/
namespace Go.Proofs.YtfogkegmdgbecaaGreatDoor
open Go Go.RowKit Go.Shelf

theorem Erh.on2 {w w' : World} (h : Erh w) (hb : Below w.heap.size w w') : Erh w' := h.below hb h.lt
/-- A loop over drives that changes none of them, begun in wr: what is written are blocks X that lay there. -/
structure FR (w wr : World) (T X : Nat → Prop) (k : Nat) (p : Nat → Nat) (d : Nat → Pd) (f : Fs) (W : World) : Prop where
 fa : FA w W T k p d f 0
 on : Only X wr W
section
variable {w wr W : World} {T X : Nat → Prop} {k : Nat} {p : Nat → Nat} {d : Nat → Pd} {f : Fs}
theorem FR.start (h : FA w wr T k p d f 0) : FR w wr T X k p d f wr := ⟨h, Only.refl _ _⟩
theorem FR.be (h : FR w wr T X k p d f W) : Below w.heap.size w W := h.fa.be
theorem FR.sz (h : FR w wr T X k p d f W) : wr.heap.size ≤ W.heap.size := h.on.size
theorem FR.below (h : FR w wr T X k p d f W) {W' : World} (hb : Below W.heap.size W W') : FR w wr T X k p d f W' := ⟨h.fa.below hb, h.on.then (Only.of_below (S := fun _ => False) hb) (fun _ _ e => e.elim)⟩
theorem FR.tn (h : FR w wr T X k p d f W) {W' : World} (ht : Tn wr.heap.size W W') (hw : w.heap.size ≤ wr.heap.size) : FR w wr T X k p d f W' := ⟨h.fa.tn ht hw, h.on.tn ht (Nat.le_refl _)⟩
theorem FR.look (h : FR w wr T X k p d f W) {i : Nat} (hi : i < k) {g : FuncId} {args : Array Value} {R : Ending → World → Prop} (hc : ∀ fu S m L, DrC W S (p i) m fu (d i) L → FuAt W S fu f → Calls Tryz.prog g args W R) : Calls Tryz.prog g args W R :=
 h.fa.look hi fun fu S m L h1 h2 => hc fu S m L h1 (by simpa [fAt] using h2)
theorem FR.set (h : FR w wr T X k p d f W) {b : Nat} (hX : X b) (_ : b < wr.heap.size) (hT : ¬ T b) (hw : w.heap.size ≤ b) (i : Nat) (v : Value) : FR w wr T X k p d f (W.setCell ⟨b, i, none⟩ v) := by
 have ho : Only (fun x => x = b) W (W.setCell ⟨b, i, none⟩ v) := Only.set W _ v rfl
 exact ⟨h.fa.only ho (fun x hx e => by omega) (fun x hx e => by subst e; exact hT hx), h.on.then ho (fun x _ e => by subst e; exact hX)⟩
theorem FR.keepX {w1 : World} (h : FR w wr T X k p d f W) (hb : Below w1.heap.size w1 wr) {b : Nat} (hb1 : b < w1.heap.size) (hX : ¬ X b) : W.heap[b]? = w1.heap[b]? := (h.on.block b (Nat.lt_of_lt_of_le hb1 hb.size) hX).trans (hb.block b hb1)
end
structure RDI (w w1 W0 : World) (T : Nat → Prop) (k : Nat) (p : Nat → Nat) (X0 : FS) (s : Nm) (i : Nat) (W : World) : Prop where
 fi : FR w W0 T (fun b => b = w1.heap.size + 1 ∨ b = w1.heap.size + 1 + 1 ∨ b = w1.heap.size + 1 + 1 + 1) k p X0.d X0.f W
 r1 : CAt W (w1.heap.size + 1) #[.slice none 0 0] 54
 r2 : CAt W (w1.heap.size + 1 + 1) #[.int .i64 0] 39
 cp : CpL w1.heap.size W (w1.heap.size + 1 + 1 + 1) k i (fun j => (X0.d j).readE X0.f s) (fun j => (X0.d j).readB X0.f s)
 ok : ∀ j, j < i → (X0.d j).readE X0.f s ≠ 11
def RDX (w w1 W0 : World) (T : Nat → Prop) (k : Nat) (p : Nat → Nat) (X0 : FS) (s : Nm) (c : Code) (W : World) : Prop :=
 c = .ret ∧ (∃ j, j < k ∧ (X0.d j).readE X0.f s = 11) ∧ FR w W0 T (fun b => b = w1.heap.size + 1 ∨ b = w1.heap.size + 1 + 1 ∨ b = w1.heap.size + 1 + 1 + 1) k p X0.d X0.f W ∧ CAt W (w1.heap.size + 1) #[.slice none 0 0] 54 ∧ CAt W (w1.heap.size + 1 + 1) #[.int .i64 11] 39
def rdN (k : Nat) (X : FS) (s : Nm) : Nat := if ckD k ≠ 0 then ckD k else if okNm s = false then 13 else if (List.range k).any fun j => (X.d j).readE X.f s == 11 then 11 else 0
/-- What Read answers. It changes no drive. -/
def RdAt (w1 : World) (k : Nat) (X : FS) (s : Nm) (e : Ending) (w' : World) : Prop :=
 ∃ v, e = .returned (.tuple #[v, .int .i64 (rdN k X s : Int)]) ∧ Below w1.heap.size w1 w' ∧ ((rdN k X s ≠ 0 ∧ v = .slice none 0 0) ∨ (rdN k X s = 0 ∧ ∃ g, w1.heap.size ≤ g ∧ v = .slice (some ⟨g, 0, none⟩) k k ∧ CpL w1.heap.size w' g k k (fun j => (X.d j).readE X.f s) (fun j => (X.d j).readB X.f s)))
set_option maxHeartbeats 4000000 in
set_option maxRecDepth 100000 in
theorem fread_any {w w1 : World} {T : Nat → Prop} {k : Nat} {p : Nat → Nat} {X0 : FS} (h : FA w w1 T k p X0.d X0.f 0) {lv : Value} (hl : LsAt w1 T lv k p) (hk : k ≤ 1000) (hE : Erh w) (s : Nm) (hs : s.length ≤ maxLen) :
  Calls Tryz.prog 16 #[lv, sv s] w1 (RdAt w1 k X0 s) := by
 have HCK : Hid (∀ o1 o2 o3, Calls Tryz.prog 71 #[lv] (((w1.alloc o1).alloc o2).alloc o3) fun e w' => e = .returned (.int .i64 (ckD k : Int)) ∧ w' = (((w1.alloc o1).alloc o2).alloc o3)) := fun o1 o2 o3 =>
  have hb : Below w1.heap.size w1 (((w1.alloc o1).alloc o2).alloc o3) := (((Below.refl w1.heap.size w1).alloc (Nat.le_refl _) _).alloc (by simp only [size_al]; omega) _).alloc (by simp only [size_al]; omega) _
  checkDrives_fa (h.below hb) (hl.keep (fun b hb' _ => hb.block b hb') (fun _ _ h => h)) hk
 by_cases hck : ckD k = 0
 ·have hk16 : 1 ≤ k ∧ k ≤ 16 := by unfold ckD at hck; split at hck <;> simp_all
  rw [hck] at HCK
  have HNM := hid (fun W => name_any s W hs)
  by_cases hok : okNm s = true
  ·rw [hok] at HNM
   obtain ⟨po, cc, rfl⟩ := hl.form
   have HK := hid hk16
   have HL := hid hl
   have HBE := hid h.be
   have hmf := run_mf Tryz.prog
   obtain ⟨cs0, hcs0, hmk⟩ := make_copies k hk (((w1.alloc (.cells #[sv s] 9)).alloc (.cells #[.slice none 0 0] 54)).alloc (.cells #[.int .i64 0] 39))
   refine (callsIn_wide (n := 0)).1 ?_
   refine callsIn_of_wp_marks Tryz.func16 rfl trivial ?_ rfl
   refine wpIn_wide.2 ?_
   simp only [Tryz.ntmps16, List.size_toArray, List.length_cons, List.length_nil, Nat.reduceAdd, Nat.reduceSub, Array.replicate_succ, Array.replicate_zero, List.push_toArray, List.append_toArray, List.nil_append, List.cons_append]
   clear hl
   go_wp2_with (first
    | (go_at_call 71; refine (HCK.out _ _ _).mono ?_; rintro e w5 ⟨rfl, hw5⟩; have hw6 := hw5.symm; subst hw6)
    | (go_at_call 72; refine (HNM.out _).mono ?_; rintro e w5 ⟨rfl, hw5⟩; have hw6 := hw5.symm; subst hw6)
    | (go_at_call 73; refine (each_any _ _ _ _).mono ?_; rintro e w5 ⟨rfl, rfl⟩))
   rename_i Kx hKx
   refine (wpIn_wide (n := 0)).1 ?_
   have hb0 : Below w1.heap.size w1 ((((((w1.alloc (.cells #[sv s] 9)).alloc (.cells #[.slice none 0 0] 54)).alloc (.cells #[.int .i64 0] 39)).alloc (.cells cs0 115)).alloc (.cells #[.slice (some ⟨w1.heap.size + 1 + 1 + 1, 0, none⟩) k k] 54)).alloc (.cells #[.slice po k cc] 23)) := (((((((Below.refl w1.heap.size w1).alloc (Nat.le_refl _) _).alloc (by simp only [size_al]; omega) _).alloc (by simp only [size_al]; omega) _).alloc (by simp only [size_al]; omega) _).alloc (by simp only [size_al]; omega) _).alloc (by simp only [size_al]; omega) _)
   have x0 := ((((((CAt.made w1 #[sv s] 9).old (.cells #[.slice none 0 0] 54)).old (.cells #[.int .i64 0] 39)).old (.cells cs0 115)).old (.cells #[.slice (some ⟨w1.heap.size + 1 + 1 + 1, 0, none⟩) k k] 54)).old (.cells #[.slice po k cc] 23))
   have x1 := (((((CAt.made (w1.alloc (.cells #[sv s] 9)) #[.slice none 0 0] 54).old (.cells #[.int .i64 0] 39)).old (.cells cs0 115)).old (.cells #[.slice (some ⟨w1.heap.size + 1 + 1 + 1, 0, none⟩) k k] 54)).old (.cells #[.slice po k cc] 23))
   have x2 := ((((CAt.made ((w1.alloc (.cells #[sv s] 9)).alloc (.cells #[.slice none 0 0] 54)) #[.int .i64 0] 39).old (.cells cs0 115)).old (.cells #[.slice (some ⟨w1.heap.size + 1 + 1 + 1, 0, none⟩) k k] 54)).old (.cells #[.slice po k cc] 23))
   have x3 := (((CAt.made (((w1.alloc (.cells #[sv s] 9)).alloc (.cells #[.slice none 0 0] 54)).alloc (.cells #[.int .i64 0] 39)) cs0 115).old (.cells #[.slice (some ⟨w1.heap.size + 1 + 1 + 1, 0, none⟩) k k] 54)).old (.cells #[.slice po k cc] 23))
   have x4 := ((CAt.made ((((w1.alloc (.cells #[sv s] 9)).alloc (.cells #[.slice none 0 0] 54)).alloc (.cells #[.int .i64 0] 39)).alloc (.cells cs0 115)) #[.slice (some ⟨w1.heap.size + 1 + 1 + 1, 0, none⟩) k k] 54).old (.cells #[.slice po k cc] 23))
   have x5 := (CAt.made (((((w1.alloc (.cells #[sv s] 9)).alloc (.cells #[.slice none 0 0] 54)).alloc (.cells #[.int .i64 0] 39)).alloc (.cells cs0 115)).alloc (.cells #[.slice (some ⟨w1.heap.size + 1 + 1 + 1, 0, none⟩) k k] 54)) #[.slice po k cc] 23)
   have hsz : (((((((w1.alloc (.cells #[sv s] 9)).alloc (.cells #[.slice none 0 0] 54)).alloc (.cells #[.int .i64 0] 39)).alloc (.cells cs0 115)).alloc (.cells #[.slice (some ⟨w1.heap.size + 1 + 1 + 1, 0, none⟩) k k] 54)).alloc (.cells #[.slice po k cc] 23))).heap.size = w1.heap.size + 6 := by simp
   simp only [World.size_alloc] at x1 x2 x3 x4 x5
   generalize ((((((w1.alloc (.cells #[sv s] 9)).alloc (.cells #[.slice none 0 0] 54)).alloc (.cells #[.int .i64 0] 39)).alloc (.cells cs0 115)).alloc (.cells #[.slice (some ⟨w1.heap.size + 1 + 1 + 1, 0, none⟩) k k] 54)).alloc (.cells #[.slice po k cc] 23)) = W0 at hb0 x0 x1 x2 x3 x4 x5 hsz ⊢
   have hTl : ∀ b, T b → b < w1.heap.size := h.lt
   have hA0 : FA w W0 T k p X0.d X0.f 0 := h.below hb0
   have mem : ∀ W, FR w W0 T (fun b => b = w1.heap.size + 1 ∨ b = w1.heap.size + 1 + 1 ∨ b = w1.heap.size + 1 + 1 + 1) k p X0.d X0.f W → CAt W w1.heap.size #[sv s] 9 ∧ CAt W (w1.heap.size + 1 + 1 + 1 + 1) #[.slice (some ⟨w1.heap.size + 1 + 1 + 1, 0, none⟩) k k] 54 ∧ CAt W (w1.heap.size + 1 + 1 + 1 + 1 + 1) #[.slice po k cc] 23 ∧ LsAt W T (.slice po k cc) k p := fun W hf =>
    have bx : ∀ b, w1.heap.size ≤ b → b < W0.heap.size → b ≠ w1.heap.size + 1 → b ≠ w1.heap.size + 1 + 1 → b ≠ w1.heap.size + 1 + 1 + 1 → W.heap[b]? = W0.heap[b]? := fun b h1 h2 h3 h4 h5 => hf.on.block b h2 fun e => e.elim h3 (fun e => e.elim h4 h5)
    have lo : ∀ b, b < w1.heap.size → ¬ T b → W.heap[b]? = w1.heap[b]? := fun b hb _ => hf.keepX hb0 hb (fun e => by omega)
    ⟨x0.keep (bx _ (by omega) (by omega) (by omega) (by omega) (by omega)), x4.keep (bx _ (by omega) (by omega) (by omega) (by omega) (by omega)), x5.keep (bx _ (by omega) (by omega) (by omega) (by omega) (by omega)), HL.out.keep lo (fun _ _ h => h)⟩
   have MEM := hid mem
   have HTL := hid hTl
   have HSZ := hid hsz
   have HB0 := hid hb0
   have HE := hid hE
   have hwW : w.heap.size ≤ W0.heap.size := by have := HBE.out.size; omega
   have hwW1 : Hid (w.heap.size ≤ w1.heap.size) := HBE.out.size
   have HTO : Hid (∀ W, Erh W → Calls Tryz.prog 58 #[.iface 160 (.agg #[.int .i64 11])] W fun e W' => e = .returned (.int .i64 11) ∧ Below W.heap.size W W') := fun W hW => told_any 11 W hW
   have FIN : Hid (∀ W' er, Only (fun b => b = w1.heap.size + 1 ∨ b = w1.heap.size + 1 + 1 ∨ b = w1.heap.size + 1 + 1 + 1) W0 W' → er = rdN k X0 s → ((rdN k X0 s ≠ 0 ∧ True) ∨ (rdN k X0 s = 0 ∧ CpL w1.heap.size W' (w1.heap.size + 1 + 1 + 1) k k (fun j => (X0.d j).readE X0.f s) (fun j => (X0.d j).readB X0.f s))) → RdAt w1 k X0 s (.returned (.tuple #[if er = 0 then .slice (some ⟨w1.heap.size + 1 + 1 + 1, 0, none⟩) k k else .slice none 0 0, .int .i64 (er : Int)])) W') := fun W' er ho e hc => by
    subst e
    refine ⟨_, rfl, ⟨ho.os.trans HB0.out.os, ho.tape.trans HB0.out.tape, ho.output.trans HB0.out.output, Nat.le_trans HB0.out.size ho.size, fun b hb => (ho.block b (by have := HB0.out.size; omega) (fun e => by omega)).trans (HB0.out.block b hb)⟩, ?_⟩
    rcases hc with ⟨hc, _⟩ | ⟨hc, hq⟩
    ·exact .inl ⟨hc, by rw [if_neg hc]⟩
    ·exact .inr ⟨hc, _, (by omega), by rw [if_pos hc], hq⟩
   have HRN : Hid ((∃ j, j < k ∧ (X0.d j).readE X0.f s = 11) → rdN k X0 s = 11) := fun ⟨j, hj, hr⟩ => by
    unfold rdN
    rw [if_neg (by omega), if_neg (by simp [hok]), if_pos (List.any_eq_true.2 ⟨j, List.mem_range.2 hj, by simp [hr]⟩)]
   have HRZ : Hid ((∀ j, j < k → (X0.d j).readE X0.f s ≠ 11) → rdN k X0 s = 0) := fun hr => by
    unfold rdN
    rw [if_neg (by omega), if_neg (by simp [hok]), if_neg]
    intro ha
    obtain ⟨j, hj, h2⟩ := List.any_eq_true.1 ha
    exact hr j (List.mem_range.1 hj) (by simpa using h2)
   clear mem x0 x4 x5 h hmk hE
   refine range_plain (gf := 121) (lb := #[ptr (w1.heap.size + 1 + 1 + 1 + 1 + 1)]) rfl (enters_of Tryz.func121 (by kernel_rfl) rfl) k (eEnc p) (fun _ => rfl) (fun _ _ => True) (RDI w w1 W0 T k p X0 s)
    (RDX w w1 W0 T k p X0 s) (fun _ _ _ h _ => h) ?hI ?hIx ?h0 ?hseq ?asg ?assign ?body ?done ?stop
   case hI =>
    intro i A C hi ht
    exact ⟨hi.fi.tn ht hwW, hi.r1.tn ht, hi.r2.tn ht, hi.cp.tn ht, hi.ok⟩
   case hIx =>
    intro c A C hi ht
    obtain ⟨h1, h2, h3, h4, h5⟩ := hi
    exact ⟨h1, h2, h3.tn ht hwW, h4.tn ht, h5.tn ht⟩
   case h0 => exact ⟨FR.start hA0, x1, x2, ⟨cs0, x3, hcs0, fun j hj => absurd hj (Nat.not_lt_zero _)⟩, fun j hj => absurd hj (Nat.not_lt_zero _)⟩
   case hseq =>
    refine each_it _ _ (.slice po k cc) k p _ (by have := HK.out.2; omega) fun i W hi => ?_
    obtain ⟨m1, m2, m3, m4⟩ := MEM.out W hi.fi
    exact ⟨m3, m4.none⟩
   case assign =>
    intro l i W K hik hK
    unfold eEnc
    refine wpIn_seq (round_list (fun _ _ h => h) (by kernel_rfl) ?_)
    go_wp2
    refine round_list (fun _ _ h => h) (by kernel_rfl) ?_
    go_wp2
    exact hK
   case done =>
    intro D W hD hi hd
    obtain ⟨m1, m2, m3, m4⟩ := MEM.out W hi.fi
    have c4 : W.cell? ⟨w1.heap.size + 1 + 1 + 1 + 1, 0, none⟩ = some (.slice (some ⟨w1.heap.size + 1 + 1 + 1, 0, none⟩) k k) := m2.cell 0
    have a1 : W.cell? ⟨w1.heap.size + 1, 0, none⟩ = some (.slice none 0 0) := hi.r1.cell 0
    have y1 : W.frozen? ⟨w1.heap.size + 1, 0, none⟩ = false := hi.r1.free 0
    have r7 : CAt (W.setCell ⟨w1.heap.size + 1, 0, none⟩ (.slice (some ⟨w1.heap.size + 1 + 1 + 1, 0, none⟩) k k)) (w1.heap.size + 1 + 1) #[.int .i64 0] 39 := hi.r2.keep (heap_setCell_ne _ _ _ _ (by show w1.heap.size + 1 + 1 ≠ w1.heap.size + 1; omega))
    have r6 : CAt (W.setCell ⟨w1.heap.size + 1, 0, none⟩ (.slice (some ⟨w1.heap.size + 1 + 1 + 1, 0, none⟩) k k)) (w1.heap.size + 1) #[.slice (some ⟨w1.heap.size + 1 + 1 + 1, 0, none⟩) k k] 54 := by have := hi.r1.set 0 (.slice (some ⟨w1.heap.size + 1 + 1 + 1, 0, none⟩) k k); simpa using this
    have a2 : (W.setCell ⟨w1.heap.size + 1, 0, none⟩ (.slice (some ⟨w1.heap.size + 1 + 1 + 1, 0, none⟩) k k)).cell? ⟨w1.heap.size + 1 + 1, 0, none⟩ = some (.int .i64 0) := r7.cell 0
    have y2 : (W.setCell ⟨w1.heap.size + 1, 0, none⟩ (.slice (some ⟨w1.heap.size + 1 + 1 + 1, 0, none⟩) k k)).frozen? ⟨w1.heap.size + 1 + 1, 0, none⟩ = false := r7.free 0
    have r8 : CAt ((W.setCell ⟨w1.heap.size + 1, 0, none⟩ (.slice (some ⟨w1.heap.size + 1 + 1 + 1, 0, none⟩) k k)).setCell ⟨w1.heap.size + 1 + 1, 0, none⟩ (.int .i64 0)) (w1.heap.size + 1 + 1) #[.int .i64 0] 39 := by have := r7.set 0 (.int .i64 0); simpa using this
    have r9 : CAt ((W.setCell ⟨w1.heap.size + 1, 0, none⟩ (.slice (some ⟨w1.heap.size + 1 + 1 + 1, 0, none⟩) k k)).setCell ⟨w1.heap.size + 1 + 1, 0, none⟩ (.int .i64 0)) (w1.heap.size + 1) #[.slice (some ⟨w1.heap.size + 1 + 1 + 1, 0, none⟩) k k] 54 := r6.keep (heap_setCell_ne _ _ _ _ (by show w1.heap.size + 1 ≠ w1.heap.size + 1 + 1; omega))
    have g3 := (hi.fi.set (b := w1.heap.size + 1) (.inl rfl) (by omega) (fun ht => by have := HTL.out _ ht; omega) (by have := hwW1.out; omega) 0 (.slice (some ⟨w1.heap.size + 1 + 1 + 1, 0, none⟩) k k)).set (b := w1.heap.size + 1 + 1) (.inr (.inl rfl)) (by omega) (fun ht => by have := HTL.out _ ht; omega) (by have := hwW1.out; omega) 0 (.int .i64 0)
    have cp3 := (hi.cp.set' (y := 0) (v := .slice (some ⟨w1.heap.size + 1 + 1 + 1, 0, none⟩) k k) hi.r1 (by decide) (by omega)).set' (y := 0) (v := .int .i64 0) r7 (by decide) (by omega)
    have hd2 : ((W.setCell ⟨w1.heap.size + 1, 0, none⟩ (.slice (some ⟨w1.heap.size + 1 + 1 + 1, 0, none⟩) k k)).setCell ⟨w1.heap.size + 1 + 1, 0, none⟩ (.int .i64 0)).heap[D]? = some (.deferred (some [])) := (heap_setCell_ne _ _ _ _ (by show D ≠ w1.heap.size + 1 + 1; omega)).trans ((heap_setCell_ne _ _ _ _ (by show D ≠ w1.heap.size + 1; omega)).trans hd)
    have hrz := HRZ.out hi.ok
    refine hKx _ _ ?_
    dsimp only [endAct]
    clear hKx r6 r7 hd m1 m2 m3 m4 hi
    go_wp2
    clear a1 y1 a2 y2 c4
    generalize ((W.setCell ⟨w1.heap.size + 1, 0, none⟩ (.slice (some ⟨w1.heap.size + 1 + 1 + 1, 0, none⟩) k k)).setCell ⟨w1.heap.size + 1 + 1, 0, none⟩ (.int .i64 0)) = w7 at *
    have ht : Tn W0.heap.size w7 (w7.putObj D (.deferred none)) := Tn.put _ (by omega) hd2 rfl
    refine ⟨by simp, .inl ⟨_, _, rfl, run_takeDeferred hd2, ?_⟩⟩
    have q4 := (r9.tn ht).cell 0
    have q5 := (r8.tn ht).cell 0
    refine ⟨.tuple #[.slice (some ⟨w1.heap.size + 1 + 1 + 1, 0, none⟩) k k, .int .i64 0], ?_, ?_⟩
    ·simp [results, Tryz.f16, go_sem, q4, q5]
    ·have f2 := g3.tn ht hwW
     exact FIN.out _ 0 f2.on hrz.symm (.inr ⟨hrz, cp3.tn ht⟩)
   case stop =>
    intro D c W hD hi hd
    obtain ⟨rfl, h1, h2, h3, h5⟩ := hi
    have ht : Tn W0.heap.size W (W.putObj D (.deferred none)) := Tn.put _ (by omega) hd rfl
    refine wpIn_ret ?_
    refine ⟨by simp, .inl ⟨_, _, rfl, run_takeDeferred hd, ?_⟩⟩
    have q4 := (h3.tn ht).cell 0
    have q5 := (h5.tn ht).cell 0
    have hr11 := HRN.out h1
    refine ⟨.tuple #[.slice none 0 0, .int .i64 11], ?_, ?_⟩
    ·simp [results, Tryz.f16, endAct, go_sem, q4, q5]
    ·have f2 := h2.tn ht hwW
     exact FIN.out _ 11 f2.on hr11.symm (.inl ⟨by omega, trivial⟩)
   case body =>
    intro l i W hik hi _
    clear hsz
    obtain ⟨m1, m2, m3, m4⟩ := MEM.out W hi.fi
    have c0 : W.cell? ⟨w1.heap.size, 0, none⟩ = some (sv s) := m1.cell 0
    have HAS := hid (hi.fi.look hik fun fu S m L hd hf => ask_any hd hf s hs)
    have HI := hid hi
    clear m1 m2 m3 m4 hi
    have HEW := hid (HE.out.on2 HI.out.fi.be)
    by_cases h11 : (X0.d i).readE X0.f s = 11
    ·have HX : Hid (∃ j, j < k ∧ (X0.d j).readE X0.f s = 11) := ⟨i, hik, h11⟩
     rw [h11] at HAS
     have hb11 : brk 11 = .iface 160 (.agg #[.int .i64 11]) := rfl
     generalize (X0.d i).readB X0.f s = bs at *
     refine wpIn_block (wpIn_seq (round_list (fun _ _ h => h) (by kernel_rfl) ?_))
     go_wp2_with (go_at_call 74; refine HAS.out.mono ?_; rintro e w5 ⟨qpo, qc, rfl, ho5, hb5⟩; rw [hb11]; have HB5 := hid hb5; clear hb5 ho5)
     have HS6 : Hid (∀ w7, Below w5.heap.size w5 w7 → FR w W0 T (fun b => b = w1.heap.size + 1 ∨ b = w1.heap.size + 1 + 1 ∨ b = w1.heap.size + 1 + 1 + 1) k p X0.d X0.f w7 ∧ CAt w7 (w1.heap.size + 1) #[.slice none 0 0] 54 ∧ CAt w7 (w1.heap.size + 1 + 1) #[.int .i64 0] 39 ∧ Below W.heap.size W w7) := fun w7 hb7 =>
      have hb := below_on _ _ HB5.out hb7
      ⟨HI.out.fi.below hb, HI.out.r1.below hb, HI.out.r2.below hb, hb⟩
     refine wpIn_seq (wpIn_seq (round_list (fun _ _ h => h) (by kernel_rfl) ?_))
     go_wp2
     refine wpIn_cond_true rfl (wpIn_seq (round_list (fun _ _ h => h) (by kernel_rfl) ?_))
     go_wp2_with (go_at_call 58; refine (HTO.out _ ((HEW.out.on2 HB5.out).on2 ((Below.refl _ _).alloc (Nat.le_refl _) _))).mono ?_; rintro e w7 ⟨rfl, hb7⟩; have HS7 := hid (HS6.out w7 (below_on _ _ ((Below.refl _ _).alloc (Nat.le_refl _) _) hb7)); clear hb7; obtain ⟨f7, q1, q2, hb7⟩ := HS7.out; have a1 : w7.cell? ⟨w1.heap.size + 1, 0, none⟩ = some (.slice none 0 0) := q1.cell 0; have y1 : w7.frozen? ⟨w1.heap.size + 1, 0, none⟩ = false := q1.free 0; have a2 : (w7.setCell ⟨w1.heap.size + 1, 0, none⟩ (.slice none 0 0)).cell? ⟨w1.heap.size + 1 + 1, 0, none⟩ = some (.int .i64 0) := (q2.keep (heap_setCell_ne _ _ _ _ (by show w1.heap.size + 1 + 1 ≠ w1.heap.size + 1; omega))).cell 0; have y2 : (w7.setCell ⟨w1.heap.size + 1, 0, none⟩ (.slice none 0 0)).frozen? ⟨w1.heap.size + 1 + 1, 0, none⟩ = false := (q2.keep (heap_setCell_ne _ _ _ _ (by show w1.heap.size + 1 + 1 ≠ w1.heap.size + 1; omega))).free 0; clear f7 q1 q2 hb7)
     refine wpIn_ret ?_
     obtain ⟨f7, q1, q2, hb7⟩ := HS7.out
     have z := HSZ.out
     have zw := hwW1.out
     refine ⟨((KpL.below hb7).trans (KpL.set (by omega) _ _ _)).trans (KpL.set (by omega) _ _ _), rfl, HX.out, ?_, ?_, ?_⟩
     ·exact (f7.set (b := w1.heap.size + 1) (.inl rfl) (by omega) (fun ht => by have := HTL.out _ ht; omega) (by omega) 0 _).set (b := w1.heap.size + 1 + 1) (.inr (.inl rfl)) (by omega) (fun ht => by have := HTL.out _ ht; omega) (by omega) 0 _
     ·refine CAt.keep (w := w7.setCell ⟨w1.heap.size + 1, 0, none⟩ (.slice none 0 0)) ?_ (heap_setCell_ne _ _ _ _ (by show w1.heap.size + 1 ≠ w1.heap.size + 1 + 1; omega))
      have := q1.set 0 (.slice none 0 0); simpa using this
     ·have := (CAt.keep (w' := w7.setCell ⟨w1.heap.size + 1, 0, none⟩ (.slice none 0 0)) q2 (heap_setCell_ne _ _ _ _ (by show w1.heap.size + 1 + 1 ≠ w1.heap.size + 1; omega))).set 0 (.int .i64 11); simpa using this
    ·have H11 := hid h11
     have hbn : brk ((X0.d i).readE X0.f s) = .nilIface := by unfold brk; rw [if_neg h11]

     have HNX : Hid (∀ w5 po c, Below W.heap.size W w5 → w5.ownsRow W.heap.size 5 1 (.slice po ((X0.d i).readB X0.f s).length c) ((X0.d i).readB X0.f s).length (((X0.d i).readB X0.f s).map u8) → ∀ o, RDI w w1 W0 T k p X0 s (i + 1) (((w5.alloc o).setCell ⟨w1.heap.size + 1 + 1 + 1, i * 2, none⟩ (.int .i64 ((X0.d i).readE X0.f s : Int))).setCell ⟨w1.heap.size + 1 + 1 + 1, i * 2 + 1, none⟩ (.slice po ((X0.d i).readB X0.f s).length c))) := fun w5 po c hb5 ho o => by
      have hb : Below W.heap.size W (w5.alloc o) := below_on _ _ hb5 ((Below.refl _ _).alloc (Nat.le_refl _) _)
      have z := HSZ.out
      have zw := hwW1.out
      have zz := HI.out.fi.sz
      have k1 : ∀ b, b ≠ w1.heap.size + 1 + 1 + 1 → (((w5.alloc o).setCell ⟨w1.heap.size + 1 + 1 + 1, i * 2, none⟩ (.int .i64 ((X0.d i).readE X0.f s : Int))).setCell ⟨w1.heap.size + 1 + 1 + 1, i * 2 + 1, none⟩ (.slice po ((X0.d i).readB X0.f s).length c)).heap[b]? = (w5.alloc o).heap[b]? := fun b hb => (heap_setCell_ne _ _ _ _ hb).trans (heap_setCell_ne _ _ _ _ hb)
      refine ⟨((HI.out.fi.below hb).set (b := w1.heap.size + 1 + 1 + 1) (.inr (.inr rfl)) (by omega) (fun ht => by have := HTL.out _ ht; omega) (by omega) _ _).set (b := w1.heap.size + 1 + 1 + 1) (.inr (.inr rfl)) (by omega) (fun ht => by have := HTL.out _ ht; omega) (by omega) _ _, (HI.out.r1.below hb).keep (k1 _ (by omega)), (HI.out.r2.below hb).keep (k1 _ (by omega)), (HI.out.cp.below hb).next hik ?_, fun j hj => ?_⟩
      ·exact ownsRow_keep (own_base ho (by omega)) fun b hv => heap_alloc_old _ _ (own_ge ho b hv).2
      ·by_cases e : j = i
       ·subst e; exact H11.out
       ·exact HI.out.ok j (by omega)
     have HKP : Hid (∀ w5 v1 v2, Below W.heap.size W w5 → ∀ o, KpL W0.heap.size W (((w5.alloc o).setCell ⟨w1.heap.size + 1 + 1 + 1, i * 2, none⟩ v1).setCell ⟨w1.heap.size + 1 + 1 + 1, i * 2 + 1, none⟩ v2)) := fun w5 v1 v2 hb5 o => by
      have z := HSZ.out
      exact ((KpL.below (below_on _ _ hb5 ((Below.refl _ _).alloc (Nat.le_refl _) _))).trans (KpL.set (by omega) _ _ _)).trans (KpL.set (by omega) _ _ _)
     have HM4 : Hid (∀ w5 o, Below W.heap.size W w5 → (w5.alloc o).cell? ⟨w1.heap.size + 1 + 1 + 1 + 1, 0, none⟩ = some (.slice (some ⟨w1.heap.size + 1 + 1 + 1, 0, none⟩) k k)) := fun w5 o hb5 => ((MEM.out W HI.out.fi).2.1.below (below_on _ _ hb5 ((Below.refl _ _).alloc (Nat.le_refl _) o))).cell 0
     have HFZ : Hid (∀ w5 o, Below W.heap.size W w5 → ∀ j, (w5.alloc o).frozen? ⟨w1.heap.size + 1 + 1 + 1, j, none⟩ = false) := fun w5 o hb5 j => by
      obtain ⟨cs, h1, _⟩ := HI.out.cp.ex
      exact (h1.below (below_on _ _ hb5 ((Below.refl _ _).alloc (Nat.le_refl _) o))).free j
     have HCE : Hid (∀ w5 o, Below W.heap.size W w5 → ∀ j, j < k * 2 → ∃ v, (w5.alloc o).cell? ⟨w1.heap.size + 1 + 1 + 1, j, none⟩ = some v) := fun w5 o hb5 j hj => by
      obtain ⟨cs, h1, h2, _⟩ := HI.out.cp.ex
      have := (h1.below (below_on _ _ hb5 ((Below.refl _ _).alloc (Nat.le_refl _) o))).cell j
      rw [this]
      exact ⟨_, Array.getElem?_eq_getElem (by omega)⟩
     generalize (X0.d i).readB X0.f s = bs at *
     generalize hrE : (X0.d i).readE X0.f s = er at *
     refine wpIn_block (wpIn_seq (round_list (fun _ _ h => h) (by kernel_rfl) ?_))
     go_wp2_with (go_at_call 74; refine HAS.out.mono ?_; rintro e w5 ⟨qpo, qc, rfl, ho5, hb5⟩; rw [hbn]; have HB5 := hid hb5; have HO5 := hid ho5; clear hb5 ho5)
     have HQ := hid (HNX.out w5 qpo qc HB5.out HO5.out (.cells #[.int .i64 (er : Int), .slice qpo bs.length qc] 115))
     have HQK := hid (HKP.out w5 (.int .i64 (er : Int)) (.slice qpo bs.length qc) HB5.out (.cells #[.int .i64 (er : Int), .slice qpo bs.length qc] 115))
     have m4 := HM4.out w5 (.cells #[.int .i64 (er : Int), .slice qpo bs.length qc] 115) HB5.out
     have f0 := HFZ.out w5 (.cells #[.int .i64 (er : Int), .slice qpo bs.length qc] 115) HB5.out
     have CE := hid (HCE.out w5 (.cells #[.int .i64 (er : Int), .slice qpo bs.length qc] 115) HB5.out)
     have hc6 : CAt (w5.alloc (.cells #[.int .i64 (er : Int), .slice qpo bs.length qc] 115)) w5.heap.size #[.int .i64 (er : Int), .slice qpo bs.length qc] 115 := CAt.made _ _ _
     generalize w5.alloc (.cells #[.int .i64 (er : Int), .slice qpo bs.length qc] 115) = w6 at *
     obtain ⟨v0, e0⟩ := CE.out (i * 2) (by omega)
     obtain ⟨v1, e1⟩ := CE.out (i * 2 + 1) (by omega)
     have g0 := hc6.cell 0
     have g1 := hc6.cell 1
     have hik' : (i : Int) < (k : Int) := by omega
     clear hc6
     refine wpIn_seq (wpIn_seq (round_list (fun _ _ h => h) (by kernel_rfl) ?_))
     go_wp2
     refine wpIn_cond_false rfl (wpIn_skip ?_)
     refine round_list (fun _ _ h => h) (by kernel_rfl) ?_
     go_wp2
     exact ⟨HQK.out, HQ.out⟩
  ·have hr : rdN k X0 s = 13 := by unfold rdN; rw [if_neg (by omega), if_pos (by simpa using hok)]
   obtain ⟨po, cc, rfl⟩ := hl.form
   have FIN : Hid (∀ W', Below w1.heap.size w1 W' → RdAt w1 k X0 s (.returned (.tuple #[.slice none 0 0, .int .i64 (13 : Int)])) W') := fun W' hb => ⟨_, (by first | (rw [hr]; done) | (rw [hr]; rfl)), hb, .inl ⟨by rw [hr]; decide, rfl⟩⟩
   clear hl h hE
   rw [show okNm s = false by simpa using hok] at HNM
   go_enter Tryz.func16, Tryz.ntmps16
   go_wp2_with (first
    | (go_at_call 71; refine (HCK.out _ _ _).mono ?_; rintro e w5 ⟨rfl, hw5⟩; have hw6 := hw5.symm; subst hw6)
    | (go_at_call 72; refine (HNM.out _).mono ?_; rintro e w5 ⟨rfl, hw5⟩; have hw6 := hw5.symm; subst hw6))
   refine ⟨rfl, .tuple #[.slice none 0 0, .int .i64 (13 : Int)], ?_, FIN.out _ ((((Below.refl w1.heap.size w1).alloc (Nat.le_refl _) _).alloc (by simp only [size_al]; omega) _).alloc (by simp only [size_al]; omega) _)⟩
   simp [results, Tryz.f16, go_sem]
 ·have hr : rdN k X0 s = ckD k := by unfold rdN; rw [if_pos hck]
  obtain ⟨po, cc, rfl⟩ := hl.form
  have FIN : Hid (∀ W', Below w1.heap.size w1 W' → RdAt w1 k X0 s (.returned (.tuple #[.slice none 0 0, .int .i64 ((ckD k : Nat) : Int)])) W') := fun W' hb => ⟨_, (by first | (rw [hr]; done) | (rw [hr]; rfl)), hb, .inl ⟨by rw [hr]; exact hck, rfl⟩⟩
  clear hl h hE
  have hne : (((ckD k : Nat) : Int) != 0) = true := by simp; omega
  generalize ckD k = q at *
  go_enter Tryz.func16, Tryz.ntmps16
  go_wp2_with (first
   | (go_at_call 71; refine (HCK.out _ _ _).mono ?_; rintro e w5 ⟨rfl, hw5⟩; have hw6 := hw5.symm; subst hw6))
  refine ⟨rfl, .tuple #[.slice none 0 0, .int .i64 (q : Int)], ?_, FIN.out _ ((((Below.refl w1.heap.size w1).alloc (Nat.le_refl _) _).alloc (by simp only [size_al]; omega) _).alloc (by simp only [size_al]; omega) _)⟩
  simp [results, Tryz.f16, go_sem]
end Go.Proofs.YtfogkegmdgbecaaGreatDoor

/- slices.Compact of texts: the walk. -/
namespace Go.Proofs.YtfogkegmdgbecaaGreatDoor
open Go Go.RowKit Go.Shelf

theorem cmpL_short {l : List Nm} (h : l.length < 2) : cmpL l = l := by
 match l, h with
 | [], _ => rfl
 | [x], _ => rfl
theorem TxtL.keepC {B g n c : Nat} {w w' : World} {cur : Array Value} {ss : List Nm} (h : TxtL B w (.slice (some ⟨g, 0, none⟩) n c) ss) (h1 : CAt w' g cur 9) (h2 : CAt w g cur 9) : TxtL B w' (.slice (some ⟨g, 0, none⟩) n c) ss := ownsRow_keep h fun b hb => by cases hb; exact (show w'.heap[g]? = _ from h1).trans (show w.heap[g]? = _ from h2).symm
theorem CAt.setCells {g t : Nat} : ∀ (vs : List Value) (o : Nat) (W : World) (cur : Array Value), CAt W g cur t → ∃ cur', CAt (W.setCells g o vs) g cur' t ∧ cur'.size = cur.size ∧ ∀ i, i < o → cur'[i]? = cur[i]?
 | [], _, _, cur, h => ⟨cur, h, rfl, fun _ _ => rfl⟩
 | v :: r, o, W, cur, h => by
  obtain ⟨cur', h1, h2, h3⟩ := CAt.setCells r (o + 1) (W.setCell ⟨g, o, none⟩ v) _ (h.set o v)
  refine ⟨cur', by rw [World.setCells]; exact h1, by rw [h2]; simp, fun i hi => ?_⟩
  rw [h3 i (by omega), Array.getElem?_setIfInBounds_ne (by omega)]
theorem only_setCells (g : Nat) : ∀ (vs : List Value) (o : Nat) (W : World), Only (fun b => b = g) W (W.setCells g o vs)
 | [], _, W => Only.refl _ _
 | v :: r, o, W => by rw [World.setCells]; exact (Only.set (S := fun b => b = g) W ⟨g, o, none⟩ v rfl).then (only_setCells g r (o + 1) _) (fun _ _ h => h)
theorem zero9 (w : World) : (zeroValue 9).run Tryz.prog w = .ok (.string ⟨#[]⟩) w := by kernel_rfl
/-- The first loop: no two neighbours of the first k are equal. -/
structure C1I (w : World) (g sz : Nat) (cur : Array Value) (ss : List Nm) (k : Nat) (W : World) : Prop where
 c : CAt W g cur 9
 q : cmpL (ss.take k) = ss.take k
 on : Only (fun b => b = g) w W
 sz : cur.size = sz
/-- The second: what is left of the first j + 1 lies in front, what comes after j as it lay. -/
structure C2I (w : World) (g sz : Nat) (ss : List Nm) (j k : Nat) (W : World) : Prop where
 ex : ∃ cur, CAt W g cur 9 ∧ cur.size = sz ∧ (∀ i, i < k → cur[i]? = some (sv ((cmpL (ss.take (j + 1))).getD i []))) ∧ ∀ i, j ≤ i → i < ss.length → cur[i]? = some (sv (ss.getD i []))
 ln : (cmpL (ss.take (j + 1))).length = k
 kj : k ≤ j
 on : Only (fun b => b = g) w W
theorem C2I.skip {w : World} {g sz : Nat} {ss : List Nm} {j k : Nat} {W W' : World} (h : C2I w g sz ss j k W) (hj : j + 1 < ss.length) (he : ss.getD (j + 1) [] = ss.getD j []) (hb : Below W.heap.size W W') : C2I w g sz ss (j + 1) k W' := by
 obtain ⟨cur, h1, h2, h3, h4⟩ := h.ex
 have e : cmpL (ss.take (j + 1 + 1)) = cmpL (ss.take (j + 1)) := by rw [cmpL_take ss (j + 1) (by omega) hj, if_pos (by rw [Nat.add_sub_cancel]; exact he)]
 exact ⟨⟨cur, h1.below hb, h2, fun i hi => by rw [e]; exact h3 i hi, fun i hi hi2 => h4 i (by omega) hi2⟩, by rw [e]; exact h.ln, Nat.le_succ_of_le h.kj, h.on.then (Only.of_below (S := fun _ => False) hb) (fun _ _ h => h.elim)⟩
theorem C2I.put {w : World} {g sz : Nat} {ss : List Nm} {j k : Nat} {W W' : World} (h : C2I w g sz ss j k W) (hj : j + 1 < ss.length) (he : ss.getD (j + 1) [] ≠ ss.getD j []) (hb : Below W.heap.size W W') (hsz : ss.length ≤ sz) : C2I w g sz ss (j + 1) (k + 1) (W'.setCell ⟨g, k, none⟩ (sv (ss.getD (j + 1) []))) := by
 obtain ⟨cur, h1, h2, h3, h4⟩ := h.ex
 have e : cmpL (ss.take (j + 1 + 1)) = cmpL (ss.take (j + 1)) ++ [ss.getD (j + 1) []] := by rw [cmpL_take ss (j + 1) (by omega) hj, if_neg (by rw [Nat.add_sub_cancel]; exact he)]
 have hk := h.kj
 refine ⟨⟨_, (h1.below hb).set k (sv (ss.getD (j + 1) [])), by simp [h2], fun i hi => ?_, fun i hi hi2 => ?_⟩, by rw [e]; simp [h.ln], by omega, (h.on.then (Only.of_below (S := fun _ => False) hb) (fun _ _ h => h.elim)).then (Only.set (S := fun b => b = g) W' ⟨g, k, none⟩ _ rfl) (fun _ _ h => h)⟩
 ·rw [e]
  by_cases q : i = k
  ·subst q
   rw [Array.getElem?_setIfInBounds_self_of_lt (by omega)]
   simp [List.getD, ← h.ln]
  ·rw [Array.getElem?_setIfInBounds_ne (by omega), h3 i (by omega)]
   have hl : i < (cmpL (ss.take (j + 1))).length := by rw [h.ln]; omega
   simp [List.getD, List.getElem?_append_left hl]
 ·rw [Array.getElem?_setIfInBounds_ne (by omega)]; exact h4 i (by omega) hi2
theorem C2I.cell {w : World} {g sz : Nat} {ss : List Nm} {j k : Nat} {W : World} (h : C2I w g sz ss j k W) {i : Nat} (h1 : j ≤ i) (h2 : i < ss.length) : W.cell? ⟨g, i, none⟩ = some (sv (ss.getD i [])) := by
 obtain ⟨cur, a, b, d, e⟩ := h.ex; exact (a.cell i).trans (e i h1 h2)
/-- At the end what is behind is cleared. -/
theorem C2I.done {B : Nat} {w : World} {g c : Nat} {ss : List Nm} {j k : Nat} {W : World} (h : C2I w g (c * 1) ss j k W) (hj : j + 1 = ss.length) (vs : List Value) (hB : B ≤ g) (hc : ss.length ≤ c) (hm : c ≤ maxLen) : TxtL B (W.setCells g k vs) (.slice (some ⟨g, 0, none⟩) (cmpL ss).length c) (cmpL ss) ∧ (cmpL ss).length = k ∧ Only (fun b => b = g) w (W.setCells g k vs) := by
 obtain ⟨cur, h1, h2, h3, h4⟩ := h.ex
 have e : cmpL (ss.take (j + 1)) = cmpL ss := by rw [hj, List.take_of_length_le (Nat.le_refl _)]
 have hl := h.ln
 rw [e] at h3 hl
 have hk := h.kj
 obtain ⟨cur', q1, q2, q3⟩ := CAt.setCells vs k W cur h1
 refine ⟨⟨by simp, .inr ⟨g, c, cur', rfl, hB, q1, by omega, hm, by rw [q2, h2], ?_⟩⟩, hl, h.on.then (only_setCells g vs k W) (fun _ _ h => h)⟩
 apply List.ext_getElem?
 intro i
 rw [List.getElem?_take]
 by_cases hi : i < k
 ·rw [if_pos (by omega)]
  have := (q3 i hi).trans (h3 i hi)
  rw [getD_in _ _ _ (by omega)] at this
  simpa [hl, hi] using this
 ·rw [if_neg (by omega), List.getElem?_eq_none (by simp; omega)]
set_option maxHeartbeats 2000000 in
set_option maxRecDepth 100000 in
theorem compact_any {B : Nat} {w : World} {v : Value} {ss : List Nm} (h : TxtL B w v ss) (hn : ss.length ≤ 1000000) : Calls Tryz.prog 86 #[v] w fun e w' => ∃ po c, e = .returned (.slice po (cmpL ss).length c) ∧ TxtL B w' (.slice po (cmpL ss).length c) (cmpL ss) ∧ Only (fun b => v.ownBlock = some b) w w' := by
 obtain ⟨po, c, rfl⟩ := own_form h
 by_cases h2 : ss.length < 2
 ·rw [cmpL_short h2]
  have H := hid h
  have h2' : (ss.length : Int) < 2 := by omega
  clear h
  go_enter Tryz.func86, Tryz.ntmps86
  go_wp2
  go_ret
  exact ⟨po, c, rfl, H.out, Only.refl _ _⟩
 ·rcases h.2 with ⟨e, h0⟩ | ⟨g, cap, cur, e, hB, hg, hcap, hmx, hsz, htk⟩
  ·omega
  cases e
  have hc : CAt w g cur 9 := hg
  have hcur : ∀ i, i < ss.length → cur[i]? = some (sv (ss.getD i [])) := fun i hi => by
   have e1 : (cur.toList.take (ss.length * 1))[i]? = (ss.map sv)[i]? := by rw [htk]
   rw [List.getElem?_take, if_pos (by omega)] at e1
   rw [getD_in _ _ _ hi]
   simpa [hi] using e1
  have HCU := hid hcur
  have I1 : Hid (C1I w g (c * 1) cur ss 1 w) := ⟨hc, by rw [cmpL_short (by simp; omega)], Only.refl _ _, hsz⟩
  have h2' : ¬ (ss.length : Int) < 2 := by omega
  have HN := hid hn
  have HCAP := hid hcap
  have HH := hid h
  have HCW := hid hc
  clear h hg hsz htk hc hcur hn
  go_enter Tryz.func86, Tryz.ntmps86
  go_wp2
  go_loopw [3] (fun x wr => ∃ k : Nat, 1 ≤ k ∧ k ≤ ss.length ∧ x = .int .i64 (k : Int) ∧ C1I w g (c * 1) cur ss k wr) (fun x _ => (ss.length - intOf x).toNat)
  case atStart => exact ⟨1, by omega, by omega, rfl, I1.out⟩
  case round =>
   clear I1
   obtain ⟨k, hk1, hk, rfl, hI⟩ := hrel
   have HI := hid hI
   clear hI
   by_cases hlt : k < ss.length
   ·have hlt' : (k : Int) < (ss.length : Int) := by omega
    have hk2 : (k : Int) < 1000000 := by have := HN.out; omega
    have ca : wr.cell? ⟨g, k, none⟩ = some (sv (ss.getD k [])) := (HI.out.c.cell k).trans (HCU.out k hlt)
    have cb : wr.cell? ⟨g, k - 1, none⟩ = some (sv (ss.getD (k - 1) [])) := (HI.out.c.cell (k - 1)).trans (HCU.out (k - 1) (by omega))
    have hkm : ((k : Int) - 1) = ((k - 1 : Nat) : Int) := by omega
    by_cases he : ss.getD k [] = ss.getD (k - 1) []
    ·have J0 : Hid (∀ W', Below wr.heap.size wr W' → C2I w g (c * 1) ss k k W') := hid (fun W' hb => by
       have e : cmpL (ss.take (k + 1)) = ss.take k := by rw [cmpL_take ss k (by omega) hlt, if_pos he, HI.out.q]
       refine ⟨⟨cur, HI.out.c.below hb, HI.out.sz, fun i hi => ?_, fun i _ hi => HCU.out i hi⟩, by rw [e, List.length_take]; omega, Nat.le_refl _, HI.out.on.then (Only.of_below (S := fun _ => False) hb) (fun _ _ h => h.elim)⟩
       rw [e, HCU.out i (by omega)]
       simp [List.getD, hi])
     rw [← he] at cb
     unfold sv at ca cb
     generalize (⟨(ss.getD k []).toArray⟩ : ByteArray) = XX at *
     have hkc : (k : Int) ≤ (c : Int) := by have := HCAP.out; omega
     go_wp2
     go_quiet (fail)
     go_wp2
     have hsub : ((ss.length - k : Nat) : Int) = (ss.length : Int) - (k : Int) := by omega
     have HSUB := hid hsub
     clear hsub ca cb
     generalize hnk : ss.length - k = nk at *
     have HNK := hid hnk
     clear hnk
     go_loopw [3, 5] (fun x y W => ∃ kk m k2 : Nat, k2 = m + 1 ∧ k + m + 1 ≤ ss.length ∧ x = .int .i64 (kk : Int) ∧ y = .int .i64 (k2 : Int) ∧ C2I w g (c * 1) ss (k + m) kk W) (fun _ y _ => (nk - intOf y).toNat)
     case atStart => exact ⟨k, 0, 1, rfl, by omega, rfl, rfl, J0.out _ (below_drewN _ _)⟩
     case round =>
      clear J0
      obtain ⟨kk, m, k2, hkk, hm, rfl, rfl, hJ⟩ := hrel
      have HJ := hid hJ
      have HK2 := hid hkk
      clear hJ
      by_cases hl2 : k2 < nk
      ·have hl2' : (k2 : Int) < (nk : Int) := by omega
       have hmb : (m : Int) < 1000000 := by have := HN.out; omega
       have hj1 : k + m + 1 < ss.length := by have := HNK.out; omega
       have ca : wr.cell? ⟨g, k + k2, none⟩ = some (sv (ss.getD (k + m + 1) [])) := by rw [hkk]; exact HJ.out.cell (by omega) hj1
       have cb : wr.cell? ⟨g, k + m, none⟩ = some (sv (ss.getD (k + m) [])) := HJ.out.cell (Nat.le_refl _) (by omega)
       have hkm2 : ((k2 : Int) - 1) = (m : Int) := by omega
       have hkkj := HJ.out.kj
       have hk2b : (k2 : Int) < 1000001 := by have := HN.out; omega
       have hmn : (m : Int) < (nk : Int) := by omega
       clear hkk
       by_cases hq : ss.getD (k + m + 1) [] = ss.getD (k + m) []
       ·have HS : Hid (∀ W', Below wr.heap.size wr W' → C2I w g (c * 1) ss (k + m + 1) kk W') := hid (fun W' hb => HJ.out.skip hj1 hq hb)
        rw [← hq] at cb
        unfold sv at ca cb
        generalize (⟨(ss.getD (k + m + 1) []).toArray⟩ : ByteArray) = X2 at *
        go_wp2
        go_quiet (fail)
        go_wp2
        go_roundw
        case rel => exact ⟨kk, m + 1, k2 + 1, by rw [HK2.out], by omega, rfl, by go_num, HS.out _ (below_drewN _ _)⟩
        case measure => simp [intOf]; omega
       ·have HS : Hid (∀ W', Below wr.heap.size wr W' → C2I w g (c * 1) ss (k + m + 1) (kk + 1) (W'.setCell ⟨g, kk, none⟩ (sv (ss.getD (k + m + 1) [])))) := hid (fun W' hb => HJ.out.put hj1 hq hb (by have := HCAP.out; omega))
        have hne : (⟨(ss.getD (k + m + 1) []).toArray⟩ : ByteArray) ≠ ⟨(ss.getD (k + m) []).toArray⟩ := fun e => hq ((sv_eq _ _).1 e)
        have yk : wr.frozen? ⟨g, kk, none⟩ = false := by obtain ⟨cu, h1, _⟩ := HJ.out.ex; exact h1.free kk
        have ck : ∃ v, wr.cell? ⟨g, kk, none⟩ = some v := by
         obtain ⟨cu, h1, h2, _⟩ := HJ.out.ex
         have := HCAP.out
         exact ⟨_, (h1.cell kk).trans (Array.getElem?_eq_getElem (by omega))⟩
        obtain ⟨vk, ck⟩ := ck
        unfold sv at ca cb HS
        generalize (⟨(ss.getD (k + m + 1) []).toArray⟩ : ByteArray) = X2 at *
        generalize (⟨(ss.getD (k + m) []).toArray⟩ : ByteArray) = Y2 at *
        have hx2 := ba_ne hne
        have hkk2 : (kk : Int) < 1000000 := by have := HN.out; omega
        have hkk3 : (kk : Int) < (ss.length : Int) := by omega
        go_wp2
        go_quiet (fail)
        go_wp2
        go_roundw
        case rel => exact ⟨kk + 1, m + 1, k2 + 1, by rw [HK2.out], by omega, by go_num, by go_num, HS.out _ (below_drewN _ _)⟩
        case measure => simp [intOf]; omega
      ·have hl2' : ¬ (k2 : Int) < (nk : Int) := by omega
       have hje : k + m + 1 = ss.length := by have := HNK.out; omega
       have hkkj := HJ.out.kj
       have hclr : ∀ ty, (Builtin.clear_ #[32] ty #[.slice (some ⟨g, kk, none⟩) (ss.length - kk) (c - kk)]).run Tryz.prog wr = .ok (.tuple #[]) (wr.setCells g kk (List.replicate (ss.length - kk) (.string ⟨#[]⟩))) := fun ty => by
        refine Lib.run_clear_slice wr 32 9 ty (.string ⟨#[]⟩) Tryz.underlying32 (fun W => ?_) rfl rfl g kk (ss.length - kk) (c - kk) (by omega) (fun x hx => ?_) (fun x hx => ?_)
        ·exact zero9 W
        ·obtain ⟨cu, h1, h2, _⟩ := HJ.out.ex
         have := HCAP.out
         rw [h1.cell, Array.getElem?_eq_getElem (by omega)]; rfl
        ·obtain ⟨cu, h1, h2, _⟩ := HJ.out.ex
         exact h1.free _
       have HDN := hid (HJ.out.done (B := B) hje (List.replicate (ss.length - kk) (.string ⟨#[]⟩)) hB HCAP.out hmx)
       have hkc2 : (kk : Int) < (c : Int) := by have := HCAP.out; omega
       have hkc4 : ¬ kk = c := by omega
       have hkc5 : kk < c := by omega
       have hkl2 : (kk : Int) ≤ (ss.length : Int) := by omega
       generalize wr.setCells g kk (List.replicate (ss.length - kk) (.string ⟨#[]⟩)) = W9 at *
       clear hje hm hkk hkkj hlt' hk2 hkm
       go_wp2
       go_ret
       obtain ⟨d1, d2, d3⟩ := HDN.out
       refine ⟨some ⟨g, 0, none⟩, c, by simp [d2], d1, d3.mono fun b hb => by subst hb; rfl⟩
    ·have HQ : Hid (cmpL (ss.take (k + 1)) = ss.take (k + 1)) := hid (by
       rw [cmpL_take ss k (by omega) hlt, if_neg he, HI.out.q, getD_in _ _ _ hlt, List.take_add_one, List.getElem?_eq_getElem hlt]; rfl)
     have hne : (⟨(ss.getD k []).toArray⟩ : ByteArray) ≠ ⟨(ss.getD (k - 1) []).toArray⟩ := fun e => he ((sv_eq _ _).1 e)
     unfold sv at ca cb
     generalize (⟨(ss.getD k []).toArray⟩ : ByteArray) = XX at *
     generalize (⟨(ss.getD (k - 1) []).toArray⟩ : ByteArray) = YY at *
     have hx2 := ba_ne hne
     clear he
     go_wp2
     go_quiet (fail)
     go_wp2
     go_roundw
     case rel => exact ⟨k + 1, by omega, by omega, by go_num, HI.out.c, HQ.out, HI.out.on.then (Only.of_below (S := fun _ => False) (below_drewN _ _)) (fun _ _ h => h.elim), HI.out.sz⟩
     case measure => simp [intOf]; omega
   ·have hlt' : ¬ (k : Int) < (ss.length : Int) := by omega
    have hkn : k = ss.length := by omega
    have HE : Hid (cmpL ss = ss) := hid (by have := HI.out.q; rw [hkn, List.take_of_length_le (Nat.le_refl _)] at this; exact this)
    go_wp2
    go_ret
    rw [HE.out]
    exact ⟨_, _, rfl, TxtL.keepC HH.out HI.out.c HCW.out, HI.out.on.mono fun b hb => by subst hb; rfl⟩
end Go.Proofs.YtfogkegmdgbecaaGreatDoor
