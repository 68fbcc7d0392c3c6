/- Texts laid into one, cut to what is needed: the remark ahead of each part says what is proved there. -/
import Derived.Test.YtfogkegmdgbecaaGreatDoorPab
import Derived.Test.YtfogkegmdgbecaaGreatDoorShelf
/- Contract of put of package drive: a file is laid, in the place of what had its name. -/
namespace Go.Proofs.YtfogkegmdgbecaaGreatDoor
open Go Go.RowKit

theorem sclone_any (s : Nm) (w : World) (hs : s.length ≤ 512) : Calls Tryz.prog 126 #[sv s] w fun e w' => e = .returned (sv s) ∧ Below w.heap.size w w' := by
 have hc := Tryz.stringslite_Clone ⟨s.toArray⟩ w (by simp [ByteArray.size]; omega)
 unfold sv
 generalize (⟨s.toArray⟩ : ByteArray) = bs at *
 go_enter Tryz.func126, Tryz.ntmps126
 go_wp2_with (go_at_call 155; refine hc.mono ?_; rintro e w1 ⟨rfl, hb⟩)
 go_ret
 exact ⟨rfl, hb⟩
theorem ok_len {s : Nm} (h : okNm s = true) : s.length ≤ 512 := ((okNm_iff s).1 h).2.1
theorem DrC.below {w w' : World} {S : Nat → Prop} {p m : Nat} {fu : Option Nat} {d : Pd} {L : List (Nm × Ent)} (h : DrC w S p m fu d L) (hb : Below w.heap.size w w') : DrC w' S p m fu d L :=
 h.keep hb.size fun b hS => hb.block b (h.lt b hS)
theorem FuAt.below {w w' : World} {S : Nat → Prop} {fu : Option Nat} {f : Fs} (h : FuAt w S fu f) (hb : Below w.heap.size w w') : FuAt w' S fu f :=
 h.keep fun q hq => hb.block q (h.lt q hq)
theorem scloneQ {C : World → Prop} (hon : ∀ w w', C w → Below w.heap.size w w' → C w') (s : Nm) (hs : s.length ≤ 512) (t : WC C) :
  Calls Tryz.prog 126 #[sv s] t.w fun e w' => e = .returned (sv s) ∧ ∃ t' : WC C, w' = t'.w :=
 (sclone_any s t.w hs).mono fun _ w' ⟨h1, h2⟩ => ⟨h1, ⟨w', hon _ _ t.ok h2⟩, rfl⟩
theorem below_on {w0 : World} (w w' : World) (h : Below w0.heap.size w0 w) (hb : Below w.heap.size w w') : Below w0.heap.size w0 w' :=
 ⟨hb.os.trans h.os, hb.tape.trans h.tape, hb.output.trans h.output, Nat.le_trans h.size hb.size, fun k hk => (hb.block k (Nat.lt_of_lt_of_le hk h.size)).trans (h.block k hk)⟩
/-- What put asks of the file: its row, its bytes, and that it is no other file's. -/
structure NewE (w : World) (S : Nat → Prop) (p m : Nat) (L : List (Nm × Ent)) (e : Ent) : Prop where
 ow : w.ownsRow 0 5 1 e.v e.b.length (e.b.map u8)
 by8 : ∀ y ∈ e.b, y < 256
 sf : ∀ b, e.v.ownBlock = some b → S b ∧ b ≠ p ∧ b ≠ m
 ap : ∀ x ∈ L, x.2.v.ownBlock = none ∨ x.2.v.ownBlock ≠ e.v.ownBlock
theorem ap_ins {x : Nm × Ent} : ∀ {L : List (Nm × Ent)}, L.Pairwise (fun x y => x.2.v.ownBlock = none ∨ x.2.v.ownBlock ≠ y.2.v.ownBlock) → (∀ y ∈ L, y.2.v.ownBlock = none ∨ y.2.v.ownBlock ≠ x.2.v.ownBlock) → (gins x L).Pairwise (fun x y => x.2.v.ownBlock = none ∨ x.2.v.ownBlock ≠ y.2.v.ownBlock)
 | [], _, _ => by simp [gins]
 | y :: r, h, hx => by
  obtain ⟨h1, h2⟩ := List.pairwise_cons.1 h
  have sym : ∀ z : Nm × Ent, (z.2.v.ownBlock = none ∨ z.2.v.ownBlock ≠ x.2.v.ownBlock) → (x.2.v.ownBlock = none ∨ x.2.v.ownBlock ≠ z.2.v.ownBlock) := fun z hz => by
   rcases hz with hz | hz
   ·by_cases e : x.2.v.ownBlock = none
    ·exact Or.inl e
    ·exact Or.inr (by rw [hz]; exact e)
   ·exact Or.inr (Ne.symm hz)
  unfold gins; split
  ·exact List.pairwise_cons.2 ⟨fun z hz => sym z (hx z hz), h⟩
  ·refine List.pairwise_cons.2 ⟨fun z hz => ?_, ap_ins h2 (fun z hz => hx z (by simp [hz]))⟩
   rcases List.mem_cons.1 ((gins_perm x r).mem_iff.1 hz) with rfl | hz
   ·exact hx y (by simp)
   ·exact h1 z hz
theorem ap_put {L : List (Nm × Ent)} {s : Nm} {e : Ent} (h : (gdel L s).Pairwise (fun x y => x.2.v.ownBlock = none ∨ x.2.v.ownBlock ≠ y.2.v.ownBlock)) (hx : ∀ y ∈ gdel L s, y.2.v.ownBlock = none ∨ y.2.v.ownBlock ≠ e.v.ownBlock) :
  (gput L s e).Pairwise (fun x y => x.2.v.ownBlock = none ∨ x.2.v.ownBlock ≠ y.2.v.ownBlock) := ap_ins h hx
def PutAt (w : World) (S : Nat → Prop) (p m : Nat) (fu : Option Nat) (d : Pd) (L : List (Nm × Ent)) (s : Nm) (e : Ent) (r : Ending) (w' : World) : Prop :=
 r = .returned (.tuple #[]) ∧ DrC w' S p m fu { d with F := gput d.F s e.fi } (gput L s e) ∧ Only (fun b => b = p ∨ b = m) w w'
set_option maxRecDepth 100000 in
theorem put_any {w : World} {S : Nat → Prop} {p m : Nat} {fu : Option Nat} {d : Pd} {L : List (Nm × Ent)} (h : DrC w S p m fu d L) (s : Nm) (hs : okNm s = true) (po : Option Addr) (k c : Nat) (bs : List Nat) (l : Bool) (hk : k = bs.length)
  (he : NewE w S p m (gdel L s) ⟨.slice po k c, bs, l⟩) (hl : L.length < 1000000000000) (hu : usedOf (gdel d.F s) + k ≤ d.size) :
  Calls Tryz.prog 90 #[ptr p, sv s, .agg #[.slice po k c, .bool l]] w (PutAt w S p m fu d L s ⟨.slice po k c, bs, l⟩) := by
 have hs5 := ok_len hs
 have hsm : s.length ≤ maxLen := by unfold maxLen; omega
 have HK := hid hk
 clear hk
 have H := hid h
 have HE := hid he
 have HT := hid (fun (o : Obj) => take_any (h.alloc o) s hsm)
 have HU := hid hu
 have HL := hid hl
 have hp := h.c.lt
 clear h he hu hl
 go_enter Tryz.func90, Tryz.ntmps90
 go_wp2_with (go_at_call 89; refine (HT.out _).mono ?_; rintro e w1 ⟨rfl, hd1, ho1, hz1⟩)
 have H1 := hid hd1
 have HO1 := hid ho1
 have HZ1 := hid hz1
 have hbox : CAt w1 w.heap.size #[.slice po k c, .bool l] 130 := by
  refine CAt.keep (w := w.alloc _) (at_new w _) (ho1.block w.heap.size (by rw [size_al]; omega) ?_)
  rintro (e | e)
  ·have := H.out.lt p H.out.sp; omega
  ·have := H.out.lt m H.out.sm; omega
 have HB := hid hbox
 clear hd1 ho1 hz1 hbox
 obtain ⟨C, hC⟩ : ∃ C : World → Prop, C = fun w' => Below w1.heap.size w1 w' := ⟨_, rfl⟩
 have k0 : ∀ w', C w' → Below w1.heap.size w1 w' := fun w' h => by rw [hC] at h; exact h
 have k2 : ∀ t : WC C, t.w.cell? ⟨p, 2, none⟩ = some (.map (some m)) := fun t => (H1.out.below (k0 _ t.ok)).c.cell 2
 have K3 := hid (fun w' (h : C w') => show w'.heap[w.heap.size]? = some (.cells #[.slice po k c, .bool l] 130) from HB.out.keep ((k0 _ h).block _ HB.out.lt))
 have KO : Hid (∀ w' w'', C w' → Below w'.heap.size w' w'' → C w'') := hid (fun w' w'' h hb => by rw [hC] at h ⊢; exact below_on _ _ h hb)
 have KD : Hid (C w1.drew) := hid (by rw [hC]; exact (Below.refl _ _).drew)
 have K0 := hid k0
 haveI : Nonempty (WC C) := ⟨⟨_, KD.out⟩⟩
 clear hC k0
 refine wp_region_tailC 7 (C := C) (by kernel_rfl) KD.out rfl (by kernel_rfl) ?_
 dsimp only [List.take]
 repeat (first
  | go_big_quiet_skip
  | (go_big_quiet_want; first
   | (refine quiet_load_class 130 _ rfl w.heap.size rfl _ _ _ K3.out Tryz.underlying130 rfl (by kernel_rfl) ?_; simp only [Act.put, List.setIfInBounds_toArray, List.set_cons_zero, List.set_cons_succ]; go_big_quiet_on)
   | (go_big_quiet_op; first | go_big_quiet_on | go_big_quiet_call (exact scloneQ KO.out s hs5 _))))
 refine wpQuiet_nil ?_
 rintro w2' ⟨⟨w2, hM⟩, hw2⟩
 have hw2' : w2' = w2 := hw2
 subst hw2'
 clear hw2
 have HBL := hid (K0.out _ hM)
 have H2 := hid (H1.out.below HBL.out)
 have HB2 := hid (HB.out.keep (HBL.out.block _ HB.out.lt))
 clear hM K0 KD KO K3 k2 this
 have hlen : (gdel L s).length < maxLen := by have := len_del L s; have := HL.out; unfold maxLen; omega
 go_wp2_with (at_mapUpdate; refine wpList_mapUpdate_in _ rfl _ _ _ 89 rfl 9 130 strLaw underM _ m _ _ rfl H2.out.mp hlen _ _ _ rfl rfl (keyS s hsm) _ _ (RF_mk _ _ _ _) ?_; intro w3 hown3 hturn3)
 have hsz3 := turned_size hturn3
 have hk3 : ∀ b, b < w2'.heap.size → b ≠ m → w3.heap[b]? = w2'.heap[b]? := fun b hb h2 => hturn3.grown.block b hb (fun e => h2 (by cases e; rfl))
 have hc3 := H2.out.c.keep (hk3 p H2.out.c.lt H2.out.pm)
 have hb3 := HB2.out.keep (hk3 _ HB2.out.lt (by intro e; have := H.out.lt m H.out.sm; omega))
 have HOWN3 := hid hown3
 have HTURN3 := hid hturn3
 have HC3 := hid hc3
 have HB3 := hid hb3
 have HK3 := hid hk3
 have HSZ3 := hid hsz3
 have c3 : w3.cell? ⟨p, 3, none⟩ = some (.int .i64 (usedOf (gdel d.F s) : Int)) := hc3.cell 3
 have z3 : w3.frozen? ⟨p, 3, none⟩ = false := hc3.free 3
 have b0 : w3.cell? ⟨w.heap.size, 0, none⟩ = some (.slice po k c) := hb3.cell 0
 clear hown3 hturn3 hc3 hb3 hk3 hsz3 hlen
 have hu := HU.out
 have hz := H.out.sz
 generalize hC : usedOf (gdel d.F s) = C at *
 have HCC := hid hC
 clear hC
 simp only [Act.put]
 refine wp_region_tail 10 (by kernel_rfl) rfl (by kernel_rfl) ?_
 dsimp only [List.take]
 repeat (go_big_quiet_step (fail))
 refine wpQuiet_nil ?_
 intro nr
 go_wp2
 go_end0
 have hcast : (C : Int) + (k : Int) = ((C + k : Nat) : Int) := by omega
 rw [hcast]
 have HC4 := hid (HC3.out.keep (w' := w3.drewN nr) rfl)
 have HOWN4 := hid (drewN_own (k := nr) HOWN3.out)
 have HO34 := hid (Only.drewN (fun b => b = p ∨ b = m) w3 nr)
 generalize w3.drewN nr = w4 at *
 have hu2 : usedOf ({ d with F := gput d.F s (bs, l) } : Pd).F = C + k := by
  show usedOf (gput d.F s (bs, l)) = _
  rw [used_put, HCC.out, HK.out]
 have hcs := HC4.out.set 3 (.int .i64 ((C + k : Nat) : Int))
 have hO : Only (fun b => b = p ∨ b = m) w (w4.setCell ⟨p, 3, none⟩ (.int .i64 ((C + k : Nat) : Int))) :=
  (((((Only.alloc w _).then HO1.out (fun _ _ h => h)).then (Only.of_below (S := fun b => b = p ∨ b = m) HBL.out) (fun _ _ h => h)).then (Only.of_grown (S := fun b => b = p ∨ b = m) HTURN3.out.grown (fun k e _ => Or.inr (by cases e; rfl))) (fun _ _ h => h)).then HO34.out (fun _ _ h => h)).then (Only.set (S := fun b => b = p ∨ b = m) w4 ⟨p, 3, none⟩ _ (Or.inl rfl)) (fun _ _ h => h)
 have hfree : ∀ b, S b → b ≠ p → b ≠ m → (w4.setCell ⟨p, 3, none⟩ (.int .i64 ((C + k : Nat) : Int))).heap[b]? = w.heap[b]? := fun b hb h1 h2 =>
  hO.block b (H.out.lt b hb) (fun e => e.elim h1 h2)
 have hmm : (w4.setCell ⟨p, 3, none⟩ (.int .i64 ((C + k : Nat) : Int))).ownsMap Tryz.prog 9 RF m ((gdel L s).length + 1) (mapD (gput (gdel L s) s ⟨.slice po k c, bs, l⟩)) := by
  rw [← mapD_put]
  exact HOWN4.out.setCell (Ne.symm H.out.pm) _
 have egg : gput (gdel L s) s (⟨.slice po k c, bs, l⟩ : Ent) = gput L s ⟨.slice po k c, bs, l⟩ := by
  unfold gput; congr 1; unfold gdel; simp
 rw [egg] at hmm
 refine ⟨rfl, ?_, hO⟩
 refine H.out.turned (d2 := { d with F := gput d.F s (bs, l) }) ?_ hmm hfree hO.size ?_ (H.out.so.put s _) (fun x hx => ?_) ?_ ?_ rfl
 ·rw [hu2]; exact hcs
 ·show gput d.F s (bs, l) = _
  rw [H.out.fs]; exact gput_map Ent.fi L s ⟨.slice po k c, bs, l⟩
 ·rcases mem_put.1 hx with rfl | ⟨hx, _⟩
  ·refine ⟨hs, Or.inr ⟨HE.out.ow, HE.out.by8, HE.out.sf⟩⟩
  ·exact ⟨H.out.nm x hx, Or.inl ⟨x, hx, rfl, rfl⟩⟩
 ·exact ap_put (H.out.ap.filter _) HE.out.ap
 ·rw [hu2]; show C + k ≤ d.size; exact hu
end Go.Proofs.YtfogkegmdgbecaaGreatDoor

/- Contract of change of package drive, for each of the four closures that it is handed. -/
namespace Go.Proofs.YtfogkegmdgbecaaGreatDoor
open Go Go.RowKit

/-- S2: S, and what is new since w. -/
def Grows (w : World) (S S2 : Nat → Prop) : Prop := (∀ b, S b → S2 b) ∧ ∀ b, S2 b → S b ∨ w.heap.size ≤ b
theorem Grows.refl (w : World) (S : Nat → Prop) : Grows w S S := ⟨fun _ h => h, fun _ h => Or.inl h⟩
theorem Grows.on {w w1 : World} {S S2 : Nat → Prop} (h : Grows w1 S S2) (hs : w.heap.size ≤ w1.heap.size) : Grows w S S2 :=
 ⟨h.1, fun b hb => (h.2 b hb).imp id fun h => Nat.le_trans hs h⟩
theorem Grows.fu {w : World} {S S2 : Nat → Prop} (h : Grows w S S2) : ∀ {fu : Option Nat} {f : Fs}, FuAt w S fu f → FuAt w S2 fu f
 | none, none, _ => trivial
 | some _, some (_, _), hf => ⟨hf.1, fun hq => (h.2 _ hq).elim hf.2.1 (fun hle => absurd hf.1.lt (by omega)), hf.2.2⟩
/-- What a call that may change a drive leaves. -/
def Done (w : World) (S : Nat → Prop) (p : Nat) (fu : Option Nat) (r : Nat × Pd × Fs) (e : Ending) (w' : World) : Prop :=
 e = .returned (.int .i64 (r.1 : Int)) ∧ ∃ S2, Grows w S S2 ∧ DrAt w' S2 p fu r.2.1 ∧ FuAt w' S2 fu r.2.2 ∧ Only (fun b => S b ∨ fu = some b) w w'
/-- What a closure does: the files become F2. -/
def Did (w : World) (S : Nat → Prop) (p m : Nat) (fu : Option Nat) (d : Pd) (F2 : List (Nm × Fi)) (e : Ending) (w' : World) : Prop :=
 e = .returned (.tuple #[]) ∧ ∃ S2 L2, Grows w S S2 ∧ DrC w' S2 p m fu { d with F := F2 } L2 ∧ Only (fun b => b = p ∨ b = m) w w'
theorem DrC.moreOps {w : World} {S : Nat → Prop} {p m : Nat} {fu : Option Nat} {d : Pd} {L : List (Nm × Ent)} (h : DrC w S p m fu d L) :
  DrC (w.setCell ⟨p, 4, none⟩ (.int .i64 ((d.ops + 1 : Nat) : Int))) S p m fu { d with ops := d.ops + 1 } L :=
 h.turned (d2 := { d with ops := d.ops + 1 }) (h.c.set 4 _) (h.mp.setCell (Ne.symm h.pm) _) (fun _ _ h1 _ => heap_setCell_ne _ _ _ _ h1) (Nat.le_of_eq (setCell_size _ _ _).symm) h.fs h.so (fun x hx => ⟨h.nm x hx, Or.inl ⟨x, hx, rfl, rfl⟩⟩) h.ap h.us rfl
theorem FuAt.kept {w w' : World} {S T : Nat → Prop} {fu : Option Nat} {f : Fs} (h : FuAt w S fu f) (ho : Only T w w') (hT : ∀ q, fu = some q → ¬ T q) : FuAt w' S fu f :=
 h.keep fun q hq => ho.block q (h.lt q hq) (hT q hq)
theorem FuAt.ne {w : World} {S : Nat → Prop} : ∀ {fu : Option Nat} {f : Fs}, FuAt w S fu f → ∀ q, fu = some q → ¬ S q
 | some _, some (_, _), h, _, rfl => h.2.1
set_option maxRecDepth 100000 in
theorem change_w {w : World} {S : Nat → Prop} {p m : Nat} {fu : Option Nat} {d : Pd} {L : List (Nm × Ent)} (h : DrC w S p m fu d L) {f : Fs} (hf : FuAt w S fu f) (ho : d.ops < 1000000000000) (x0 x1 x2 : Value) (F2 : List (Nm × Fi))
  (hdo : ∀ w1, DrC w1 S p m fu d L → Only (fun b => fu = some b) w w1 → w1.heap.size = w.heap.size → Calls Tryz.prog 98 #[x0, x1, x2] w1 (Did w1 S p m fu d F2)) :
  Calls Tryz.prog 97 #[ptr p, .func (.func 98) #[] #[x0, x1, x2]] w (Done w S p fu (d.chg f F2)) := by
 have H := hid h
 have HF := hid hf
 have HD := hid hdo
 have c8 : w.cell? ⟨p, 8, none⟩ = some (fuV fu) := h.c.cell 8
 clear h hf hdo
 match fu, f, HF with
 | none, none, HF =>
  simp only [fuV] at c8
  go_enter Tryz.func97, Tryz.ntmps97
  go_wp2_with (go_at_call 98; refine (HD.out w H.out (Only.refl _ _) rfl).mono ?_; rintro e w2 ⟨rfl, S2, L2, hg2, hd2, ho2⟩; have c4 : w2.cell? ⟨p, 4, none⟩ = some (.int .i64 (d.ops : Int)) := hd2.c.cell 4; have z4 : w2.frozen? ⟨p, 4, none⟩ = false := hd2.c.free 4; have HG2 := hid hg2; have HD2 := hid hd2; have HO2 := hid ho2; clear hg2 hd2 ho2)
  go_ret
  refine ⟨rfl, S2, HG2.out, ⟨m, L2, HD2.out.moreOps⟩, trivial, ?_⟩
  exact (HO2.out.mono (fun b hb => Or.inl (hb.elim (fun e => e ▸ H.out.sp) (fun e => e ▸ H.out.sm)))).then (Only.set (S := fun b => b = p) _ _ _ rfl) (fun i _ e => Or.inl (e ▸ H.out.sp))
 | some q, some (n, g), HF =>
  have HL := hid (lets_any HF.out)
  simp only [fuV] at c8
  cases hl : letsF (some (n, g))
  ·have e : d.chg (some (n, g)) F2 = (11, d, burn (some (n, g))) := by unfold Pd.chg; rw [hl]; rfl
   have HEE := hid e
   clear e
   rw [hl] at HL
   have HL := hid HL.out
   go_enter Tryz.func97, Tryz.ntmps97
   go_wp2_with (go_at_call 127; refine HL.out.mono ?_; rintro e w1 ⟨rfl, hf1, ho1, hz1⟩)
   go_ret
   rw [HEE.out]
   refine ⟨rfl, S, Grows.refl _ _, DrAt.keep ⟨m, L, H.out⟩ ho1.size (fun b hb => ho1.block b (H.out.lt b hb) (fun e => HF.out.2.1 (e ▸ hb))), hf1, ho1.mono fun b e => Or.inr (by rw [e])⟩
  ·have e : d.chg (some (n, g)) F2 = (0, { d with F := F2, ops := d.ops + 1 }, burn (some (n, g))) := by unfold Pd.chg; rw [hl]; rfl
   have HEE := hid e
   clear e
   rw [hl] at HL
   have HL := hid HL.out
   go_enter Tryz.func97, Tryz.ntmps97
   go_wp2_with (first
    | (go_at_call 127; refine HL.out.mono ?_; rintro e w1 ⟨rfl, hf1, ho1, hz1⟩; have HF1 := hid hf1; have HO1 := hid ho1; have HZ1 := hid hz1; have H1 := hid (H.out.keep ho1.size (fun b hb => ho1.block b (H.out.lt b hb) (fun e => HF.out.2.1 (e ▸ hb)))); clear hf1 ho1 hz1)
    | (go_at_call 98; refine (HD.out w1 H1.out (HO1.out.mono (fun b e => by rw [e])) HZ1.out).mono ?_; rintro e w2 ⟨rfl, S2, L2, hg2, hd2, ho2⟩; have c4 : w2.cell? ⟨p, 4, none⟩ = some (.int .i64 (d.ops : Int)) := hd2.c.cell 4; have z4 : w2.frozen? ⟨p, 4, none⟩ = false := hd2.c.free 4; have HG2 := hid hg2; have HD2 := hid hd2; have HO2 := hid ho2; clear hg2 hd2 ho2))
   go_ret
   rw [HEE.out]
   have hS : ∀ b, b = p ∨ b = m → S b := fun b hb => hb.elim (fun e => e ▸ H.out.sp) (fun e => e ▸ H.out.sm)
   have hO3 : Only (fun b => b = p ∨ b = m) w1 (w2.setCell ⟨p, 4, none⟩ (.int .i64 ((d.ops + 1 : Nat) : Int))) := HO2.out.then (Only.set (S := fun b => b = p ∨ b = m) _ _ _ (Or.inl rfl)) (fun _ _ h => h)
   have hf3 := (HG2.out.fu HF1.out).kept hO3 (fun q' hq' hp => HF1.out.ne q' hq' (hS _ hp))
   exact ⟨rfl, S2, HG2.out.on HO1.out.size, ⟨m, L2, HD2.out.moreOps⟩, hf3, (HO1.out.mono (fun b e => Or.inr (by rw [e]))).then hO3 (fun i _ e => Or.inl (hS i e))⟩
set_option maxRecDepth 100000 in
theorem change_s {w : World} {S : Nat → Prop} {p m : Nat} {fu : Option Nat} {d : Pd} {L : List (Nm × Ent)} (h : DrC w S p m fu d L) {f : Fs} (hf : FuAt w S fu f) (ho : d.ops < 1000000000000) (x0 x1 x2 : Value) (F2 : List (Nm × Fi))
  (hdo : ∀ w1, DrC w1 S p m fu d L → Only (fun b => fu = some b) w w1 → w1.heap.size = w.heap.size → Calls Tryz.prog 136 #[x0, x1, x2] w1 (Did w1 S p m fu d F2)) :
  Calls Tryz.prog 97 #[ptr p, .func (.func 136) #[] #[x0, x1, x2]] w (Done w S p fu (d.chg f F2)) := by
 have H := hid h
 have HF := hid hf
 have HD := hid hdo
 have c8 : w.cell? ⟨p, 8, none⟩ = some (fuV fu) := h.c.cell 8
 clear h hf hdo
 match fu, f, HF with
 | none, none, HF =>
  simp only [fuV] at c8
  go_enter Tryz.func97, Tryz.ntmps97
  go_wp2_with (go_at_call 136; refine (HD.out w H.out (Only.refl _ _) rfl).mono ?_; rintro e w2 ⟨rfl, S2, L2, hg2, hd2, ho2⟩; have c4 : w2.cell? ⟨p, 4, none⟩ = some (.int .i64 (d.ops : Int)) := hd2.c.cell 4; have z4 : w2.frozen? ⟨p, 4, none⟩ = false := hd2.c.free 4; have HG2 := hid hg2; have HD2 := hid hd2; have HO2 := hid ho2; clear hg2 hd2 ho2)
  go_ret
  refine ⟨rfl, S2, HG2.out, ⟨m, L2, HD2.out.moreOps⟩, trivial, ?_⟩
  exact (HO2.out.mono (fun b hb => Or.inl (hb.elim (fun e => e ▸ H.out.sp) (fun e => e ▸ H.out.sm)))).then (Only.set (S := fun b => b = p) _ _ _ rfl) (fun i _ e => Or.inl (e ▸ H.out.sp))
 | some q, some (n, g), HF =>
  have HL := hid (lets_any HF.out)
  simp only [fuV] at c8
  cases hl : letsF (some (n, g))
  ·have e : d.chg (some (n, g)) F2 = (11, d, burn (some (n, g))) := by unfold Pd.chg; rw [hl]; rfl
   have HEE := hid e
   clear e
   rw [hl] at HL
   have HL := hid HL.out
   go_enter Tryz.func97, Tryz.ntmps97
   go_wp2_with (go_at_call 127; refine HL.out.mono ?_; rintro e w1 ⟨rfl, hf1, ho1, hz1⟩)
   go_ret
   rw [HEE.out]
   refine ⟨rfl, S, Grows.refl _ _, DrAt.keep ⟨m, L, H.out⟩ ho1.size (fun b hb => ho1.block b (H.out.lt b hb) (fun e => HF.out.2.1 (e ▸ hb))), hf1, ho1.mono fun b e => Or.inr (by rw [e])⟩
  ·have e : d.chg (some (n, g)) F2 = (0, { d with F := F2, ops := d.ops + 1 }, burn (some (n, g))) := by unfold Pd.chg; rw [hl]; rfl
   have HEE := hid e
   clear e
   rw [hl] at HL
   have HL := hid HL.out
   go_enter Tryz.func97, Tryz.ntmps97
   go_wp2_with (first
    | (go_at_call 127; refine HL.out.mono ?_; rintro e w1 ⟨rfl, hf1, ho1, hz1⟩; have HF1 := hid hf1; have HO1 := hid ho1; have HZ1 := hid hz1; have H1 := hid (H.out.keep ho1.size (fun b hb => ho1.block b (H.out.lt b hb) (fun e => HF.out.2.1 (e ▸ hb)))); clear hf1 ho1 hz1)
    | (go_at_call 136; refine (HD.out w1 H1.out (HO1.out.mono (fun b e => by rw [e])) HZ1.out).mono ?_; rintro e w2 ⟨rfl, S2, L2, hg2, hd2, ho2⟩; have c4 : w2.cell? ⟨p, 4, none⟩ = some (.int .i64 (d.ops : Int)) := hd2.c.cell 4; have z4 : w2.frozen? ⟨p, 4, none⟩ = false := hd2.c.free 4; have HG2 := hid hg2; have HD2 := hid hd2; have HO2 := hid ho2; clear hg2 hd2 ho2))
   go_ret
   rw [HEE.out]
   have hS : ∀ b, b = p ∨ b = m → S b := fun b hb => hb.elim (fun e => e ▸ H.out.sp) (fun e => e ▸ H.out.sm)
   have hO3 : Only (fun b => b = p ∨ b = m) w1 (w2.setCell ⟨p, 4, none⟩ (.int .i64 ((d.ops + 1 : Nat) : Int))) := HO2.out.then (Only.set (S := fun b => b = p ∨ b = m) _ _ _ (Or.inl rfl)) (fun _ _ h => h)
   have hf3 := (HG2.out.fu HF1.out).kept hO3 (fun q' hq' hp => HF1.out.ne q' hq' (hS _ hp))
   exact ⟨rfl, S2, HG2.out.on HO1.out.size, ⟨m, L2, HD2.out.moreOps⟩, hf3, (HO1.out.mono (fun b e => Or.inr (by rw [e]))).then hO3 (fun i _ e => Or.inl (hS i e))⟩
set_option maxRecDepth 100000 in
theorem change_r {w : World} {S : Nat → Prop} {p m : Nat} {fu : Option Nat} {d : Pd} {L : List (Nm × Ent)} (h : DrC w S p m fu d L) {f : Fs} (hf : FuAt w S fu f) (ho : d.ops < 1000000000000) (x0 x1 x2 x3 : Value) (F2 : List (Nm × Fi))
  (hdo : ∀ w1, DrC w1 S p m fu d L → Only (fun b => fu = some b) w w1 → w1.heap.size = w.heap.size → Calls Tryz.prog 141 #[x0, x1, x2, x3] w1 (Did w1 S p m fu d F2)) :
  Calls Tryz.prog 97 #[ptr p, .func (.func 141) #[] #[x0, x1, x2, x3]] w (Done w S p fu (d.chg f F2)) := by
 have H := hid h
 have HF := hid hf
 have HD := hid hdo
 have c8 : w.cell? ⟨p, 8, none⟩ = some (fuV fu) := h.c.cell 8
 clear h hf hdo
 match fu, f, HF with
 | none, none, HF =>
  simp only [fuV] at c8
  go_enter Tryz.func97, Tryz.ntmps97
  go_wp2_with (go_at_call 141; refine (HD.out w H.out (Only.refl _ _) rfl).mono ?_; rintro e w2 ⟨rfl, S2, L2, hg2, hd2, ho2⟩; have c4 : w2.cell? ⟨p, 4, none⟩ = some (.int .i64 (d.ops : Int)) := hd2.c.cell 4; have z4 : w2.frozen? ⟨p, 4, none⟩ = false := hd2.c.free 4; have HG2 := hid hg2; have HD2 := hid hd2; have HO2 := hid ho2; clear hg2 hd2 ho2)
  go_ret
  refine ⟨rfl, S2, HG2.out, ⟨m, L2, HD2.out.moreOps⟩, trivial, ?_⟩
  exact (HO2.out.mono (fun b hb => Or.inl (hb.elim (fun e => e ▸ H.out.sp) (fun e => e ▸ H.out.sm)))).then (Only.set (S := fun b => b = p) _ _ _ rfl) (fun i _ e => Or.inl (e ▸ H.out.sp))
 | some q, some (n, g), HF =>
  have HL := hid (lets_any HF.out)
  simp only [fuV] at c8
  cases hl : letsF (some (n, g))
  ·have e : d.chg (some (n, g)) F2 = (11, d, burn (some (n, g))) := by unfold Pd.chg; rw [hl]; rfl
   have HEE := hid e
   clear e
   rw [hl] at HL
   have HL := hid HL.out
   go_enter Tryz.func97, Tryz.ntmps97
   go_wp2_with (go_at_call 127; refine HL.out.mono ?_; rintro e w1 ⟨rfl, hf1, ho1, hz1⟩)
   go_ret
   rw [HEE.out]
   refine ⟨rfl, S, Grows.refl _ _, DrAt.keep ⟨m, L, H.out⟩ ho1.size (fun b hb => ho1.block b (H.out.lt b hb) (fun e => HF.out.2.1 (e ▸ hb))), hf1, ho1.mono fun b e => Or.inr (by rw [e])⟩
  ·have e : d.chg (some (n, g)) F2 = (0, { d with F := F2, ops := d.ops + 1 }, burn (some (n, g))) := by unfold Pd.chg; rw [hl]; rfl
   have HEE := hid e
   clear e
   rw [hl] at HL
   have HL := hid HL.out
   go_enter Tryz.func97, Tryz.ntmps97
   go_wp2_with (first
    | (go_at_call 127; refine HL.out.mono ?_; rintro e w1 ⟨rfl, hf1, ho1, hz1⟩; have HF1 := hid hf1; have HO1 := hid ho1; have HZ1 := hid hz1; have H1 := hid (H.out.keep ho1.size (fun b hb => ho1.block b (H.out.lt b hb) (fun e => HF.out.2.1 (e ▸ hb)))); clear hf1 ho1 hz1)
    | (go_at_call 141; refine (HD.out w1 H1.out (HO1.out.mono (fun b e => by rw [e])) HZ1.out).mono ?_; rintro e w2 ⟨rfl, S2, L2, hg2, hd2, ho2⟩; have c4 : w2.cell? ⟨p, 4, none⟩ = some (.int .i64 (d.ops : Int)) := hd2.c.cell 4; have z4 : w2.frozen? ⟨p, 4, none⟩ = false := hd2.c.free 4; have HG2 := hid hg2; have HD2 := hid hd2; have HO2 := hid ho2; clear hg2 hd2 ho2))
   go_ret
   rw [HEE.out]
   have hS : ∀ b, b = p ∨ b = m → S b := fun b hb => hb.elim (fun e => e ▸ H.out.sp) (fun e => e ▸ H.out.sm)
   have hO3 : Only (fun b => b = p ∨ b = m) w1 (w2.setCell ⟨p, 4, none⟩ (.int .i64 ((d.ops + 1 : Nat) : Int))) := HO2.out.then (Only.set (S := fun b => b = p ∨ b = m) _ _ _ (Or.inl rfl)) (fun _ _ h => h)
   have hf3 := (HG2.out.fu HF1.out).kept hO3 (fun q' hq' hp => HF1.out.ne q' hq' (hS _ hp))
   exact ⟨rfl, S2, HG2.out.on HO1.out.size, ⟨m, L2, HD2.out.moreOps⟩, hf3, (HO1.out.mono (fun b e => Or.inr (by rw [e]))).then hO3 (fun i _ e => Or.inl (hS i e))⟩
set_option maxRecDepth 100000 in
theorem change_d {w : World} {S : Nat → Prop} {p m : Nat} {fu : Option Nat} {d : Pd} {L : List (Nm × Ent)} (h : DrC w S p m fu d L) {f : Fs} (hf : FuAt w S fu f) (ho : d.ops < 1000000000000) (x0 x1 : Value) (F2 : List (Nm × Fi))
  (hdo : ∀ w1, DrC w1 S p m fu d L → Only (fun b => fu = some b) w w1 → w1.heap.size = w.heap.size → Calls Tryz.prog 143 #[x0, x1] w1 (Did w1 S p m fu d F2)) :
  Calls Tryz.prog 97 #[ptr p, .func (.func 143) #[] #[x0, x1]] w (Done w S p fu (d.chg f F2)) := by
 have H := hid h
 have HF := hid hf
 have HD := hid hdo
 have c8 : w.cell? ⟨p, 8, none⟩ = some (fuV fu) := h.c.cell 8
 clear h hf hdo
 match fu, f, HF with
 | none, none, HF =>
  simp only [fuV] at c8
  go_enter Tryz.func97, Tryz.ntmps97
  go_wp2_with (go_at_call 143; refine (HD.out w H.out (Only.refl _ _) rfl).mono ?_; rintro e w2 ⟨rfl, S2, L2, hg2, hd2, ho2⟩; have c4 : w2.cell? ⟨p, 4, none⟩ = some (.int .i64 (d.ops : Int)) := hd2.c.cell 4; have z4 : w2.frozen? ⟨p, 4, none⟩ = false := hd2.c.free 4; have HG2 := hid hg2; have HD2 := hid hd2; have HO2 := hid ho2; clear hg2 hd2 ho2)
  go_ret
  refine ⟨rfl, S2, HG2.out, ⟨m, L2, HD2.out.moreOps⟩, trivial, ?_⟩
  exact (HO2.out.mono (fun b hb => Or.inl (hb.elim (fun e => e ▸ H.out.sp) (fun e => e ▸ H.out.sm)))).then (Only.set (S := fun b => b = p) _ _ _ rfl) (fun i _ e => Or.inl (e ▸ H.out.sp))
 | some q, some (n, g), HF =>
  have HL := hid (lets_any HF.out)
  simp only [fuV] at c8
  cases hl : letsF (some (n, g))
  ·have e : d.chg (some (n, g)) F2 = (11, d, burn (some (n, g))) := by unfold Pd.chg; rw [hl]; rfl
   have HEE := hid e
   clear e
   rw [hl] at HL
   have HL := hid HL.out
   go_enter Tryz.func97, Tryz.ntmps97
   go_wp2_with (go_at_call 127; refine HL.out.mono ?_; rintro e w1 ⟨rfl, hf1, ho1, hz1⟩)
   go_ret
   rw [HEE.out]
   refine ⟨rfl, S, Grows.refl _ _, DrAt.keep ⟨m, L, H.out⟩ ho1.size (fun b hb => ho1.block b (H.out.lt b hb) (fun e => HF.out.2.1 (e ▸ hb))), hf1, ho1.mono fun b e => Or.inr (by rw [e])⟩
  ·have e : d.chg (some (n, g)) F2 = (0, { d with F := F2, ops := d.ops + 1 }, burn (some (n, g))) := by unfold Pd.chg; rw [hl]; rfl
   have HEE := hid e
   clear e
   rw [hl] at HL
   have HL := hid HL.out
   go_enter Tryz.func97, Tryz.ntmps97
   go_wp2_with (first
    | (go_at_call 127; refine HL.out.mono ?_; rintro e w1 ⟨rfl, hf1, ho1, hz1⟩; have HF1 := hid hf1; have HO1 := hid ho1; have HZ1 := hid hz1; have H1 := hid (H.out.keep ho1.size (fun b hb => ho1.block b (H.out.lt b hb) (fun e => HF.out.2.1 (e ▸ hb)))); clear hf1 ho1 hz1)
    | (go_at_call 143; refine (HD.out w1 H1.out (HO1.out.mono (fun b e => by rw [e])) HZ1.out).mono ?_; rintro e w2 ⟨rfl, S2, L2, hg2, hd2, ho2⟩; have c4 : w2.cell? ⟨p, 4, none⟩ = some (.int .i64 (d.ops : Int)) := hd2.c.cell 4; have z4 : w2.frozen? ⟨p, 4, none⟩ = false := hd2.c.free 4; have HG2 := hid hg2; have HD2 := hid hd2; have HO2 := hid ho2; clear hg2 hd2 ho2))
   go_ret
   rw [HEE.out]
   have hS : ∀ b, b = p ∨ b = m → S b := fun b hb => hb.elim (fun e => e ▸ H.out.sp) (fun e => e ▸ H.out.sm)
   have hO3 : Only (fun b => b = p ∨ b = m) w1 (w2.setCell ⟨p, 4, none⟩ (.int .i64 ((d.ops + 1 : Nat) : Int))) := HO2.out.then (Only.set (S := fun b => b = p ∨ b = m) _ _ _ (Or.inl rfl)) (fun _ _ h => h)
   have hf3 := (HG2.out.fu HF1.out).kept hO3 (fun q' hq' hp => HF1.out.ne q' hq' (hS _ hp))
   exact ⟨rfl, S2, HG2.out.on HO1.out.size, ⟨m, L2, HD2.out.moreOps⟩, hf3, (HO1.out.mono (fun b e => Or.inr (by rw [e]))).then hO3 (fun i _ e => Or.inl (hS i e))⟩
end Go.Proofs.YtfogkegmdgbecaaGreatDoor

/- Contracts of Delete, Sync and Rename of package drive, and of their closures. -/
namespace Go.Proofs.YtfogkegmdgbecaaGreatDoor
open Go Go.RowKit

section
variable {w : World} {S : Nat → Prop} {p m : Nat} {fu : Option Nat} {d : Pd} {L : List (Nm × Ent)}
theorem Done.from {w3 w' : World} {r : Nat × Pd × Fs} {e : Ending} (hb : Below w.heap.size w w3) (h : Done w3 S p fu r e w') : Done w S p fu r e w' := by
 obtain ⟨h1, S2, hg, hd, hf, ho⟩ := h
 exact ⟨h1, S2, hg.on hb.size, hd, hf, (Only.of_below hb).then ho (fun _ _ h => h)⟩
/-- A block of one's own is neither the drive's nor its map's. -/
theorem DrC.box_ne (h : DrC w S p m fu d L) {b : Nat} {cs : Array Value} {t : TypeId} (hb : CAt w b cs t) (ht : t ≠ 92) : b ≠ p ∧ b ≠ m := by
 obtain ⟨es, clock, hm⟩ := ownsMap_at h.mp
 refine ⟨fun e => ?_, fun e => ?_⟩
 ·have h1 : w.heap[p]? = _ := h.c
  have h2 : w.heap[b]? = _ := hb
  rw [e, h1] at h2
  exact ht ((Obj.cells.inj (Option.some.inj h2)).2.1).symm
 ·have h2 : w.heap[b]? = _ := hb
  rw [e, hm] at h2; cases h2
theorem DrC.apOf (h : DrC w S p m fu d L) {s : Nm} {e : Ent} (hg : gget L s = some e) : ∀ y ∈ gdel L s, y.2.v.ownBlock = none ∨ y.2.v.ownBlock ≠ e.v.ownBlock := by
 intro y hy
 obtain ⟨hyL, hys⟩ := mem_del.1 hy
 have hm := gget_mem hg
 have key : ∀ {M : List (Nm × Ent)}, M.Pairwise (fun x y => x.2.v.ownBlock = none ∨ x.2.v.ownBlock ≠ y.2.v.ownBlock) → y ∈ M → (s, e) ∈ M → (y.2.v.ownBlock = none ∨ y.2.v.ownBlock ≠ e.v.ownBlock) := by
  intro M
  induction M with
  | nil => intro _ h _; simp at h
  | cons x r ih =>
   intro hp h1 h2
   obtain ⟨p1, p2⟩ := List.pairwise_cons.1 hp
   rcases List.mem_cons.1 h1 with rfl | h1 <;> rcases List.mem_cons.1 h2 with h2 | h2
   ·exact absurd (by rw [← h2]) hys
   ·exact p1 _ h2
   ·have := p1 _ h1
    rw [← h2] at this
    rcases this with h3 | h3
    ·by_cases e1 : y.2.v.ownBlock = none
     ·exact Or.inl e1
     ·exact Or.inr (by rw [show e.v.ownBlock = none from h3]; exact e1)
    ·exact Or.inr (Ne.symm h3)
   ·exact ih p2 h1 h2
 exact key h.ap hyL hm
theorem DrC.newOf (h : DrC w S p m fu d L) {s : Nm} {e : Ent} (hg : gget L s = some e) (l : Bool) : NewE w S p m (gdel L s) ⟨e.v, e.b, l⟩ :=
 ⟨h.ow _ (gget_mem hg), h.by8 _ (gget_mem hg), fun b hb => ⟨h.sf _ (gget_mem hg) b hb, h.file_ne (gget_mem hg) hb⟩, fun y hy => h.apOf hg y hy⟩
theorem DrC.used_at (h : DrC w S p m fu d L) {s : Nm} {e : Ent} (hg : gget L s = some e) : usedOf (gdel d.F s) + e.b.length = usedOf d.F := by
 have := used_del h.srtF s
 unfold lenAt at this
 rw [h.fs, gget_map, hg] at this
 rw [h.fs]; exact this
theorem DrC.lenF (h : DrC w S p m fu d L) : L.length = d.F.length := by rw [h.fs, len_map]
end
section
variable {w : World} {S : Nat → Prop} {p m : Nat} {fu : Option Nat} {d : Pd} {L : List (Nm × Ent)}
theorem delete_did (h : DrC w S p m fu d L) (b0 b1 : Nat) (s : Nm) (hs : s.length ≤ maxLen) (h0 : CAt w b0 #[ptr p] 38) (h1 : CAt w b1 #[sv s] 9) :
  Calls Tryz.prog 143 #[ptr b0, ptr b1] w (Did w S p m fu d (gdel d.F s)) := by
 have c0 : w.cell? ⟨b0, 0, none⟩ = some (ptr p) := h0.cell 0
 have c1 : w.cell? ⟨b1, 0, none⟩ = some (sv s) := h1.cell 0
 have HT := hid (take_any h s hs)
 clear h h0 h1
 go_enter Tryz.func143, Tryz.ntmps143
 go_wp2_with (go_at_call 89; refine HT.out.mono ?_; rintro e w1 ⟨rfl, hd1, ho1, hz1⟩)
 go_end0
 exact ⟨rfl, S, _, Grows.refl _ _, hd1, ho1⟩
theorem sync_did (h : DrC w S p m fu d L) (b0 b1 b2 : Nat) (s : Nm) (e : Ent) (hg : gget L s = some e) (po : Option Addr) (c : Nat) (hv : e.v = .slice po e.b.length c) (hl : L.length < 1000000000000)
  (h0 : CAt w b0 #[ptr p] 38) (h1 : CAt w b1 #[sv s] 9) (h2 : CAt w b2 #[.slice po e.b.length c, .bool false] 130) :
  Calls Tryz.prog 136 #[ptr b0, ptr b1, ptr b2] w (Did w S p m fu d (gput d.F s (e.b, false))) := by
 have c0 : w.cell? ⟨b0, 0, none⟩ = some (ptr p) := h0.cell 0
 have c1 : w.cell? ⟨b1, 0, none⟩ = some (sv s) := h1.cell 0
 have c2 : w.cell? ⟨b2, 0, none⟩ = some (.slice po e.b.length c) := h2.cell 0
 have c3 : w.cell? ⟨b2, 1, none⟩ = some (.bool false) := h2.cell 1
 have hn := h.newOf hg false
 rw [hv] at hn
 have HP := hid (put_any h s (h.nm _ (gget_mem hg)) po e.b.length c e.b false rfl hn hl (by rw [h.used_at hg]; exact h.us))
 clear h h0 h1 h2 hn
 go_enter Tryz.func136, Tryz.ntmps136
 go_wp2_with (go_at_call 90; refine HP.out.mono ?_; rintro e w1 ⟨rfl, hd1, ho1⟩)
 go_end0
 exact ⟨rfl, S, _, Grows.refl _ _, hd1, ho1⟩
theorem rename_did (h : DrC w S p m fu d L) (b0 b1 b2 b3 : Nat) (s t : Nm) (ht : okNm t = true) (e : Ent) (hg : gget L s = some e) (po : Option Addr) (c : Nat) (hv : e.v = .slice po e.b.length c) (hl : L.length < 1000000000000)
  (h0 : CAt w b0 #[ptr p] 38) (h1 : CAt w b1 #[sv s] 9) (h2 : CAt w b2 #[sv t] 9) (h3 : CAt w b3 #[.slice po e.b.length c, .bool e.l] 130) :
  Calls Tryz.prog 141 #[ptr b0, ptr b1, ptr b2, ptr b3] w (Did w S p m fu d (gput (gdel d.F s) t (e.b, e.l))) := by
 have c0 : w.cell? ⟨b0, 0, none⟩ = some (ptr p) := h0.cell 0
 have c1 : w.cell? ⟨b1, 0, none⟩ = some (sv s) := h1.cell 0
 have n0 := h.box_ne h0 (by decide)
 have n2 := h.box_ne h2 (by decide)
 have n3 := h.box_ne h3 (by decide)
 have HT := hid (take_any h s (by have := ok_len (h.nm _ (gget_mem hg)); unfold maxLen; simp at this; omega))
 have HN := hid (And.intro n0 (And.intro n2 n3))
 have HC := hid (And.intro h0 (And.intro h2 h3))
 have H := hid h
 clear h h0 h1 h2 h3 n0 n2 n3
 go_enter Tryz.func141, Tryz.ntmps141
 go_wp2_with (first
  | (go_at_call 89; refine HT.out.mono ?_; rintro e1 w1 ⟨rfl, hd1, ho1, hz1⟩
     have a0 := HC.out.1.keep (ho1.block b0 HC.out.1.lt (fun e => e.elim HN.out.1.1 HN.out.1.2))
     have a2 := HC.out.2.1.keep (ho1.block b2 HC.out.2.1.lt (fun e => e.elim HN.out.2.1.1 HN.out.2.1.2))
     have a3 := HC.out.2.2.keep (ho1.block b3 HC.out.2.2.lt (fun e => e.elim HN.out.2.2.1 HN.out.2.2.2))
     have d0 : w1.cell? ⟨b0, 0, none⟩ = some (ptr p) := a0.cell 0
     have d2 : w1.cell? ⟨b2, 0, none⟩ = some (sv t) := a2.cell 0
     have d3 : w1.cell? ⟨b3, 0, none⟩ = some (.slice po e.b.length c) := a3.cell 0
     have d4 : w1.cell? ⟨b3, 1, none⟩ = some (.bool e.l) := a3.cell 1
     have hne : NewE w1 S p m (gdel (gdel L s) t) ⟨.slice po e.b.length c, e.b, e.l⟩ := by
      have hn := H.out.newOf hg e.l
      rw [← hv]
      exact ⟨ownsRow_keep hn.ow fun b hb => ho1.block b (H.out.lt b (hn.sf b hb).1) (fun e => e.elim (hn.sf b hb).2.1 (hn.sf b hb).2.2), hn.by8, hn.sf, fun y hy => hn.ap y (mem_del.1 hy).1⟩
     have HP := hid (put_any hd1 t ht po e.b.length c e.b e.l rfl hne (Nat.lt_of_le_of_lt (len_del L s) hl) (by
      show usedOf (gdel (gdel d.F s) t) + e.b.length ≤ d.size
      have := H.out.used_at hg
      have := used_del (H.out.srtF.del s) t
      have := H.out.us
      omega))
     have HO1 := hid ho1
     clear a0 a2 a3 hne hd1 ho1 hz1)
  | (go_at_call 90; refine HP.out.mono ?_; rintro e2 w2 ⟨rfl, hd2, ho2⟩))
 go_end0
 exact ⟨rfl, S, _, Grows.refl _ _, hd2, HO1.out.then ho2 (fun _ _ h => h)⟩
end
end Go.Proofs.YtfogkegmdgbecaaGreatDoor
