/- Texts laid into one: the remark ahead of each part says what is proved there. -/
import Derived.Test.YtfppmpfmafnfmaaXa
import Derived.Test.YtfppmpfmafnfmaaShelf
/- Contract of put of package drive: a file is laid, in the place of what had its name. -/
namespace Go.Proofs.Ytfppmpfmafnfmaa
open Go Go.RowKit

theorem sclone_any (s : Nm) (w : World) (hs : s.length ≤ 512) : Calls Try.prog 80 #[sv s] w fun e w' => e = .returned (sv s) ∧ Below w.heap.size w w' := by
  have hc := Try.stringslite_Clone ⟨s.toArray⟩ w (by simp [ByteArray.size]; omega)
  unfold sv
  generalize (⟨s.toArray⟩ : ByteArray) = bs at *
  go_enter Try.func80, Try.ntmps80
  go_wp2_with (go_at_call 83; refine hc.mono ?_; rintro e w1 ⟨rfl, hb⟩)
  go_ret
  exact ⟨rfl, hb⟩
theorem ok_len {s : Nm} (h : okNm s = true) : s.length ≤ 512 := ((okNm_iff s).1 h).2.1
theorem DrC.below {w w' : World} {S : Nat → Prop} {p m : Nat} {fu : Option Nat} {d : Pd} {L : List (Nm × Ent)} (h : DrC w S p m fu d L) (hb : Below w.heap.size w w') : DrC w' S p m fu d L :=
  h.keep hb.size fun b hS => hb.block b (h.lt b hS)
theorem FuAt.below {w w' : World} {S : Nat → Prop} {fu : Option Nat} {f : Fs} (h : FuAt w S fu f) (hb : Below w.heap.size w w') : FuAt w' S fu f :=
  h.keep fun q hq => hb.block q (h.lt q hq)
theorem scloneQ {C : World → Prop} (hon : ∀ w w', C w → Below w.heap.size w w' → C w') (s : Nm) (hs : s.length ≤ 512) (t : WC C) :
    Calls Try.prog 80 #[sv s] t.w fun e w' => e = .returned (sv s) ∧ ∃ t' : WC C, w' = t'.w :=
  (sclone_any s t.w hs).mono fun _ w' ⟨h1, h2⟩ => ⟨h1, ⟨w', hon _ _ t.ok h2⟩, rfl⟩
theorem below_on {w0 : World} (w w' : World) (h : Below w0.heap.size w0 w) (hb : Below w.heap.size w w') : Below w0.heap.size w0 w' :=
  ⟨hb.os.trans h.os, hb.tape.trans h.tape, hb.output.trans h.output, Nat.le_trans h.size hb.size, fun k hk => (hb.block k (Nat.lt_of_lt_of_le hk h.size)).trans (h.block k hk)⟩
/-- What put asks of the file: its row, its bytes, and that it is no other file's. -/
structure NewE (w : World) (S : Nat → Prop) (p m : Nat) (L : List (Nm × Ent)) (e : Ent) : Prop where
  ow : w.ownsRow 0 5 1 e.v e.b.length (e.b.map u8)
  by8 : ∀ y ∈ e.b, y < 256
  sf : ∀ b, e.v.ownBlock = some b → S b ∧ b ≠ p ∧ b ≠ m
  ap : ∀ x ∈ L, x.2.v.ownBlock = none ∨ x.2.v.ownBlock ≠ e.v.ownBlock
theorem ap_ins {x : Nm × Ent} : ∀ {L : List (Nm × Ent)}, L.Pairwise (fun x y => x.2.v.ownBlock = none ∨ x.2.v.ownBlock ≠ y.2.v.ownBlock) → (∀ y ∈ L, y.2.v.ownBlock = none ∨ y.2.v.ownBlock ≠ x.2.v.ownBlock) → (gins x L).Pairwise (fun x y => x.2.v.ownBlock = none ∨ x.2.v.ownBlock ≠ y.2.v.ownBlock)
  | [], _, _ => by simp [gins]
  | y :: r, h, hx => by
    obtain ⟨h1, h2⟩ := List.pairwise_cons.1 h
    have sym : ∀ z : Nm × Ent, (z.2.v.ownBlock = none ∨ z.2.v.ownBlock ≠ x.2.v.ownBlock) → (x.2.v.ownBlock = none ∨ x.2.v.ownBlock ≠ z.2.v.ownBlock) := fun z hz => by
      rcases hz with hz | hz
      · by_cases e : x.2.v.ownBlock = none
        · exact Or.inl e
        · exact Or.inr (by rw [hz]; exact e)
      · exact Or.inr (Ne.symm hz)
    unfold gins; split
    · exact List.pairwise_cons.2 ⟨fun z hz => sym z (hx z hz), h⟩
    · refine List.pairwise_cons.2 ⟨fun z hz => ?_, ap_ins h2 (fun z hz => hx z (by simp [hz]))⟩
      rcases List.mem_cons.1 ((gins_perm x r).mem_iff.1 hz) with rfl | hz
      · exact hx y (by simp)
      · exact h1 z hz
theorem ap_put {L : List (Nm × Ent)} {s : Nm} {e : Ent} (h : (gdel L s).Pairwise (fun x y => x.2.v.ownBlock = none ∨ x.2.v.ownBlock ≠ y.2.v.ownBlock)) (hx : ∀ y ∈ gdel L s, y.2.v.ownBlock = none ∨ y.2.v.ownBlock ≠ e.v.ownBlock) :
    (gput L s e).Pairwise (fun x y => x.2.v.ownBlock = none ∨ x.2.v.ownBlock ≠ y.2.v.ownBlock) := ap_ins h hx
def PutAt (w : World) (S : Nat → Prop) (p m : Nat) (fu : Option Nat) (d : Pd) (L : List (Nm × Ent)) (s : Nm) (e : Ent) (r : Ending) (w' : World) : Prop :=
  r = .returned (.tuple #[]) ∧ DrC w' S p m fu { d with F := gput d.F s e.fi } (gput L s e) ∧ Only (fun b => b = p ∨ b = m) w w'
set_option maxRecDepth 100000 in
theorem put_any {w : World} {S : Nat → Prop} {p m : Nat} {fu : Option Nat} {d : Pd} {L : List (Nm × Ent)} (h : DrC w S p m fu d L) (s : Nm) (hs : okNm s = true) (po : Option Addr) (k c : Nat) (bs : List Nat) (l : Bool) (hk : k = bs.length)
    (he : NewE w S p m (gdel L s) ⟨.slice po k c, bs, l⟩) (hl : L.length < 1000000000000) (hu : usedOf (gdel d.F s) + k ≤ d.size) :
    Calls Try.prog 66 #[ptr p, sv s, .agg #[.slice po k c, .bool l]] w (PutAt w S p m fu d L s ⟨.slice po k c, bs, l⟩) := by
  have hs5 := ok_len hs
  have hsm : s.length ≤ maxLen := by unfold maxLen; omega
  have HK := hid hk
  clear hk
  have H := hid h
  have HE := hid he
  have HT := hid (fun (o : Obj) => take_any (h.alloc o) s hsm)
  have HU := hid hu
  have HL := hid hl
  have hp := h.c.lt
  clear h he hu hl
  go_enter Try.func66, Try.ntmps66
  go_wp2_with (go_at_call 69; refine (HT.out _).mono ?_; rintro e w1 ⟨rfl, hd1, ho1, hz1⟩)
  have H1 := hid hd1
  have HO1 := hid ho1
  have HZ1 := hid hz1
  have hbox : CAt w1 w.heap.size #[.slice po k c, .bool l] 78 := by
    refine CAt.keep (w := w.alloc _) (at_new w _) (ho1.block w.heap.size (by rw [size_al]; omega) ?_)
    rintro (e | e)
    · have := H.out.lt p H.out.sp; omega
    · have := H.out.lt m H.out.sm; omega
  have HB := hid hbox
  clear hd1 ho1 hz1 hbox
  obtain ⟨C, hC⟩ : ∃ C : World → Prop, C = fun w' => Below w1.heap.size w1 w' := ⟨_, rfl⟩
  have k0 : ∀ w', C w' → Below w1.heap.size w1 w' := fun w' h => by rw [hC] at h; exact h
  have k2 : ∀ t : WC C, t.w.cell? ⟨p, 2, none⟩ = some (.map (some m)) := fun t => (H1.out.below (k0 _ t.ok)).c.cell 2
  have K3 := hid (fun w' (h : C w') => show w'.heap[w.heap.size]? = some (.cells #[.slice po k c, .bool l] 78) from HB.out.keep ((k0 _ h).block _ HB.out.lt))
  have KO : Hid (∀ w' w'', C w' → Below w'.heap.size w' w'' → C w'') := hid (fun w' w'' h hb => by rw [hC] at h ⊢; exact below_on _ _ h hb)
  have KD : Hid (C w1.drew) := hid (by rw [hC]; exact (Below.refl _ _).drew)
  have K0 := hid k0
  haveI : Nonempty (WC C) := ⟨⟨_, KD.out⟩⟩
  clear hC k0
  refine wp_region_tailC 7 (C := C) (by kernel_rfl) KD.out rfl (by kernel_rfl) ?_
  dsimp only [List.take]
  repeat (first
    | go_big_quiet_skip
    | (go_big_quiet_want; first
      | (refine quiet_load_class 78 _ rfl w.heap.size rfl _ _ _ K3.out Try.underlying78 rfl (by kernel_rfl) ?_; simp only [Act.put, List.setIfInBounds_toArray, List.set_cons_zero, List.set_cons_succ]; go_big_quiet_on)
      | (go_big_quiet_op; first | go_big_quiet_on | go_big_quiet_call (exact scloneQ KO.out s hs5 _))))
  refine wpQuiet_nil ?_
  rintro w2' ⟨⟨w2, hM⟩, hw2⟩
  have hw2' : w2' = w2 := hw2
  subst hw2'
  clear hw2
  have HBL := hid (K0.out _ hM)
  have H2 := hid (H1.out.below HBL.out)
  have HB2 := hid (HB.out.keep (HBL.out.block _ HB.out.lt))
  clear hM K0 KD KO K3 k2 this
  have hlen : (gdel L s).length < maxLen := by have := len_del L s; have := HL.out; unfold maxLen; omega
  go_wp2_with (at_mapUpdate; refine wpList_mapUpdate_in _ rfl _ _ _ 48 rfl 9 78 strLaw underM _ m _ _ rfl H2.out.mp hlen _ _ _ rfl rfl (keyS s hsm) _ _ (RF_mk _ _ _ _) ?_; intro w3 hown3 hturn3)
  have hsz3 := turned_size hturn3
  have hk3 : ∀ b, b < w2'.heap.size → b ≠ m → w3.heap[b]? = w2'.heap[b]? := fun b hb h2 => hturn3.grown.block b hb (fun e => h2 (by cases e; rfl))
  have hc3 := H2.out.c.keep (hk3 p H2.out.c.lt H2.out.pm)
  have hb3 := HB2.out.keep (hk3 _ HB2.out.lt (by intro e; have := H.out.lt m H.out.sm; omega))
  have HOWN3 := hid hown3
  have HTURN3 := hid hturn3
  have HC3 := hid hc3
  have HB3 := hid hb3
  have HK3 := hid hk3
  have HSZ3 := hid hsz3
  have c3 : w3.cell? ⟨p, 3, none⟩ = some (.int .i64 (usedOf (gdel d.F s) : Int)) := hc3.cell 3
  have z3 : w3.frozen? ⟨p, 3, none⟩ = false := hc3.free 3
  have b0 : w3.cell? ⟨w.heap.size, 0, none⟩ = some (.slice po k c) := hb3.cell 0
  clear hown3 hturn3 hc3 hb3 hk3 hsz3 hlen
  have hu := HU.out
  have hz := H.out.sz
  generalize hC : usedOf (gdel d.F s) = C at *
  have HCC := hid hC
  clear hC
  simp only [Act.put]
  refine wp_region_tail 10 (by kernel_rfl) rfl (by kernel_rfl) ?_
  dsimp only [List.take]
  repeat (go_big_quiet_step (fail))
  refine wpQuiet_nil ?_
  intro nr
  go_wp2
  go_end0
  have hcast : (C : Int) + (k : Int) = ((C + k : Nat) : Int) := by omega
  rw [hcast]
  have HC4 := hid (HC3.out.keep (w' := w3.drewN nr) rfl)
  have HOWN4 := hid (drewN_own (k := nr) HOWN3.out)
  have HO34 := hid (Only.drewN (fun b => b = p ∨ b = m) w3 nr)
  generalize w3.drewN nr = w4 at *
  have hu2 : usedOf ({ d with F := gput d.F s (bs, l) } : Pd).F = C + k := by
    show usedOf (gput d.F s (bs, l)) = _
    rw [used_put, HCC.out, HK.out]
  have hcs := HC4.out.set 3 (.int .i64 ((C + k : Nat) : Int))
  have hO : Only (fun b => b = p ∨ b = m) w (w4.setCell ⟨p, 3, none⟩ (.int .i64 ((C + k : Nat) : Int))) :=
    (((((Only.alloc w _).then HO1.out (fun _ _ h => h)).then (Only.of_below (S := fun b => b = p ∨ b = m) HBL.out) (fun _ _ h => h)).then (Only.of_grown (S := fun b => b = p ∨ b = m) HTURN3.out.grown (fun k e _ => Or.inr (by cases e; rfl))) (fun _ _ h => h)).then HO34.out (fun _ _ h => h)).then (Only.set (S := fun b => b = p ∨ b = m) w4 ⟨p, 3, none⟩ _ (Or.inl rfl)) (fun _ _ h => h)
  have hfree : ∀ b, S b → b ≠ p → b ≠ m → (w4.setCell ⟨p, 3, none⟩ (.int .i64 ((C + k : Nat) : Int))).heap[b]? = w.heap[b]? := fun b hb h1 h2 =>
    hO.block b (H.out.lt b hb) (fun e => e.elim h1 h2)
  have hmm : (w4.setCell ⟨p, 3, none⟩ (.int .i64 ((C + k : Nat) : Int))).ownsMap Try.prog 9 RF m ((gdel L s).length + 1) (mapD (gput (gdel L s) s ⟨.slice po k c, bs, l⟩)) := by
    rw [← mapD_put]
    exact HOWN4.out.setCell (Ne.symm H.out.pm) _
  have egg : gput (gdel L s) s (⟨.slice po k c, bs, l⟩ : Ent) = gput L s ⟨.slice po k c, bs, l⟩ := by
    unfold gput; congr 1; unfold gdel; simp
  rw [egg] at hmm
  refine ⟨rfl, ?_, hO⟩
  refine H.out.turned (d2 := { d with F := gput d.F s (bs, l) }) ?_ hmm hfree hO.size ?_ (H.out.so.put s _) (fun x hx => ?_) ?_ ?_ rfl
  · rw [hu2]; exact hcs
  · show gput d.F s (bs, l) = _
    rw [H.out.fs]; exact gput_map Ent.fi L s ⟨.slice po k c, bs, l⟩
  · rcases mem_put.1 hx with rfl | ⟨hx, _⟩
    · refine ⟨hs, Or.inr ⟨HE.out.ow, HE.out.by8, HE.out.sf⟩⟩
    · exact ⟨H.out.nm x hx, Or.inl ⟨x, hx, rfl, rfl⟩⟩
  · exact ap_put (H.out.ap.filter _) HE.out.ap
  · rw [hu2]; show C + k ≤ d.size; exact hu
#print axioms put_any
end Go.Proofs.Ytfppmpfmafnfmaa

/- Contract of change of package drive, for each of the four closures that it is handed. -/
namespace Go.Proofs.Ytfppmpfmafnfmaa
open Go Go.RowKit

/-- S2: S, and what is new since w. -/
def Grows (w : World) (S S2 : Nat → Prop) : Prop := (∀ b, S b → S2 b) ∧ ∀ b, S2 b → S b ∨ w.heap.size ≤ b
theorem Grows.refl (w : World) (S : Nat → Prop) : Grows w S S := ⟨fun _ h => h, fun _ h => Or.inl h⟩
theorem Grows.on {w w1 : World} {S S2 : Nat → Prop} (h : Grows w1 S S2) (hs : w.heap.size ≤ w1.heap.size) : Grows w S S2 :=
  ⟨h.1, fun b hb => (h.2 b hb).imp id fun h => Nat.le_trans hs h⟩
theorem Grows.fu {w : World} {S S2 : Nat → Prop} (h : Grows w S S2) : ∀ {fu : Option Nat} {f : Fs}, FuAt w S fu f → FuAt w S2 fu f
  | none, none, _ => trivial
  | some _, some (_, _), hf => ⟨hf.1, fun hq => (h.2 _ hq).elim hf.2.1 (fun hle => absurd hf.1.lt (by omega)), hf.2.2⟩
/-- What a call that may change a drive leaves. -/
def Done (w : World) (S : Nat → Prop) (p : Nat) (fu : Option Nat) (r : Nat × Pd × Fs) (e : Ending) (w' : World) : Prop :=
  e = .returned (.int .i64 (r.1 : Int)) ∧ ∃ S2, Grows w S S2 ∧ DrAt w' S2 p fu r.2.1 ∧ FuAt w' S2 fu r.2.2 ∧ Only (fun b => S b ∨ fu = some b) w w'
/-- What a closure does: the files become F2. -/
def Did (w : World) (S : Nat → Prop) (p m : Nat) (fu : Option Nat) (d : Pd) (F2 : List (Nm × Fi)) (e : Ending) (w' : World) : Prop :=
  e = .returned (.tuple #[]) ∧ ∃ S2 L2, Grows w S S2 ∧ DrC w' S2 p m fu { d with F := F2 } L2 ∧ Only (fun b => b = p ∨ b = m) w w'
theorem DrC.moreOps {w : World} {S : Nat → Prop} {p m : Nat} {fu : Option Nat} {d : Pd} {L : List (Nm × Ent)} (h : DrC w S p m fu d L) :
    DrC (w.setCell ⟨p, 4, none⟩ (.int .i64 ((d.ops + 1 : Nat) : Int))) S p m fu { d with ops := d.ops + 1 } L :=
  h.turned (d2 := { d with ops := d.ops + 1 }) (h.c.set 4 _) (h.mp.setCell (Ne.symm h.pm) _) (fun _ _ h1 _ => heap_setCell_ne _ _ _ _ h1) (Nat.le_of_eq (setCell_size _ _ _).symm) h.fs h.so (fun x hx => ⟨h.nm x hx, Or.inl ⟨x, hx, rfl, rfl⟩⟩) h.ap h.us rfl
theorem FuAt.kept {w w' : World} {S T : Nat → Prop} {fu : Option Nat} {f : Fs} (h : FuAt w S fu f) (ho : Only T w w') (hT : ∀ q, fu = some q → ¬ T q) : FuAt w' S fu f :=
  h.keep fun q hq => ho.block q (h.lt q hq) (hT q hq)
theorem FuAt.ne {w : World} {S : Nat → Prop} : ∀ {fu : Option Nat} {f : Fs}, FuAt w S fu f → ∀ q, fu = some q → ¬ S q
  | some _, some (_, _), h, _, rfl => h.2.1
set_option maxRecDepth 100000 in
theorem change_w {w : World} {S : Nat → Prop} {p m : Nat} {fu : Option Nat} {d : Pd} {L : List (Nm × Ent)} (h : DrC w S p m fu d L) {f : Fs} (hf : FuAt w S fu f) (ho : d.ops < 1000000000000) (x0 x1 x2 : Value) (F2 : List (Nm × Fi))
    (hdo : ∀ w1, DrC w1 S p m fu d L → Only (fun b => fu = some b) w w1 → w1.heap.size = w.heap.size → Calls Try.prog 65 #[x0, x1, x2] w1 (Did w1 S p m fu d F2)) :
    Calls Try.prog 64 #[ptr p, .func (.func 65) #[] #[x0, x1, x2]] w (Done w S p fu (d.chg f F2)) := by
  have H := hid h
  have HF := hid hf
  have HD := hid hdo
  have c8 : w.cell? ⟨p, 8, none⟩ = some (fuV fu) := h.c.cell 8
  clear h hf hdo
  match fu, f, HF with
  | none, none, HF =>
    simp only [fuV] at c8
    go_enter Try.func64, Try.ntmps64
    go_wp2_with (go_at_call 65; refine (HD.out w H.out (Only.refl _ _) rfl).mono ?_; rintro e w2 ⟨rfl, S2, L2, hg2, hd2, ho2⟩; have c4 : w2.cell? ⟨p, 4, none⟩ = some (.int .i64 (d.ops : Int)) := hd2.c.cell 4; have z4 : w2.frozen? ⟨p, 4, none⟩ = false := hd2.c.free 4; have HG2 := hid hg2; have HD2 := hid hd2; have HO2 := hid ho2; clear hg2 hd2 ho2)
    go_ret
    refine ⟨rfl, S2, HG2.out, ⟨m, L2, HD2.out.moreOps⟩, trivial, ?_⟩
    exact (HO2.out.mono (fun b hb => Or.inl (hb.elim (fun e => e ▸ H.out.sp) (fun e => e ▸ H.out.sm)))).then (Only.set (S := fun b => b = p) _ _ _ rfl) (fun i _ e => Or.inl (e ▸ H.out.sp))
  | some q, some (n, g), HF =>
    have HL := hid (lets_any HF.out)
    simp only [fuV] at c8
    cases hl : letsF (some (n, g))
    · have e : d.chg (some (n, g)) F2 = (11, d, burn (some (n, g))) := by unfold Pd.chg; rw [hl]; rfl
      have HEE := hid e
      clear e
      rw [hl] at HL
      have HL := hid HL.out
      go_enter Try.func64, Try.ntmps64
      go_wp2_with (go_at_call 79; refine HL.out.mono ?_; rintro e w1 ⟨rfl, hf1, ho1, hz1⟩)
      go_ret
      rw [HEE.out]
      refine ⟨rfl, S, Grows.refl _ _, DrAt.keep ⟨m, L, H.out⟩ ho1.size (fun b hb => ho1.block b (H.out.lt b hb) (fun e => HF.out.2.1 (e ▸ hb))), hf1, ho1.mono fun b e => Or.inr (by rw [e])⟩
    · have e : d.chg (some (n, g)) F2 = (0, { d with F := F2, ops := d.ops + 1 }, burn (some (n, g))) := by unfold Pd.chg; rw [hl]; rfl
      have HEE := hid e
      clear e
      rw [hl] at HL
      have HL := hid HL.out
      go_enter Try.func64, Try.ntmps64
      go_wp2_with (first
        | (go_at_call 79; refine HL.out.mono ?_; rintro e w1 ⟨rfl, hf1, ho1, hz1⟩; have HF1 := hid hf1; have HO1 := hid ho1; have HZ1 := hid hz1; have H1 := hid (H.out.keep ho1.size (fun b hb => ho1.block b (H.out.lt b hb) (fun e => HF.out.2.1 (e ▸ hb)))); clear hf1 ho1 hz1)
        | (go_at_call 65; refine (HD.out w1 H1.out (HO1.out.mono (fun b e => by rw [e])) HZ1.out).mono ?_; rintro e w2 ⟨rfl, S2, L2, hg2, hd2, ho2⟩; have c4 : w2.cell? ⟨p, 4, none⟩ = some (.int .i64 (d.ops : Int)) := hd2.c.cell 4; have z4 : w2.frozen? ⟨p, 4, none⟩ = false := hd2.c.free 4; have HG2 := hid hg2; have HD2 := hid hd2; have HO2 := hid ho2; clear hg2 hd2 ho2))
      go_ret
      rw [HEE.out]
      have hS : ∀ b, b = p ∨ b = m → S b := fun b hb => hb.elim (fun e => e ▸ H.out.sp) (fun e => e ▸ H.out.sm)
      have hO3 : Only (fun b => b = p ∨ b = m) w1 (w2.setCell ⟨p, 4, none⟩ (.int .i64 ((d.ops + 1 : Nat) : Int))) := HO2.out.then (Only.set (S := fun b => b = p ∨ b = m) _ _ _ (Or.inl rfl)) (fun _ _ h => h)
      have hf3 := (HG2.out.fu HF1.out).kept hO3 (fun q' hq' hp => HF1.out.ne q' hq' (hS _ hp))
      exact ⟨rfl, S2, HG2.out.on HO1.out.size, ⟨m, L2, HD2.out.moreOps⟩, hf3, (HO1.out.mono (fun b e => Or.inr (by rw [e]))).then hO3 (fun i _ e => Or.inl (hS i e))⟩
set_option maxRecDepth 100000 in
theorem change_s {w : World} {S : Nat → Prop} {p m : Nat} {fu : Option Nat} {d : Pd} {L : List (Nm × Ent)} (h : DrC w S p m fu d L) {f : Fs} (hf : FuAt w S fu f) (ho : d.ops < 1000000000000) (x0 x1 x2 : Value) (F2 : List (Nm × Fi))
    (hdo : ∀ w1, DrC w1 S p m fu d L → Only (fun b => fu = some b) w w1 → w1.heap.size = w.heap.size → Calls Try.prog 67 #[x0, x1, x2] w1 (Did w1 S p m fu d F2)) :
    Calls Try.prog 64 #[ptr p, .func (.func 67) #[] #[x0, x1, x2]] w (Done w S p fu (d.chg f F2)) := by
  have H := hid h
  have HF := hid hf
  have HD := hid hdo
  have c8 : w.cell? ⟨p, 8, none⟩ = some (fuV fu) := h.c.cell 8
  clear h hf hdo
  match fu, f, HF with
  | none, none, HF =>
    simp only [fuV] at c8
    go_enter Try.func64, Try.ntmps64
    go_wp2_with (go_at_call 67; refine (HD.out w H.out (Only.refl _ _) rfl).mono ?_; rintro e w2 ⟨rfl, S2, L2, hg2, hd2, ho2⟩; have c4 : w2.cell? ⟨p, 4, none⟩ = some (.int .i64 (d.ops : Int)) := hd2.c.cell 4; have z4 : w2.frozen? ⟨p, 4, none⟩ = false := hd2.c.free 4; have HG2 := hid hg2; have HD2 := hid hd2; have HO2 := hid ho2; clear hg2 hd2 ho2)
    go_ret
    refine ⟨rfl, S2, HG2.out, ⟨m, L2, HD2.out.moreOps⟩, trivial, ?_⟩
    exact (HO2.out.mono (fun b hb => Or.inl (hb.elim (fun e => e ▸ H.out.sp) (fun e => e ▸ H.out.sm)))).then (Only.set (S := fun b => b = p) _ _ _ rfl) (fun i _ e => Or.inl (e ▸ H.out.sp))
  | some q, some (n, g), HF =>
    have HL := hid (lets_any HF.out)
    simp only [fuV] at c8
    cases hl : letsF (some (n, g))
    · have e : d.chg (some (n, g)) F2 = (11, d, burn (some (n, g))) := by unfold Pd.chg; rw [hl]; rfl
      have HEE := hid e
      clear e
      rw [hl] at HL
      have HL := hid HL.out
      go_enter Try.func64, Try.ntmps64
      go_wp2_with (go_at_call 79; refine HL.out.mono ?_; rintro e w1 ⟨rfl, hf1, ho1, hz1⟩)
      go_ret
      rw [HEE.out]
      refine ⟨rfl, S, Grows.refl _ _, DrAt.keep ⟨m, L, H.out⟩ ho1.size (fun b hb => ho1.block b (H.out.lt b hb) (fun e => HF.out.2.1 (e ▸ hb))), hf1, ho1.mono fun b e => Or.inr (by rw [e])⟩
    · have e : d.chg (some (n, g)) F2 = (0, { d with F := F2, ops := d.ops + 1 }, burn (some (n, g))) := by unfold Pd.chg; rw [hl]; rfl
      have HEE := hid e
      clear e
      rw [hl] at HL
      have HL := hid HL.out
      go_enter Try.func64, Try.ntmps64
      go_wp2_with (first
        | (go_at_call 79; refine HL.out.mono ?_; rintro e w1 ⟨rfl, hf1, ho1, hz1⟩; have HF1 := hid hf1; have HO1 := hid ho1; have HZ1 := hid hz1; have H1 := hid (H.out.keep ho1.size (fun b hb => ho1.block b (H.out.lt b hb) (fun e => HF.out.2.1 (e ▸ hb)))); clear hf1 ho1 hz1)
        | (go_at_call 67; refine (HD.out w1 H1.out (HO1.out.mono (fun b e => by rw [e])) HZ1.out).mono ?_; rintro e w2 ⟨rfl, S2, L2, hg2, hd2, ho2⟩; have c4 : w2.cell? ⟨p, 4, none⟩ = some (.int .i64 (d.ops : Int)) := hd2.c.cell 4; have z4 : w2.frozen? ⟨p, 4, none⟩ = false := hd2.c.free 4; have HG2 := hid hg2; have HD2 := hid hd2; have HO2 := hid ho2; clear hg2 hd2 ho2))
      go_ret
      rw [HEE.out]
      have hS : ∀ b, b = p ∨ b = m → S b := fun b hb => hb.elim (fun e => e ▸ H.out.sp) (fun e => e ▸ H.out.sm)
      have hO3 : Only (fun b => b = p ∨ b = m) w1 (w2.setCell ⟨p, 4, none⟩ (.int .i64 ((d.ops + 1 : Nat) : Int))) := HO2.out.then (Only.set (S := fun b => b = p ∨ b = m) _ _ _ (Or.inl rfl)) (fun _ _ h => h)
      have hf3 := (HG2.out.fu HF1.out).kept hO3 (fun q' hq' hp => HF1.out.ne q' hq' (hS _ hp))
      exact ⟨rfl, S2, HG2.out.on HO1.out.size, ⟨m, L2, HD2.out.moreOps⟩, hf3, (HO1.out.mono (fun b e => Or.inr (by rw [e]))).then hO3 (fun i _ e => Or.inl (hS i e))⟩
set_option maxRecDepth 100000 in
theorem change_r {w : World} {S : Nat → Prop} {p m : Nat} {fu : Option Nat} {d : Pd} {L : List (Nm × Ent)} (h : DrC w S p m fu d L) {f : Fs} (hf : FuAt w S fu f) (ho : d.ops < 1000000000000) (x0 x1 x2 x3 : Value) (F2 : List (Nm × Fi))
    (hdo : ∀ w1, DrC w1 S p m fu d L → Only (fun b => fu = some b) w w1 → w1.heap.size = w.heap.size → Calls Try.prog 68 #[x0, x1, x2, x3] w1 (Did w1 S p m fu d F2)) :
    Calls Try.prog 64 #[ptr p, .func (.func 68) #[] #[x0, x1, x2, x3]] w (Done w S p fu (d.chg f F2)) := by
  have H := hid h
  have HF := hid hf
  have HD := hid hdo
  have c8 : w.cell? ⟨p, 8, none⟩ = some (fuV fu) := h.c.cell 8
  clear h hf hdo
  match fu, f, HF with
  | none, none, HF =>
    simp only [fuV] at c8
    go_enter Try.func64, Try.ntmps64
    go_wp2_with (go_at_call 68; refine (HD.out w H.out (Only.refl _ _) rfl).mono ?_; rintro e w2 ⟨rfl, S2, L2, hg2, hd2, ho2⟩; have c4 : w2.cell? ⟨p, 4, none⟩ = some (.int .i64 (d.ops : Int)) := hd2.c.cell 4; have z4 : w2.frozen? ⟨p, 4, none⟩ = false := hd2.c.free 4; have HG2 := hid hg2; have HD2 := hid hd2; have HO2 := hid ho2; clear hg2 hd2 ho2)
    go_ret
    refine ⟨rfl, S2, HG2.out, ⟨m, L2, HD2.out.moreOps⟩, trivial, ?_⟩
    exact (HO2.out.mono (fun b hb => Or.inl (hb.elim (fun e => e ▸ H.out.sp) (fun e => e ▸ H.out.sm)))).then (Only.set (S := fun b => b = p) _ _ _ rfl) (fun i _ e => Or.inl (e ▸ H.out.sp))
  | some q, some (n, g), HF =>
    have HL := hid (lets_any HF.out)
    simp only [fuV] at c8
    cases hl : letsF (some (n, g))
    · have e : d.chg (some (n, g)) F2 = (11, d, burn (some (n, g))) := by unfold Pd.chg; rw [hl]; rfl
      have HEE := hid e
      clear e
      rw [hl] at HL
      have HL := hid HL.out
      go_enter Try.func64, Try.ntmps64
      go_wp2_with (go_at_call 79; refine HL.out.mono ?_; rintro e w1 ⟨rfl, hf1, ho1, hz1⟩)
      go_ret
      rw [HEE.out]
      refine ⟨rfl, S, Grows.refl _ _, DrAt.keep ⟨m, L, H.out⟩ ho1.size (fun b hb => ho1.block b (H.out.lt b hb) (fun e => HF.out.2.1 (e ▸ hb))), hf1, ho1.mono fun b e => Or.inr (by rw [e])⟩
    · have e : d.chg (some (n, g)) F2 = (0, { d with F := F2, ops := d.ops + 1 }, burn (some (n, g))) := by unfold Pd.chg; rw [hl]; rfl
      have HEE := hid e
      clear e
      rw [hl] at HL
      have HL := hid HL.out
      go_enter Try.func64, Try.ntmps64
      go_wp2_with (first
        | (go_at_call 79; refine HL.out.mono ?_; rintro e w1 ⟨rfl, hf1, ho1, hz1⟩; have HF1 := hid hf1; have HO1 := hid ho1; have HZ1 := hid hz1; have H1 := hid (H.out.keep ho1.size (fun b hb => ho1.block b (H.out.lt b hb) (fun e => HF.out.2.1 (e ▸ hb)))); clear hf1 ho1 hz1)
        | (go_at_call 68; refine (HD.out w1 H1.out (HO1.out.mono (fun b e => by rw [e])) HZ1.out).mono ?_; rintro e w2 ⟨rfl, S2, L2, hg2, hd2, ho2⟩; have c4 : w2.cell? ⟨p, 4, none⟩ = some (.int .i64 (d.ops : Int)) := hd2.c.cell 4; have z4 : w2.frozen? ⟨p, 4, none⟩ = false := hd2.c.free 4; have HG2 := hid hg2; have HD2 := hid hd2; have HO2 := hid ho2; clear hg2 hd2 ho2))
      go_ret
      rw [HEE.out]
      have hS : ∀ b, b = p ∨ b = m → S b := fun b hb => hb.elim (fun e => e ▸ H.out.sp) (fun e => e ▸ H.out.sm)
      have hO3 : Only (fun b => b = p ∨ b = m) w1 (w2.setCell ⟨p, 4, none⟩ (.int .i64 ((d.ops + 1 : Nat) : Int))) := HO2.out.then (Only.set (S := fun b => b = p ∨ b = m) _ _ _ (Or.inl rfl)) (fun _ _ h => h)
      have hf3 := (HG2.out.fu HF1.out).kept hO3 (fun q' hq' hp => HF1.out.ne q' hq' (hS _ hp))
      exact ⟨rfl, S2, HG2.out.on HO1.out.size, ⟨m, L2, HD2.out.moreOps⟩, hf3, (HO1.out.mono (fun b e => Or.inr (by rw [e]))).then hO3 (fun i _ e => Or.inl (hS i e))⟩
set_option maxRecDepth 100000 in
theorem change_d {w : World} {S : Nat → Prop} {p m : Nat} {fu : Option Nat} {d : Pd} {L : List (Nm × Ent)} (h : DrC w S p m fu d L) {f : Fs} (hf : FuAt w S fu f) (ho : d.ops < 1000000000000) (x0 x1 : Value) (F2 : List (Nm × Fi))
    (hdo : ∀ w1, DrC w1 S p m fu d L → Only (fun b => fu = some b) w w1 → w1.heap.size = w.heap.size → Calls Try.prog 70 #[x0, x1] w1 (Did w1 S p m fu d F2)) :
    Calls Try.prog 64 #[ptr p, .func (.func 70) #[] #[x0, x1]] w (Done w S p fu (d.chg f F2)) := by
  have H := hid h
  have HF := hid hf
  have HD := hid hdo
  have c8 : w.cell? ⟨p, 8, none⟩ = some (fuV fu) := h.c.cell 8
  clear h hf hdo
  match fu, f, HF with
  | none, none, HF =>
    simp only [fuV] at c8
    go_enter Try.func64, Try.ntmps64
    go_wp2_with (go_at_call 70; refine (HD.out w H.out (Only.refl _ _) rfl).mono ?_; rintro e w2 ⟨rfl, S2, L2, hg2, hd2, ho2⟩; have c4 : w2.cell? ⟨p, 4, none⟩ = some (.int .i64 (d.ops : Int)) := hd2.c.cell 4; have z4 : w2.frozen? ⟨p, 4, none⟩ = false := hd2.c.free 4; have HG2 := hid hg2; have HD2 := hid hd2; have HO2 := hid ho2; clear hg2 hd2 ho2)
    go_ret
    refine ⟨rfl, S2, HG2.out, ⟨m, L2, HD2.out.moreOps⟩, trivial, ?_⟩
    exact (HO2.out.mono (fun b hb => Or.inl (hb.elim (fun e => e ▸ H.out.sp) (fun e => e ▸ H.out.sm)))).then (Only.set (S := fun b => b = p) _ _ _ rfl) (fun i _ e => Or.inl (e ▸ H.out.sp))
  | some q, some (n, g), HF =>
    have HL := hid (lets_any HF.out)
    simp only [fuV] at c8
    cases hl : letsF (some (n, g))
    · have e : d.chg (some (n, g)) F2 = (11, d, burn (some (n, g))) := by unfold Pd.chg; rw [hl]; rfl
      have HEE := hid e
      clear e
      rw [hl] at HL
      have HL := hid HL.out
      go_enter Try.func64, Try.ntmps64
      go_wp2_with (go_at_call 79; refine HL.out.mono ?_; rintro e w1 ⟨rfl, hf1, ho1, hz1⟩)
      go_ret
      rw [HEE.out]
      refine ⟨rfl, S, Grows.refl _ _, DrAt.keep ⟨m, L, H.out⟩ ho1.size (fun b hb => ho1.block b (H.out.lt b hb) (fun e => HF.out.2.1 (e ▸ hb))), hf1, ho1.mono fun b e => Or.inr (by rw [e])⟩
    · have e : d.chg (some (n, g)) F2 = (0, { d with F := F2, ops := d.ops + 1 }, burn (some (n, g))) := by unfold Pd.chg; rw [hl]; rfl
      have HEE := hid e
      clear e
      rw [hl] at HL
      have HL := hid HL.out
      go_enter Try.func64, Try.ntmps64
      go_wp2_with (first
        | (go_at_call 79; refine HL.out.mono ?_; rintro e w1 ⟨rfl, hf1, ho1, hz1⟩; have HF1 := hid hf1; have HO1 := hid ho1; have HZ1 := hid hz1; have H1 := hid (H.out.keep ho1.size (fun b hb => ho1.block b (H.out.lt b hb) (fun e => HF.out.2.1 (e ▸ hb)))); clear hf1 ho1 hz1)
        | (go_at_call 70; refine (HD.out w1 H1.out (HO1.out.mono (fun b e => by rw [e])) HZ1.out).mono ?_; rintro e w2 ⟨rfl, S2, L2, hg2, hd2, ho2⟩; have c4 : w2.cell? ⟨p, 4, none⟩ = some (.int .i64 (d.ops : Int)) := hd2.c.cell 4; have z4 : w2.frozen? ⟨p, 4, none⟩ = false := hd2.c.free 4; have HG2 := hid hg2; have HD2 := hid hd2; have HO2 := hid ho2; clear hg2 hd2 ho2))
      go_ret
      rw [HEE.out]
      have hS : ∀ b, b = p ∨ b = m → S b := fun b hb => hb.elim (fun e => e ▸ H.out.sp) (fun e => e ▸ H.out.sm)
      have hO3 : Only (fun b => b = p ∨ b = m) w1 (w2.setCell ⟨p, 4, none⟩ (.int .i64 ((d.ops + 1 : Nat) : Int))) := HO2.out.then (Only.set (S := fun b => b = p ∨ b = m) _ _ _ (Or.inl rfl)) (fun _ _ h => h)
      have hf3 := (HG2.out.fu HF1.out).kept hO3 (fun q' hq' hp => HF1.out.ne q' hq' (hS _ hp))
      exact ⟨rfl, S2, HG2.out.on HO1.out.size, ⟨m, L2, HD2.out.moreOps⟩, hf3, (HO1.out.mono (fun b e => Or.inr (by rw [e]))).then hO3 (fun i _ e => Or.inl (hS i e))⟩
#print axioms change_w
end Go.Proofs.Ytfppmpfmafnfmaa

/- Contracts of Delete, Sync and Rename of package drive, and of their closures. -/
namespace Go.Proofs.Ytfppmpfmafnfmaa
open Go Go.RowKit

section
variable {w : World} {S : Nat → Prop} {p m : Nat} {fu : Option Nat} {d : Pd} {L : List (Nm × Ent)}
theorem Done.from {w3 w' : World} {r : Nat × Pd × Fs} {e : Ending} (hb : Below w.heap.size w w3) (h : Done w3 S p fu r e w') : Done w S p fu r e w' := by
  obtain ⟨h1, S2, hg, hd, hf, ho⟩ := h
  exact ⟨h1, S2, hg.on hb.size, hd, hf, (Only.of_below hb).then ho (fun _ _ h => h)⟩
/-- A block of one's own is neither the drive's nor its map's. -/
theorem DrC.box_ne (h : DrC w S p m fu d L) {b : Nat} {cs : Array Value} {t : TypeId} (hb : CAt w b cs t) (ht : t ≠ 51) : b ≠ p ∧ b ≠ m := by
  obtain ⟨es, clock, hm⟩ := ownsMap_at h.mp
  refine ⟨fun e => ?_, fun e => ?_⟩
  · have h1 : w.heap[p]? = _ := h.c
    have h2 : w.heap[b]? = _ := hb
    rw [e, h1] at h2
    exact ht ((Obj.cells.inj (Option.some.inj h2)).2.1).symm
  · have h2 : w.heap[b]? = _ := hb
    rw [e, hm] at h2; cases h2
theorem DrC.apOf (h : DrC w S p m fu d L) {s : Nm} {e : Ent} (hg : gget L s = some e) : ∀ y ∈ gdel L s, y.2.v.ownBlock = none ∨ y.2.v.ownBlock ≠ e.v.ownBlock := by
  intro y hy
  obtain ⟨hyL, hys⟩ := mem_del.1 hy
  have hm := gget_mem hg
  have key : ∀ {M : List (Nm × Ent)}, M.Pairwise (fun x y => x.2.v.ownBlock = none ∨ x.2.v.ownBlock ≠ y.2.v.ownBlock) → y ∈ M → (s, e) ∈ M → (y.2.v.ownBlock = none ∨ y.2.v.ownBlock ≠ e.v.ownBlock) := by
    intro M
    induction M with
    | nil => intro _ h _; simp at h
    | cons x r ih =>
      intro hp h1 h2
      obtain ⟨p1, p2⟩ := List.pairwise_cons.1 hp
      rcases List.mem_cons.1 h1 with rfl | h1 <;> rcases List.mem_cons.1 h2 with h2 | h2
      · exact absurd (by rw [← h2]) hys
      · exact p1 _ h2
      · have := p1 _ h1
        rw [← h2] at this
        rcases this with h3 | h3
        · by_cases e1 : y.2.v.ownBlock = none
          · exact Or.inl e1
          · exact Or.inr (by rw [show e.v.ownBlock = none from h3]; exact e1)
        · exact Or.inr (Ne.symm h3)
      · exact ih p2 h1 h2
  exact key h.ap hyL hm
theorem DrC.newOf (h : DrC w S p m fu d L) {s : Nm} {e : Ent} (hg : gget L s = some e) (l : Bool) : NewE w S p m (gdel L s) ⟨e.v, e.b, l⟩ :=
  ⟨h.ow _ (gget_mem hg), h.by8 _ (gget_mem hg), fun b hb => ⟨h.sf _ (gget_mem hg) b hb, h.file_ne (gget_mem hg) hb⟩, fun y hy => h.apOf hg y hy⟩
theorem DrC.used_at (h : DrC w S p m fu d L) {s : Nm} {e : Ent} (hg : gget L s = some e) : usedOf (gdel d.F s) + e.b.length = usedOf d.F := by
  have := used_del h.srtF s
  unfold lenAt at this
  rw [h.fs, gget_map, hg] at this
  rw [h.fs]; exact this
theorem DrC.lenF (h : DrC w S p m fu d L) : L.length = d.F.length := by rw [h.fs, len_map]
end
section
variable {w : World} {S : Nat → Prop} {p m : Nat} {fu : Option Nat} {d : Pd} {L : List (Nm × Ent)}
theorem delete_did (h : DrC w S p m fu d L) (b0 b1 : Nat) (s : Nm) (hs : s.length ≤ maxLen) (h0 : CAt w b0 #[ptr p] 23) (h1 : CAt w b1 #[sv s] 9) :
    Calls Try.prog 70 #[ptr b0, ptr b1] w (Did w S p m fu d (gdel d.F s)) := by
  have c0 : w.cell? ⟨b0, 0, none⟩ = some (ptr p) := h0.cell 0
  have c1 : w.cell? ⟨b1, 0, none⟩ = some (sv s) := h1.cell 0
  have HT := hid (take_any h s hs)
  clear h h0 h1
  go_enter Try.func70, Try.ntmps70
  go_wp2_with (go_at_call 69; refine HT.out.mono ?_; rintro e w1 ⟨rfl, hd1, ho1, hz1⟩)
  go_end0
  exact ⟨rfl, S, _, Grows.refl _ _, hd1, ho1⟩
theorem sync_did (h : DrC w S p m fu d L) (b0 b1 b2 : Nat) (s : Nm) (e : Ent) (hg : gget L s = some e) (po : Option Addr) (c : Nat) (hv : e.v = .slice po e.b.length c) (hl : L.length < 1000000000000)
    (h0 : CAt w b0 #[ptr p] 23) (h1 : CAt w b1 #[sv s] 9) (h2 : CAt w b2 #[.slice po e.b.length c, .bool false] 78) :
    Calls Try.prog 67 #[ptr b0, ptr b1, ptr b2] w (Did w S p m fu d (gput d.F s (e.b, false))) := by
  have c0 : w.cell? ⟨b0, 0, none⟩ = some (ptr p) := h0.cell 0
  have c1 : w.cell? ⟨b1, 0, none⟩ = some (sv s) := h1.cell 0
  have c2 : w.cell? ⟨b2, 0, none⟩ = some (.slice po e.b.length c) := h2.cell 0
  have c3 : w.cell? ⟨b2, 1, none⟩ = some (.bool false) := h2.cell 1
  have hn := h.newOf hg false
  rw [hv] at hn
  have HP := hid (put_any h s (h.nm _ (gget_mem hg)) po e.b.length c e.b false rfl hn hl (by rw [h.used_at hg]; exact h.us))
  clear h h0 h1 h2 hn
  go_enter Try.func67, Try.ntmps67
  go_wp2_with (go_at_call 66; refine HP.out.mono ?_; rintro e w1 ⟨rfl, hd1, ho1⟩)
  go_end0
  exact ⟨rfl, S, _, Grows.refl _ _, hd1, ho1⟩
theorem rename_did (h : DrC w S p m fu d L) (b0 b1 b2 b3 : Nat) (s t : Nm) (ht : okNm t = true) (e : Ent) (hg : gget L s = some e) (po : Option Addr) (c : Nat) (hv : e.v = .slice po e.b.length c) (hl : L.length < 1000000000000)
    (h0 : CAt w b0 #[ptr p] 23) (h1 : CAt w b1 #[sv s] 9) (h2 : CAt w b2 #[sv t] 9) (h3 : CAt w b3 #[.slice po e.b.length c, .bool e.l] 78) :
    Calls Try.prog 68 #[ptr b0, ptr b1, ptr b2, ptr b3] w (Did w S p m fu d (gput (gdel d.F s) t (e.b, e.l))) := by
  have c0 : w.cell? ⟨b0, 0, none⟩ = some (ptr p) := h0.cell 0
  have c1 : w.cell? ⟨b1, 0, none⟩ = some (sv s) := h1.cell 0
  have n0 := h.box_ne h0 (by decide)
  have n2 := h.box_ne h2 (by decide)
  have n3 := h.box_ne h3 (by decide)
  have HT := hid (take_any h s (by have := ok_len (h.nm _ (gget_mem hg)); unfold maxLen; simp at this; omega))
  have HN := hid (And.intro n0 (And.intro n2 n3))
  have HC := hid (And.intro h0 (And.intro h2 h3))
  have H := hid h
  clear h h0 h1 h2 h3 n0 n2 n3
  go_enter Try.func68, Try.ntmps68
  go_wp2_with (first
    | (go_at_call 69; refine HT.out.mono ?_; rintro e1 w1 ⟨rfl, hd1, ho1, hz1⟩
       have a0 := HC.out.1.keep (ho1.block b0 HC.out.1.lt (fun e => e.elim HN.out.1.1 HN.out.1.2))
       have a2 := HC.out.2.1.keep (ho1.block b2 HC.out.2.1.lt (fun e => e.elim HN.out.2.1.1 HN.out.2.1.2))
       have a3 := HC.out.2.2.keep (ho1.block b3 HC.out.2.2.lt (fun e => e.elim HN.out.2.2.1 HN.out.2.2.2))
       have d0 : w1.cell? ⟨b0, 0, none⟩ = some (ptr p) := a0.cell 0
       have d2 : w1.cell? ⟨b2, 0, none⟩ = some (sv t) := a2.cell 0
       have d3 : w1.cell? ⟨b3, 0, none⟩ = some (.slice po e.b.length c) := a3.cell 0
       have d4 : w1.cell? ⟨b3, 1, none⟩ = some (.bool e.l) := a3.cell 1
       have hne : NewE w1 S p m (gdel (gdel L s) t) ⟨.slice po e.b.length c, e.b, e.l⟩ := by
         have hn := H.out.newOf hg e.l
         rw [← hv]
         exact ⟨ownsRow_keep hn.ow fun b hb => ho1.block b (H.out.lt b (hn.sf b hb).1) (fun e => e.elim (hn.sf b hb).2.1 (hn.sf b hb).2.2), hn.by8, hn.sf, fun y hy => hn.ap y (mem_del.1 hy).1⟩
       have HP := hid (put_any hd1 t ht po e.b.length c e.b e.l rfl hne (Nat.lt_of_le_of_lt (len_del L s) hl) (by
         show usedOf (gdel (gdel d.F s) t) + e.b.length ≤ d.size
         have := H.out.used_at hg
         have := used_del (H.out.srtF.del s) t
         have := H.out.us
         omega))
       have HO1 := hid ho1
       clear a0 a2 a3 hne hd1 ho1 hz1)
    | (go_at_call 66; refine HP.out.mono ?_; rintro e2 w2 ⟨rfl, hd2, ho2⟩))
  go_end0
  exact ⟨rfl, S, _, Grows.refl _ _, hd2, HO1.out.then ho2 (fun _ _ h => h)⟩
end
#print axioms rename_did
end Go.Proofs.Ytfppmpfmafnfmaa

/- Contracts of Delete, Sync and Rename of package drive. -/
namespace Go.Proofs.Ytfppmpfmafnfmaa
open Go Go.RowKit

section
variable {d : Pd} {f : Fs} {s t : Nm}
theorem readE_ok (h : d.readE f s = 0) : d.ans f [s] = 0 ∧ ∃ x, gget d.F s = some x := by
  unfold Pd.readE at h
  by_cases ha : d.ans f [s] = 0
  · rw [if_neg (by simp [ha])] at h
    cases hg : gget d.F s with
    | none => rw [hg] at h; simp at h
    | some x => exact ⟨ha, x, rfl⟩
  · rw [if_pos ha] at h; exact absurd h ha
theorem readE_not (h : d.readE f s ≠ 0) : (d.ans f [s] ≠ 0 ∧ d.readE f s = d.ans f [s]) ∨ (d.ans f [s] = 0 ∧ gget d.F s = none ∧ d.readE f s = 6) := by
  by_cases ha : d.ans f [s] = 0
  · refine Or.inr ⟨ha, ?_⟩
    unfold Pd.readE at h ⊢
    rw [if_neg (by simp [ha])] at h ⊢
    cases hg : gget d.F s with
    | none => exact ⟨rfl, rfl⟩
    | some x => rw [hg] at h; exact absurd rfl h
  · exact Or.inl ⟨ha, readE_bad ha⟩
theorem delete_bad (h : d.readE f s ≠ 0) : d.delete f s = (d.readE f s, d, f) := by
  unfold Pd.delete
  rcases readE_not h with ⟨h1, h2⟩ | ⟨h1, h2, h3⟩
  · rw [if_pos h1, h2]
  · rw [if_neg (by simp [h1]), h2, h3]
theorem delete_ok (h : d.readE f s = 0) : d.delete f s = d.chg f (gdel d.F s) := by
  obtain ⟨h1, x, h2⟩ := readE_ok h
  unfold Pd.delete; rw [if_neg (by simp [h1]), h2]
theorem sync_bad (h : d.readE f s ≠ 0) : d.sync f s = (d.readE f s, d, f) := by
  unfold Pd.sync
  rcases readE_not h with ⟨h1, h2⟩ | ⟨h1, h2, h3⟩
  · rw [if_pos h1, h2]
  · rw [if_neg (by simp [h1]), h2, h3]
theorem sync_ok {x : Fi} (h : d.readE f s = 0) (hx : gget d.F s = some x) : d.sync f s = d.chg f (gput d.F s (x.1, false)) := by
  unfold Pd.sync; rw [if_neg (by simp [(readE_ok h).1]), hx]
theorem ans_one (h : d.ans f [s, t] = 0) : d.ans f [s] = 0 ∧ okNm t = true := by
  unfold Pd.ans at h ⊢
  cases h1 : d.isOut f
  · cases h2 : d.offl
    · rw [h1, h2] at h
      cases h3 : okNm s <;> cases h4 : okNm t <;> simp [h3, h4] at h ⊢
    · rw [h1, h2] at h; simp at h
  · rw [h1] at h; simp at h
theorem rename_bad (h : d.ans f [s, t] ≠ 0) : d.rename f s t = (d.ans f [s, t], d, f) := by unfold Pd.rename; rw [if_pos h]
theorem rename_bad2 (h : d.ans f [s, t] = 0) (h2 : d.readE f s ≠ 0) : d.rename f s t = (d.readE f s, d, f) := by
  unfold Pd.rename; rw [if_neg (by simp [h])]
  rcases readE_not h2 with ⟨h3, _⟩ | ⟨_, h4, h5⟩
  · exact absurd (ans_one h).1 h3
  · rw [h4, h5]
theorem rename_ok {x : Fi} (h : d.ans f [s, t] = 0) (hx : gget d.F s = some x) : d.rename f s t = d.chg f (gput (gdel d.F s) t x) := by
  unfold Pd.rename; rw [if_neg (by simp [h]), hx]
end
section
variable {w : World} {S : Nat → Prop} {p m : Nat} {fu : Option Nat} {d : Pd} {L : List (Nm × Ent)}
theorem DrC.getE (h : DrC w S p m fu d L) {f : Fs} {s : Nm} (hr : d.readE f s = 0) : ∃ e po c, gget L s = some e ∧ findV d f L s = e ∧ e.v = .slice po e.b.length c ∧ gget d.F s = some (e.b, e.l) := by
  obtain ⟨_, x, hx⟩ := readE_ok hr
  rw [h.fs, gget_map] at hx
  cases hg : gget L s with
  | none => rw [hg] at hx; cases hx
  | some e =>
    obtain ⟨po, c, hv⟩ := own_form (h.ow _ (gget_mem hg))
    refine ⟨e, po, c, rfl, ?_, hv, ?_⟩
    · unfold findV; rw [if_pos hr, hg]; rfl
    · rw [h.fs, gget_map, hg]; rfl
theorem findV_bad {f : Fs} {s : Nm} (hr : d.readE f s ≠ 0) : fileOf (findV d f L s) = .agg #[.slice none 0 0, .bool false] := by
  unfold findV; rw [if_neg hr]; rfl
theorem FuAt.setS {fu : Option Nat} {f : Fs} (h : FuAt w S fu f) {b : Nat} (hb : w.heap.size ≤ b) (v : Value) (i : Nat) : FuAt (w.setCell ⟨b, i, none⟩ v) S fu f :=
  h.keep fun q hq => heap_setCell_ne _ _ _ _ (by have := h.lt q hq; intro e; simp at e; omega)
theorem CAt.old {w : World} {b : Nat} {cs : Array Value} {t : TypeId} (h : CAt w b cs t) (o : Obj) : CAt (w.alloc o) b cs t := h.keep (heap_alloc_old w o h.lt)
theorem CAt.made (w : World) (cs : Array Value) (t : TypeId) : CAt (w.alloc (.cells cs t)) w.heap.size cs t := at_new w _
theorem CAt.below {w w' : World} {b : Nat} {cs : Array Value} {t : TypeId} (h : CAt w b cs t) (hb : Below w.heap.size w w') : CAt w' b cs t := h.keep (hb.block b h.lt)
/-- Two boxes, and what a call leaves that only makes new blocks. -/
structure Two (w w1 : World) (S : Nat → Prop) (p m : Nat) (fu : Option Nat) (d : Pd) (L : List (Nm × Ent)) (f : Fs) (s : Nm) : Prop where
  b0 : CAt w1 w.heap.size #[ptr p] 23
  b1 : CAt w1 (w.heap.size + 1) #[sv s] 9
  dr : DrC w1 S p m fu d L
  fu : FuAt w1 S fu f
  be : Below w.heap.size w w1
theorem Two.mk1 (h : DrC w S p m fu d L) {f : Fs} (hf : FuAt w S fu f) (s : Nm) {w1 : World} (hb : Below ((w.alloc (.cells #[ptr p] 23)).alloc (.cells #[sv s] 9)).heap.size ((w.alloc (.cells #[ptr p] 23)).alloc (.cells #[sv s] 9)) w1) : Two w w1 S p m fu d L f s where
  b0 := ((CAt.made w _ _).old _).below hb
  b1 := by have := (CAt.made (w.alloc (.cells #[ptr p] 23)) #[sv s] 9).below hb; rw [size_al] at this; exact this
  dr := ((h.alloc _).alloc _).below hb
  fu := ((hf.alloc _).alloc _).below hb
  be := below_on _ _ (((Below.refl _ _).alloc (Nat.le_refl _) _).alloc (by simp only [size_al]; omega) _) hb
theorem Two.box {f : Fs} {s : Nm} {w1 w2 : World} (_h : Two w w1 S p m fu d L f s) (hf : FuAt w S fu f) {o : Obj} (ho : Only (fun b => fu = some b) (w1.alloc o) w2) {b : Nat} {cs : Array Value} {t : TypeId} (hb : w.heap.size ≤ b) (hc : CAt (w1.alloc o) b cs t) : CAt w2 b cs t :=
  hc.keep (ho.block b hc.lt fun e => by have := hf.lt b e; omega)
theorem Two.be1 {f : Fs} {s : Nm} {w1 : World} (h : Two w w1 S p m fu d L f s) (o : Obj) : Below w.heap.size w (w1.alloc o) := below_on _ _ h.be ((Below.refl _ _).alloc (Nat.le_refl _) _)
theorem Two.same {f : Fs} {s : Nm} {w1 : World} (h : Two w w1 S p m fu d L f s) (o : Obj) (x : Nat) : Done w S p fu (x, d, f) (.returned (.int .i64 (x : Int))) (w1.alloc o) :=
  ⟨rfl, S, Grows.refl _ _, ⟨m, L, h.dr.alloc o⟩, h.fu.alloc o, Only.of_below (h.be1 o)⟩
set_option maxRecDepth 100000 in
theorem delete_any (h : DrC w S p m fu d L) {f : Fs} (hf : FuAt w S fu f) (s : Nm) (hs : s.length ≤ maxLen) (ho : d.ops < 1000000000000) :
    Calls Try.prog 26 #[ptr p, sv s] w (Done w S p fu (d.delete f s)) := by
  have H := hid h
  have HF := hid hf
  have HFD := hid (fun (o1 o2 : Obj) => find_any ((h.alloc o1).alloc o2) ((hf.alloc o1).alloc o2) s hs)
  clear h hf
  by_cases hr : d.readE f s = 0
  · obtain ⟨e, po, c, hg, hv, hev, hgF⟩ := H.out.getE hr
    have HV : Hid (fileOf (findV d f L s) = .agg #[.slice po e.b.length c, .bool e.l]) := hid (by rw [hv, ← hev])
    have HEQ := hid (delete_ok hr)
    generalize hkk : e.b.length = kk at HV
    clear hkk hv hev hgF
    go_enter Try.func26, Try.ntmps26
    go_wp2_with (first
      | (go_at_call 59; refine (HFD.out _ _).mono ?_; rintro e1 w1 ⟨rfl, hb1⟩; rw [hr, HV.out]; have HT := hid (Two.mk1 H.out HF.out s hb1); have c0 : w1.cell? ⟨w.heap.size, 0, none⟩ = some (ptr p) := HT.out.b0.cell 0; have l0 := HT.out.b0.lt; clear hb1)
      | (go_at_call 64; refine (change_d (HT.out.dr.alloc _) (HT.out.fu.alloc _) ho _ _ (gdel d.F s) (fun w2 hd2 ho2 hz2 => delete_did hd2 _ _ s hs (HT.out.box HF.out ho2 (Nat.le_refl _) (HT.out.b0.old _)) (HT.out.box HF.out ho2 (by omega) (HT.out.b1.old _)))).mono ?_; rintro e2 w2 ⟨rfl, hR⟩; have HR := hid hR; clear hR))
    go_ret
    rw [HEQ.out]
    exact Done.from (HT.out.be1 _) ⟨rfl, HR.out⟩
  · have HEQ := hid (delete_bad hr)
    have HV := hid (findV_bad (L := L) hr)
    have hr' : ((d.readE f s : Nat) : Int) ≠ 0 := by omega
    generalize hx : d.readE f s = x at *
    go_enter Try.func26, Try.ntmps26
    go_wp2_with (first
      | (go_at_call 59; refine (HFD.out _ _).mono ?_; rintro e1 w1 ⟨rfl, hb1⟩; rw [hx, HV.out]; have HT := hid (Two.mk1 H.out HF.out s hb1); have c0 : w1.cell? ⟨w.heap.size, 0, none⟩ = some (ptr p) := HT.out.b0.cell 0; have l0 := HT.out.b0.lt; clear hb1))
    go_ret
    rw [HEQ.out]
    exact HT.out.same _ x
set_option maxRecDepth 100000 in
theorem sync_any (h : DrC w S p m fu d L) {f : Fs} (hf : FuAt w S fu f) (s : Nm) (hs : s.length ≤ maxLen) (ho : d.ops < 1000000000000) (hl : d.F.length < 1000000000000) :
    Calls Try.prog 24 #[ptr p, sv s] w (Done w S p fu (d.sync f s)) := by
  have H := hid h
  have HF := hid hf
  have HFD := hid (fun (o1 o2 : Obj) => find_any ((h.alloc o1).alloc o2) ((hf.alloc o1).alloc o2) s hs)
  have HL : Hid (L.length < 1000000000000) := hid (by rw [h.lenF]; exact hl)
  clear h hf
  by_cases hr : d.readE f s = 0
  · obtain ⟨e, po, c, hg, hv, hev, hgF⟩ := H.out.getE hr
    have HV : Hid (fileOf (findV d f L s) = .agg #[.slice po e.b.length c, .bool e.l]) := hid (by rw [hv, ← hev])
    have HEQ := hid (sync_ok hr hgF)
    have HEV := hid hev
    clear hv hev hgF
    generalize hkk : e.b.length = kk at HV HEV
    have HKK := hid hkk
    clear hkk
    go_enter Try.func24, Try.ntmps24
    go_wp2_with (first
      | (go_at_call 59; refine (HFD.out _ _).mono ?_; rintro e1 w1 ⟨rfl, hb1⟩; rw [hr, HV.out]; have HT := hid (Two.mk1 H.out HF.out s hb1); have c0 : w1.cell? ⟨w.heap.size, 0, none⟩ = some (ptr p) := HT.out.b0.cell 0; have l0 := HT.out.b0.lt; clear hb1)
      | (go_at_call 64; refine (change_s (HT.out.dr.alloc _) (HT.out.fu.alloc _) ho _ _ _ (gput d.F s (e.b, false)) (fun w2 hd2 ho2 hz2 => sync_did hd2 _ _ _ s e hg po c (by rw [HKK.out]; exact HEV.out) HL.out (HT.out.box HF.out ho2 (Nat.le_refl _) (HT.out.b0.old _)) (HT.out.box HF.out ho2 (by omega) (HT.out.b1.old _)) (by rw [HKK.out]; exact HT.out.box HF.out ho2 HT.out.be.size (CAt.made _ _ _)))).mono ?_; rintro e2 w2 ⟨rfl, hR⟩; have HR := hid hR; clear hR))
    go_ret
    rw [HEQ.out]
    exact Done.from (HT.out.be1 _) ⟨rfl, HR.out⟩
  · have HEQ := hid (sync_bad hr)
    have HV := hid (findV_bad (L := L) hr)
    have hr' : ((d.readE f s : Nat) : Int) ≠ 0 := by omega
    generalize hx : d.readE f s = x at *
    go_enter Try.func24, Try.ntmps24
    go_wp2_with (first
      | (go_at_call 59; refine (HFD.out _ _).mono ?_; rintro e1 w1 ⟨rfl, hb1⟩; rw [hx, HV.out]; have HT := hid (Two.mk1 H.out HF.out s hb1); have c0 : w1.cell? ⟨w.heap.size, 0, none⟩ = some (ptr p) := HT.out.b0.cell 0; have l0 := HT.out.b0.lt; clear hb1))
    go_ret
    rw [HEQ.out]
    exact HT.out.same _ x
#print axioms delete_any
#print axioms sync_any
end
end Go.Proofs.Ytfppmpfmafnfmaa

/- Contracts of Rename and Write of package drive. -/
namespace Go.Proofs.Ytfppmpfmafnfmaa
open Go Go.RowKit

section
variable {w : World} {S : Nat → Prop} {p m : Nat} {fu : Option Nat} {d : Pd} {L : List (Nm × Ent)}
/-- Three boxes, and what a call leaves that only makes new blocks. -/
structure Three (w w1 : World) (S : Nat → Prop) (p m : Nat) (fu : Option Nat) (d : Pd) (L : List (Nm × Ent)) (f : Fs) (s : Nm) (x : Value) (tx : TypeId) : Prop where
  b0 : CAt w1 w.heap.size #[ptr p] 23
  b1 : CAt w1 (w.heap.size + 1) #[sv s] 9
  b2 : CAt w1 (w.heap.size + 1 + 1) #[x] tx
  dr : DrC w1 S p m fu d L
  fu : FuAt w1 S fu f
  be : Below w.heap.size w w1
theorem below3 (w : World) (o1 o2 o3 o4 : Obj) : Below w.heap.size w ((((w.alloc o1).alloc o2).alloc o3).alloc o4) :=
  (((((Below.refl _ _).alloc (Nat.le_refl _) _).alloc (by simp only [size_al]; omega) _).alloc (by simp only [size_al]; omega) _).alloc (by simp only [size_al]; omega) _)
theorem Three.mk1 (h : DrC w S p m fu d L) {f : Fs} (hf : FuAt w S fu f) (s : Nm) (x : Value) (tx : TypeId) {o : Obj} {w1 : World}
    (hb : Below ((((w.alloc (.cells #[ptr p] 23)).alloc (.cells #[sv s] 9)).alloc (.cells #[x] tx)).alloc o).heap.size ((((w.alloc (.cells #[ptr p] 23)).alloc (.cells #[sv s] 9)).alloc (.cells #[x] tx)).alloc o) w1) : Three w w1 S p m fu d L f s x tx where
  b0 := ((((CAt.made w _ _).old _).old _).old _).below hb
  b1 := by have := (((CAt.made (w.alloc (.cells #[ptr p] 23)) #[sv s] 9).old _).old _).below hb; rw [size_al] at this; exact this
  b2 := by have := ((CAt.made ((w.alloc (.cells #[ptr p] 23)).alloc (.cells #[sv s] 9)) #[x] tx).old _).below hb; rw [size_al, size_al] at this; exact this
  dr := ((((h.alloc _).alloc _).alloc _).alloc _).below hb
  fu := ((((hf.alloc _).alloc _).alloc _).alloc _).below hb
  be := below_on _ _ (below3 w _ _ _ _) hb
theorem Three.mk0 (h : DrC w S p m fu d L) {f : Fs} (hf : FuAt w S fu f) (s : Nm) (x : Value) (tx : TypeId) (o : Obj) :
    Three w ((((w.alloc (.cells #[ptr p] 23)).alloc (.cells #[sv s] 9)).alloc (.cells #[x] tx)).alloc o) S p m fu d L f s x tx := Three.mk1 h hf s x tx (Below.refl _ _)
theorem Three.box {f : Fs} {s : Nm} {x : Value} {tx : TypeId} {w1 w2 : World} (_h : Three w w1 S p m fu d L f s x tx) (hf : FuAt w S fu f) {w3 : World} (ho : Only (fun b => fu = some b) w3 w2) {b : Nat} {cs : Array Value} {t : TypeId} (hb : w.heap.size ≤ b) (hc : CAt w3 b cs t) : CAt w2 b cs t :=
  hc.keep (ho.block b hc.lt fun e => by have := hf.lt b e; omega)
theorem Three.be1 {f : Fs} {s : Nm} {x : Value} {tx : TypeId} {w1 : World} (h : Three w w1 S p m fu d L f s x tx) (o : Obj) : Below w.heap.size w (w1.alloc o) := below_on _ _ h.be ((Below.refl _ _).alloc (Nat.le_refl _) _)
theorem Three.same1 {f : Fs} {s : Nm} {x : Value} {tx : TypeId} {w1 : World} (h : Three w w1 S p m fu d L f s x tx) (o : Obj) (y : Nat) : Done w S p fu (y, d, f) (.returned (.int .i64 (y : Int))) (w1.alloc o) :=
  ⟨rfl, S, Grows.refl _ _, ⟨m, L, h.dr.alloc o⟩, h.fu.alloc o, Only.of_below (h.be1 o)⟩
theorem Three.same {f : Fs} {s : Nm} {x : Value} {tx : TypeId} {w1 : World} (h : Three w w1 S p m fu d L f s x tx) (y : Nat) : Done w S p fu (y, d, f) (.returned (.int .i64 (y : Int))) w1 :=
  ⟨rfl, S, Grows.refl _ _, ⟨m, L, h.dr⟩, h.fu, Only.of_below h.be⟩
set_option maxRecDepth 100000 in
theorem rename_any (h : DrC w S p m fu d L) {f : Fs} (hf : FuAt w S fu f) (s t : Nm) (hs : s.length ≤ maxLen) (ht : t.length ≤ maxLen) (ho : d.ops < 1000000000000) (hl : d.F.length < 1000000000000) :
    Calls Try.prog 25 #[ptr p, sv s, sv t] w (Done w S p fu (d.rename f s t)) := by
  have H := hid h
  have HF := hid hf
  have HA := hid (fun (o1 o2 o3 o4 : Obj) v hv => answers_any ((((h.alloc o1).alloc o2).alloc o3).alloc o4) ((((hf.alloc o1).alloc o2).alloc o3).alloc o4) v [s, t] hv (by simp) (by simp; exact ⟨hs, ht⟩))
  have HFD := hid (fun (o1 o2 o3 o4 : Obj) => find_any ((((h.alloc o1).alloc o2).alloc o3).alloc o4) ((((hf.alloc o1).alloc o2).alloc o3).alloc o4) s hs)
  have HL : Hid (L.length < 1000000000000) := hid (by rw [h.lenF]; exact hl)
  clear h hf
  by_cases ha : d.ans f [s, t] = 0
  · have HTO := hid (ans_one ha).2
    by_cases hr : d.readE f s = 0
    · obtain ⟨e, po, c, hg, hv, hev, hgF⟩ := H.out.getE hr
      have HV : Hid (fileOf (findV d f L s) = .agg #[.slice po e.b.length c, .bool e.l]) := hid (by rw [hv, ← hev])
      have HEQ := hid (rename_ok ha hgF)
      have HEV := hid hev
      clear hv hev hgF
      generalize hkk : e.b.length = kk at HV HEV
      have HKK := hid hkk
      clear hkk
      go_enter Try.func25, Try.ntmps25
      go_wp2_with (first
        | (go_at_call 60; refine (HA.out _ _ _ _ _ (txt_two _ _ _ _ _ _ (by simp))).mono ?_; rintro e w' ⟨rfl, hw'⟩; rw [ha]; have hw2 := hw'.symm; subst hw2)
        | (go_at_call 59; refine (HFD.out _ _ _ _).mono ?_; rintro e1 w1 ⟨rfl, hb1⟩; rw [hr, HV.out]; have HT := hid (Three.mk1 H.out HF.out s _ _ hb1); have c0 : w1.cell? ⟨w.heap.size, 0, none⟩ = some (ptr p) := HT.out.b0.cell 0; have l0 := HT.out.b0.lt; clear hb1)
        | (go_at_call 64; refine (change_r (HT.out.dr.alloc _) (HT.out.fu.alloc _) ho _ _ _ _ (gput (gdel d.F s) t (e.b, e.l)) (fun w2 hd2 ho2 hz2 => rename_did hd2 _ _ _ _ s t HTO.out e hg po c (by rw [HKK.out]; exact HEV.out) HL.out (HT.out.box HF.out ho2 (Nat.le_refl _) (HT.out.b0.old _)) (HT.out.box HF.out ho2 (by omega) (HT.out.b1.old _)) (HT.out.box HF.out ho2 (by omega) (HT.out.b2.old _)) (by rw [HKK.out]; exact HT.out.box HF.out ho2 HT.out.be.size (CAt.made _ _ _)))).mono ?_; rintro e2 w2 ⟨rfl, hR⟩; have HR := hid hR; clear hR))
      go_ret
      rw [HEQ.out]
      exact Done.from (HT.out.be1 _) ⟨rfl, HR.out⟩
    · have HEQ := hid (rename_bad2 ha hr)
      have HV := hid (findV_bad (L := L) hr)
      have hr' : ((d.readE f s : Nat) : Int) ≠ 0 := by omega
      generalize hx : d.readE f s = x at *
      go_enter Try.func25, Try.ntmps25
      go_wp2_with (first
        | (go_at_call 60; refine (HA.out _ _ _ _ _ (txt_two _ _ _ _ _ _ (by simp))).mono ?_; rintro e w' ⟨rfl, hw'⟩; rw [ha]; have hw2 := hw'.symm; subst hw2)
        | (go_at_call 59; refine (HFD.out _ _ _ _).mono ?_; rintro e1 w1 ⟨rfl, hb1⟩; rw [hx, HV.out]; have HT := hid (Three.mk1 H.out HF.out s _ _ hb1); have c0 : w1.cell? ⟨w.heap.size, 0, none⟩ = some (ptr p) := HT.out.b0.cell 0; have l0 := HT.out.b0.lt; clear hb1))
      go_ret
      rw [HEQ.out]
      exact HT.out.same1 _ x
  · have HEQ := hid (rename_bad ha)
    have ha' : ((d.ans f [s, t] : Nat) : Int) ≠ 0 := by omega
    generalize hx : d.ans f [s, t] = x at *
    go_enter Try.func25, Try.ntmps25
    go_wp2_with (first
      | (go_at_call 60; refine (HA.out _ _ _ _ _ (txt_two _ _ _ _ _ _ (by simp))).mono ?_; rintro e w' ⟨rfl, hw'⟩; have hw2 := hw'.symm; subst hw2))
    go_ret
    rw [HEQ.out]
    exact (Three.mk0 H.out HF.out s (sv t) 9 _).same x
#print axioms rename_any
end
end Go.Proofs.Ytfppmpfmafnfmaa

/- Contract of Write of package drive. -/
namespace Go.Proofs.Ytfppmpfmafnfmaa
open Go Go.RowKit

/-- Bytes that a slice tells. -/
def BAt (w : World) (po : Option Addr) (bs : List Nat) : Prop := (po = none ∧ bs = []) ∨ ∃ a, po = some a ∧ ∀ i, i < bs.length → w.cell? (a.add i) = some (.int .u8 ((bs.getD i 0 : Nat) : Int))
theorem BAt.below {w w' : World} {po : Option Addr} {bs : List Nat} (h : BAt w po bs) (hk : ∀ a, w.cell? a ≠ none → w'.cell? a = w.cell? a) : BAt w' po bs := by
  rcases h with h | ⟨a, rfl, h⟩
  · exact Or.inl h
  · exact Or.inr ⟨a, rfl, fun i hi => (hk _ (by rw [h i hi]; simp)).trans (h i hi)⟩
theorem cell_lt' {w : World} {a : Addr} (h : w.cell? a ≠ none) : a.block < w.heap.size := by
  rcases Nat.lt_or_ge a.block w.heap.size with h1 | h1
  · exact h1
  · exact absurd (by simp [World.cell?, Array.getElem?_eq_none h1]) h
theorem BAt.keepB {w w' : World} {po : Option Addr} {bs : List Nat} (h : BAt w po bs) (hb : Below w.heap.size w w') : BAt w' po bs :=
  h.below fun a ha => World.cell?_of_block (hb.block a.block (cell_lt' ha))
/-- A copy of bytes in memory of its own. -/
def CloneAt (w : World) (bs : List Nat) (e : Ending) (w' : World) : Prop :=
  ∃ po c, e = .returned (.slice po bs.length c) ∧ w'.ownsRow w.heap.size 5 1 (.slice po bs.length c) bs.length (bs.map u8) ∧ Below w.heap.size w w'
theorem clone_any (po : Option Addr) (c : Nat) (bs : List Nat) (w : World) (h : BAt w po bs) (hn : bs.length ≤ 140737488355328) : Calls Try.prog 41 #[.slice po bs.length c] w (CloneAt w bs) := by
  rcases h with ⟨rfl, rfl⟩ | ⟨a, rfl, h⟩
  · refine (Try.bytes_Clone_nil 0 c w).mono ?_
    rintro e w' ⟨rfl, rfl⟩
    exact ⟨none, 0, rfl, World.ownsRow_nil _ _ _ _, Below.refl _ _⟩
  · refine (Try.bytes_Clone_at a bs.length c (bs.map fun (k : Nat) => (k : Int)) w (by simp) hn (fun i hi => ?_)).mono ?_
    · rw [h i hi]; simp [List.getD, List.getElem?_eq_getElem hi]
    · rintro e w' ⟨v, rfl, ho, _, hb⟩
      obtain ⟨po, cc, rfl⟩ := own_form ho
      refine ⟨po, cc, rfl, ?_, hb⟩
      have : (bs.map fun (k : Nat) => (k : Int)).map (Value.int .u8) = bs.map u8 := by simp [u8, Function.comp_def]
      rw [← this]; exact ho
theorem own_ge {w : World} {B e sz n : Nat} {v : Value} {xs : List Value} (h : w.ownsRow B e sz v n xs) : ∀ b, v.ownBlock = some b → B ≤ b ∧ b < w.heap.size := fun b hb => World.ownsRow.lt h b hb
theorem own_base {w : World} {B B2 e sz n : Nat} {v : Value} {xs : List Value} (h : w.ownsRow B e sz v n xs) (hB : B2 ≤ B) : w.ownsRow B2 e sz v n xs := by
  refine ⟨h.1, ?_⟩
  rcases h.2 with h2 | ⟨g, cap, cur, rfl, hb, r⟩
  · exact Or.inl h2
  · exact Or.inr ⟨g, cap, cur, rfl, Nat.le_trans hB hb, r⟩
section
variable {w : World} {S : Nat → Prop} {p m : Nat} {fu : Option Nat} {d : Pd} {L : List (Nm × Ent)}
/-- Behind a copy: the drive with the copy's block among its own, and the copy as a file. -/
theorem DrC.withNew (h : DrC w S p m fu d L) {bs : List Nat} (h8 : ∀ y ∈ bs, y < 256) {w1 : World} {v : Value} (ho : w1.ownsRow w.heap.size 5 1 v bs.length (bs.map u8)) (hb : Below w.heap.size w w1) (s : Nm) (l : Bool) :
    DrC w1 (grw S w w1) p m fu d L ∧ Grows w S (grw S w w1) ∧ NewE w1 (grw S w w1) p m (gdel L s) ⟨v, bs, l⟩ := by
  have h1 := h.below hb
  refine ⟨h1.wide (fun b hb => Or.inl hb) (fun b hb' => hb'.elim (h1.lt b) (·.2)), ⟨fun b hb => Or.inl hb, fun b hb => hb.imp id (·.1)⟩, ⟨own_base ho (Nat.zero_le _), h8, fun b hb' => ?_, fun x hx => ?_⟩⟩
  · have := own_ge ho b hb'
    exact ⟨Or.inr this, fun e => by have := h.lt p h.sp; omega, fun e => by have := h.lt m h.sm; omega⟩
  · by_cases e : x.2.v.ownBlock = none
    · exact Or.inl e
    · refine Or.inr fun e2 => ?_
      obtain ⟨b, hb1⟩ := Option.ne_none_iff_exists'.1 e
      have h2 := h.lt b (h.sf x (mem_del.1 hx).1 b hb1)
      rw [hb1] at e2
      have := own_ge ho b e2.symm
      omega
set_option maxRecDepth 100000 in
theorem write_did (h : DrC w S p m fu d L) (b0 b1 b2 : Nat) (s : Nm) (hs : okNm s = true) (po : Option Addr) (c : Nat) (bs : List Nat) (h8 : ∀ y ∈ bs, y < 256) (hx : BAt w po bs) (hn : bs.length ≤ 67108864) (hl : L.length < 1000000000000)
    (hu : usedOf (gdel d.F s) + bs.length ≤ d.size)
    (h0 : CAt w b0 #[ptr p] 23) (h1 : CAt w b1 #[sv s] 9) (h2 : CAt w b2 #[.slice po bs.length c] 33) :
    Calls Try.prog 65 #[ptr b0, ptr b1, ptr b2] w (Did w S p m fu d (gput d.F s (bs, true))) := by
  have c0 : w.cell? ⟨b0, 0, none⟩ = some (ptr p) := h0.cell 0
  have c1 : w.cell? ⟨b1, 0, none⟩ = some (sv s) := h1.cell 0
  have c2 : w.cell? ⟨b2, 0, none⟩ = some (.slice po bs.length c) := h2.cell 0
  have l0 := h0.lt
  have l1 := h1.lt
  have l2 := h2.lt
  have HN := hid (And.intro (h.box_ne h0 (by decide)) (And.intro (h.box_ne h1 (by decide)) (h.box_ne h2 (by decide))))
  have H := hid h
  have HX := hid hx
  have H8 := hid h8
  have HL := hid hl
  have HU := hid hu
  clear h h0 h1 h2 hx h8 hl hu
  go_enter Try.func65, Try.ntmps65
  go_wp2_with fail
  go_region_held3 (fun w' => w'.cell? ⟨b0, 0, none⟩ = some (ptr p) ∧ w'.cell? ⟨b1, 0, none⟩ = some (sv s) ∧ w'.cell? ⟨b2, 0, none⟩ = some (.slice po bs.length c)) (first | exact ⟨c0, c1, c2⟩ | exact ⟨(World.cell?_of_block (hb1.block b0 l0)).trans c0, (World.cell?_of_block (hb1.block b1 l1)).trans c1, (World.cell?_of_block (hb1.block b2 l2)).trans c2⟩ | exact ⟨(World.cell?_of_block (ho2.block b0 (Nat.lt_of_lt_of_le l0 hb1.size) (fun e => e.elim HN.out.1.1 HN.out.1.2))).trans ((World.cell?_of_block (hb1.block b0 l0)).trans c0), (World.cell?_of_block (ho2.block b1 (Nat.lt_of_lt_of_le l1 hb1.size) (fun e => e.elim HN.out.2.1.1 HN.out.2.1.2))).trans ((World.cell?_of_block (hb1.block b1 l1)).trans c1), (World.cell?_of_block (ho2.block b2 (Nat.lt_of_lt_of_le l2 hb1.size) (fun e => e.elim HN.out.2.2.1 HN.out.2.2.2))).trans ((World.cell?_of_block (hb1.block b2 l2)).trans c2)⟩) (first | (go_at_call 41; refine (clone_any po c bs w.drew HX.out (by omega)).mono ?_; rintro e w1 ⟨pv, cv, rfl, ho1, hb0⟩; have hb1 : Below w.heap.size w w1 := ⟨hb0.os, hb0.tape, hb0.output, hb0.size, hb0.block⟩) | (go_at_call 66; refine (put_any (H.out.withNew H8.out ho1 hb1 s true).1 s hs pv bs.length cv bs true rfl (H.out.withNew H8.out ho1 hb1 s true).2.2 HL.out HU.out).mono ?_; rintro e2 w2 ⟨rfl, hd2, ho2⟩))
  go_end0
  exact ⟨rfl, _, _, (H.out.withNew H8.out ho1 hb1 s true).2.1, hd2, (Only.of_below hb1).then ho2 (fun _ _ h => h)⟩
/-- No byte lies in a fuse. -/
theorem BAt.keepFu {w1 w2 : World} {po : Option Addr} {bs : List Nat} {f : Fs} (h : BAt w1 po bs) (hf : FuAt w1 S fu f) (ho : Only (fun b => fu = some b) w1 w2) : BAt w2 po bs := by
  rcases h with h | ⟨a, rfl, h⟩
  · exact Or.inl h
  · refine Or.inr ⟨a, rfl, fun i hi => ?_⟩
    have hc := h i hi
    refine (World.cell?_of_block (ho.block (a.add i).block (cell_lt' (by rw [hc]; simp)) ?_)).trans hc
    intro e
    match fu, f, hf with
    | some q, some (n, g), hf =>
      have hq : w1.heap[q]? = _ := hf.1
      have e' : (a.add i).block = q := by cases e; rfl
      unfold World.cell? at hc
      rw [e', hq] at hc
      generalize (a.add i).off = o at hc
      rcases o with _ | _ | o <;> simp at hc
theorem below_drewN (w : World) (n : Nat) : Below w.heap.size w (w.drewN n) := ⟨rfl, rfl, rfl, Nat.le_refl _, fun _ _ => rfl⟩
theorem Three.on {f : Fs} {s : Nm} {x : Value} {tx : TypeId} {w1 w2 : World} (h : Three w w1 S p m fu d L f s x tx) (hb : Below w1.heap.size w1 w2) : Three w w2 S p m fu d L f s x tx :=
  ⟨h.b0.below hb, h.b1.below hb, h.b2.below hb, h.dr.below hb, h.fu.below hb, below_on _ _ h.be hb⟩
theorem write_bad {f : Fs} {s : Nm} {bs : List Nat} (h : d.ans f [s] ≠ 0) : d.write f s bs = (d.ans f [s], d, f) := by unfold Pd.write; rw [if_pos h]
theorem write_full {f : Fs} {s : Nm} {bs : List Nat} (h : d.ans f [s] = 0) (h2 : d.full = true ∨ d.size < usedOf (gdel d.F s) + bs.length) : d.write f s bs = (8, d, f) := by
  unfold Pd.write; rw [if_neg (by simp [h]), if_pos]
  rcases h2 with h2 | h2 <;> simp [h2]
theorem write_ok {f : Fs} {s : Nm} {bs : List Nat} (h : d.ans f [s] = 0) (h2 : d.full = false) (h3 : usedOf (gdel d.F s) + bs.length ≤ d.size) : d.write f s bs = d.chg f (gput d.F s (bs, true)) := by
  unfold Pd.write; rw [if_neg (by simp [h]), if_neg]
  simp [h2]; omega
set_option maxRecDepth 100000 in
theorem write_any (h : DrC w S p m fu d L) {f : Fs} (hf : FuAt w S fu f) (s : Nm) (hs : s.length ≤ maxLen) (po : Option Addr) (c : Nat) (bs : List Nat) (h8 : ∀ y ∈ bs, y < 256) (hx : BAt w po bs) (hn : bs.length ≤ 140737488355328) (ho : d.ops < 1000000000000) (hl : d.F.length < 1000000000000) :
    Calls Try.prog 23 #[ptr p, sv s, .slice po bs.length c] w (Done w S p fu (d.write f s bs)) := by
  have H := hid h
  have HF := hid hf
  have HX := hid hx
  have H8 := hid h8
  have HA := hid (fun (o1 o2 o3 o4 : Obj) v hv => answers_any ((((h.alloc o1).alloc o2).alloc o3).alloc o4) ((((hf.alloc o1).alloc o2).alloc o3).alloc o4) v [s] hv (by simp) (by simpa using hs))
  have HL : Hid (L.length < 1000000000000) := hid (by rw [h.lenF]; exact hl)
  clear h hf hx h8
  by_cases ha : d.ans f [s] = 0
  · have HOK : Hid (okNm s = true) := hid (by
      unfold Pd.ans at ha
      cases h1 : d.isOut f <;> cases h2 : d.offl <;> cases h3 : okNm s <;> simp [h1, h2, h3] at ha ⊢)
    go_enter Try.func23, Try.ntmps23
    go_wp2_with (first
      | (go_at_call 60; refine (HA.out _ _ _ _ _ (txt_one _ _ _ _ _ (by simp))).mono ?_; rintro e w' ⟨rfl, hw'⟩; rw [ha]; have hw2 := hw'.symm; subst hw2))
    have HT := hid (Three.mk0 H.out HF.out s (.slice po bs.length c) 33 (.cells #[sv s] 9))
    have HX1 := hid (HX.out.keepB (below3 w (.cells #[ptr p] 23) (.cells #[sv s] 9) (.cells #[.slice po bs.length c] 33) (.cells #[sv s] 9)))
    generalize ((((w.alloc (.cells #[ptr p] 23)).alloc (.cells #[sv s] 9)).alloc (.cells #[.slice po bs.length c] 33)).alloc (.cells #[sv s] 9)) = w4 at *
    obtain ⟨pe, ce, le, hent⟩ := H.out.entry s
    have hd := used_del H.out.srtF s
    have hus := H.out.us
    have hsz := H.out.sz
    have hlk : ∀ n, (Instr.lookup 48 (.map (some m)) (sv s) false).run Try.prog (w4.drewN n) = .ok (.agg #[.slice pe (lenAt d.F s) ce, .bool le]) (w4.drewN n) := fun n => by
      rw [look_len (drewN_own HT.out.dr.mp) s hs, hent]
    have hfd := run_field0 (.slice pe (lenAt d.F s) ce) le
    have e0 : w4.cell? ⟨w.heap.size, 0, none⟩ = some (ptr p) := HT.out.b0.cell 0
    have e1 : w4.cell? ⟨w.heap.size + 1, 0, none⟩ = some (sv s) := HT.out.b1.cell 0
    have d2 : w4.cell? ⟨p, 2, none⟩ = some (.map (some m)) := HT.out.dr.c.cell 2
    have d3 : w4.cell? ⟨p, 3, none⟩ = some (.int .i64 (usedOf d.F : Int)) := HT.out.dr.c.cell 3
    generalize hA : usedOf d.F = A at *
    generalize hB : lenAt d.F s = B at *
    generalize hC : usedOf (gdel d.F s) = C at *
    have HC := hid hC
    clear hA hB hC hent
    have hd' := hd.symm
    subst hd'
    refine wp_region_tail 13 (by kernel_rfl) rfl (by kernel_rfl) ?_
    dsimp only [List.take]
    repeat (go_big_quiet_step (fail))
    refine wpQuiet_nil ?_
    intro nr
    have HT := hid (HT.out.on (below_drewN w4 nr))
    have HX1 := hid (HX1.out.keepB (below_drewN w4 nr))
    clear hlk hfd e0 e1 d2 d3
    generalize w4.drewN nr = w5 at *
    go_wp2
    have e0 : w5.cell? ⟨w.heap.size, 0, none⟩ = some (ptr p) := HT.out.b0.cell 0
    have e2 : w5.cell? ⟨w.heap.size + 1 + 1, 0, none⟩ = some (.slice po bs.length c) := HT.out.b2.cell 0
    have d1 : w5.cell? ⟨p, 1, none⟩ = some (.int .i64 (d.size : Int)) := HT.out.dr.c.cell 1
    have d6 : w5.cell? ⟨p, 6, none⟩ = some (.bool d.full) := HT.out.dr.c.cell 6
    cases hfu : d.full
    · rw [hfu] at d6
      by_cases hbig : d.size < C + bs.length
      · have HEQ := hid (write_full (bs := bs) ha (Or.inr (by rw [HC.out]; exact hbig)))
        have hcmp : (d.size : Int) - (C : Int) < (bs.length : Int) := by omega
        refine wp_region_tail 14 (by kernel_rfl) rfl (by kernel_rfl) ?_
        dsimp only [List.take]
        repeat (go_big_quiet_step (fail))
        refine wpQuiet_nil ?_
        intro nr2
        go_wp2
        go_ret
        rw [HEQ.out]
        exact (HT.out.on (below_drewN w5 nr2)).same 8
      · have HEQ := hid (write_ok (bs := bs) ha hfu (by rw [HC.out]; omega))
        have hcmp : ¬ (d.size : Int) - (C : Int) < (bs.length : Int) := by omega
        refine wp_region_tail 14 (by kernel_rfl) rfl (by kernel_rfl) ?_
        dsimp only [List.take]
        repeat (go_big_quiet_step (fail))
        refine wpQuiet_nil ?_
        intro nr2
        have HT := hid (HT.out.on (below_drewN w5 nr2))
        have HX1 := hid (HX1.out.keepB (below_drewN w5 nr2))
        clear e0 e2 d1 d6
        generalize w5.drewN nr2 = w6 at *
        have e0 : w6.cell? ⟨w.heap.size, 0, none⟩ = some (ptr p) := HT.out.b0.cell 0
        go_wp2_with (first
          | (go_at_call 64; refine (change_w HT.out.dr HT.out.fu ho _ _ _ (gput d.F s (bs, true)) (fun w2 hd2 ho2 hz2 => write_did hd2 _ _ _ s HOK.out po c bs H8.out (HX1.out.keepFu HT.out.fu ho2) (by omega) HL.out (by rw [HC.out]; omega) (HT.out.box HF.out ho2 (Nat.le_refl _) HT.out.b0) (HT.out.box HF.out ho2 (by omega) HT.out.b1) (HT.out.box HF.out ho2 (by omega) HT.out.b2))).mono ?_; rintro e2 w2 ⟨rfl, hR⟩; have HR := hid hR; clear hR))
        go_ret
        rw [HEQ.out]
        exact Done.from HT.out.be ⟨rfl, HR.out⟩
    · rw [hfu] at d6
      have HEQ := hid (write_full (bs := bs) ha (Or.inl hfu))
      refine wp_region_tail 14 (by kernel_rfl) rfl (by kernel_rfl) ?_
      dsimp only [List.take]
      repeat (go_big_quiet_step (fail))
      refine wpQuiet_nil ?_
      intro nr2
      go_wp2
      go_ret
      rw [HEQ.out]
      exact (HT.out.on (below_drewN w5 nr2)).same 8
  · have HEQ := hid (write_bad (bs := bs) ha)
    have ha' : ((d.ans f [s] : Nat) : Int) ≠ 0 := by omega
    generalize hx : d.ans f [s] = x at *
    go_enter Try.func23, Try.ntmps23
    go_wp2_with (first
      | (go_at_call 60; refine (HA.out _ _ _ _ _ (txt_one _ _ _ _ _ (by simp))).mono ?_; rintro e w' ⟨rfl, hw'⟩; have hw2 := hw'.symm; subst hw2))
    go_ret
    rw [HEQ.out]
    exact (Three.mk0 H.out HF.out s (.slice po bs.length c) 33 _).same x
#print axioms write_any
end
end Go.Proofs.Ytfppmpfmafnfmaa
