/- Contract of put of package drive: a file is laid, in the place of what had its name. -/
import Derived.Test.YtfppmpfmafnfmaaDf
import Derived.Test.YtfppmpfmafnfmaaShelf
namespace Go.Proofs.Ytfppmpfmafnfmaa
open Go Go.RowKit

theorem sclone_any (s : Nm) (w : World) (hs : s.length ≤ 512) : Calls Try.prog 80 #[sv s] w fun e w' => e = .returned (sv s) ∧ Below w.heap.size w w' := by
  have hc := Try.stringslite_Clone ⟨s.toArray⟩ w (by simp [ByteArray.size]; omega)
  unfold sv
  generalize (⟨s.toArray⟩ : ByteArray) = bs at *
  go_enter Try.func80, Try.ntmps80
  go_wp2_with (go_at_call 83; refine hc.mono ?_; rintro e w1 ⟨rfl, hb⟩)
  go_ret
  exact ⟨rfl, hb⟩
theorem ok_len {s : Nm} (h : okNm s = true) : s.length ≤ 512 := ((okNm_iff s).1 h).2.1
theorem DrC.below {w w' : World} {S : Nat → Prop} {p m : Nat} {fu : Option Nat} {d : Pd} {L : List (Nm × Ent)} (h : DrC w S p m fu d L) (hb : Below w.heap.size w w') : DrC w' S p m fu d L :=
  h.keep hb.size fun b hS => hb.block b (h.lt b hS)
theorem FuAt.below {w w' : World} {S : Nat → Prop} {fu : Option Nat} {f : Fs} (h : FuAt w S fu f) (hb : Below w.heap.size w w') : FuAt w' S fu f :=
  h.keep fun q hq => hb.block q (h.lt q hq)
theorem scloneQ {C : World → Prop} (hon : ∀ w w', C w → Below w.heap.size w w' → C w') (s : Nm) (hs : s.length ≤ 512) (t : WC C) :
    Calls Try.prog 80 #[sv s] t.w fun e w' => e = .returned (sv s) ∧ ∃ t' : WC C, w' = t'.w :=
  (sclone_any s t.w hs).mono fun _ w' ⟨h1, h2⟩ => ⟨h1, ⟨w', hon _ _ t.ok h2⟩, rfl⟩
theorem below_on {w0 : World} (w w' : World) (h : Below w0.heap.size w0 w) (hb : Below w.heap.size w w') : Below w0.heap.size w0 w' :=
  ⟨hb.os.trans h.os, hb.tape.trans h.tape, hb.output.trans h.output, Nat.le_trans h.size hb.size, fun k hk => (hb.block k (Nat.lt_of_lt_of_le hk h.size)).trans (h.block k hk)⟩
/-- What put asks of the file: its row, its bytes, and that it is no other file's. -/
structure NewE (w : World) (S : Nat → Prop) (p m : Nat) (L : List (Nm × Ent)) (e : Ent) : Prop where
  ow : w.ownsRow 0 5 1 e.v e.b.length (e.b.map u8)
  by8 : ∀ y ∈ e.b, y < 256
  sf : ∀ b, e.v.ownBlock = some b → S b ∧ b ≠ p ∧ b ≠ m
  ap : ∀ x ∈ L, x.2.v.ownBlock = none ∨ x.2.v.ownBlock ≠ e.v.ownBlock
theorem ap_ins {x : Nm × Ent} : ∀ {L : List (Nm × Ent)}, L.Pairwise (fun x y => x.2.v.ownBlock = none ∨ x.2.v.ownBlock ≠ y.2.v.ownBlock) → (∀ y ∈ L, y.2.v.ownBlock = none ∨ y.2.v.ownBlock ≠ x.2.v.ownBlock) → (gins x L).Pairwise (fun x y => x.2.v.ownBlock = none ∨ x.2.v.ownBlock ≠ y.2.v.ownBlock)
  | [], _, _ => by simp [gins]
  | y :: r, h, hx => by
    obtain ⟨h1, h2⟩ := List.pairwise_cons.1 h
    have sym : ∀ z : Nm × Ent, (z.2.v.ownBlock = none ∨ z.2.v.ownBlock ≠ x.2.v.ownBlock) → (x.2.v.ownBlock = none ∨ x.2.v.ownBlock ≠ z.2.v.ownBlock) := fun z hz => by
      rcases hz with hz | hz
      · by_cases e : x.2.v.ownBlock = none
        · exact Or.inl e
        · exact Or.inr (by rw [hz]; exact e)
      · exact Or.inr (Ne.symm hz)
    unfold gins; split
    · exact List.pairwise_cons.2 ⟨fun z hz => sym z (hx z hz), h⟩
    · refine List.pairwise_cons.2 ⟨fun z hz => ?_, ap_ins h2 (fun z hz => hx z (by simp [hz]))⟩
      rcases List.mem_cons.1 ((gins_perm x r).mem_iff.1 hz) with rfl | hz
      · exact hx y (by simp)
      · exact h1 z hz
theorem ap_put {L : List (Nm × Ent)} {s : Nm} {e : Ent} (h : (gdel L s).Pairwise (fun x y => x.2.v.ownBlock = none ∨ x.2.v.ownBlock ≠ y.2.v.ownBlock)) (hx : ∀ y ∈ gdel L s, y.2.v.ownBlock = none ∨ y.2.v.ownBlock ≠ e.v.ownBlock) :
    (gput L s e).Pairwise (fun x y => x.2.v.ownBlock = none ∨ x.2.v.ownBlock ≠ y.2.v.ownBlock) := ap_ins h hx
def PutAt (w : World) (S : Nat → Prop) (p m : Nat) (fu : Option Nat) (d : Pd) (L : List (Nm × Ent)) (s : Nm) (e : Ent) (r : Ending) (w' : World) : Prop :=
  r = .returned (.tuple #[]) ∧ DrC w' S p m fu { d with F := gput d.F s e.fi } (gput L s e) ∧ Only (fun b => b = p ∨ b = m) w w'
set_option maxRecDepth 100000 in
theorem put_any {w : World} {S : Nat → Prop} {p m : Nat} {fu : Option Nat} {d : Pd} {L : List (Nm × Ent)} (h : DrC w S p m fu d L) (s : Nm) (hs : okNm s = true) (po : Option Addr) (k c : Nat) (bs : List Nat) (l : Bool) (hk : k = bs.length)
    (he : NewE w S p m (gdel L s) ⟨.slice po k c, bs, l⟩) (hl : L.length < 1000000000000) (hu : usedOf (gdel d.F s) + k ≤ d.size) :
    Calls Try.prog 66 #[ptr p, sv s, .agg #[.slice po k c, .bool l]] w (PutAt w S p m fu d L s ⟨.slice po k c, bs, l⟩) := by
  have hs5 := ok_len hs
  have hsm : s.length ≤ maxLen := by unfold maxLen; omega
  have HK := hid hk
  clear hk
  have H := hid h
  have HE := hid he
  have HT := hid (fun (o : Obj) => take_any (h.alloc o) s hsm)
  have HU := hid hu
  have HL := hid hl
  have hp := h.c.lt
  clear h he hu hl
  go_enter Try.func66, Try.ntmps66
  go_wp2_with (go_at_call 69; refine (HT.out _).mono ?_; rintro e w1 ⟨rfl, hd1, ho1, hz1⟩)
  have H1 := hid hd1
  have HO1 := hid ho1
  have HZ1 := hid hz1
  have hbox : CAt w1 w.heap.size #[.slice po k c, .bool l] 78 := by
    refine CAt.keep (w := w.alloc _) (at_new w _) (ho1.block w.heap.size (by rw [size_al]; omega) ?_)
    rintro (e | e)
    · have := H.out.lt p H.out.sp; omega
    · have := H.out.lt m H.out.sm; omega
  have HB := hid hbox
  clear hd1 ho1 hz1 hbox
  obtain ⟨C, hC⟩ : ∃ C : World → Prop, C = fun w' => Below w1.heap.size w1 w' := ⟨_, rfl⟩
  have k0 : ∀ w', C w' → Below w1.heap.size w1 w' := fun w' h => by rw [hC] at h; exact h
  have k2 : ∀ t : WC C, t.w.cell? ⟨p, 2, none⟩ = some (.map (some m)) := fun t => (H1.out.below (k0 _ t.ok)).c.cell 2
  have K3 := hid (fun w' (h : C w') => show w'.heap[w.heap.size]? = some (.cells #[.slice po k c, .bool l] 78) from HB.out.keep ((k0 _ h).block _ HB.out.lt))
  have KO : Hid (∀ w' w'', C w' → Below w'.heap.size w' w'' → C w'') := hid (fun w' w'' h hb => by rw [hC] at h ⊢; exact below_on _ _ h hb)
  have KD : Hid (C w1.drew) := hid (by rw [hC]; exact (Below.refl _ _).drew)
  have K0 := hid k0
  haveI : Nonempty (WC C) := ⟨⟨_, KD.out⟩⟩
  clear hC k0
  refine wp_region_tailC 7 (C := C) (by kernel_rfl) KD.out rfl (by kernel_rfl) ?_
  dsimp only [List.take]
  repeat (first
    | go_big_quiet_skip
    | (go_big_quiet_want; first
      | (refine quiet_load_class 78 _ rfl w.heap.size rfl _ _ _ K3.out Try.underlying78 rfl (by kernel_rfl) ?_; simp only [Act.put, List.setIfInBounds_toArray, List.set_cons_zero, List.set_cons_succ]; go_big_quiet_on)
      | (go_big_quiet_op; first | go_big_quiet_on | go_big_quiet_call (exact scloneQ KO.out s hs5 _))))
  refine wpQuiet_nil ?_
  rintro w2' ⟨⟨w2, hM⟩, hw2⟩
  have hw2' : w2' = w2 := hw2
  subst hw2'
  clear hw2
  have HBL := hid (K0.out _ hM)
  have H2 := hid (H1.out.below HBL.out)
  have HB2 := hid (HB.out.keep (HBL.out.block _ HB.out.lt))
  clear hM K0 KD KO K3 k2 this
  have hlen : (gdel L s).length < maxLen := by have := len_del L s; have := HL.out; unfold maxLen; omega
  go_wp2_with (at_mapUpdate; refine wpList_mapUpdate_in _ rfl _ _ _ 48 rfl 9 78 strLaw underM _ m _ _ rfl H2.out.mp hlen _ _ _ rfl rfl (keyS s hsm) _ _ (RF_mk _ _ _ _) ?_; intro w3 hown3 hturn3)
  have hsz3 := turned_size hturn3
  have hk3 : ∀ b, b < w2'.heap.size → b ≠ m → w3.heap[b]? = w2'.heap[b]? := fun b hb h2 => hturn3.grown.block b hb (fun e => h2 (by cases e; rfl))
  have hc3 := H2.out.c.keep (hk3 p H2.out.c.lt H2.out.pm)
  have hb3 := HB2.out.keep (hk3 _ HB2.out.lt (by intro e; have := H.out.lt m H.out.sm; omega))
  have HOWN3 := hid hown3
  have HTURN3 := hid hturn3
  have HC3 := hid hc3
  have HB3 := hid hb3
  have HK3 := hid hk3
  have HSZ3 := hid hsz3
  have c3 : w3.cell? ⟨p, 3, none⟩ = some (.int .i64 (usedOf (gdel d.F s) : Int)) := hc3.cell 3
  have z3 : w3.frozen? ⟨p, 3, none⟩ = false := hc3.free 3
  have b0 : w3.cell? ⟨w.heap.size, 0, none⟩ = some (.slice po k c) := hb3.cell 0
  clear hown3 hturn3 hc3 hb3 hk3 hsz3 hlen
  have hu := HU.out
  have hz := H.out.sz
  generalize hC : usedOf (gdel d.F s) = C at *
  have HCC := hid hC
  clear hC
  simp only [Act.put]
  refine wp_region_tail 10 (by kernel_rfl) rfl (by kernel_rfl) ?_
  dsimp only [List.take]
  repeat (go_big_quiet_step (fail))
  refine wpQuiet_nil ?_
  intro nr
  go_wp2
  go_end0
  have hcast : (C : Int) + (k : Int) = ((C + k : Nat) : Int) := by omega
  rw [hcast]
  have HC4 := hid (HC3.out.keep (w' := w3.drewN nr) rfl)
  have HOWN4 := hid (drewN_own (k := nr) HOWN3.out)
  have HO34 := hid (Only.drewN (fun b => b = p ∨ b = m) w3 nr)
  generalize w3.drewN nr = w4 at *
  have hu2 : usedOf ({ d with F := gput d.F s (bs, l) } : Pd).F = C + k := by
    show usedOf (gput d.F s (bs, l)) = _
    rw [used_put, HCC.out, HK.out]
  have hcs := HC4.out.set 3 (.int .i64 ((C + k : Nat) : Int))
  have hO : Only (fun b => b = p ∨ b = m) w (w4.setCell ⟨p, 3, none⟩ (.int .i64 ((C + k : Nat) : Int))) :=
    (((((Only.alloc w _).then HO1.out (fun _ _ h => h)).then (Only.of_below (S := fun b => b = p ∨ b = m) HBL.out) (fun _ _ h => h)).then (Only.of_grown (S := fun b => b = p ∨ b = m) HTURN3.out.grown (fun k e _ => Or.inr (by cases e; rfl))) (fun _ _ h => h)).then HO34.out (fun _ _ h => h)).then (Only.set (S := fun b => b = p ∨ b = m) w4 ⟨p, 3, none⟩ _ (Or.inl rfl)) (fun _ _ h => h)
  have hfree : ∀ b, S b → b ≠ p → b ≠ m → (w4.setCell ⟨p, 3, none⟩ (.int .i64 ((C + k : Nat) : Int))).heap[b]? = w.heap[b]? := fun b hb h1 h2 =>
    hO.block b (H.out.lt b hb) (fun e => e.elim h1 h2)
  have hmm : (w4.setCell ⟨p, 3, none⟩ (.int .i64 ((C + k : Nat) : Int))).ownsMap Try.prog 9 RF m ((gdel L s).length + 1) (mapD (gput (gdel L s) s ⟨.slice po k c, bs, l⟩)) := by
    rw [← mapD_put]
    exact HOWN4.out.setCell (Ne.symm H.out.pm) _
  have egg : gput (gdel L s) s (⟨.slice po k c, bs, l⟩ : Ent) = gput L s ⟨.slice po k c, bs, l⟩ := by
    unfold gput; congr 1; unfold gdel; simp
  rw [egg] at hmm
  refine ⟨rfl, ?_, hO⟩
  refine H.out.turned (d2 := { d with F := gput d.F s (bs, l) }) ?_ hmm hfree hO.size ?_ (H.out.so.put s _) (fun x hx => ?_) ?_ ?_ rfl
  · rw [hu2]; exact hcs
  · show gput d.F s (bs, l) = _
    rw [H.out.fs]; exact gput_map Ent.fi L s ⟨.slice po k c, bs, l⟩
  · rcases mem_put.1 hx with rfl | ⟨hx, _⟩
    · refine ⟨hs, Or.inr ⟨HE.out.ow, HE.out.by8, HE.out.sf⟩⟩
    · exact ⟨H.out.nm x hx, Or.inl ⟨x, hx, rfl, rfl⟩⟩
  · exact ap_put (H.out.ap.filter _) HE.out.ap
  · rw [hu2]; show C + k ≤ d.size; exact hu
#print axioms put_any
end Go.Proofs.Ytfppmpfmafnfmaa
