/- Contract of Clone of package drive. -/
import Derived.Test.YtfppmpfmafnfmaaDx
namespace Go.Proofs.Ytfppmpfmafnfmaa
open Go Go.RowKit

structure ClI (w wr : World) (m : Nat) (fu : Option Nat) (d : Pd) (L : List (Nm × Ent)) (left : Lit → Bool) (cnt : Nat) (Lc : List (Nm × Ent)) : Prop where
  rg : wr.ranges Try.prog 9 RF m (w.heap.size + 1 + 1) L.length (mapD L) left cnt
  c : CAt wr w.heap.size (dcells w.heap.size (w.heap.size + 1) fu d (usedOf d.F : Int)) 51
  mp : wr.ownsMap Try.prog 9 RF (w.heap.size + 1) Lc.length (mapD Lc)
  so : Srt Lc
  get : ∀ x, (gget Lc x).map Ent.fi = if left (.string x) then none else (gget L x).map Ent.fi
  ow : ∀ y ∈ Lc, wr.ownsRow w.heap.size 5 1 y.2.v y.2.b.length (y.2.b.map u8)
  ap : Lc.Pairwise fun x y => x.2.v.ownBlock = none ∨ x.2.v.ownBlock ≠ y.2.v.ownBlock
  be : Below w.heap.size w wr
section
variable {w wr : World} {m : Nat} {fu : Option Nat} {d : Pd} {L : List (Nm × Ent)} {left : Lit → Bool} {cnt : Nat} {Lc : List (Nm × Ent)}
theorem ClI.sub (h : ClI w wr m fu d L left cnt Lc) {x : Nm} {e : Ent} (hx : (x, e) ∈ Lc) : ∃ e0, (x, e0) ∈ L ∧ e0.fi = e.fi := by
  have h1 := h.get x
  rw [gget_of_mem h.so hx] at h1
  split at h1
  · cases h1
  · cases hg : gget L x with
    | none => rw [hg] at h1; cases h1
    | some e0 => rw [hg] at h1; exact ⟨e0, gget_mem hg, (Option.some.inj h1).symm⟩
theorem ClI.len (h : ClI w wr m fu d L left cnt Lc) : Lc.length ≤ L.length := by
  have h1 : (Lc.map (·.1)).Nodup := List.pairwise_map.2 h.so.apart
  have h2 : Lc.map (·.1) ⊆ L.map (·.1) := fun x hx => by
    obtain ⟨y, hy, rfl⟩ := List.mem_map.1 hx
    obtain ⟨e0, he, _⟩ := h.sub hy
    exact List.mem_map.2 ⟨_, he, rfl⟩
  have := h1.length_le_of_subset h2
  simpa using this
theorem ClI.all (h : ClI w wr m fu d L left cnt Lc) (hs : Srt L) (hl : ∀ k, left k = false) : gmap Ent.fi Lc = gmap Ent.fi L := by
  refine srt_ext (h.so.map _) (hs.map _) fun x => ?_
  rw [gget_map, gget_map, h.get x, hl]; rfl
/-- A row of bytes is neither the copy's block, nor its map's, nor the iterator's. -/
theorem ClI.row_ne (h : ClI w wr m fu d L left cnt Lc) {B n : Nat} {v : Value} {xs : List Value} (ho : wr.ownsRow B 5 1 v n xs) : ∀ b, v.ownBlock = some b → b ≠ w.heap.size ∧ b ≠ w.heap.size + 1 ∧ b ≠ w.heap.size + 1 + 1 := by
  intro b hb
  have hc : ∃ cur, wr.heap[b]? = some (.cells cur 5) := by
    rcases ho.2 with ⟨e, _⟩ | ⟨g, cap, cur, e, _, hg, _⟩
    · rw [e] at hb; simp [Value.ownBlock] at hb
    · rw [e] at hb; simp [Value.ownBlock] at hb; subst hb; exact ⟨cur, hg⟩
  obtain ⟨cur, hc⟩ := hc
  obtain ⟨es, clock, hm⟩ := ownsMap_at h.mp
  refine ⟨fun e => ?_, fun e => ?_, fun e => ?_⟩
  · have h1 : wr.heap[w.heap.size]? = _ := h.c
    rw [e, h1] at hc
    have ht := (Obj.cells.inj (Option.some.inj hc)).2.1
    revert ht; decide
  · rw [e, hm] at hc; cases hc
  · exact row_ne_iter ho h.rg (by rw [hb, e])
/-- One file more. -/
theorem ClI.more (h : ClI w wr m fu d L left cnt Lc) {x : Nm} {e : Ent} (hg : gget L x = some e) {w2 w6 : World} {cnt2 : Nat} (hrg : w2.ranges Try.prog 9 RF m (w.heap.size + 1 + 1) L.length (mapD L) (fun z => left z && !z.sameKey (.string x)) cnt2)
    (h2 : wr.grownBy w2 (some (w.heap.size + 1 + 1))) (h26 : Only (fun b => b = w.heap.size + 1) w2 w6) {v : Value} {n : Nat} (hm : w6.ownsMap Try.prog 9 RF (w.heap.size + 1) n (mapD (gput Lc x ⟨v, e.b, e.l⟩)))
    (ho : w6.ownsRow w2.heap.size 5 1 v e.b.length (e.b.map u8)) (hml : m < w.heap.size) : ClI w w6 m fu d L (fun z => left z && !z.sameKey (.string x)) cnt2 (gput Lc x ⟨v, e.b, e.l⟩) := by
  have hk : ∀ b, b < wr.heap.size → b ≠ w.heap.size + 1 → b ≠ w.heap.size + 1 + 1 → w6.heap[b]? = wr.heap[b]? := fun b hb h1 h3 =>
    (h26.block b (Nat.lt_of_lt_of_le hb h2.size) h1).trans (h2.block b hb (fun e => h3 (by cases e; rfl)))
  have hwr := h.be.size
  refine ⟨hrg.kept (row := some (w.heap.size + 1)) ⟨h26.os, h26.tape, h26.output, h26.size, fun k hk' hne => h26.block k hk' (fun e => hne (by rw [e]))⟩ (fun e => by have := Option.some.inj e; omega) (fun e => by have := Option.some.inj e; omega), ?_, ownsMap_exact hm, h.so.put x _, fun y => ?_, fun y hy => ?_, ?_, ?_⟩
  · exact h.c.keep (hk _ h.c.lt (by omega) (by omega))
  · rw [gget_put h.so]
    by_cases hy : y = x
    · subst hy; simp [Lit.sameKey, hg, Ent.fi]
    · rw [if_neg hy, h.get y]; simp [Lit.sameKey, hy]
  · rcases mem_put.1 hy with rfl | ⟨hy, _⟩
    · exact own_base ho (Nat.le_trans hwr h2.size)
    · exact ownsRow_keep (h.ow y hy) fun b hb => hk b (own_ge (h.ow y hy) b hb).2 (h.row_ne (h.ow y hy) b hb).2.1 (h.row_ne (h.ow y hy) b hb).2.2
  · refine ap_put (h.ap.filter _) fun y hy => ?_
    have hyL := (mem_del.1 hy).1
    by_cases e0 : y.2.v.ownBlock = none
    · exact Or.inl e0
    · refine Or.inr fun e2 => ?_
      obtain ⟨b, hb1⟩ := Option.ne_none_iff_exists'.1 e0
      have h3 := (own_ge (h.ow y hyL) b hb1).2
      rw [hb1] at e2
      have h4 := (own_ge ho b e2.symm).1
      have := h2.size
      omega
  · exact ⟨h26.os.trans (h2.os.trans h.be.os), h26.tape.trans (h2.tape.trans h.be.tape), h26.output.trans (h2.output.trans h.be.output), Nat.le_trans hwr (Nat.le_trans h2.size h26.size), fun k hk' => (hk k (Nat.lt_of_lt_of_le hk' hwr) (by omega) (by omega)).trans (h.be.block k hk')⟩
end
theorem run_makeMapH (n : Int) (w : World) : (Instr.makeMap 48 (some (.int .i64 n))).run Try.prog w = .ok (.map (some w.heap.size)) (w.alloc (.map #[] 0)) := by
  simp [Instr.makeMap, run_underlying underM, asInt, asIntOf, Result.andThen]
def CloAt (w : World) (d : Pd) (e : Ending) (w' : World) : Prop :=
  ∃ pc, e = .returned (ptr pc) ∧ DrAt w' (fun b => w.heap.size ≤ b ∧ b < w'.heap.size) pc none d ∧ Below w.heap.size w w'
section
variable {w : World} {S : Nat → Prop} {p m : Nat} {fu : Option Nat} {d : Pd} {L : List (Nm × Ent)}
set_option maxHeartbeats 1000000 in
set_option maxRecDepth 100000 in
theorem dclone_any (h : DrC w S p m fu d L) {f : Fs} (hf : FuAt w S fu f) (hl : d.F.length < 1000000000000) : Calls Try.prog 12 #[ptr p] w (CloAt w { d with out := d.isOut f }) := by
  have hmade := made_any h
  have hmm := run_makeMapH
  have H := hid h
  have HF := hid hf
  have HL : Hid (L.length < 1000000000000) := hid (by rw [h.lenF]; exact hl)
  have hml := h.lt m h.sm
  have hpl := h.lt p h.sp
  have c0 : w.cell? ⟨p, 0, none⟩ = some (ptr p) := h.c.cell 0
  have c1 : w.cell? ⟨p, 1, none⟩ = some (.int .i64 (d.size : Int)) := h.c.cell 1
  have c2 : w.cell? ⟨p, 2, none⟩ = some (.map (some m)) := h.c.cell 2
  have c3 : w.cell? ⟨p, 3, none⟩ = some (.int .i64 (usedOf d.F : Int)) := h.c.cell 3
  have c4 : w.cell? ⟨p, 4, none⟩ = some (.int .i64 (d.ops : Int)) := h.c.cell 4
  have c5 : w.cell? ⟨p, 5, none⟩ = some (.bool d.offl) := h.c.cell 5
  have c6 : w.cell? ⟨p, 6, none⟩ = some (.bool d.full) := h.c.cell 6
  have c7 : w.cell? ⟨p, 7, none⟩ = some (.bool d.out) := h.c.cell 7
  have c8 : w.cell? ⟨p, 8, none⟩ = some (fuV fu) := h.c.cell 8
  obtain ⟨fa, hfa⟩ : ∃ fa, fuV fu = .pointer fa := by cases fu <;> exact ⟨_, rfl⟩
  rw [hfa] at c8
  have HFA := hid hfa
  clear h hf hfa hl
  go_enter Try.func12, Try.ntmps12
  go_wp2_with (first
    | (go_at_call 40; refine hmade.mono ?_; rintro e w' ⟨rfl, hw'⟩; have hw2 := hw'.symm; subst hw2)
    | (at_len; refine wpList_len_own _ rfl _ 48 rfl 9 78 underM _ m _ _ rfl (H.out.mp.alloc _) ?_)
    | (at_range; refine wpList_range_own _ rfl _ 48 rfl 9 78 strLaw underM _ m _ _ rfl ((H.out.mp.alloc _).alloc _) ?_; intro w0 hrg0 hg0 hs0))
  go_frame
  simp only [size_al] at hrg0 ⊢
  have HI0 : Hid (ClI w w0 m fu d L (Maps.has (mapD L)) (Maps.size (mapD L)) []) := hid {
    rg := hrg0
    c := by
      have h1 := ((CAt.made w _ _).old (.map #[] 0)).keep (w' := w0) (hg0.block w.heap.size (by simp only [size_al]; omega) (by simp))
      unfold dcells; rw [HFA.out]; exact h1
    mp := by
      have h1 := ownsMap_keep (w' := w0) (World.ownsMap_made (w.alloc (.cells #[.pointer (some ⟨w.heap.size, 0, none⟩), .int .i64 (d.size : Int), .map (some (w.heap.size + 1)), .int .i64 (usedOf d.F : Int), .int .i64 (d.ops : Int), .bool d.offl, .bool d.full, .bool d.out, .pointer fa] 51)) Try.prog 9 RF) (hg0.block _ (by simp only [size_al]; omega) (by simp))
      rw [size_al] at h1
      exact h1
    so := List.Pairwise.nil
    get := fun x => by rw [mapD_has]; cases gget L x <;> rfl
    ow := by simp
    ap := List.Pairwise.nil
    be := below_on_grown (((Below.refl _ _).alloc (Nat.le_refl _) _).alloc (by simp only [size_al]; omega) _) hg0 (by simp) }
  clear hrg0 hg0 hs0
  go_loopw [25] (fun _ wr => ∃ left cnt Lc, ClI w wr m fu d L left cnt Lc) (fun _ wr => wr.rangeLeft m (w.heap.size + 1 + 1))
  case atStart => exact ⟨_, _, _, HI0.out⟩
  case round =>
    obtain ⟨left, cnt, Lc, hI⟩ := hrel
    have HI := hid hI
    clear hI HI0
    go_wp2_with (first
      | (at_next; refine wpList_next_ranges _ rfl _ rfl 9 strLaw RF sv mkV invK9 invV9 m (w.heap.size + 1 + 1) L.length _ _ _ rfl HI.out.rg ?_ ?_)
      | go_in)
    · intro hc0 hl0
      have HALL := hid (HI.out.all H.out.so hl0)
      have HIO := hid (isOut_any (H.out.below HI.out.be) (HF.out.below HI.out.be))
      have k7 : wr.cell? ⟨w.heap.size, 7, none⟩ = some (.bool d.out) := HI.out.c.cell 7
      have k8 : wr.cell? ⟨w.heap.size, 8, none⟩ = some (fuV fu) := HI.out.c.cell 8
      have y7 : wr.frozen? ⟨w.heap.size, 7, none⟩ = false := HI.out.c.free 7
      have y8 : wr.frozen? ⟨w.heap.size, 8, none⟩ = false := HI.out.c.free 8
      clear hc0 hl0
      go_wp2_with (go_at_call 42; refine HIO.out.mono ?_; rintro e w' ⟨rfl, hw'⟩; have hw2 := hw'.symm; subst hw2)
      go_ret
      have hS : Only (fun b => b = w.heap.size) wr ((wr.setCell ⟨w.heap.size, 7, none⟩ (.bool (d.isOut f))).setCell ⟨w.heap.size, 8, none⟩ (.pointer none)) :=
        (Only.set (S := fun b => b = w.heap.size) wr ⟨w.heap.size, 7, none⟩ _ rfl).then (Only.set (S := fun b => b = w.heap.size) _ ⟨w.heap.size, 8, none⟩ _ rfl) (fun _ _ h => h)
      have hcc := (HI.out.c.set 7 (.bool (d.isOut f))).set 8 (.pointer none)
      generalize ((wr.setCell ⟨w.heap.size, 7, none⟩ (.bool (d.isOut f))).setCell ⟨w.heap.size, 8, none⟩ (.pointer none)) = wz at *
      have hwz : w.heap.size + 1 + 1 < wz.heap.size := Nat.lt_of_lt_of_le HI.out.rg.lt hS.size
      refine ⟨w.heap.size, rfl, ⟨w.heap.size + 1, Lc, ?_⟩, ?_⟩
      · exact {
          c := hcc
          mp := ownsMap_keep HI.out.mp (hS.block _ (by have := HI.out.rg.lt; omega) (by omega))
          fs := by show d.F = _; rw [H.out.fs, HALL.out]
          ow := fun x hx => own_base (ownsRow_keep (HI.out.ow x hx) fun b hb => hS.block b (own_ge (HI.out.ow x hx) b hb).2 (HI.out.row_ne (HI.out.ow x hx) b hb).1) (Nat.zero_le _)
          ap := HI.out.ap
          by8 := fun x hx y hy => by
            obtain ⟨e0, he, hfi⟩ := HI.out.sub (x := x.1) (e := x.2) hx
            have : e0.b = x.2.b := congrArg Prod.fst hfi
            exact H.out.by8 _ he y (by show y ∈ e0.b; rw [this]; exact hy)
          so := HI.out.so
          nm := fun x hx => by obtain ⟨e0, he, _⟩ := HI.out.sub (x := x.1) (e := x.2) hx; exact H.out.nm (x.1, e0) he
          sp := ⟨Nat.le_refl _, by omega⟩
          sm := ⟨by omega, by omega⟩
          sf := fun x hx b hb => ⟨(own_ge (HI.out.ow x hx) b hb).1, Nat.lt_of_lt_of_le (own_ge (HI.out.ow x hx) b hb).2 hS.size⟩
          lt := fun b hb => hb.2
          us := H.out.us
          sz := H.out.sz }
      · exact ⟨hS.os.trans HI.out.be.os, hS.tape.trans HI.out.be.tape, hS.output.trans HI.out.be.output, Nat.le_trans HI.out.be.size hS.size, fun k hk => (hS.block k (Nat.lt_of_lt_of_le hk HI.out.be.size) (by omega)).trans (HI.out.be.block k hk)⟩
    · intro x c kl yd yp w2 cnt2 hkey hlk hv hat hrg2 hlt hg2 hs2 hen
      clear hs2
      obtain ⟨hkl, en, hgx, hev, hel⟩ := met hkey hv hat
      subst hkl
      obtain ⟨po, n, cc, l⟩ := c
      simp only [mkV] at hen ⊢
      simp only at hel hev
      clear hkey hv hat hlk
      have hn : n = en.b.length := by
        obtain ⟨po', cc', h1⟩ := own_form (H.out.ow _ (gget_mem hgx))
        simp only at h1
        rw [hev] at h1; cases h1; rfl
      subst hn
      have HB2 := hid (below_on_grown (w := w) HI.out.be hg2 (fun b hb => by cases hb; omega))
      have hxl : x.length ≤ maxLen := by have := ok_len (H.out.nm _ (gget_mem hgx)); simp only at this; unfold maxLen; omega
      have HG := hid hgx
      have HEL := hid hel
      have HEV := hid hev
      have HLT := hid hlt
      have HRG2 := hid hrg2
      have HG2 := hid hg2
      have HM2 := hid (ownsMap_keep (w' := w2) HI.out.mp (hg2.block _ (by have := HI.out.rg.lt; omega) (fun e => by have := Option.some.inj e; omega)))
      have HC2 := hid (HI.out.c.keep (w' := w2) (hg2.block _ (by have := HI.out.rg.lt; omega) (fun e => by have := Option.some.inj e; omega)))
      have hw2l : w.heap.size + 1 + 1 < w2.heap.size := Nat.lt_of_lt_of_le HI.out.rg.lt hg2.size
      have hle : en.b.length ≤ 67108864 := by
        have h1 : gget d.F x = some en.fi := by rw [H.out.fs, gget_map, hgx]; rfl
        have h2 := used_le H.out.srtF h1
        have h3 := H.out.us
        have h4 := H.out.sz
        have h5 : en.fi.1.length = en.b.length := rfl
        omega
      clear hgx hel hev hlt hrg2 hg2
      go_wp2_with (first
        | (go_at_call 41
           have hb3 : Below w.heap.size w (w2.alloc (.cells #[.slice po en.b.length cc, .bool l] 78)) := below_on _ _ HB2.out ((Below.refl _ _).alloc (Nat.le_refl _) _)
           refine (clone_any po cc en.b _ (own_BAt (c := cc) (n := en.b.length) (B := 0) (by have := (H.out.below hb3).ow _ (gget_mem HG.out); simp only at this; rw [HEV.out] at this; exact this)) (by omega)).mono ?_
           rintro e1 w4 ⟨pv, cv, rfl, ho4, hb4⟩
           have hbx := (CAt.made w2 #[.slice po en.b.length cc, .bool l] 78).below hb4
           have x0 : w4.cell? ⟨w2.heap.size, 0, none⟩ = some (.slice po en.b.length cc) := hbx.cell 0
           have x1 : w4.cell? ⟨w2.heap.size, 1, none⟩ = some (.bool l) := hbx.cell 1
           have y0 : w4.frozen? ⟨w2.heap.size, 0, none⟩ = false := hbx.free 0
           have k2 : w4.cell? ⟨w.heap.size, 2, none⟩ = some (.map (some (w.heap.size + 1))) := ((HC2.out.old _).below hb4).cell 2
           have HO4 := hid ho4
           have HB4 := hid hb4
           have HM5 := hid ((ownsMap_keep (w' := w4) (HM2.out.alloc _) (hb4.block _ (by rw [size_al]; omega))).setCell (a := ⟨w2.heap.size, 0, none⟩) (by simp; omega) (.slice pv en.b.length cv))
           clear hbx ho4 hb4 hb3)
        | (at_mapUpdate; refine wpList_mapUpdate_in _ rfl _ _ _ 48 rfl 9 78 strLaw underM _ (w.heap.size + 1) _ _ rfl HM5.out (by have := HI.out.len; have := HL.out; unfold maxLen; omega) _ _ _ rfl rfl (keyS x hxl) _ _ (RF_mk _ _ _ _) ?_; intro w6 hown6 hturn6; have HOWN6 := hid hown6; have HT6 := hid hturn6; clear hown6 hturn6; simp only [Act.put]))
      have h26 : Only (fun b => b = w.heap.size + 1) w2 w6 :=
        (((Only.alloc w2 (.cells #[.slice po en.b.length cc, .bool l] 78)).then (Only.of_below HB4.out) (fun _ _ h => h)).then (Only.set (S := fun b => b = w2.heap.size) w4 ⟨w2.heap.size, 0, none⟩ (.slice pv en.b.length cv) rfl) (fun j hj e => by omega)).then (Only.of_grown (S := fun b => b = w.heap.size + 1) HT6.out.grown (fun k e _ => by cases e; rfl)) (fun _ _ h => h)
      have hz4 := HB4.out.size
      rw [size_al] at hz4
      have ho6 : w6.ownsRow w2.heap.size 5 1 (.slice pv en.b.length cv) en.b.length (en.b.map u8) := by
        refine own_base (B := (w2.alloc (.cells #[.slice po en.b.length cc, .bool l] 78)).heap.size) (ownsRow_keep HO4.out fun b hb => ?_) (by rw [size_al]; omega)
        have h1 := own_ge HO4.out b hb
        rw [size_al] at h1
        exact (HT6.out.grown.block b (by rw [setCell_size]; exact h1.2) (fun e => by have := Option.some.inj e; omega)).trans (heap_setCell_ne _ _ _ _ (by intro e; simp at e; omega))
      have hel := HEL.out
      subst hel
      have hm6 : w6.ownsMap Try.prog 9 RF (w.heap.size + 1) (Lc.length + 1) (mapD (gput Lc x ⟨.slice pv en.b.length cv, en.b, en.l⟩)) := by rw [← mapD_put]; exact HOWN6.out
      have HN := hid (HI.out.more HG.out HRG2.out HG2.out h26 hm6 ho6 hml)
      clear h26 ho6 hm6 hz4
      go_roundw
      case rel => exact ⟨_, cnt2, _, HN.out⟩
      case measure => rw [HN.out.rg.left_eq, HI.out.rg.left_eq]; exact HLT.out
#print axioms dclone_any
end
end Go.Proofs.Ytfppmpfmafnfmaa
