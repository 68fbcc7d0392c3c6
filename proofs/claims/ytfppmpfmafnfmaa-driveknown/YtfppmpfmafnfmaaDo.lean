/- Contracts of names, List and Loose of package drive, and of the closures that names is handed. -/
import Derived.Test.YtfppmpfmafnfmaaDn
import Derived.Sort.KeysCollected
namespace Go.Proofs.Ytfppmpfmafnfmaa
open Go Go.RowKit
open Go.Proofs (encStr)

def NamesAt (w : World) (ns : List Nm) (e : Ending) (w' : World) : Prop :=
  ∃ po c, e = .returned (.slice po ns.length c) ∧ TxtL w.heap.size w' (.slice po ns.length c) ns ∧ Below w.heap.size w w'
/-- The loop over the files: the map, the names that have come, and that nothing that was there has turned. -/
structure NmI (w wr : World) (m : Nat) (L : List (Nm × Ent)) (q : Nm → Fi → Bool) (v : Value) (left : Lit → Bool) (cnt : Nat) (ss : List Nm) : Prop where
  rg : wr.ranges Try.prog 9 RF m w.heap.size L.length (mapD L) left cnt
  co : Coll L q left ss
  tx : TxtL w.heap.size wr v ss
  be : Below w.heap.size w wr
theorem TxtL.keep {B : Nat} {w w' : World} {v : Value} {ns : List Nm} (h : TxtL B w v ns) (hk : ∀ b, v.ownBlock = some b → w'.heap[b]? = w.heap[b]?) : TxtL B w' v ns := ownsRow_keep h hk
theorem TxtL.below {B : Nat} {w w' : World} {v : Value} {ns : List Nm} (h : TxtL B w v ns) (hb : Below w.heap.size w w') : TxtL B w' v ns := h.keep fun b hb' => hb.block b (own_ge h b hb').2
theorem invK9 (key : Value) (kl : Lit) (h : keyOf Try.prog 9 key = some kl) : ∃ x : Nm, key = sv x := by
  obtain ⟨x, hx, _⟩ := Maps.keyOf_str under9 h; exact ⟨x, hx⟩
structure FV where
  po : Option Addr
  n : Nat
  c : Nat
  l : Bool
def mkV (c : FV) : Value := .agg #[.slice c.po c.n c.c, .bool c.l]
theorem invV9 (v : Value) (y : DataW HD × List MemPlace) (h : RF v = some y) : ∃ c, v = mkV c := by
  obtain ⟨po, n, c, l, rfl, _⟩ := RF_inv h; exact ⟨⟨po, n, c, l⟩, rfl⟩
theorem met {L : List (Nm × Ent)} {x : Nm} {c : FV} {kl : Lit} {yd : DataW HD} {yp : List MemPlace} (hk : keyOf Try.prog 9 (sv x) = some kl) (hv : RF (mkV c) = some (yd, yp)) (hat : ∀ zd, (mapD L).atKey kl zd = yd) :
    kl = .string x ∧ ∃ e, gget L x = some e ∧ e.v = .slice c.po c.n c.c ∧ e.l = c.l := by
  obtain ⟨x', e1, rfl, _⟩ := Maps.keyOf_str under9 hk
  obtain rfl : x = x' := encStr_inj e1
  refine ⟨rfl, ?_⟩
  have hy : yd = .held (.slice c.po c.n c.c, c.l) := by
    have := RF_mk c.po c.n c.c c.l
    unfold mkV at hv; rw [this] at hv; exact (congrArg Prod.fst (Option.some.inj hv)).symm
  subst hy
  cases hg : gget L x with
  | none => have := hat .nil; rw [mapD_at, hg] at this; cases this
  | some e =>
    have := hat .nil
    rw [mapD_at, hg] at this
    simp at this
    exact ⟨e, rfl, this.1, this.2⟩
theorem loose1_any (x : Nm) (po : Option Addr) (n c : Nat) (l : Bool) (w : World) : Calls Try.prog 71 #[sv x, .agg #[.slice po n c, .bool l]] w fun e w' => e = .returned (.bool l) ∧ Below w.heap.size w w' := by
  go_enter Try.func71, Try.ntmps71
  go_wp2
  go_ret
  exact ⟨rfl, (Below.refl _ _).alloc (Nat.le_refl _) _⟩
theorem list1_any (x pre : Nm) (po : Option Addr) (n c : Nat) (l : Bool) (b : Nat) (w : World) (c0 : w.cell? ⟨b, 0, none⟩ = some (sv pre)) :
    Calls Try.prog 62 #[sv x, .agg #[.slice po n c, .bool l], ptr b] w fun e w' => e = .returned (.bool (pre.isPrefixOf x)) ∧ Below w.heap.size w w' := by
  have hl : b < w.heap.size := cell_lt' (a := ⟨b, 0, none⟩) (by rw [c0]; simp)
  have HH := hid (fun W => Try.strings_HasPrefix ⟨x.toArray⟩ ⟨pre.toArray⟩ W)
  go_enter Try.func62, Try.ntmps62
  go_wp2_with (go_at_call 63; refine (HH.out _).mono ?_; rintro e w' ⟨rfl, hw'⟩; have hw2 := hw'.symm; subst hw2)
  go_ret
  exact ⟨rfl, (Below.refl _ _).alloc (Nat.le_refl _) _⟩
theorem sort_any {w : World} {B : Nat} {v : Value} {ss : List Nm} (h : TxtL B w v ss) (hn : ss.length < 4611686018427387904) :
    Calls Try.prog 77 #[v] w fun e w' => e = .returned (.tuple #[]) ∧ TxtL B w' v (ss.mergeSort fun x y => decide (x ≤ y)) ∧ w.grownBy w' v.ownBlock := by
  have hlen : (ss.mergeSort fun x y => decide (x ≤ y)).length = ss.length := List.length_mergeSort _
  rcases h.2 with ⟨rfl, h0⟩ | ⟨g, cap, cur, rfl, hbase, hb, h1, h2, h3, h4⟩
  · have : ss = [] := List.eq_nil_of_length_eq_zero h0
    subst this
    refine (Try.slices_Sort_string_none none 0 w).mono ?_
    rintro e w' ⟨rfl, rfl⟩
    exact ⟨rfl, by simpa using h, ⟨rfl, rfl, rfl, Nat.le_refl _, fun _ _ _ => rfl⟩⟩
  · refine (Try.slices_Sort_string g 0 cap ss w (holds_of_block hb (by simpa using h4)) (Array.getElem?_eq_some_iff.1 hb).1 hn).mono ?_
    rintro e w' ⟨rfl, n, os, rfl⟩
    refine ⟨rfl, ?_, grownBy_sorted _⟩
    unfold TxtL
    rw [hlen]
    exact ownsRow_sorted hlen hbase hb h1 h2 h3
theorem below_on_grown {w w1 w2 : World} {r : Option Nat} (h : Below w.heap.size w w1) (hg : w1.grownBy w2 r) (hr : ∀ b, r = some b → w.heap.size ≤ b) : Below w.heap.size w w2 :=
  ⟨hg.os.trans h.os, hg.tape.trans h.tape, hg.output.trans h.output, Nat.le_trans h.size hg.size, fun k hk => (hg.block k (Nat.lt_of_lt_of_le hk h.size) (fun e => by have := hr k e.symm; omega)).trans (h.block k hk)⟩
theorem grown_of_below {w w' : World} (h : Below w.heap.size w w') : w.grownBy w' none := ⟨h.os, h.tape, h.output, h.size, fun k hk _ => h.block k hk⟩
set_option maxRecDepth 100000 in
theorem names_o {w : World} {S : Nat → Prop} {p m : Nat} {fu : Option Nat} {d : Pd} {L : List (Nm × Ent)} (h : DrC w S p m fu d L) (q : Nm → Fi → Bool) (hqb : ∀ x b b2 l, q x (b, l) = q x (b2, l))
    (hq : ∀ w1, Below w.heap.size w w1 → ∀ x po n c l, Calls Try.prog 71 #[sv x, .agg #[.slice po n c, .bool l]] w1 fun e w' => e = .returned (.bool (q x ([], l))) ∧ Below w1.heap.size w1 w') (hl : d.F.length < 1000000000000) :
    Calls Try.prog 61 #[ptr p, .func (.func 71) #[] #[]] w (NamesAt w (namesOf d.F q)) := by
  have c2 : w.cell? ⟨p, 2, none⟩ = some (.map (some m)) := h.c.cell 2
  have hm := h.mp
  have hml := h.lt m h.sm
  have HQ := hid hq
  have HQB := hid hqb
  have HFS := hid h.fs
  have HSO := hid h.so
  have HSF := hid h.srtF
  have HL : Hid (L.length < 1000000000000) := hid (by rw [h.lenF]; exact hl)
  clear h hq hqb hl
  go_enter Try.func61, Try.ntmps61
  go_wp2_with (first | (at_range; refine wpList_range_own _ rfl _ 48 rfl 9 78 strLaw underM _ m _ _ rfl hm ?_; intro w0 hrg0 hg0 hs0) | go_in)
  go_frame
  have HI0 : Hid (NmI w w0 m L q (.slice none 0 0) (Maps.has (mapD L)) (Maps.size (mapD L)) []) := hid ⟨hrg0, Coll.start L q, World.ownsRow_nil _ _ _ _, ⟨hg0.os, hg0.tape, hg0.output, hg0.size, fun k hk => hg0.block k hk (by simp)⟩⟩
  clear hrg0 hg0 hs0
  go_loopw [5] (fun v wr => ∃ left cnt ss, NmI w wr m L q v left cnt ss) (fun _ wr => wr.rangeLeft m w.heap.size)
  case atStart => exact ⟨_, _, _, HI0.out⟩
  case round =>
    obtain ⟨left, cnt, ss, hI⟩ := hrel
    have HI := hid hI
    obtain ⟨po5, cc5, hv5⟩ := own_form hI.tx
    subst hv5
    clear hI HI0
    go_wp2_with (first
      | (at_next; refine wpList_next_ranges _ rfl _ rfl 9 strLaw RF sv mkV invK9 invV9 m w.heap.size L.length _ _ _ rfl HI.out.rg ?_ ?_)
      | go_in)
    · intro hc0 hl0
      have HP := hid ((HI.out.co.end HSO.out hl0))
      have HSL := hid (sort_any HI.out.tx (by have := HI.out.co.len; have := HL.out; omega))
      have HE : Hid ((ss.mergeSort fun x y => decide (x ≤ y)) = namesOf d.F q) := hid (sort_names HSF.out q (by rw [HFS.out]; exact HP.out))
      clear hl0 hc0
      go_wp2_with (go_at_call 77; refine HSL.out.mono ?_; rintro e w1 ⟨rfl, htx, hgr⟩; rw [HE.out] at htx; have HTX := hid htx; have HGR := hid hgr; clear htx hgr)
      go_ret
      obtain ⟨po, cc, hf⟩ := own_form HTX.out
      refine ⟨po, cc, by rw [← hf]; rfl, by rw [← hf]; exact HTX.out, below_on_grown HI.out.be HGR.out (fun b hb => (own_ge HI.out.tx b hb).1)⟩
    · intro x c kl yd yp w2 cnt2 hkey hlk hv hat hrg2 hlt hg2 hs2 hen
      clear hs2
      obtain ⟨hkl, en, hgx, hev, hel⟩ := met hkey hv hat
      subst hkl
      obtain ⟨po, n, cc, l⟩ := c
      simp only [mkV] at hen ⊢
      simp only at hel hev
      clear hkey hv hat
      have HB2 := hid (below_on_grown (w := w) HI.out.be hg2 (fun b hb => by cases hb; exact Nat.le_refl _))
      have HTX2 := hid (HI.out.tx.keep (w' := w2) (fun b hb => hg2.block b (own_ge HI.out.tx b hb).2 (fun e => row_ne_iter HI.out.tx HI.out.rg (by rw [hb, ← e]))))
      have HG := hid hgx
      have HEL := hid hel
      have HLK := hid hlk
      have HLT := hid hlt
      have HRG2 := hid hrg2
      clear hgx hel hev hlk hlt hrg2 hg2
      have hqq : q x en.fi = q x ([], l) := by
        have := HQB.out x en.b [] en.l
        rw [HEL.out] at this
        unfold Ent.fi
        rw [HEL.out]; exact this
      cases hb : q x ([], l)
      · rw [hb] at hqq
        have HCO := hid (HI.out.co.skip HG.out hqq)
        have HQ1 := hid (fun w1 hw1 => HQ.out w1 hw1 x po n cc l)
        rw [hb] at HQ1
        clear hqq
        go_wp2_with (go_at_call 71; refine (HQ1.out _ (below_on _ _ HB2.out ((Below.refl _ _).alloc (Nat.le_refl _) _))).mono ?_; rintro e w3 ⟨rfl, hb3⟩; have HB3 := hid (below_on _ _ ((Below.refl w2.heap.size w2).alloc (Nat.le_refl _) _) hb3); clear hb3)
        go_roundw
        case rel =>
          refine ⟨fun z => left z && !z.sameKey (.string x), cnt2, ss, ?_⟩
          exact ⟨HRG2.out.kept (grown_of_below HB3.out) (by simp) (by simp), HCO.out, HTX2.out.below HB3.out, below_on _ _ HB2.out HB3.out⟩
        case measure =>
          have hr3 := HRG2.out.kept (grown_of_below HB3.out) (by simp) (by simp)
          rw [hr3.left_eq, HI.out.rg.left_eq]; exact HLT.out
      · rw [hb] at hqq
        have HCO := hid (HI.out.co.take HLK.out HG.out hqq)
        have HQ1 := hid (fun w1 hw1 => HQ.out w1 hw1 x po n cc l)
        rw [hb] at HQ1
        clear hqq
        go_wp2_with (first
          | (go_at_call 71; refine (HQ1.out _ (below_on _ _ HB2.out ((Below.refl _ _).alloc (Nat.le_refl _) _))).mono ?_; rintro e w3 ⟨rfl, hb3⟩; have HB3 := hid (below_on _ _ ((Below.refl w2.heap.size w2).alloc (Nat.le_refl _) _) hb3); clear hb3
             obtain ⟨v4, w4, hrun, htx4, hgr4, hloc⟩ := (HTX2.out.below HB3.out).push x (by have := HI.out.co.len; have := HL.out; omega) (Nat.le_trans HB2.out.size HB3.out.size)
             have HRUN := hid hrun; have HTX4 := hid htx4; have HGR4 := hid hgr4; have HLOC := hid hloc; clear hrun htx4 hgr4 hloc)
          | (at_builtin; refine wpList_append_run _ _ 54 rfl rfl _ _ v4 rfl rfl HRUN.out ?_))
        go_roundw
        case rel =>
          refine ⟨fun z => left z && !z.sameKey (.string x), cnt2, ss ++ [x], ?_⟩
          have hge := fun b hb => (own_ge HTX2.out b hb).1
          have hr3 := HRG2.out.kept (grown_of_below HB3.out) (by simp) (by simp)
          have hr4 := hr3.alloc (.cells #[sv x] 9)
          have hne : some w.heap.size ≠ (Value.slice po5 ss.length cc5).ownBlock := row_ne_iter (HTX2.out.below HB3.out) hr3
          have hnm : some m ≠ (Value.slice po5 ss.length cc5).ownBlock := fun e => by have := hge m e.symm; omega
          exact ⟨hr4.kept HGR4.out hnm hne, HCO.out, HTX4.out, below_on_grown (below_on _ _ (below_on _ _ HB2.out HB3.out) ((Below.refl _ _).alloc (Nat.le_refl _) _)) HGR4.out (fun b hb => hge b hb)⟩
        case measure =>
          have hge := fun b hb => (own_ge HTX2.out b hb).1
          have hr3 := HRG2.out.kept (grown_of_below HB3.out) (by simp) (by simp)
          have hr4 := hr3.alloc (.cells #[sv x] 9)
          have hne : some w.heap.size ≠ (Value.slice po5 ss.length cc5).ownBlock := row_ne_iter (HTX2.out.below HB3.out) hr3
          have hnm : some m ≠ (Value.slice po5 ss.length cc5).ownBlock := fun e => by have := hge m e.symm; omega
          rw [(hr4.kept HGR4.out hnm hne).left_eq, HI.out.rg.left_eq]; exact HLT.out
set_option maxRecDepth 100000 in
theorem names_l {w : World} {S : Nat → Prop} {p m : Nat} {fu : Option Nat} {d : Pd} {L : List (Nm × Ent)} (h : DrC w S p m fu d L) (q : Nm → Fi → Bool) (x0 : Value) (hqb : ∀ x b b2 l, q x (b, l) = q x (b2, l))
    (hq : ∀ w1, Below w.heap.size w w1 → ∀ x po n c l, Calls Try.prog 62 #[sv x, .agg #[.slice po n c, .bool l], x0] w1 fun e w' => e = .returned (.bool (q x ([], l))) ∧ Below w1.heap.size w1 w') (hl : d.F.length < 1000000000000) :
    Calls Try.prog 61 #[ptr p, .func (.func 62) #[] #[x0]] w (NamesAt w (namesOf d.F q)) := by
  have c2 : w.cell? ⟨p, 2, none⟩ = some (.map (some m)) := h.c.cell 2
  have hm := h.mp
  have hml := h.lt m h.sm
  have HQ := hid hq
  have HQB := hid hqb
  have HFS := hid h.fs
  have HSO := hid h.so
  have HSF := hid h.srtF
  have HL : Hid (L.length < 1000000000000) := hid (by rw [h.lenF]; exact hl)
  clear h hq hqb hl
  go_enter Try.func61, Try.ntmps61
  go_wp2_with (first | (at_range; refine wpList_range_own _ rfl _ 48 rfl 9 78 strLaw underM _ m _ _ rfl hm ?_; intro w0 hrg0 hg0 hs0) | go_in)
  go_frame
  have HI0 : Hid (NmI w w0 m L q (.slice none 0 0) (Maps.has (mapD L)) (Maps.size (mapD L)) []) := hid ⟨hrg0, Coll.start L q, World.ownsRow_nil _ _ _ _, ⟨hg0.os, hg0.tape, hg0.output, hg0.size, fun k hk => hg0.block k hk (by simp)⟩⟩
  clear hrg0 hg0 hs0
  go_loopw [5] (fun v wr => ∃ left cnt ss, NmI w wr m L q v left cnt ss) (fun _ wr => wr.rangeLeft m w.heap.size)
  case atStart => exact ⟨_, _, _, HI0.out⟩
  case round =>
    obtain ⟨left, cnt, ss, hI⟩ := hrel
    have HI := hid hI
    obtain ⟨po5, cc5, hv5⟩ := own_form hI.tx
    subst hv5
    clear hI HI0
    go_wp2_with (first
      | (at_next; refine wpList_next_ranges _ rfl _ rfl 9 strLaw RF sv mkV invK9 invV9 m w.heap.size L.length _ _ _ rfl HI.out.rg ?_ ?_)
      | go_in)
    · intro hc0 hl0
      have HP := hid ((HI.out.co.end HSO.out hl0))
      have HSL := hid (sort_any HI.out.tx (by have := HI.out.co.len; have := HL.out; omega))
      have HE : Hid ((ss.mergeSort fun x y => decide (x ≤ y)) = namesOf d.F q) := hid (sort_names HSF.out q (by rw [HFS.out]; exact HP.out))
      clear hl0 hc0
      go_wp2_with (go_at_call 77; refine HSL.out.mono ?_; rintro e w1 ⟨rfl, htx, hgr⟩; rw [HE.out] at htx; have HTX := hid htx; have HGR := hid hgr; clear htx hgr)
      go_ret
      obtain ⟨po, cc, hf⟩ := own_form HTX.out
      refine ⟨po, cc, by rw [← hf]; rfl, by rw [← hf]; exact HTX.out, below_on_grown HI.out.be HGR.out (fun b hb => (own_ge HI.out.tx b hb).1)⟩
    · intro x c kl yd yp w2 cnt2 hkey hlk hv hat hrg2 hlt hg2 hs2 hen
      clear hs2
      obtain ⟨hkl, en, hgx, hev, hel⟩ := met hkey hv hat
      subst hkl
      obtain ⟨po, n, cc, l⟩ := c
      simp only [mkV] at hen ⊢
      simp only at hel hev
      clear hkey hv hat
      have HB2 := hid (below_on_grown (w := w) HI.out.be hg2 (fun b hb => by cases hb; exact Nat.le_refl _))
      have HTX2 := hid (HI.out.tx.keep (w' := w2) (fun b hb => hg2.block b (own_ge HI.out.tx b hb).2 (fun e => row_ne_iter HI.out.tx HI.out.rg (by rw [hb, ← e]))))
      have HG := hid hgx
      have HEL := hid hel
      have HLK := hid hlk
      have HLT := hid hlt
      have HRG2 := hid hrg2
      clear hgx hel hev hlk hlt hrg2 hg2
      have hqq : q x en.fi = q x ([], l) := by
        have := HQB.out x en.b [] en.l
        rw [HEL.out] at this
        unfold Ent.fi
        rw [HEL.out]; exact this
      cases hb : q x ([], l)
      · rw [hb] at hqq
        have HCO := hid (HI.out.co.skip HG.out hqq)
        have HQ1 := hid (fun w1 hw1 => HQ.out w1 hw1 x po n cc l)
        rw [hb] at HQ1
        clear hqq
        go_wp2_with (go_at_call 62; refine (HQ1.out _ (below_on _ _ HB2.out ((Below.refl _ _).alloc (Nat.le_refl _) _))).mono ?_; rintro e w3 ⟨rfl, hb3⟩; have HB3 := hid (below_on _ _ ((Below.refl w2.heap.size w2).alloc (Nat.le_refl _) _) hb3); clear hb3)
        go_roundw
        case rel =>
          refine ⟨fun z => left z && !z.sameKey (.string x), cnt2, ss, ?_⟩
          exact ⟨HRG2.out.kept (grown_of_below HB3.out) (by simp) (by simp), HCO.out, HTX2.out.below HB3.out, below_on _ _ HB2.out HB3.out⟩
        case measure =>
          have hr3 := HRG2.out.kept (grown_of_below HB3.out) (by simp) (by simp)
          rw [hr3.left_eq, HI.out.rg.left_eq]; exact HLT.out
      · rw [hb] at hqq
        have HCO := hid (HI.out.co.take HLK.out HG.out hqq)
        have HQ1 := hid (fun w1 hw1 => HQ.out w1 hw1 x po n cc l)
        rw [hb] at HQ1
        clear hqq
        go_wp2_with (first
          | (go_at_call 62; refine (HQ1.out _ (below_on _ _ HB2.out ((Below.refl _ _).alloc (Nat.le_refl _) _))).mono ?_; rintro e w3 ⟨rfl, hb3⟩; have HB3 := hid (below_on _ _ ((Below.refl w2.heap.size w2).alloc (Nat.le_refl _) _) hb3); clear hb3
             obtain ⟨v4, w4, hrun, htx4, hgr4, hloc⟩ := (HTX2.out.below HB3.out).push x (by have := HI.out.co.len; have := HL.out; omega) (Nat.le_trans HB2.out.size HB3.out.size)
             have HRUN := hid hrun; have HTX4 := hid htx4; have HGR4 := hid hgr4; have HLOC := hid hloc; clear hrun htx4 hgr4 hloc)
          | (at_builtin; refine wpList_append_run _ _ 54 rfl rfl _ _ v4 rfl rfl HRUN.out ?_))
        go_roundw
        case rel =>
          refine ⟨fun z => left z && !z.sameKey (.string x), cnt2, ss ++ [x], ?_⟩
          have hge := fun b hb => (own_ge HTX2.out b hb).1
          have hr3 := HRG2.out.kept (grown_of_below HB3.out) (by simp) (by simp)
          have hr4 := hr3.alloc (.cells #[sv x] 9)
          have hne : some w.heap.size ≠ (Value.slice po5 ss.length cc5).ownBlock := row_ne_iter (HTX2.out.below HB3.out) hr3
          have hnm : some m ≠ (Value.slice po5 ss.length cc5).ownBlock := fun e => by have := hge m e.symm; omega
          exact ⟨hr4.kept HGR4.out hnm hne, HCO.out, HTX4.out, below_on_grown (below_on _ _ (below_on _ _ HB2.out HB3.out) ((Below.refl _ _).alloc (Nat.le_refl _) _)) HGR4.out (fun b hb => hge b hb)⟩
        case measure =>
          have hge := fun b hb => (own_ge HTX2.out b hb).1
          have hr3 := HRG2.out.kept (grown_of_below HB3.out) (by simp) (by simp)
          have hr4 := hr3.alloc (.cells #[sv x] 9)
          have hne : some w.heap.size ≠ (Value.slice po5 ss.length cc5).ownBlock := row_ne_iter (HTX2.out.below HB3.out) hr3
          have hnm : some m ≠ (Value.slice po5 ss.length cc5).ownBlock := fun e => by have := hge m e.symm; omega
          rw [(hr4.kept HGR4.out hnm hne).left_eq, HI.out.rg.left_eq]; exact HLT.out
#print axioms names_o
end Go.Proofs.Ytfppmpfmafnfmaa
