/- Texts laid into one, cut to what is needed: the remark ahead of each part says what is proved there. -/
import Derived.Test.YtklchjfkkbpipaaGreatDoorPad
import Derived.Sort.KeysCollected
import Derived.Lib.SlBytesConst
import Derived.Laws.BytesArg
import Derived.Laws.BytesString
import Derived.Deep.Grids
import Derived.ChangeArms
/- Contracts of names, List and Loose of package drive, and of the closures that names is handed. -/
namespace Go.Proofs.YtklchjfkkbpipaaGreatDoor
open Go Go.RowKit
open Go.Proofs (encStr)

def NamesAt (w : World) (ns : List Nm) (e : Ending) (w' : World) : Prop :=
  ∃ po c, e = .returned (.slice po ns.length c) ∧ TxtL w.heap.size w' (.slice po ns.length c) ns ∧ Below w.heap.size w w'
/-- The loop over the files: the map, the names that have come, and that nothing that was there has turned. -/
structure NmI (w wr : World) (m : Nat) (L : List (Nm × Ent)) (q : Nm → Fi → Bool) (v : Value) (left : Lit → Bool) (cnt : Nat) (ss : List Nm) : Prop where
  rg : wr.ranges Tryz.prog 9 RF m w.heap.size L.length (mapD L) left cnt
  co : Coll L q left ss
  tx : TxtL w.heap.size wr v ss
  be : Below w.heap.size w wr
theorem TxtL.keep {B : Nat} {w w' : World} {v : Value} {ns : List Nm} (h : TxtL B w v ns) (hk : ∀ b, v.ownBlock = some b → w'.heap[b]? = w.heap[b]?) : TxtL B w' v ns := ownsRow_keep h hk
theorem TxtL.below {B : Nat} {w w' : World} {v : Value} {ns : List Nm} (h : TxtL B w v ns) (hb : Below w.heap.size w w') : TxtL B w' v ns := h.keep fun b hb' => hb.block b (own_ge h b hb').2
theorem invK9 (key : Value) (kl : Lit) (h : keyOf Tryz.prog 9 key = some kl) : ∃ x : Nm, key = sv x := by
  obtain ⟨x, hx, _⟩ := Maps.keyOf_str under9 h; exact ⟨x, hx⟩
structure FV where
  po : Option Addr
  n : Nat
  c : Nat
  l : Bool
def mkV (c : FV) : Value := .agg #[.slice c.po c.n c.c, .bool c.l]
theorem invV9 (v : Value) (y : DataW HD × List MemPlace) (h : RF v = some y) : ∃ c, v = mkV c := by
  obtain ⟨po, n, c, l, rfl, _⟩ := RF_inv h; exact ⟨⟨po, n, c, l⟩, rfl⟩
theorem met {L : List (Nm × Ent)} {x : Nm} {c : FV} {kl : Lit} {yd : DataW HD} {yp : List MemPlace} (hk : keyOf Tryz.prog 9 (sv x) = some kl) (hv : RF (mkV c) = some (yd, yp)) (hat : ∀ zd, (mapD L).atKey kl zd = yd) :
    kl = .string x ∧ ∃ e, gget L x = some e ∧ e.v = .slice c.po c.n c.c ∧ e.l = c.l := by
  obtain ⟨x', e1, rfl, _⟩ := Maps.keyOf_str under9 hk
  obtain rfl : x = x' := encStr_inj e1
  refine ⟨rfl, ?_⟩
  have hy : yd = .held (.slice c.po c.n c.c, c.l) := by
    have := RF_mk c.po c.n c.c c.l
    unfold mkV at hv; rw [this] at hv; exact (congrArg Prod.fst (Option.some.inj hv)).symm
  subst hy
  cases hg : gget L x with
  | none => have := hat .nil; rw [mapD_at, hg] at this; cases this
  | some e =>
    have := hat .nil
    rw [mapD_at, hg] at this
    simp at this
    exact ⟨e, rfl, this.1, this.2⟩
theorem loose1_any (x : Nm) (po : Option Addr) (n c : Nat) (l : Bool) (w : World) : Calls Tryz.prog 119 #[sv x, .agg #[.slice po n c, .bool l]] w fun e w' => e = .returned (.bool l) ∧ Below w.heap.size w w' := by
  go_enter Tryz.func119, Tryz.ntmps119
  go_wp2
  go_ret
  exact ⟨rfl, (Below.refl _ _).alloc (Nat.le_refl _) _⟩
theorem sort_any {w : World} {B : Nat} {v : Value} {ss : List Nm} (h : TxtL B w v ss) (hn : ss.length < 4611686018427387904) :
    Calls Tryz.prog 85 #[v] w fun e w' => e = .returned (.tuple #[]) ∧ TxtL B w' v (ss.mergeSort fun x y => decide (x ≤ y)) ∧ w.grownBy w' v.ownBlock := by
  have hlen : (ss.mergeSort fun x y => decide (x ≤ y)).length = ss.length := List.length_mergeSort _
  rcases h.2 with ⟨rfl, h0⟩ | ⟨g, cap, cur, rfl, hbase, hb, h1, h2, h3, h4⟩
  · have : ss = [] := List.eq_nil_of_length_eq_zero h0
    subst this
    refine (Tryz.slices_Sort_string_none none 0 w).mono ?_
    rintro e w' ⟨rfl, rfl⟩
    exact ⟨rfl, by simpa using h, ⟨rfl, rfl, rfl, Nat.le_refl _, fun _ _ _ => rfl⟩⟩
  · refine (Tryz.slices_Sort_string g 0 cap ss w (holds_of_block hb (by simpa using h4)) (Array.getElem?_eq_some_iff.1 hb).1 hn).mono ?_
    rintro e w' ⟨rfl, n, os, rfl⟩
    refine ⟨rfl, ?_, grownBy_sorted _⟩
    unfold TxtL
    rw [hlen]
    exact ownsRow_sorted hlen hbase hb h1 h2 h3
theorem below_on_grown {w w1 w2 : World} {r : Option Nat} (h : Below w.heap.size w w1) (hg : w1.grownBy w2 r) (hr : ∀ b, r = some b → w.heap.size ≤ b) : Below w.heap.size w w2 :=
  ⟨hg.os.trans h.os, hg.tape.trans h.tape, hg.output.trans h.output, Nat.le_trans h.size hg.size, fun k hk => (hg.block k (Nat.lt_of_lt_of_le hk h.size) (fun e => by have := hr k e.symm; omega)).trans (h.block k hk)⟩
theorem grown_of_below {w w' : World} (h : Below w.heap.size w w') : w.grownBy w' none := ⟨h.os, h.tape, h.output, h.size, fun k hk _ => h.block k hk⟩
set_option maxRecDepth 100000 in
theorem names_o {w : World} {S : Nat → Prop} {p m : Nat} {fu : Option Nat} {d : Pd} {L : List (Nm × Ent)} (h : DrC w S p m fu d L) (q : Nm → Fi → Bool) (hqb : ∀ x b b2 l, q x (b, l) = q x (b2, l))
    (hq : ∀ w1, Below w.heap.size w w1 → ∀ x po n c l, Calls Tryz.prog 119 #[sv x, .agg #[.slice po n c, .bool l]] w1 fun e w' => e = .returned (.bool (q x ([], l))) ∧ Below w1.heap.size w1 w') (hl : d.F.length < 1000000000000) :
    Calls Tryz.prog 116 #[ptr p, .func (.func 119) #[] #[]] w (NamesAt w (namesOf d.F q)) := by
  have c2 : w.cell? ⟨p, 2, none⟩ = some (.map (some m)) := h.c.cell 2
  have hm := h.mp
  have hml := h.lt m h.sm
  have HQ := hid hq
  have HQB := hid hqb
  have HFS := hid h.fs
  have HSO := hid h.so
  have HSF := hid h.srtF
  have HL : Hid (L.length < 1000000000000) := hid (by rw [h.lenF]; exact hl)
  clear h hq hqb hl
  go_enter Tryz.func116, Tryz.ntmps116
  go_wp2_with (first | (at_range; refine wpList_range_own _ rfl _ 42 rfl 9 136 strLaw underM _ m _ _ rfl hm ?_; intro w0 hrg0 hg0 hs0) | go_in)
  go_frame
  have HI0 : Hid (NmI w w0 m L q (.slice none 0 0) (Maps.has (mapD L)) (Maps.size (mapD L)) []) := hid ⟨hrg0, Coll.start L q, World.ownsRow_nil _ _ _ _, ⟨hg0.os, hg0.tape, hg0.output, hg0.size, fun k hk => hg0.block k hk (by simp)⟩⟩
  clear hrg0 hg0 hs0
  go_loopw [5] (fun v wr => ∃ left cnt ss, NmI w wr m L q v left cnt ss) (fun _ wr => wr.rangeLeft m w.heap.size)
  case atStart => exact ⟨_, _, _, HI0.out⟩
  case round =>
    obtain ⟨left, cnt, ss, hI⟩ := hrel
    have HI := hid hI
    obtain ⟨po5, cc5, hv5⟩ := own_form hI.tx
    subst hv5
    clear hI HI0
    go_wp2_with (first
      | (at_next; refine wpList_next_ranges _ rfl _ rfl 9 strLaw RF sv mkV invK9 invV9 m w.heap.size L.length _ _ _ rfl HI.out.rg ?_ ?_)
      | go_in)
    · intro hc0 hl0
      have HP := hid ((HI.out.co.end HSO.out hl0))
      have HSL := hid (sort_any HI.out.tx (by have := HI.out.co.len; have := HL.out; omega))
      have HE : Hid ((ss.mergeSort fun x y => decide (x ≤ y)) = namesOf d.F q) := hid (sort_names HSF.out q (by rw [HFS.out]; exact HP.out))
      clear hl0 hc0
      go_wp2_with (go_at_call 85; refine HSL.out.mono ?_; rintro e w1 ⟨rfl, htx, hgr⟩; rw [HE.out] at htx; have HTX := hid htx; have HGR := hid hgr; clear htx hgr)
      go_ret
      obtain ⟨po, cc, hf⟩ := own_form HTX.out
      refine ⟨po, cc, by rw [← hf]; rfl, by rw [← hf]; exact HTX.out, below_on_grown HI.out.be HGR.out (fun b hb => (own_ge HI.out.tx b hb).1)⟩
    · intro x c kl yd yp w2 cnt2 hkey hlk hv hat hrg2 hlt hg2 hs2 hen
      clear hs2
      obtain ⟨hkl, en, hgx, hev, hel⟩ := met hkey hv hat
      subst hkl
      obtain ⟨po, n, cc, l⟩ := c
      simp only [mkV] at hen ⊢
      simp only at hel hev
      clear hkey hv hat
      have HB2 := hid (below_on_grown (w := w) HI.out.be hg2 (fun b hb => by cases hb; exact Nat.le_refl _))
      have HTX2 := hid (HI.out.tx.keep (w' := w2) (fun b hb => hg2.block b (own_ge HI.out.tx b hb).2 (fun e => row_ne_iter HI.out.tx HI.out.rg (by rw [hb, ← e]))))
      have HG := hid hgx
      have HEL := hid hel
      have HLK := hid hlk
      have HLT := hid hlt
      have HRG2 := hid hrg2
      clear hgx hel hev hlk hlt hrg2 hg2
      have hqq : q x en.fi = q x ([], l) := by
        have := HQB.out x en.b [] en.l
        rw [HEL.out] at this
        unfold Ent.fi
        rw [HEL.out]; exact this
      cases hb : q x ([], l)
      · rw [hb] at hqq
        have HCO := hid (HI.out.co.skip HG.out hqq)
        have HQ1 := hid (fun w1 hw1 => HQ.out w1 hw1 x po n cc l)
        rw [hb] at HQ1
        clear hqq
        go_wp2_with (go_at_call 119; refine (HQ1.out _ (below_on _ _ HB2.out ((Below.refl _ _).alloc (Nat.le_refl _) _))).mono ?_; rintro e w3 ⟨rfl, hb3⟩; have HB3 := hid (below_on _ _ ((Below.refl w2.heap.size w2).alloc (Nat.le_refl _) _) hb3); clear hb3)
        go_roundw
        case rel =>
          refine ⟨fun z => left z && !z.sameKey (.string x), cnt2, ss, ?_⟩
          exact ⟨HRG2.out.kept (grown_of_below HB3.out) (by simp) (by simp), HCO.out, HTX2.out.below HB3.out, below_on _ _ HB2.out HB3.out⟩
        case measure =>
          have hr3 := HRG2.out.kept (grown_of_below HB3.out) (by simp) (by simp)
          rw [hr3.left_eq, HI.out.rg.left_eq]; exact HLT.out
      · rw [hb] at hqq
        have HCO := hid (HI.out.co.take HLK.out HG.out hqq)
        have HQ1 := hid (fun w1 hw1 => HQ.out w1 hw1 x po n cc l)
        rw [hb] at HQ1
        clear hqq
        go_wp2_with (first
          | (go_at_call 119; refine (HQ1.out _ (below_on _ _ HB2.out ((Below.refl _ _).alloc (Nat.le_refl _) _))).mono ?_; rintro e w3 ⟨rfl, hb3⟩; have HB3 := hid (below_on _ _ ((Below.refl w2.heap.size w2).alloc (Nat.le_refl _) _) hb3); clear hb3
             obtain ⟨v4, w4, hrun, htx4, hgr4, hloc⟩ := (HTX2.out.below HB3.out).push x (by have := HI.out.co.len; have := HL.out; omega) (Nat.le_trans HB2.out.size HB3.out.size)
             have HRUN := hid hrun; have HTX4 := hid htx4; have HGR4 := hid hgr4; have HLOC := hid hloc; clear hrun htx4 hgr4 hloc)
          | (at_builtin; refine wpList_append_run _ _ 32 rfl rfl _ _ v4 rfl rfl HRUN.out ?_))
        go_roundw
        case rel =>
          refine ⟨fun z => left z && !z.sameKey (.string x), cnt2, ss ++ [x], ?_⟩
          have hge := fun b hb => (own_ge HTX2.out b hb).1
          have hr3 := HRG2.out.kept (grown_of_below HB3.out) (by simp) (by simp)
          have hr4 := hr3.alloc (.cells #[sv x] 9)
          have hne : some w.heap.size ≠ (Value.slice po5 ss.length cc5).ownBlock := row_ne_iter (HTX2.out.below HB3.out) hr3
          have hnm : some m ≠ (Value.slice po5 ss.length cc5).ownBlock := fun e => by have := hge m e.symm; omega
          exact ⟨hr4.kept HGR4.out hnm hne, HCO.out, HTX4.out, below_on_grown (below_on _ _ (below_on _ _ HB2.out HB3.out) ((Below.refl _ _).alloc (Nat.le_refl _) _)) HGR4.out (fun b hb => hge b hb)⟩
        case measure =>
          have hge := fun b hb => (own_ge HTX2.out b hb).1
          have hr3 := HRG2.out.kept (grown_of_below HB3.out) (by simp) (by simp)
          have hr4 := hr3.alloc (.cells #[sv x] 9)
          have hne : some w.heap.size ≠ (Value.slice po5 ss.length cc5).ownBlock := row_ne_iter (HTX2.out.below HB3.out) hr3
          have hnm : some m ≠ (Value.slice po5 ss.length cc5).ownBlock := fun e => by have := hge m e.symm; omega
          rw [(hr4.kept HGR4.out hnm hne).left_eq, HI.out.rg.left_eq]; exact HLT.out
end Go.Proofs.YtklchjfkkbpipaaGreatDoor

/- Contracts of Loose and List of package drive; texts held against one another. -/
namespace Go.Proofs.YtklchjfkkbpipaaGreatDoor
open Go Go.RowKit

section
variable {w : World} {S : Nat → Prop} {p m : Nat} {fu : Option Nat} {d : Pd} {L : List (Nm × Ent)}
theorem loose_any (h : DrC w S p m fu d L) (hl : d.F.length < 1000000000000) : Calls Tryz.prog 60 #[ptr p] w (NamesAt w d.loose) := by
  have hmade := made_any h
  have HN := hid (names_o h (fun _ x => x.2) (fun _ _ _ _ => rfl) (fun w1 _ x po n c l => loose1_any x po n c l w1) hl)
  clear h
  go_enter Tryz.func60, Tryz.ntmps60
  go_wp2_with (first
    | (go_at_call 93; refine hmade.mono ?_; rintro e w' ⟨rfl, hw'⟩; have hw2 := hw'.symm; subst hw2)
    | (go_at_call 116; refine HN.out.mono ?_; rintro e w1 ⟨po, c, rfl, htx, hb⟩; have HR := hid (And.intro htx hb); clear htx hb))
  go_ret
  exact ⟨po, c, rfl, HR.out.1, HR.out.2⟩
theorem TxtL.base {B B2 : Nat} {w : World} {v : Value} {ns : List Nm} (h : TxtL B w v ns) (hB : B2 ≤ B) : TxtL B2 w v ns := own_base h hB
end
theorem TxtL.at {B : Nat} {w : World} {v : Value} {ns : List Nm} (h : TxtL B w v ns) : TxtAt w v ns := by
  rcases h.2 with ⟨rfl, h0⟩ | ⟨g, cap, cur, rfl, _, hg, h1, _, h3, h4⟩
  · exact Or.inl ⟨List.eq_nil_of_length_eq_zero h0, rfl⟩
  · refine Or.inr ⟨g, cap, rfl, fun i hi => ?_⟩
    have hc : CAt w g cur 9 := hg
    rw [hc.cell]
    have := congrArg (fun l => l[i]?) h4
    simp [hi] at this
    rw [this, getD_in _ _ _ hi]
theorem TxtAt.below {w w' : World} {v : Value} {ns : List Nm} (h : TxtAt w v ns) (hb : Below w.heap.size w w') : TxtAt w' v ns := by
  rcases h with h | ⟨b, c, rfl, h⟩
  · exact Or.inl h
  · exact Or.inr ⟨b, c, rfl, fun i hi => (World.cell?_of_block (hb.block b (cell_lt' (a := ⟨b, i, none⟩) (by rw [h i hi]; simp)))).trans (h i hi)⟩
end Go.Proofs.YtklchjfkkbpipaaGreatDoor

/- Contract of awake of the statements: the document's example is answered as it says. -/
namespace Go.Proofs.YtklchjfkkbpipaaGreatDoor
open Go Go.RowKit

/-- A drive of one's own, without a fuse, made since w. -/
structure AW (w wk : World) (S : Nat → Prop) (p : Nat) (d : Pd) : Prop where
  dr : DrAt wk S p none d
  ge : ∀ b, S b → w.heap.size ≤ b
  be : Below w.heap.size w wk
section
variable {w wk : World} {S : Nat → Prop} {p : Nat} {d : Pd}
theorem AW.below (h : AW w wk S p d) {w' : World} (hb : Below wk.heap.size wk w') : AW w w' S p d := by
  obtain ⟨m, L, hd⟩ := h.dr
  exact ⟨⟨m, L, hd.below hb⟩, h.ge, below_on _ _ h.be hb⟩
theorem AW.alloc (h : AW w wk S p d) (o : Obj) : AW w (wk.alloc o) S p d := h.below ((Below.refl _ _).alloc (Nat.le_refl _) _)
theorem AW.made {w1 : World} {n : Nat} {p : Nat} (hd : DrAt w1 (fun b => w.heap.size ≤ b ∧ b < w1.heap.size) p none (fresh n)) (hb : Below w.heap.size w w1) : AW w w1 (fun b => w.heap.size ≤ b ∧ b < w1.heap.size) p (fresh n) := ⟨hd, fun _ h => h.1, hb⟩
end
theorem lit_at (w : World) (b : Nat) (hb : b = w.heap.size) (bs : List Nat) (fr : Nat × Nat) : BAt (w.alloc (.cells (bs.map u8).toArray 5 fr)) (some ⟨b, 0, none⟩) bs := by
  subst hb
  refine Or.inr ⟨_, rfl, fun i hi => ?_⟩
  have hadd : (⟨w.heap.size, 0, none⟩ : Addr).add i = ⟨w.heap.size, i, none⟩ := by unfold Addr.add; split <;> simp_all
  rw [hadd]
  simp only [World.cell?, at_new]
  simp [u8, List.getD, List.getElem?_eq_getElem hi]

end Go.Proofs.YtklchjfkkbpipaaGreatDoor

/- Contracts of Offline, Full and Crash of package drive. -/
namespace Go.Proofs.YtklchjfkkbpipaaGreatDoor
open Go Go.RowKit

section
variable {w : World} {S : Nat → Prop} {p m : Nat} {fu : Option Nat} {d : Pd} {L : List (Nm × Ent)}
theorem DrC.setC (h : DrC w S p m fu d L) (i : Nat) (v : Value) {d2 : Pd} {fu2 : Option Nat} (hc : (dcells p m fu d (usedOf d.F : Int)).setIfInBounds i v = dcells p m fu2 d2 (usedOf d2.F : Int)) (hF : d2.F = d.F) (hz : d2.size = d.size) :
    DrC (w.setCell ⟨p, i, none⟩ v) S p m fu2 d2 L :=
  h.turned (d2 := d2) (by have := h.c.set i v; rw [hc] at this; exact this) (h.mp.setCell (Ne.symm h.pm) _) (fun _ _ h1 _ => heap_setCell_ne _ _ _ _ h1) (Nat.le_of_eq (setCell_size _ _ _).symm) (hF.trans h.fs) h.so (fun x hx => ⟨h.nm x hx, Or.inl ⟨x, hx, rfl, rfl⟩⟩) h.ap (by rw [hF, hz]; exact h.us) hz
/-- What a call leaves that sets the drive's own cells alone. -/
def SetAt (w : World) (S : Nat → Prop) (p m : Nat) (fu : Option Nat) (d : Pd) (L : List (Nm × Ent)) (e : Ending) (w' : World) : Prop :=
  e = .returned (.int .i64 0) ∧ DrC w' S p m fu d L ∧ Only (fun b => b = p) w w' ∧ w'.heap.size = w.heap.size
theorem offline_any (h : DrC w S p m fu d L) (b : Bool) : Calls Tryz.prog 25 #[ptr p, .bool b] w (SetAt w S p m fu { d with offl := b } L) := by
  have c5 : w.cell? ⟨p, 5, none⟩ = some (.bool d.offl) := h.c.cell 5
  have z5 : w.frozen? ⟨p, 5, none⟩ = false := h.c.free 5
  have hmade := made_any h
  have H := hid (h.setC 5 (.bool b) (d2 := { d with offl := b }) (fu2 := fu) rfl rfl rfl)
  clear h
  go_enter Tryz.func25, Tryz.ntmps25
  go_wp2_with (go_at_call 93; refine hmade.mono ?_; rintro e w' ⟨rfl, hw'⟩; have hw2 := hw'.symm; subst hw2)
  go_ret
  exact ⟨rfl, H.out, Only.set (S := fun b => b = p) _ _ _ rfl, setCell_size _ _ _⟩
/-- Bools that a slice tells, whose memory is not in S. -/
def KAt (w : World) (S : Nat → Prop) (po : Option Addr) (ks : List Bool) : Prop := ks = [] ∨ ∃ b o, po = some ⟨b, o, none⟩ ∧ ¬ S b ∧ ∀ i, i < ks.length → w.cell? ⟨b, o + i, none⟩ = some (.bool (ks.getD i false))
theorem KAt.only {w' : World} {T : Nat → Prop} {po : Option Addr} {ks : List Bool} (h : KAt w S po ks) (ho : Only T w w') (hT : ∀ b, b < w.heap.size → T b → S b) : KAt w' S po ks := by
  rcases h with h | ⟨b, o, rfl, hn, h⟩
  · exact Or.inl h
  · refine Or.inr ⟨b, o, rfl, hn, fun i hi => ?_⟩
    have hc := h i hi
    have hl : b < w.heap.size := cell_lt' (a := ⟨b, o + i, none⟩) (by rw [hc]; simp)
    exact (World.cell?_of_block (ho.block b hl (fun ht => hn (hT _ hl ht)))).trans hc
end
end Go.Proofs.YtklchjfkkbpipaaGreatDoor

/- Contract of Clone of package drive. -/
namespace Go.Proofs.YtklchjfkkbpipaaGreatDoor
open Go Go.RowKit

structure ClI (w wr : World) (m : Nat) (fu : Option Nat) (d : Pd) (L : List (Nm × Ent)) (left : Lit → Bool) (cnt : Nat) (Lc : List (Nm × Ent)) : Prop where
  rg : wr.ranges Tryz.prog 9 RF m (w.heap.size + 1 + 1) L.length (mapD L) left cnt
  c : CAt wr w.heap.size (dcells w.heap.size (w.heap.size + 1) fu d (usedOf d.F : Int)) 45
  mp : wr.ownsMap Tryz.prog 9 RF (w.heap.size + 1) Lc.length (mapD Lc)
  so : Srt Lc
  get : ∀ x, (gget Lc x).map Ent.fi = if left (.string x) then none else (gget L x).map Ent.fi
  ow : ∀ y ∈ Lc, wr.ownsRow w.heap.size 5 1 y.2.v y.2.b.length (y.2.b.map u8)
  ap : Lc.Pairwise fun x y => x.2.v.ownBlock = none ∨ x.2.v.ownBlock ≠ y.2.v.ownBlock
  be : Below w.heap.size w wr
section
variable {w wr : World} {m : Nat} {fu : Option Nat} {d : Pd} {L : List (Nm × Ent)} {left : Lit → Bool} {cnt : Nat} {Lc : List (Nm × Ent)}
theorem ClI.sub (h : ClI w wr m fu d L left cnt Lc) {x : Nm} {e : Ent} (hx : (x, e) ∈ Lc) : ∃ e0, (x, e0) ∈ L ∧ e0.fi = e.fi := by
  have h1 := h.get x
  rw [gget_of_mem h.so hx] at h1
  split at h1
  · cases h1
  · cases hg : gget L x with
    | none => rw [hg] at h1; cases h1
    | some e0 => rw [hg] at h1; exact ⟨e0, gget_mem hg, (Option.some.inj h1).symm⟩
theorem ClI.len (h : ClI w wr m fu d L left cnt Lc) : Lc.length ≤ L.length := by
  have h1 : (Lc.map (·.1)).Nodup := List.pairwise_map.2 h.so.apart
  have h2 : Lc.map (·.1) ⊆ L.map (·.1) := fun x hx => by
    obtain ⟨y, hy, rfl⟩ := List.mem_map.1 hx
    obtain ⟨e0, he, _⟩ := h.sub hy
    exact List.mem_map.2 ⟨_, he, rfl⟩
  have := h1.length_le_of_subset h2
  simpa using this
/-- A row of bytes is neither the copy's block, nor its map's, nor the iterator's. -/
theorem ClI.row_ne (h : ClI w wr m fu d L left cnt Lc) {B n : Nat} {v : Value} {xs : List Value} (ho : wr.ownsRow B 5 1 v n xs) : ∀ b, v.ownBlock = some b → b ≠ w.heap.size ∧ b ≠ w.heap.size + 1 ∧ b ≠ w.heap.size + 1 + 1 := by
  intro b hb
  have hc : ∃ cur, wr.heap[b]? = some (.cells cur 5) := by
    rcases ho.2 with ⟨e, _⟩ | ⟨g, cap, cur, e, _, hg, _⟩
    · rw [e] at hb; simp [Value.ownBlock] at hb
    · rw [e] at hb; simp [Value.ownBlock] at hb; subst hb; exact ⟨cur, hg⟩
  obtain ⟨cur, hc⟩ := hc
  obtain ⟨es, clock, hm⟩ := ownsMap_at h.mp
  refine ⟨fun e => ?_, fun e => ?_, fun e => ?_⟩
  · have h1 : wr.heap[w.heap.size]? = _ := h.c
    rw [e, h1] at hc
    have ht := (Obj.cells.inj (Option.some.inj hc)).2.1
    revert ht; decide
  · rw [e, hm] at hc; cases hc
  · exact row_ne_iter ho h.rg (by rw [hb, e])
/-- One file more. -/
theorem ClI.more (h : ClI w wr m fu d L left cnt Lc) {x : Nm} {e : Ent} (hg : gget L x = some e) {w2 w6 : World} {cnt2 : Nat} (hrg : w2.ranges Tryz.prog 9 RF m (w.heap.size + 1 + 1) L.length (mapD L) (fun z => left z && !z.sameKey (.string x)) cnt2)
    (h2 : wr.grownBy w2 (some (w.heap.size + 1 + 1))) (h26 : Only (fun b => b = w.heap.size + 1) w2 w6) {v : Value} {n : Nat} (hm : w6.ownsMap Tryz.prog 9 RF (w.heap.size + 1) n (mapD (gput Lc x ⟨v, e.b, e.l⟩)))
    (ho : w6.ownsRow w2.heap.size 5 1 v e.b.length (e.b.map u8)) (hml : m < w.heap.size) : ClI w w6 m fu d L (fun z => left z && !z.sameKey (.string x)) cnt2 (gput Lc x ⟨v, e.b, e.l⟩) := by
  have hk : ∀ b, b < wr.heap.size → b ≠ w.heap.size + 1 → b ≠ w.heap.size + 1 + 1 → w6.heap[b]? = wr.heap[b]? := fun b hb h1 h3 =>
    (h26.block b (Nat.lt_of_lt_of_le hb h2.size) h1).trans (h2.block b hb (fun e => h3 (by cases e; rfl)))
  have hwr := h.be.size
  refine ⟨hrg.kept (row := some (w.heap.size + 1)) ⟨h26.os, h26.tape, h26.output, h26.size, fun k hk' hne => h26.block k hk' (fun e => hne (by rw [e]))⟩ (fun e => by have := Option.some.inj e; omega) (fun e => by have := Option.some.inj e; omega), ?_, ownsMap_exact hm, h.so.put x _, fun y => ?_, fun y hy => ?_, ?_, ?_⟩
  · exact h.c.keep (hk _ h.c.lt (by omega) (by omega))
  · rw [gget_put h.so]
    by_cases hy : y = x
    · subst hy; simp [Lit.sameKey, hg, Ent.fi]
    · rw [if_neg hy, h.get y]; simp [Lit.sameKey, hy]
  · rcases mem_put.1 hy with rfl | ⟨hy, _⟩
    · exact own_base ho (Nat.le_trans hwr h2.size)
    · exact ownsRow_keep (h.ow y hy) fun b hb => hk b (own_ge (h.ow y hy) b hb).2 (h.row_ne (h.ow y hy) b hb).2.1 (h.row_ne (h.ow y hy) b hb).2.2
  · refine ap_put (h.ap.filter _) fun y hy => ?_
    have hyL := (mem_del.1 hy).1
    by_cases e0 : y.2.v.ownBlock = none
    · exact Or.inl e0
    · refine Or.inr fun e2 => ?_
      obtain ⟨b, hb1⟩ := Option.ne_none_iff_exists'.1 e0
      have h3 := (own_ge (h.ow y hyL) b hb1).2
      rw [hb1] at e2
      have h4 := (own_ge ho b e2.symm).1
      have := h2.size
      omega
  · exact ⟨h26.os.trans (h2.os.trans h.be.os), h26.tape.trans (h2.tape.trans h.be.tape), h26.output.trans (h2.output.trans h.be.output), Nat.le_trans hwr (Nat.le_trans h2.size h26.size), fun k hk' => (hk k (Nat.lt_of_lt_of_le hk' hwr) (by omega) (by omega)).trans (h.be.block k hk')⟩
end
section
variable {w : World} {S : Nat → Prop} {p m : Nat} {fu : Option Nat} {d : Pd} {L : List (Nm × Ent)}
end
end Go.Proofs.YtklchjfkkbpipaaGreatDoor

/- The statements' acts; contracts of Pick and step. -/
namespace Go.Proofs.YtklchjfkkbpipaaGreatDoor
open Go Go.RowKit

/-- An act, as it stands in memory. -/
structure AV where
  kind : Int
  which : Int
  at_ : Int
  A : Nm
  C : Nm
  pb : Option Addr
  cb : Nat
  bs : List Nat
  is_ : Bool
  mask : Int
  pk : Option Addr
  ck : Nat
  ks : List Bool
structure AV.ok (w : World) (x : AV) : Prop where
  hA : x.A.length ≤ maxLen
  hC : x.C.length ≤ maxLen
  bB : BAt w x.pb x.bs
  b8 : ∀ y ∈ x.bs, y < 256
  bK : KAt w (fun _ => False) x.pk x.ks
  k1 : -9223372036854775808 ≤ x.kind ∧ x.kind ≤ 9223372036854775807
  k2 : -9223372036854775808 ≤ x.which ∧ x.which ≤ 9223372036854775807
  k3 : -9223372036854775808 ≤ x.at_ ∧ x.at_ ≤ 9223372036854775807
  k4 : 0 ≤ x.mask ∧ x.mask ≤ 255
theorem AV.ok.below {w w' : World} {x : AV} (h : x.ok w) (hb : Below w.heap.size w w') : x.ok w' :=
  { h with bB := h.bB.keepB hb, bK := h.bK.only (T := fun _ => False) ⟨hb.os, hb.tape, hb.output, hb.size, fun k hk _ => hb.block k hk⟩ (fun _ _ h => h) }
section
variable {w : World} {S : Nat → Prop} {p m : Nat} {fu : Option Nat} {d : Pd} {L : List (Nm × Ent)}
theorem Done.from1 {o : Obj} {w' : World} {r : Nat × Pd × Fs} {e : Ending} (h : Done (w.alloc o) S p fu r e w') : Done w S p fu r e w' := Done.from ((Below.refl _ _).alloc (Nat.le_refl _) _) h
end

end Go.Proofs.YtklchjfkkbpipaaGreatDoor

/- Acts and bools that came in. -/
namespace Go.Proofs.YtklchjfkkbpipaaGreatDoor
open Go Go.RowKit

theorem add_zero' (a : Addr) : a.add 0 = a := by simp [Addr.add]
theorem add_none (b o n : Nat) : (⟨b, o, none⟩ : Addr).add n = ⟨b, o + n, none⟩ := by unfold Addr.add; split <;> simp_all
section
variable {H : Type} {enc : TypeId × Value → H} {w : World} {held : Bool} {fuel : Nat}
end

end Go.Proofs.YtklchjfkkbpipaaGreatDoor

/- What a crash leaves, file by file; acts and what they leave of a drive. -/
namespace Go.Proofs.YtklchjfkkbpipaaGreatDoor
open Go Go.RowKit

/-- A drive that answers: neither out nor offline, its files no more than its changes. -/
structure Pd.calm (d : Pd) (n : Nat) : Prop where
  out : d.out = false
  offl : d.offl = false
  len : d.F.length ≤ d.ops
  ops : d.ops ≤ n
theorem Pd.calm.more {d : Pd} {n : Nat} (h : d.calm n) : d.calm (n + 1) := ⟨h.out, h.offl, h.len, by have := h.ops; omega⟩
theorem put_len (F : List (Nm × Fi)) (s : Nm) (x : Fi) : (gput F s x).length ≤ F.length + 1 := by rw [len_put]; have := len_del F s; omega
end Go.Proofs.YtklchjfkkbpipaaGreatDoor

/- The walk of DriveKeeps. -/
namespace Go.Proofs.YtklchjfkkbpipaaGreatDoor
open Go Go.RowKit

section
variable {w wk : World} {S : Nat → Prop} {p : Nat} {d : Pd}
theorem AW.lt (h : AW w wk S p d) : ∀ b, S b → b < wk.heap.size := by obtain ⟨m, L, hd⟩ := h.dr; exact hd.lt
end
end Go.Proofs.YtklchjfkkbpipaaGreatDoor

/- Drives beside one another, some of them with one fuse together. -/
namespace Go.Proofs.YtklchjfkkbpipaaGreatDoor
open Go Go.RowKit

structure Dv where
  p : Nat
  S : Nat → Prop
  fu : Option Nat
  d : Pd
def fsOf (Z : Nat → Nat × Bool) (x : Dv) : Fs := x.fu.map Z
structure Sys (w wr : World) (k : Nat) (D : Nat → Dv) (Z : Nat → Nat × Bool) : Prop where
  dr : ∀ i, i < k → DrAt wr (D i).S (D i).p (D i).fu (D i).d
  fz : ∀ i, i < k → ∀ q, (D i).fu = some q → CAt wr q #[.int .i64 ((Z q).1 : Int), .bool (Z q).2] 140 ∧ (Z q).1 ≤ 9223372036854775807 ∧ w.heap.size ≤ q ∧ ∀ j, j < k → ¬ (D j).S q
  dj : ∀ i j, i < k → j < k → i ≠ j → ∀ b, (D i).S b → ¬ (D j).S b
  ge : ∀ i, i < k → ∀ b, (D i).S b → w.heap.size ≤ b
  be : Below w.heap.size w wr
def setD (D : Nat → Dv) (i : Nat) (x : Dv) : Nat → Dv := fun j => if j = i then x else D j
theorem setD_same (D : Nat → Dv) (i : Nat) (x : Dv) : setD D i x i = x := by simp [setD]
theorem setD_ne (D : Nat → Dv) {i j : Nat} (x : Dv) (h : j ≠ i) : setD D i x j = D j := by simp [setD, h]
def setZ (Z : Nat → Nat × Bool) (fu : Option Nat) (f : Fs) : Nat → Nat × Bool := fun b => if fu = some b then f.getD (0, false) else Z b
section
variable {w wr : World} {k : Nat} {D : Nat → Dv} {Z : Nat → Nat × Bool}
theorem Sys.lt (h : Sys w wr k D Z) {i : Nat} (hi : i < k) : ∀ b, (D i).S b → b < wr.heap.size := by obtain ⟨m, L, hd⟩ := h.dr i hi; exact hd.lt
theorem Sys.fu (h : Sys w wr k D Z) {i : Nat} (hi : i < k) : FuAt wr (D i).S (D i).fu (fsOf Z (D i)) := by
  unfold fsOf
  cases hq : (D i).fu with
  | none => exact trivial
  | some q =>
    obtain ⟨h1, h2, _, h4⟩ := h.fz i hi q hq
    exact ⟨h1, h4 i hi, h2⟩
theorem Sys.below (h : Sys w wr k D Z) {w' : World} (hb : Below wr.heap.size wr w') : Sys w w' k D Z :=
  ⟨fun i hi => by obtain ⟨m, L, hd⟩ := h.dr i hi; exact ⟨m, L, hd.below hb⟩, fun i hi q hq => by obtain ⟨h1, h2⟩ := h.fz i hi q hq; exact ⟨h1.below hb, h2⟩, h.dj, h.ge, below_on _ _ h.be hb⟩
/-- A call of one drive that may turn its own blocks and its fuse alone. -/
theorem Sys.turn (h : Sys w wr k D Z) {i : Nat} (hi : i < k) {w' : World} {S2 : Nat → Prop} {d2 : Pd} {fu2 : Option Nat} {f2 : Fs} (hg : Grows wr (D i).S S2) (hd : DrAt w' S2 (D i).p fu2 d2) (hfu : fu2 = (D i).fu ∨ fu2 = none)
    (hf : FuAt w' S2 (D i).fu f2) (ho : Only (fun b => (D i).S b ∨ (D i).fu = some b) wr w') : Sys w w' k (setD D i ⟨(D i).p, S2, fu2, d2⟩) (setZ Z (D i).fu f2) := by
  have hq : ∀ j, j < k → ∀ q, (D j).fu = some q → q < wr.heap.size := fun j hj q e => (h.fz j hj q e).1.lt
  have hS : ∀ j, j < k → ∀ b, b < wr.heap.size → (setD D i ⟨(D i).p, S2, fu2, d2⟩ j).S b → (D j).S b := fun j _ b hb hs => by
    by_cases e : j = i
    · subst e; rw [setD_same] at hs; exact (hg.2 b hs).elim id (fun hle => by omega)
    · rw [setD_ne D _ e] at hs; exact hs
  refine ⟨fun j hj => ?_, fun j hj q e => ?_, fun a b ha hb hab c hc hc2 => ?_, fun j hj b hb => ?_, ?_⟩
  · by_cases e : j = i
    · subst e; rw [setD_same]; exact hd
    · rw [setD_ne D _ e]
      refine (h.dr j hj).keep ho.size fun b hb => ho.block b (h.lt hj b hb) fun e2 => ?_
      rcases e2 with e2 | e2
      · exact h.dj j i hj hi e b hb e2
      · exact (h.fz i hi b e2).2.2.2 j hj hb
  · have hje : ∃ j', j' < k ∧ (D j').fu = some q := by
      by_cases ej : j = i
      · subst ej
        rw [setD_same] at e
        rcases hfu with hfu | hfu
        · exact ⟨j, hj, by rw [← hfu]; exact e⟩
        · rw [hfu] at e; cases e
      · rw [setD_ne D _ ej] at e; exact ⟨j, hj, e⟩
    obtain ⟨j', hj', e'⟩ := hje
    obtain ⟨h1, h2, h3, h4⟩ := h.fz j' hj' q e'
    have hns : ∀ j2, j2 < k → ¬ (setD D i ⟨(D i).p, S2, fu2, d2⟩ j2).S q := fun j2 hj2 hs => h4 j2 hj2 (hS j2 hj2 q h1.lt hs)
    by_cases eq : (D i).fu = some q
    · have hz : setZ Z (D i).fu f2 q = f2.getD (0, false) := by unfold setZ; rw [if_pos eq]
      rw [hz]
      rw [eq] at hf
      match f2, hf with
      | some (n, g), hf => exact ⟨hf.1, hf.2.2, h3, hns⟩
    · have hz : setZ Z (D i).fu f2 q = Z q := by unfold setZ; rw [if_neg eq]
      rw [hz]
      exact ⟨h1.keep (ho.block q h1.lt fun e2 => e2.elim (h4 i hi) eq), h2, h3, hns⟩
  · by_cases e1 : a = i
    · subst e1
      have hc' := hc
      rw [setD_same] at hc'
      rw [setD_ne D _ (Ne.symm hab)] at hc2
      exact h.dj b a hb ha (Ne.symm hab) c hc2 (hS a ha c (h.lt hb c hc2) hc)
    · rw [setD_ne D _ e1] at hc
      exact h.dj a b ha hb hab c hc (hS b hb c (h.lt ha c hc) hc2)
  · by_cases e : j = i
    · subst e; rw [setD_same] at hb
      rcases hg.2 b hb with hb | hb
      · exact h.ge j hj b hb
      · exact Nat.le_trans h.be.size hb
    · rw [setD_ne D _ e] at hb; exact h.ge j hj b hb
  · exact ⟨ho.os.trans h.be.os, ho.tape.trans h.be.tape, ho.output.trans h.be.output, Nat.le_trans h.be.size ho.size, fun b hb => (ho.block b (Nat.lt_of_lt_of_le hb h.be.size) (fun e => by
      rcases e with e | e
      · have := h.ge i hi b e; omega
      · have := (h.fz i hi b e).2.2.1; omega)).trans (h.be.block b hb)⟩
theorem Sys.ops (h : Sys w wr k D Z) {i : Nat} (hi : i < k) : Calls Tryz.prog 57 #[ptr (D i).p] wr fun e w' => e = .returned (.int .i64 ((D i).d.ops : Int)) ∧ w' = wr := by
  obtain ⟨m, L, hd⟩ := h.dr i hi
  exact ops_any hd
theorem setZ_same (Z : Nat → Nat × Bool) (x : Dv) : setZ Z x.fu (fsOf Z x) = Z := by
  funext b
  unfold setZ fsOf
  split
  · rename_i e; rw [e]; rfl
  · rfl
end
end Go.Proofs.YtklchjfkkbpipaaGreatDoor

/- Contract of Fuse of package drive, of two drives and of one. -/
namespace Go.Proofs.YtklchjfkkbpipaaGreatDoor
open Go Go.RowKit

def Pd.lit (d : Pd) (f : Fs) : Pd := { d with out := d.isOut f }
/-- What a fuse of two drives leaves. -/
def Fu2At (w : World) (S1 S2 : Nat → Prop) (p1 p2 : Nat) (d1 d2 : Pd) (n : Nat) (e : Ending) (w' : World) : Prop :=
  e = .returned (.int .i64 0) ∧ ∃ q, w.heap.size ≤ q ∧ DrAt w' S1 p1 (some q) d1 ∧ DrAt w' S2 p2 (some q) d2 ∧ CAt w' q #[.int .i64 (n : Int), .bool false] 140 ∧ Only (fun b => b = p1 ∨ b = p2) w w'
section
variable {w : World} {S1 S2 : Nat → Prop} {p1 m1 p2 m2 : Nat} {fu1 fu2 : Option Nat} {d1 d2 : Pd} {L1 L2 : List (Nm × Ent)}
/-- A fuse is no drive. -/
theorem FuAt.ne_drive {f : Fs} (hf : FuAt w S1 fu1 f) {p : Nat} {cs : Array Value} (hc : CAt w p cs 45) : ∀ q, fu1 = some q → q ≠ p := by
  intro q hq e
  match fu1, f, hf with
  | some q', some (n, g), hf =>
    cases hq
    have h1 : w.heap[q]? = _ := hf.1
    have h2 : w.heap[p]? = _ := hc
    rw [e, h2] at h1
    have ht := (Obj.cells.inj (Option.some.inj h1)).2.1
    revert ht; decide
theorem DrC.litC (h : DrC w S1 p1 m1 fu1 d1 L1) (o : Bool) (q : Nat) : DrC ((w.setCell ⟨p1, 7, none⟩ (.bool o)).setCell ⟨p1, 8, none⟩ (ptr q)) S1 p1 m1 (some q) { d1 with out := o } L1 :=
  (h.setC 7 (.bool o) (d2 := { d1 with out := o }) (fu2 := fu1) rfl rfl rfl).setC 8 (ptr q) (d2 := { d1 with out := o }) (fu2 := some q) rfl rfl rfl
set_option maxHeartbeats 1000000 in
set_option maxRecDepth 100000 in
theorem fuse2_any (h1 : DrC w S1 p1 m1 fu1 d1 L1) {f1 : Fs} (hf1 : FuAt w S1 fu1 f1) (h2 : DrC w S2 p2 m2 fu2 d2 L2) {f2 : Fs} (hf2 : FuAt w S2 fu2 f2) (hdj : ∀ b, S1 b → ¬ S2 b) (bl c : Nat) (hc : CAt w bl #[ptr p1, ptr p2] 38) (n : Nat) (hn : n ≤ 9223372036854775807) :
    Calls Tryz.prog 30 #[.slice (some ⟨bl, 0, none⟩) 2 c, .int .i64 (n : Int)] w (Fu2At w S1 S2 p1 p2 (d1.lit f1) (d2.lit f2) n) := by
  have H1 := hid h1
  have H2 := hid h2
  have HF1 := hid hf1
  have HF2 := hid hf2
  have HDJ := hid hdj
  have HM1 := hid (made_any h1)
  have HM2 := hid (made_any h2)
  have HBL := hid hc
  have b0 : w.cell? ⟨bl, 0, none⟩ = some (ptr p1) := hc.cell 0
  have b1 : w.cell? ⟨bl, 1, none⟩ = some (ptr p2) := hc.cell 1
  have hbl := hc.lt
  have hp1 := h1.c.lt
  have hp2 := h2.c.lt
  have hne : p1 ≠ p2 := fun e => hdj p1 h1.sp (e ▸ h2.sp)
  have hb1 := (h1.box_ne hc (by decide)).1
  have hb2 := (h2.box_ne hc (by decide)).1
  have HNE := hid (And.intro hne (And.intro hb1 hb2))
  have hn0 : ¬ (n : Int) < 0 := by omega
  have t1 : True := trivial
  have t2 : True := trivial
  clear h1 h2 hf1 hf2 hdj hc hne hb1 hb2
  go_enter Tryz.func30, Tryz.ntmps30
  go_wp2
  refine wp_loop_rounds 3 ?_
  rw [rounds_succ]
  go_wp2_with (go_at_call 93; refine HM1.out.mono ?_; rintro e w' ⟨rfl, hw'⟩; have hw2 := hw'.symm; subst hw2)
  rw [rounds_succ]
  go_wp2_with (go_at_call 93; refine HM2.out.mono ?_; rintro e w' ⟨rfl, hw'⟩; have hw2 := hw'.symm; subst hw2)
  rw [rounds_succ]
  go_wp2
  have HQ := hid (CAt.made w #[.int .i64 (n : Int), .bool false] 140)
  have HD1 := hid (H1.out.alloc (.cells #[.int .i64 (n : Int), .bool false] 140))
  have HD2 := hid (H2.out.alloc (.cells #[.int .i64 (n : Int), .bool false] 140))
  have HG1 := hid (HF1.out.alloc (.cells #[.int .i64 (n : Int), .bool false] 140))
  have HG2 := hid (HF2.out.alloc (.cells #[.int .i64 (n : Int), .bool false] 140))
  have HB := hid (HBL.out.old (.cells #[.int .i64 (n : Int), .bool false] 140))
  have HO := hid (Only.alloc (S := fun b => b = p1 ∨ b = p2) w (.cells #[.int .i64 (n : Int), .bool false] 140))
  clear HBL b0 b1
  generalize w.alloc (.cells #[.int .i64 (n : Int), .bool false] 140) = w0 at *
  have k0 : w0.cell? ⟨bl, 0, none⟩ = some (ptr p1) := HB.out.cell 0
  have a7 : w0.cell? ⟨p1, 7, none⟩ = some (.bool d1.out) := HD1.out.c.cell 7
  have a8 : w0.cell? ⟨p1, 8, none⟩ = some (fuV fu1) := HD1.out.c.cell 8
  have y7 : w0.frozen? ⟨p1, 7, none⟩ = false := HD1.out.c.free 7
  have y8 : w0.frozen? ⟨p1, 8, none⟩ = false := HD1.out.c.free 8
  have HIO1 := hid (isOut_any HD1.out HG1.out)
  refine wp_loop_rounds 3 ?_
  rw [rounds_succ]
  go_wp2_with (go_at_call 94; refine HIO1.out.mono ?_; rintro e w' ⟨rfl, hw'⟩; have hw2 := hw'.symm; subst hw2)
  have hk1 : ∀ b, b ≠ p1 → ((w0.setCell ⟨p1, 7, none⟩ (.bool (d1.isOut f1))).setCell ⟨p1, 8, none⟩ (ptr w.heap.size)).heap[b]? = w0.heap[b]? := fun b hb => (heap_setCell_ne _ _ _ _ hb).trans (heap_setCell_ne _ _ _ _ hb)
  have hz1 : ((w0.setCell ⟨p1, 7, none⟩ (.bool (d1.isOut f1))).setCell ⟨p1, 8, none⟩ (ptr w.heap.size)).heap.size = w0.heap.size := (setCell_size _ _ _).trans (setCell_size _ _ _)
  have HE1 := hid (HD1.out.litC (d1.isOut f1) w.heap.size)
  have HE2 := hid (HD2.out.keep (w' := (w0.setCell ⟨p1, 7, none⟩ (.bool (d1.isOut f1))).setCell ⟨p1, 8, none⟩ (ptr w.heap.size)) (Nat.le_of_eq hz1.symm) (fun b hb => hk1 b (fun e => HDJ.out p1 H1.out.sp (e ▸ hb))))
  have HH2 := hid (HG2.out.keep (w' := (w0.setCell ⟨p1, 7, none⟩ (.bool (d1.isOut f1))).setCell ⟨p1, 8, none⟩ (ptr w.heap.size)) (fun q hq => hk1 q (HG2.out.ne_drive HD1.out.c q hq)))
  have HQ1 := hid (HQ.out.keep (hk1 _ (by omega)))
  have HB1 := hid (HB.out.keep (hk1 _ HNE.out.2.1))
  have HO1 := hid ((HO.out.then (Only.set (S := fun b => b = p1 ∨ b = p2) w0 ⟨p1, 7, none⟩ (.bool (d1.isOut f1)) (Or.inl rfl)) (fun _ _ h => h)).then (Only.set (S := fun b => b = p1 ∨ b = p2) _ ⟨p1, 8, none⟩ (ptr w.heap.size) (Or.inl rfl)) (fun _ _ h => h))
  clear hk1 hz1 k0 a7 a8 y7 y8
  generalize ((w0.setCell ⟨p1, 7, none⟩ (.bool (d1.isOut f1))).setCell ⟨p1, 8, none⟩ (ptr w.heap.size)) = w1 at *
  have k1 : w1.cell? ⟨bl, 1, none⟩ = some (ptr p2) := HB1.out.cell 1
  have a7 : w1.cell? ⟨p2, 7, none⟩ = some (.bool d2.out) := HE2.out.c.cell 7
  have a8 : w1.cell? ⟨p2, 8, none⟩ = some (fuV fu2) := HE2.out.c.cell 8
  have y7 : w1.frozen? ⟨p2, 7, none⟩ = false := HE2.out.c.free 7
  have y8 : w1.frozen? ⟨p2, 8, none⟩ = false := HE2.out.c.free 8
  have HIO2 := hid (isOut_any HE2.out HH2.out)
  rw [rounds_succ]
  go_wp2_with (go_at_call 94; refine HIO2.out.mono ?_; rintro e w' ⟨rfl, hw'⟩; have hw2 := hw'.symm; subst hw2)
  have hk2 : ∀ b, b ≠ p2 → ((w1.setCell ⟨p2, 7, none⟩ (.bool (d2.isOut f2))).setCell ⟨p2, 8, none⟩ (ptr w.heap.size)).heap[b]? = w1.heap[b]? := fun b hb => (heap_setCell_ne _ _ _ _ hb).trans (heap_setCell_ne _ _ _ _ hb)
  have hz2 : ((w1.setCell ⟨p2, 7, none⟩ (.bool (d2.isOut f2))).setCell ⟨p2, 8, none⟩ (ptr w.heap.size)).heap.size = w1.heap.size := (setCell_size _ _ _).trans (setCell_size _ _ _)
  have HZ2 := hid (HE2.out.litC (d2.isOut f2) w.heap.size)
  have HZ1 := hid (HE1.out.keep (w' := (w1.setCell ⟨p2, 7, none⟩ (.bool (d2.isOut f2))).setCell ⟨p2, 8, none⟩ (ptr w.heap.size)) (Nat.le_of_eq hz2.symm) (fun b hb => hk2 b (fun e => HDJ.out b hb (e ▸ H2.out.sp))))
  have HQ2 := hid (HQ1.out.keep (hk2 _ (by omega)))
  have HO2 := hid ((HO1.out.then (Only.set (S := fun b => b = p1 ∨ b = p2) w1 ⟨p2, 7, none⟩ (.bool (d2.isOut f2)) (Or.inr rfl)) (fun _ _ h => h)).then (Only.set (S := fun b => b = p1 ∨ b = p2) _ ⟨p2, 8, none⟩ (ptr w.heap.size) (Or.inr rfl)) (fun _ _ h => h))
  clear hk2 hz2 k1 a7 a8 y7 y8
  generalize ((w1.setCell ⟨p2, 7, none⟩ (.bool (d2.isOut f2))).setCell ⟨p2, 8, none⟩ (ptr w.heap.size)) = w2 at *
  rw [rounds_succ]
  go_wp2
  go_ret
  exact ⟨rfl, w.heap.size, Nat.le_refl _, ⟨m1, L1, HZ1.out⟩, ⟨m2, L2, HZ2.out⟩, HQ2.out, HO2.out⟩
end
section
variable {w wr : World} {k : Nat} {D : Nat → Dv} {Z : Nat → Nat × Bool}
/-- Two drives have a fuse together. -/
theorem Sys.lit2 (h : Sys w wr k D Z) {i j : Nat} (hi : i < k) (hj : j < k) (hij : i ≠ j) {n : Nat} (hn : n ≤ 9223372036854775807) {w' : World} {q : Nat} {d1 d2 : Pd} (hq : wr.heap.size ≤ q) (h1 : DrAt w' (D i).S (D i).p (some q) d1) (h2 : DrAt w' (D j).S (D j).p (some q) d2) (hc : CAt w' q #[.int .i64 (n : Int), .bool false] 140)
    (ho : Only (fun b => b = (D i).p ∨ b = (D j).p) wr w') : Sys w w' k (setD (setD D i ⟨(D i).p, (D i).S, some q, d1⟩) j ⟨(D j).p, (D j).S, some q, d2⟩) (fun b => if b = q then (n, false) else Z b) := by
  have hS : ∀ a, (setD (setD D i ⟨(D i).p, (D i).S, some q, d1⟩) j ⟨(D j).p, (D j).S, some q, d2⟩ a).S = (D a).S := fun a => by
    by_cases e1 : a = j
    · subst e1; rw [setD_same]
    · rw [setD_ne _ _ e1]
      by_cases e2 : a = i
      · subst e2; rw [setD_same]
      · rw [setD_ne _ _ e2]
  have hSp : ∀ a, a < k → (D a).S (D a).p := fun a ha => by obtain ⟨m, L, hd⟩ := h.dr a ha; exact hd.sp
  have hnp : ∀ a b, a < k → b = (D i).p ∨ b = (D j).p → a ≠ i → a ≠ j → ¬ (D a).S b := fun a b ha e h1 h2 hs => by
    rcases e with rfl | rfl
    · exact h.dj a i ha hi h1 _ hs (hSp i hi)
    · exact h.dj a j ha hj h2 _ hs (hSp j hj)
  have hfp : ∀ a, a < k → ∀ q2, (D a).fu = some q2 → q2 ≠ (D i).p ∧ q2 ≠ (D j).p := fun a ha q2 e => ⟨fun e2 => (h.fz a ha q2 e).2.2.2 i hi (e2 ▸ hSp i hi), fun e2 => (h.fz a ha q2 e).2.2.2 j hj (e2 ▸ hSp j hj)⟩
  have hold : ∀ a, a < k → ∀ q2, (D a).fu = some q2 → CAt w' q2 #[.int .i64 (((if q2 = q then (n, false) else Z q2 : Nat × Bool)).1 : Int), .bool (if q2 = q then (n, false) else Z q2 : Nat × Bool).2] 140 ∧ (if q2 = q then (n, false) else Z q2 : Nat × Bool).1 ≤ 9223372036854775807 ∧ w.heap.size ≤ q2 ∧ ∀ b, b < k → ¬ (D b).S q2 := fun a ha q2 e => by
    obtain ⟨g1, g2, g3, g4⟩ := h.fz a ha q2 e
    have hl := g1.lt
    rw [if_neg (by omega)]
    exact ⟨g1.keep (ho.block q2 hl (fun e2 => e2.elim (hfp a ha q2 e).1 (hfp a ha q2 e).2)), g2, g3, g4⟩
  have hnew : CAt w' q #[.int .i64 (((if q = q then (n, false) else Z q : Nat × Bool)).1 : Int), .bool (if q = q then (n, false) else Z q : Nat × Bool).2] 140 ∧ (if q = q then (n, false) else Z q : Nat × Bool).1 ≤ 9223372036854775807 ∧ w.heap.size ≤ q ∧ ∀ b, b < k → ¬ (D b).S q := by
    rw [if_pos rfl]
    exact ⟨hc, hn, Nat.le_trans h.be.size hq, fun b hb hs => by have := h.lt hb q hs; omega⟩
  refine ⟨fun a ha => ?_, fun a ha q2 e => ?_, fun a b ha hb hab c hc1 hc2 => ?_, fun a ha b hb => ?_, ?_⟩
  · by_cases e1 : a = j
    · subst e1; rw [setD_same]; exact h2
    · rw [setD_ne _ _ e1]
      by_cases e2 : a = i
      · subst e2; rw [setD_same]; exact h1
      · rw [setD_ne _ _ e2]
        exact (h.dr a ha).keep ho.size fun b hb => ho.block b (h.lt ha b hb) fun e => hnp a b ha e e2 e1 hb
  · have hx : (∀ b, b < k → ¬ (setD (setD D i ⟨(D i).p, (D i).S, some q, d1⟩) j ⟨(D j).p, (D j).S, some q, d2⟩ b).S q2) ↔ ∀ b, b < k → ¬ (D b).S q2 := by simp only [hS]
    rw [hx]
    by_cases e1 : a = j
    · subst e1; rw [setD_same] at e; cases e; exact hnew
    · rw [setD_ne _ _ e1] at e
      by_cases e2 : a = i
      · subst e2; rw [setD_same] at e; cases e; exact hnew
      · rw [setD_ne _ _ e2] at e; exact hold a ha q2 e
  · rw [hS] at hc1 hc2; exact h.dj a b ha hb hab c hc1 hc2
  · rw [hS] at hb; exact h.ge a ha b hb
  · exact ⟨ho.os.trans h.be.os, ho.tape.trans h.be.tape, ho.output.trans h.be.output, Nat.le_trans h.be.size ho.size, fun b hb => (ho.block b (Nat.lt_of_lt_of_le hb h.be.size) (fun e => by
      rcases e with rfl | rfl
      · have := h.ge i hi _ (hSp i hi); omega
      · have := h.ge j hj _ (hSp j hj); omega)).trans (h.be.block b hb)⟩
end
end Go.Proofs.YtklchjfkkbpipaaGreatDoor
