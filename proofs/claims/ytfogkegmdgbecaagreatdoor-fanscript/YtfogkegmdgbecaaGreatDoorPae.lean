/- Texts laid into one, cut to what is needed: the remark ahead of each part says what is proved there. -/
import Derived.Test.YtfogkegmdgbecaaGreatDoorPad
import Derived.Sort.OwnSorted
import Derived.Maps.AppendAt
import Derived.Sort.KeysCollected
import Derived.Lib.SlBytesConst
/- Contract of names of package drive: which files are wanted, by rising names. -/
namespace Go.Proofs.YtfogkegmdgbecaaGreatDoor
open Go Go.RowKit

/-- Texts that lie in a row of their own. -/
def TxtL (B : Nat) (w : World) (v : Value) (ns : List Nm) : Prop := w.ownsRow B 9 1 v ns.length (ns.map sv)
theorem Tryz.info9 : (Tryz.prog.info? 9).map (fun i => (i.zero, i.size, i.bytes)) = some (some (.string ⟨#[]⟩), 1, 16) := by kernel_rfl
theorem TxtL.push {B : Nat} {w : World} {v : Value} {ns : List Nm} (h : TxtL B w v ns) (x : Nm) (hn : ns.length ≤ 1000000000000) (hB : B ≤ w.heap.size) :
  ∃ v' w', (Builtin.append_ #[32, 32] 32 #[v, .slice (some ⟨w.heap.size, 0, none⟩) 1 1]).run Tryz.prog (w.alloc (.cells #[sv x] 9)) = .ok v' w' ∧ TxtL B w' v' (ns ++ [x]) ∧
   (w.alloc (.cells #[sv x] 9)).grownBy w' v.ownBlock ∧ (v'.ownBlock = v.ownBlock ∨ v'.ownBlock = some (w.heap.size + 1)) := by
 obtain ⟨i0, hi0, hz0, hz1, hz2⟩ := info_parts Tryz.info9
 have h2 : (w.alloc (.cells #[sv x] 9)).ownsRow B 9 1 v ns.length (ns.map sv) := h.kept (World.grownBy_alloc w _ none) (by
  cases hv : v.ownBlock
  ·exact Or.inl rfl
  ·exact Or.inr (by simp))
 have hc : CAt (w.alloc (.cells #[sv x] 9)) w.heap.size #[sv x] 9 := CAt.made w _ _
 obtain ⟨v', w', hr, h3, h4, _, h5⟩ := run_append_own_at (P := Tryz.prog) (w.alloc (.cells #[sv x] 9)) B 32 32 9 i0 (.string ⟨#[]⟩) 1 16 Tryz.underlying32 hi0 hz0 hz1 hz2 rfl (by decide) v ns.length (ns.map sv) h2 ⟨w.heap.size, 0, none⟩ 1 1 [sv x] rfl (fun j u hj => by
   have : j = 0 := by rcases j with _ | j <;> simp at hj ⊢
   subst this
   simp at hj; subst hj
   have hadd : (⟨w.heap.size, 0, none⟩ : Addr).add 0 = ⟨w.heap.size, 0, none⟩ := by unfold Addr.add; split <;> simp_all
   rw [hadd, hc.cell]; rfl) (by intro u hu; simp at hu; subst hu; rfl) (by unfold maxLen; omega) (by omega) (by rw [size_al]; omega)
 refine ⟨v', w', hr, ?_, h4, by rw [size_al] at h5; exact h5⟩
 unfold TxtL; simpa using h3
theorem wpList_append_run {P : Program} {w w' : World} {ops : Array Oper} {rest : List Oper} {o : Oper} {a : Act} {Q : Exit → Act → World → Prop} (s x : Operand) (t : TypeId)
  (ho : o.op = .call { callee := .builtin .append, args := #[s, x], argTypes := #[t, t] }) (hw : Region.wanted o (yielded ops a.tmps) = true)
  (v xv v' : Value) (hs : a.eval s = v) (hx : a.eval x = xv) (hr : (Builtin.append_ #[t, t] o.type #[v, xv]).run P w = .ok v' w') (h : wpList P ops Q rest (a.put o.dst v') w') : wpList P ops Q (o :: rest) a w := by
 refine BigFrame.wpList_want hw fun K hK => ?_
 unfold Oper.wp execOp
 simp only [ho, resolve, invoke, builtin, Sem.run_bind, Sem.run_pure, Result.andThen_ok, List.map_toArray, List.map_cons, List.map_nil, hs, hx, hr]
 exact hK _ _ h
/-- The names of those that are wanted, met so far. -/
def Coll (L : List (Nm × Ent)) (q : Nm → Fi → Bool) (left : Lit → Bool) (ss : List Nm) : Prop := ss.Nodup ∧ ∀ x, x ∈ ss ↔ ∃ e, gget L x = some e ∧ left (.string x) = false ∧ q x e.fi = true
theorem Coll.start (L : List (Nm × Ent)) (q : Nm → Fi → Bool) : Coll L q (Maps.has (mapD L)) [] := by
 refine ⟨List.nodup_nil, fun x => ?_⟩
 simp only [List.not_mem_nil, false_iff]
 rintro ⟨e, h1, h2, _⟩
 rw [mapD_has, h1] at h2; cases h2
section
variable {L : List (Nm × Ent)} {q : Nm → Fi → Bool} {left : Lit → Bool} {ss : List Nm}
theorem Coll.take (h : Coll L q left ss) {x : Nm} {e : Ent} (hl : left (.string x) = true) (hg : gget L x = some e) (hq : q x e.fi = true) : Coll L q (fun z => left z && !z.sameKey (.string x)) (ss ++ [x]) := by
 have hnew : x ∉ ss := fun hx => by obtain ⟨_, _, h2, _⟩ := (h.2 x).1 hx; rw [hl] at h2; cases h2
 refine ⟨List.nodup_append.2 ⟨h.1, by simp, fun a ha b hb => by simp at hb; subst hb; exact fun e => hnew (e ▸ ha)⟩, fun y => ?_⟩
 by_cases hy : y = x
 ·subst hy; simp [hg, Lit.sameKey, hq]
 ·simp [h.2 y, hy, Lit.sameKey]
theorem Coll.skip (h : Coll L q left ss) {x : Nm} {e : Ent} (hg : gget L x = some e) (hq : q x e.fi = false) : Coll L q (fun z => left z && !z.sameKey (.string x)) ss := by
 refine ⟨h.1, fun y => ?_⟩
 by_cases hy : y = x
 ·subst hy
  rw [h.2 y]
  constructor
  ·rintro ⟨e', h1, _, h3⟩; rw [hg] at h1; cases h1; rw [hq] at h3; cases h3
  ·rintro ⟨e', h1, _, h3⟩; rw [hg] at h1; cases h1; rw [hq] at h3; cases h3
 ·simp [h.2 y, hy, Lit.sameKey]
theorem Coll.end (h : Coll L q left ss) (hs : Srt L) (hl : ∀ k, left k = false) : ss.Perm (namesOf (gmap Ent.fi L) q) := by
 refine (List.perm_ext_iff_of_nodup h.1 ?_).2 fun x => ?_
 ·unfold namesOf
  refine List.pairwise_map.2 (List.Pairwise.imp (fun {a b} h e => ?_) ((hs.map Ent.fi).filter (fun p => q p.1 p.2)))
  exact bb_ne h e
 ·rw [h.2 x]
  unfold namesOf gmap
  simp only [List.mem_map, List.mem_filter, hl, true_and]
  constructor
  ·rintro ⟨e, h1, h3⟩
   exact ⟨(x, e.fi), ⟨⟨(x, e), gget_mem h1, rfl⟩, h3⟩, rfl⟩
  ·rintro ⟨p, ⟨⟨⟨y, e⟩, hm, rfl⟩, h3⟩, rfl⟩
   exact ⟨e, gget_of_mem hs hm, h3⟩
theorem Coll.len (h : Coll L q left ss) : ss.length ≤ L.length := by
 have h1 : ss.Nodup := h.1
 have : ss ⊆ L.map (·.1) := fun x hx => by
  obtain ⟨e, h1, _⟩ := (h.2 x).1 hx
  exact List.mem_map.2 ⟨(x, e), gget_mem h1, rfl⟩
 have := h1.length_le_of_subset this
 simpa using this
end
/-- What is sorted is what stands in the list. -/
theorem sort_names {F : List (Nm × Fi)} (hF : Srt F) (q : Nm → Fi → Bool) {ss : List Nm} (h : ss.Perm (namesOf F q)) : (ss.mergeSort fun x y => decide (x ≤ y)) = namesOf F q := by
 have tr : ∀ a b c : Nm, decide (a ≤ b) = true → decide (b ≤ c) = true → decide (a ≤ c) = true := fun a b c h1 h2 => by simp only [decide_eq_true_eq] at *; exact List.le_trans h1 h2
 have to : ∀ a b : Nm, (decide (a ≤ b) || decide (b ≤ a)) = true := fun a b => by simp only [Bool.or_eq_true, decide_eq_true_eq]; exact List.le_total a b
 refine List.Perm.eq_of_pairwise (le := fun a b : Nm => decide (a ≤ b) = true) (fun a b _ _ h1 h2 => ?_) (List.pairwise_mergeSort tr to ss) ?_ ((List.mergeSort_perm ss _).trans h)
 ·simp only [decide_eq_true_eq] at h1 h2; exact List.le_antisymm h1 h2
 ·unfold namesOf
  refine List.pairwise_map.2 (List.Pairwise.imp (fun {a b} h => ?_) (List.Pairwise.filter (fun p => q p.1 p.2) hF))
  rw [decide_eq_true_eq]
  exact List.le_of_lt ((bb_lt _ _).1 h)
end Go.Proofs.YtfogkegmdgbecaaGreatDoor

/- Contracts of names, List and Loose of package drive, and of the closures that names is handed. -/
namespace Go.Proofs.YtfogkegmdgbecaaGreatDoor
open Go Go.RowKit
open Go.Proofs (encStr)

def NamesAt (w : World) (ns : List Nm) (e : Ending) (w' : World) : Prop :=
 ∃ po c, e = .returned (.slice po ns.length c) ∧ TxtL w.heap.size w' (.slice po ns.length c) ns ∧ Below w.heap.size w w'
/-- The loop over the files: the map, the names that have come, and that nothing that was there has turned. -/
structure NmI (w wr : World) (m : Nat) (L : List (Nm × Ent)) (q : Nm → Fi → Bool) (v : Value) (left : Lit → Bool) (cnt : Nat) (ss : List Nm) : Prop where
 rg : wr.ranges Tryz.prog 9 RF m w.heap.size L.length (mapD L) left cnt
 co : Coll L q left ss
 tx : TxtL w.heap.size wr v ss
 be : Below w.heap.size w wr
theorem TxtL.keep {B : Nat} {w w' : World} {v : Value} {ns : List Nm} (h : TxtL B w v ns) (hk : ∀ b, v.ownBlock = some b → w'.heap[b]? = w.heap[b]?) : TxtL B w' v ns := ownsRow_keep h hk
theorem TxtL.below {B : Nat} {w w' : World} {v : Value} {ns : List Nm} (h : TxtL B w v ns) (hb : Below w.heap.size w w') : TxtL B w' v ns := h.keep fun b hb' => hb.block b (own_ge h b hb').2
theorem invK9 (key : Value) (kl : Lit) (h : keyOf Tryz.prog 9 key = some kl) : ∃ x : Nm, key = sv x := by
 obtain ⟨x, hx, _⟩ := Maps.keyOf_str under9 h; exact ⟨x, hx⟩
structure FV where
 po : Option Addr
 n : Nat
 c : Nat
 l : Bool
def mkV (c : FV) : Value := .agg #[.slice c.po c.n c.c, .bool c.l]
theorem invV9 (v : Value) (y : DataW HD × List MemPlace) (h : RF v = some y) : ∃ c, v = mkV c := by
 obtain ⟨po, n, c, l, rfl, _⟩ := RF_inv h; exact ⟨⟨po, n, c, l⟩, rfl⟩
theorem met {L : List (Nm × Ent)} {x : Nm} {c : FV} {kl : Lit} {yd : DataW HD} {yp : List MemPlace} (hk : keyOf Tryz.prog 9 (sv x) = some kl) (hv : RF (mkV c) = some (yd, yp)) (hat : ∀ zd, (mapD L).atKey kl zd = yd) :
  kl = .string x ∧ ∃ e, gget L x = some e ∧ e.v = .slice c.po c.n c.c ∧ e.l = c.l := by
 obtain ⟨x', e1, rfl, _⟩ := Maps.keyOf_str under9 hk
 obtain rfl : x = x' := encStr_inj e1
 refine ⟨rfl, ?_⟩
 have hy : yd = .held (.slice c.po c.n c.c, c.l) := by
  have := RF_mk c.po c.n c.c c.l
  unfold mkV at hv; rw [this] at hv; exact (congrArg Prod.fst (Option.some.inj hv)).symm
 subst hy
 cases hg : gget L x with
 | none => have := hat .nil; rw [mapD_at, hg] at this; cases this
 | some e =>
  have := hat .nil
  rw [mapD_at, hg] at this
  simp at this
  exact ⟨e, rfl, this.1, this.2⟩
theorem loose1_any (x : Nm) (po : Option Addr) (n c : Nat) (l : Bool) (w : World) : Calls Tryz.prog 106 #[sv x, .agg #[.slice po n c, .bool l]] w fun e w' => e = .returned (.bool l) ∧ Below w.heap.size w w' := by
 go_enter Tryz.func106, Tryz.ntmps106
 go_wp2
 go_ret
 exact ⟨rfl, (Below.refl _ _).alloc (Nat.le_refl _) _⟩
theorem list1_any (x pre : Nm) (po : Option Addr) (n c : Nat) (l : Bool) (b : Nat) (w : World) (c0 : w.cell? ⟨b, 0, none⟩ = some (sv pre)) :
  Calls Tryz.prog 104 #[sv x, .agg #[.slice po n c, .bool l], ptr b] w fun e w' => e = .returned (.bool (pre.isPrefixOf x)) ∧ Below w.heap.size w w' := by
 have hl : b < w.heap.size := cell_lt' (a := ⟨b, 0, none⟩) (by rw [c0]; simp)
 have HH := hid (fun W => Tryz.strings_HasPrefix ⟨x.toArray⟩ ⟨pre.toArray⟩ W)
 go_enter Tryz.func104, Tryz.ntmps104
 go_wp2_with (go_at_call 105; refine (HH.out _).mono ?_; rintro e w' ⟨rfl, hw'⟩; have hw2 := hw'.symm; subst hw2)
 go_ret
 exact ⟨rfl, (Below.refl _ _).alloc (Nat.le_refl _) _⟩
theorem sort_any {w : World} {B : Nat} {v : Value} {ss : List Nm} (h : TxtL B w v ss) (hn : ss.length < 4611686018427387904) :
  Calls Tryz.prog 85 #[v] w fun e w' => e = .returned (.tuple #[]) ∧ TxtL B w' v (ss.mergeSort fun x y => decide (x ≤ y)) ∧ w.grownBy w' v.ownBlock := by
 have hlen : (ss.mergeSort fun x y => decide (x ≤ y)).length = ss.length := List.length_mergeSort _
 rcases h.2 with ⟨rfl, h0⟩ | ⟨g, cap, cur, rfl, hbase, hb, h1, h2, h3, h4⟩
 ·have : ss = [] := List.eq_nil_of_length_eq_zero h0
  subst this
  refine (Tryz.slices_Sort_string_none none 0 w).mono ?_
  rintro e w' ⟨rfl, rfl⟩
  exact ⟨rfl, by simpa using h, ⟨rfl, rfl, rfl, Nat.le_refl _, fun _ _ _ => rfl⟩⟩
 ·refine (Tryz.slices_Sort_string g 0 cap ss w (holds_of_block hb (by simpa using h4)) (Array.getElem?_eq_some_iff.1 hb).1 hn).mono ?_
  rintro e w' ⟨rfl, n, os, rfl⟩
  refine ⟨rfl, ?_, grownBy_sorted _⟩
  unfold TxtL
  rw [hlen]
  exact ownsRow_sorted hlen hbase hb h1 h2 h3
theorem below_on_grown {w w1 w2 : World} {r : Option Nat} (h : Below w.heap.size w w1) (hg : w1.grownBy w2 r) (hr : ∀ b, r = some b → w.heap.size ≤ b) : Below w.heap.size w w2 :=
 ⟨hg.os.trans h.os, hg.tape.trans h.tape, hg.output.trans h.output, Nat.le_trans h.size hg.size, fun k hk => (hg.block k (Nat.lt_of_lt_of_le hk h.size) (fun e => by have := hr k e.symm; omega)).trans (h.block k hk)⟩
theorem grown_of_below {w w' : World} (h : Below w.heap.size w w') : w.grownBy w' none := ⟨h.os, h.tape, h.output, h.size, fun k hk _ => h.block k hk⟩
set_option maxRecDepth 100000 in
theorem names_o {w : World} {S : Nat → Prop} {p m : Nat} {fu : Option Nat} {d : Pd} {L : List (Nm × Ent)} (h : DrC w S p m fu d L) (q : Nm → Fi → Bool) (hqb : ∀ x b b2 l, q x (b, l) = q x (b2, l))
  (hq : ∀ w1, Below w.heap.size w w1 → ∀ x po n c l, Calls Tryz.prog 106 #[sv x, .agg #[.slice po n c, .bool l]] w1 fun e w' => e = .returned (.bool (q x ([], l))) ∧ Below w1.heap.size w1 w') (hl : d.F.length < 1000000000000) :
  Calls Tryz.prog 103 #[ptr p, .func (.func 106) #[] #[]] w (NamesAt w (namesOf d.F q)) := by
 have c2 : w.cell? ⟨p, 2, none⟩ = some (.map (some m)) := h.c.cell 2
 have hm := h.mp
 have hml := h.lt m h.sm
 have HQ := hid hq
 have HQB := hid hqb
 have HFS := hid h.fs
 have HSO := hid h.so
 have HSF := hid h.srtF
 have HL : Hid (L.length < 1000000000000) := hid (by rw [h.lenF]; exact hl)
 clear h hq hqb hl
 go_enter Tryz.func103, Tryz.ntmps103
 go_wp2_with (first | (at_range; refine wpList_range_own _ rfl _ 89 rfl 9 130 strLaw underM _ m _ _ rfl hm ?_; intro w0 hrg0 hg0 hs0) | go_in)
 go_frame
 have HI0 : Hid (NmI w w0 m L q (.slice none 0 0) (Maps.has (mapD L)) (Maps.size (mapD L)) []) := hid ⟨hrg0, Coll.start L q, World.ownsRow_nil _ _ _ _, ⟨hg0.os, hg0.tape, hg0.output, hg0.size, fun k hk => hg0.block k hk (by simp)⟩⟩
 clear hrg0 hg0 hs0
 go_loopw [5] (fun v wr => ∃ left cnt ss, NmI w wr m L q v left cnt ss) (fun _ wr => wr.rangeLeft m w.heap.size)
 case atStart => exact ⟨_, _, _, HI0.out⟩
 case round =>
  obtain ⟨left, cnt, ss, hI⟩ := hrel
  have HI := hid hI
  obtain ⟨po5, cc5, hv5⟩ := own_form hI.tx
  subst hv5
  clear hI HI0
  go_wp2_with (first
   | (at_next; refine wpList_next_ranges _ rfl _ rfl 9 strLaw RF sv mkV invK9 invV9 m w.heap.size L.length _ _ _ rfl HI.out.rg ?_ ?_)
   | go_in)
  ·intro hc0 hl0
   have HP := hid ((HI.out.co.end HSO.out hl0))
   have HSL := hid (sort_any HI.out.tx (by have := HI.out.co.len; have := HL.out; omega))
   have HE : Hid ((ss.mergeSort fun x y => decide (x ≤ y)) = namesOf d.F q) := hid (sort_names HSF.out q (by rw [HFS.out]; exact HP.out))
   clear hl0 hc0
   go_wp2_with (go_at_call 85; refine HSL.out.mono ?_; rintro e w1 ⟨rfl, htx, hgr⟩; rw [HE.out] at htx; have HTX := hid htx; have HGR := hid hgr; clear htx hgr)
   go_ret
   obtain ⟨po, cc, hf⟩ := own_form HTX.out
   refine ⟨po, cc, by rw [← hf]; rfl, by rw [← hf]; exact HTX.out, below_on_grown HI.out.be HGR.out (fun b hb => (own_ge HI.out.tx b hb).1)⟩
  ·intro x c kl yd yp w2 cnt2 hkey hlk hv hat hrg2 hlt hg2 hs2 hen
   clear hs2
   obtain ⟨hkl, en, hgx, hev, hel⟩ := met hkey hv hat
   subst hkl
   obtain ⟨po, n, cc, l⟩ := c
   simp only [mkV] at hen ⊢
   simp only at hel hev
   clear hkey hv hat
   have HB2 := hid (below_on_grown (w := w) HI.out.be hg2 (fun b hb => by cases hb; exact Nat.le_refl _))
   have HTX2 := hid (HI.out.tx.keep (w' := w2) (fun b hb => hg2.block b (own_ge HI.out.tx b hb).2 (fun e => row_ne_iter HI.out.tx HI.out.rg (by rw [hb, ← e]))))
   have HG := hid hgx
   have HEL := hid hel
   have HLK := hid hlk
   have HLT := hid hlt
   have HRG2 := hid hrg2
   clear hgx hel hev hlk hlt hrg2 hg2
   have hqq : q x en.fi = q x ([], l) := by
    have := HQB.out x en.b [] en.l
    rw [HEL.out] at this
    unfold Ent.fi
    rw [HEL.out]; exact this
   cases hb : q x ([], l)
   ·rw [hb] at hqq
    have HCO := hid (HI.out.co.skip HG.out hqq)
    have HQ1 := hid (fun w1 hw1 => HQ.out w1 hw1 x po n cc l)
    rw [hb] at HQ1
    clear hqq
    go_wp2_with (go_at_call 106; refine (HQ1.out _ (below_on _ _ HB2.out ((Below.refl _ _).alloc (Nat.le_refl _) _))).mono ?_; rintro e w3 ⟨rfl, hb3⟩; have HB3 := hid (below_on _ _ ((Below.refl w2.heap.size w2).alloc (Nat.le_refl _) _) hb3); clear hb3)
    go_roundw
    case rel =>
     refine ⟨fun z => left z && !z.sameKey (.string x), cnt2, ss, ?_⟩
     exact ⟨HRG2.out.kept (grown_of_below HB3.out) (by simp) (by simp), HCO.out, HTX2.out.below HB3.out, below_on _ _ HB2.out HB3.out⟩
    case measure =>
     have hr3 := HRG2.out.kept (grown_of_below HB3.out) (by simp) (by simp)
     rw [hr3.left_eq, HI.out.rg.left_eq]; exact HLT.out
   ·rw [hb] at hqq
    have HCO := hid (HI.out.co.take HLK.out HG.out hqq)
    have HQ1 := hid (fun w1 hw1 => HQ.out w1 hw1 x po n cc l)
    rw [hb] at HQ1
    clear hqq
    go_wp2_with (first
     | (go_at_call 106; refine (HQ1.out _ (below_on _ _ HB2.out ((Below.refl _ _).alloc (Nat.le_refl _) _))).mono ?_; rintro e w3 ⟨rfl, hb3⟩; have HB3 := hid (below_on _ _ ((Below.refl w2.heap.size w2).alloc (Nat.le_refl _) _) hb3); clear hb3
        obtain ⟨v4, w4, hrun, htx4, hgr4, hloc⟩ := (HTX2.out.below HB3.out).push x (by have := HI.out.co.len; have := HL.out; omega) (Nat.le_trans HB2.out.size HB3.out.size)
        have HRUN := hid hrun; have HTX4 := hid htx4; have HGR4 := hid hgr4; have HLOC := hid hloc; clear hrun htx4 hgr4 hloc)
     | (at_builtin; refine wpList_append_run _ _ 32 rfl rfl _ _ v4 rfl rfl HRUN.out ?_))
    go_roundw
    case rel =>
     refine ⟨fun z => left z && !z.sameKey (.string x), cnt2, ss ++ [x], ?_⟩
     have hge := fun b hb => (own_ge HTX2.out b hb).1
     have hr3 := HRG2.out.kept (grown_of_below HB3.out) (by simp) (by simp)
     have hr4 := hr3.alloc (.cells #[sv x] 9)
     have hne : some w.heap.size ≠ (Value.slice po5 ss.length cc5).ownBlock := row_ne_iter (HTX2.out.below HB3.out) hr3
     have hnm : some m ≠ (Value.slice po5 ss.length cc5).ownBlock := fun e => by have := hge m e.symm; omega
     exact ⟨hr4.kept HGR4.out hnm hne, HCO.out, HTX4.out, below_on_grown (below_on _ _ (below_on _ _ HB2.out HB3.out) ((Below.refl _ _).alloc (Nat.le_refl _) _)) HGR4.out (fun b hb => hge b hb)⟩
    case measure =>
     have hge := fun b hb => (own_ge HTX2.out b hb).1
     have hr3 := HRG2.out.kept (grown_of_below HB3.out) (by simp) (by simp)
     have hr4 := hr3.alloc (.cells #[sv x] 9)
     have hne : some w.heap.size ≠ (Value.slice po5 ss.length cc5).ownBlock := row_ne_iter (HTX2.out.below HB3.out) hr3
     have hnm : some m ≠ (Value.slice po5 ss.length cc5).ownBlock := fun e => by have := hge m e.symm; omega
     rw [(hr4.kept HGR4.out hnm hne).left_eq, HI.out.rg.left_eq]; exact HLT.out
set_option maxRecDepth 100000 in
theorem names_l {w : World} {S : Nat → Prop} {p m : Nat} {fu : Option Nat} {d : Pd} {L : List (Nm × Ent)} (h : DrC w S p m fu d L) (q : Nm → Fi → Bool) (x0 : Value) (hqb : ∀ x b b2 l, q x (b, l) = q x (b2, l))
  (hq : ∀ w1, Below w.heap.size w w1 → ∀ x po n c l, Calls Tryz.prog 104 #[sv x, .agg #[.slice po n c, .bool l], x0] w1 fun e w' => e = .returned (.bool (q x ([], l))) ∧ Below w1.heap.size w1 w') (hl : d.F.length < 1000000000000) :
  Calls Tryz.prog 103 #[ptr p, .func (.func 104) #[] #[x0]] w (NamesAt w (namesOf d.F q)) := by
 have c2 : w.cell? ⟨p, 2, none⟩ = some (.map (some m)) := h.c.cell 2
 have hm := h.mp
 have hml := h.lt m h.sm
 have HQ := hid hq
 have HQB := hid hqb
 have HFS := hid h.fs
 have HSO := hid h.so
 have HSF := hid h.srtF
 have HL : Hid (L.length < 1000000000000) := hid (by rw [h.lenF]; exact hl)
 clear h hq hqb hl
 go_enter Tryz.func103, Tryz.ntmps103
 go_wp2_with (first | (at_range; refine wpList_range_own _ rfl _ 89 rfl 9 130 strLaw underM _ m _ _ rfl hm ?_; intro w0 hrg0 hg0 hs0) | go_in)
 go_frame
 have HI0 : Hid (NmI w w0 m L q (.slice none 0 0) (Maps.has (mapD L)) (Maps.size (mapD L)) []) := hid ⟨hrg0, Coll.start L q, World.ownsRow_nil _ _ _ _, ⟨hg0.os, hg0.tape, hg0.output, hg0.size, fun k hk => hg0.block k hk (by simp)⟩⟩
 clear hrg0 hg0 hs0
 go_loopw [5] (fun v wr => ∃ left cnt ss, NmI w wr m L q v left cnt ss) (fun _ wr => wr.rangeLeft m w.heap.size)
 case atStart => exact ⟨_, _, _, HI0.out⟩
 case round =>
  obtain ⟨left, cnt, ss, hI⟩ := hrel
  have HI := hid hI
  obtain ⟨po5, cc5, hv5⟩ := own_form hI.tx
  subst hv5
  clear hI HI0
  go_wp2_with (first
   | (at_next; refine wpList_next_ranges _ rfl _ rfl 9 strLaw RF sv mkV invK9 invV9 m w.heap.size L.length _ _ _ rfl HI.out.rg ?_ ?_)
   | go_in)
  ·intro hc0 hl0
   have HP := hid ((HI.out.co.end HSO.out hl0))
   have HSL := hid (sort_any HI.out.tx (by have := HI.out.co.len; have := HL.out; omega))
   have HE : Hid ((ss.mergeSort fun x y => decide (x ≤ y)) = namesOf d.F q) := hid (sort_names HSF.out q (by rw [HFS.out]; exact HP.out))
   clear hl0 hc0
   go_wp2_with (go_at_call 85; refine HSL.out.mono ?_; rintro e w1 ⟨rfl, htx, hgr⟩; rw [HE.out] at htx; have HTX := hid htx; have HGR := hid hgr; clear htx hgr)
   go_ret
   obtain ⟨po, cc, hf⟩ := own_form HTX.out
   refine ⟨po, cc, by rw [← hf]; rfl, by rw [← hf]; exact HTX.out, below_on_grown HI.out.be HGR.out (fun b hb => (own_ge HI.out.tx b hb).1)⟩
  ·intro x c kl yd yp w2 cnt2 hkey hlk hv hat hrg2 hlt hg2 hs2 hen
   clear hs2
   obtain ⟨hkl, en, hgx, hev, hel⟩ := met hkey hv hat
   subst hkl
   obtain ⟨po, n, cc, l⟩ := c
   simp only [mkV] at hen ⊢
   simp only at hel hev
   clear hkey hv hat
   have HB2 := hid (below_on_grown (w := w) HI.out.be hg2 (fun b hb => by cases hb; exact Nat.le_refl _))
   have HTX2 := hid (HI.out.tx.keep (w' := w2) (fun b hb => hg2.block b (own_ge HI.out.tx b hb).2 (fun e => row_ne_iter HI.out.tx HI.out.rg (by rw [hb, ← e]))))
   have HG := hid hgx
   have HEL := hid hel
   have HLK := hid hlk
   have HLT := hid hlt
   have HRG2 := hid hrg2
   clear hgx hel hev hlk hlt hrg2 hg2
   have hqq : q x en.fi = q x ([], l) := by
    have := HQB.out x en.b [] en.l
    rw [HEL.out] at this
    unfold Ent.fi
    rw [HEL.out]; exact this
   cases hb : q x ([], l)
   ·rw [hb] at hqq
    have HCO := hid (HI.out.co.skip HG.out hqq)
    have HQ1 := hid (fun w1 hw1 => HQ.out w1 hw1 x po n cc l)
    rw [hb] at HQ1
    clear hqq
    go_wp2_with (go_at_call 104; refine (HQ1.out _ (below_on _ _ HB2.out ((Below.refl _ _).alloc (Nat.le_refl _) _))).mono ?_; rintro e w3 ⟨rfl, hb3⟩; have HB3 := hid (below_on _ _ ((Below.refl w2.heap.size w2).alloc (Nat.le_refl _) _) hb3); clear hb3)
    go_roundw
    case rel =>
     refine ⟨fun z => left z && !z.sameKey (.string x), cnt2, ss, ?_⟩
     exact ⟨HRG2.out.kept (grown_of_below HB3.out) (by simp) (by simp), HCO.out, HTX2.out.below HB3.out, below_on _ _ HB2.out HB3.out⟩
    case measure =>
     have hr3 := HRG2.out.kept (grown_of_below HB3.out) (by simp) (by simp)
     rw [hr3.left_eq, HI.out.rg.left_eq]; exact HLT.out
   ·rw [hb] at hqq
    have HCO := hid (HI.out.co.take HLK.out HG.out hqq)
    have HQ1 := hid (fun w1 hw1 => HQ.out w1 hw1 x po n cc l)
    rw [hb] at HQ1
    clear hqq
    go_wp2_with (first
     | (go_at_call 104; refine (HQ1.out _ (below_on _ _ HB2.out ((Below.refl _ _).alloc (Nat.le_refl _) _))).mono ?_; rintro e w3 ⟨rfl, hb3⟩; have HB3 := hid (below_on _ _ ((Below.refl w2.heap.size w2).alloc (Nat.le_refl _) _) hb3); clear hb3
        obtain ⟨v4, w4, hrun, htx4, hgr4, hloc⟩ := (HTX2.out.below HB3.out).push x (by have := HI.out.co.len; have := HL.out; omega) (Nat.le_trans HB2.out.size HB3.out.size)
        have HRUN := hid hrun; have HTX4 := hid htx4; have HGR4 := hid hgr4; have HLOC := hid hloc; clear hrun htx4 hgr4 hloc)
     | (at_builtin; refine wpList_append_run _ _ 32 rfl rfl _ _ v4 rfl rfl HRUN.out ?_))
    go_roundw
    case rel =>
     refine ⟨fun z => left z && !z.sameKey (.string x), cnt2, ss ++ [x], ?_⟩
     have hge := fun b hb => (own_ge HTX2.out b hb).1
     have hr3 := HRG2.out.kept (grown_of_below HB3.out) (by simp) (by simp)
     have hr4 := hr3.alloc (.cells #[sv x] 9)
     have hne : some w.heap.size ≠ (Value.slice po5 ss.length cc5).ownBlock := row_ne_iter (HTX2.out.below HB3.out) hr3
     have hnm : some m ≠ (Value.slice po5 ss.length cc5).ownBlock := fun e => by have := hge m e.symm; omega
     exact ⟨hr4.kept HGR4.out hnm hne, HCO.out, HTX4.out, below_on_grown (below_on _ _ (below_on _ _ HB2.out HB3.out) ((Below.refl _ _).alloc (Nat.le_refl _) _)) HGR4.out (fun b hb => hge b hb)⟩
    case measure =>
     have hge := fun b hb => (own_ge HTX2.out b hb).1
     have hr3 := HRG2.out.kept (grown_of_below HB3.out) (by simp) (by simp)
     have hr4 := hr3.alloc (.cells #[sv x] 9)
     have hne : some w.heap.size ≠ (Value.slice po5 ss.length cc5).ownBlock := row_ne_iter (HTX2.out.below HB3.out) hr3
     have hnm : some m ≠ (Value.slice po5 ss.length cc5).ownBlock := fun e => by have := hge m e.symm; omega
     rw [(hr4.kept HGR4.out hnm hne).left_eq, HI.out.rg.left_eq]; exact HLT.out
end Go.Proofs.YtfogkegmdgbecaaGreatDoor

/- Contracts of Loose and List of package drive; texts held against one another. -/
namespace Go.Proofs.YtfogkegmdgbecaaGreatDoor
open Go Go.RowKit

section
variable {w : World} {S : Nat → Prop} {p m : Nat} {fu : Option Nat} {d : Pd} {L : List (Nm × Ent)}
theorem loose_any (h : DrC w S p m fu d L) (hl : d.F.length < 1000000000000) : Calls Tryz.prog 46 #[ptr p] w (NamesAt w d.loose) := by
 have hmade := made_any h
 have HN := hid (names_o h (fun _ x => x.2) (fun _ _ _ _ => rfl) (fun w1 _ x po n c l => loose1_any x po n c l w1) hl)
 clear h
 go_enter Tryz.func46, Tryz.ntmps46
 go_wp2_with (first
  | (go_at_call 88; refine hmade.mono ?_; rintro e w' ⟨rfl, hw'⟩; have hw2 := hw'.symm; subst hw2)
  | (go_at_call 103; refine HN.out.mono ?_; rintro e w1 ⟨po, c, rfl, htx, hb⟩; have HR := hid (And.intro htx hb); clear htx hb))
 go_ret
 exact ⟨po, c, rfl, HR.out.1, HR.out.2⟩
def Pd.list (d : Pd) (f : Fs) (pre : Nm) : List Nm := if d.ans f [] = 0 then namesOf d.F (fun x _ => pre.isPrefixOf x) else []
def ListAt (w : World) (er : Nat) (ns : List Nm) (e : Ending) (w' : World) : Prop :=
 ∃ po c, e = .returned (.tuple #[.slice po ns.length c, .int .i64 (er : Int)]) ∧ TxtL w.heap.size w' (.slice po ns.length c) ns ∧ Below w.heap.size w w'
theorem TxtL.base {B B2 : Nat} {w : World} {v : Value} {ns : List Nm} (h : TxtL B w v ns) (hB : B2 ≤ B) : TxtL B2 w v ns := own_base h hB
theorem list_any (h : DrC w S p m fu d L) {f : Fs} (hf : FuAt w S fu f) (pre : Nm) (hl : d.F.length < 1000000000000) : Calls Tryz.prog 41 #[ptr p, sv pre] w (ListAt w (d.ans f []) (d.list f pre)) := by
 have HA := hid (fun (o : Obj) => answers_any (h.alloc o) (hf.alloc o) (.slice none 0 0) [] (Or.inl ⟨rfl, rfl⟩) (by simp) (by simp))
 have HN := hid (names_l (h.alloc (.cells #[sv pre] 9)) (fun x _ => pre.isPrefixOf x) (ptr w.heap.size) (fun _ _ _ _ => rfl) (fun w1 hw1 x po n c l => list1_any x pre po n c l w.heap.size w1 (((CAt.made w _ _).below hw1).cell 0)) hl)
 clear h hf
 by_cases ha : d.ans f [] = 0
 ·have e : d.list f pre = namesOf d.F (fun x _ => pre.isPrefixOf x) := by unfold Pd.list; rw [if_pos ha]
  rw [e, ha]
  clear e
  go_enter Tryz.func41, Tryz.ntmps41
  go_wp2_with (first
   | (go_at_call 96; refine (HA.out _).mono ?_; rintro e w' ⟨rfl, hw'⟩; rw [ha]; have hw2 := hw'.symm; subst hw2)
   | (go_at_call 103; refine HN.out.mono ?_; rintro e w1 ⟨po, c, rfl, htx, hb⟩; have HR := hid (And.intro htx hb); clear htx hb))
  go_ret2
  exact ⟨po, c, rfl, HR.out.1.base (by rw [size_al]; omega), below_on _ _ ((Below.refl _ _).alloc (Nat.le_refl _) _) HR.out.2⟩
 ·have e : d.list f pre = [] := by unfold Pd.list; rw [if_neg ha]
  rw [e]
  clear e
  have ha' : ((d.ans f [] : Nat) : Int) ≠ 0 := by omega
  generalize hx : d.ans f [] = x at *
  go_enter Tryz.func41, Tryz.ntmps41
  go_wp2_with (first
   | (go_at_call 96; refine (HA.out _).mono ?_; rintro e w' ⟨rfl, hw'⟩; have hw2 := hw'.symm; subst hw2))
  go_ret2
  exact ⟨none, 0, rfl, World.ownsRow_nil _ _ _ _, (Below.refl _ _).alloc (Nat.le_refl _) _⟩
end
theorem TxtL.at {B : Nat} {w : World} {v : Value} {ns : List Nm} (h : TxtL B w v ns) : TxtAt w v ns := by
 rcases h.2 with ⟨rfl, h0⟩ | ⟨g, cap, cur, rfl, _, hg, h1, _, h3, h4⟩
 ·exact Or.inl ⟨List.eq_nil_of_length_eq_zero h0, rfl⟩
 ·refine Or.inr ⟨g, cap, rfl, fun i hi => ?_⟩
  have hc : CAt w g cur 9 := hg
  rw [hc.cell]
  have := congrArg (fun l => l[i]?) h4
  simp [hi] at this
  rw [this, getD_in _ _ _ hi]
theorem TxtAt.below {w w' : World} {v : Value} {ns : List Nm} (h : TxtAt w v ns) (hb : Below w.heap.size w w') : TxtAt w' v ns := by
 rcases h with h | ⟨b, c, rfl, h⟩
 ·exact Or.inl h
 ·exact Or.inr ⟨b, c, rfl, fun i hi => (World.cell?_of_block (hb.block b (cell_lt' (a := ⟨b, i, none⟩) (by rw [h i hi]; simp)))).trans (h i hi)⟩
set_option maxHeartbeats 400000 in
theorem sameTexts_true (a b : Value) (ns : List Nm) (w : World) (hn : ns.length ≤ 1000000000000) (ha : TxtAt w a ns) (hb : TxtAt w b ns) :
  Calls Tryz.prog 26 #[a, b] w fun e w' => e = .returned (.bool true) ∧ ∃ k, w' = w.drewN k := by
 by_cases h0 : ns = []
 ·subst h0
  have fa : ∃ pa ca, a = .slice pa 0 ca := by rcases ha with ⟨_, rfl⟩ | ⟨b, c, rfl, _⟩ <;> exact ⟨_, _, rfl⟩
  have fb : ∃ pa ca, b = .slice pa 0 ca := by rcases hb with ⟨_, rfl⟩ | ⟨b, c, rfl, _⟩ <;> exact ⟨_, _, rfl⟩
  obtain ⟨pa, ca, rfl⟩ := fa
  obtain ⟨pb, cb, rfl⟩ := fb
  clear ha hb
  go_enter Tryz.func26, Tryz.ntmps26
  go_wp2
  refine wp_loop_rounds 1 ?_
  rw [rounds_succ]
  go_wp2
  go_ret
  exact ⟨rfl, 0, rfl⟩
 ·rcases ha with ⟨h, _⟩ | ⟨ga, ca, rfl, ha⟩
  ·exact absurd h h0
  rcases hb with ⟨h, _⟩ | ⟨gb, cb, rfl, hb⟩
  ·exact absurd h h0
  clear h0
  have HP := hid ha
  have HQ := hid hb
  clear ha hb
  go_enter Tryz.func26, Tryz.ntmps26
  go_wp2
  go_loopw [5] (fun v wr => ∃ i : Nat, i ≤ ns.length ∧ v = .int .i64 (i : Int) ∧ ∃ k, wr = w.drewN k) (fun v _ => (ns.length - intOf v).toNat)
  case atStart => exact ⟨0, by omega, rfl, 0, rfl⟩
  case round =>
   obtain ⟨i, hi, rfl, hw⟩ := hrel
   have HW := hid hw
   have hcell : ∀ a : Addr, wr.cell? a = w.cell? a := by obtain ⟨k, rfl⟩ := hw; intro a; rfl
   have HCE := hid hcell
   clear hw hcell
   by_cases hlt : i < ns.length
   ·have c1 := (HCE.out _).trans (HP.out i hlt)
    have c2 := (HCE.out _).trans (HQ.out i hlt)
    have hlt' : (i : Int) < (ns.length : Int) := by omega
    unfold sv at c1 c2
    generalize (⟨(ns.getD i []).toArray⟩ : ByteArray) = bs at c1 c2
    go_wp2
    go_quiet (fail)
    go_wp2
    go_roundw
    case rel =>
     refine ⟨i + 1, by omega, by go_num, ?_⟩
     obtain ⟨k, rfl⟩ := HW.out
     first | exact ⟨_, rfl⟩ | exact ⟨k + nq, by simp [World.drewN, Nat.add_assoc]⟩
    case measure => simp [intOf]; omega
   ·have hlt' : ¬ (i : Int) < (ns.length : Int) := by omega
    go_wp2
    go_ret
    exact ⟨rfl, HW.out⟩
end Go.Proofs.YtfogkegmdgbecaaGreatDoor

/- Contract of awake of the statements: the document's example is answered as it says. -/
namespace Go.Proofs.YtfogkegmdgbecaaGreatDoor
open Go Go.RowKit

/-- A drive of one's own, without a fuse, made since w. -/
structure AW (w wk : World) (S : Nat → Prop) (p : Nat) (d : Pd) : Prop where
 dr : DrAt wk S p none d
 ge : ∀ b, S b → w.heap.size ≤ b
 be : Below w.heap.size w wk
section
variable {w wk : World} {S : Nat → Prop} {p : Nat} {d : Pd}
theorem AW.below (h : AW w wk S p d) {w' : World} (hb : Below wk.heap.size wk w') : AW w w' S p d := by
 obtain ⟨m, L, hd⟩ := h.dr
 exact ⟨⟨m, L, hd.below hb⟩, h.ge, below_on _ _ h.be hb⟩
theorem AW.alloc (h : AW w wk S p d) (o : Obj) : AW w (wk.alloc o) S p d := h.below ((Below.refl _ _).alloc (Nat.le_refl _) _)
theorem AW.next (h : AW w wk S p d) {r : Nat × Pd × Fs} {e : Ending} {w' : World} (hD : Done wk S p none r e w') : e = .returned (.int .i64 (r.1 : Int)) ∧ ∃ S2, AW w w' S2 p r.2.1 := by
 obtain ⟨h1, S2, hg, hd, _, ho⟩ := hD
 refine ⟨h1, S2, hd, fun b hb => ?_, ?_⟩
 ·rcases hg.2 b hb with h2 | h2
  ·exact h.ge b h2
  ·exact Nat.le_trans h.be.size h2
 ·exact ⟨ho.os.trans h.be.os, ho.tape.trans h.be.tape, ho.output.trans h.be.output, Nat.le_trans h.be.size ho.size, fun k hk => (ho.block k (Nat.lt_of_lt_of_le hk h.be.size) (fun e => by
    rcases e with e | e
    ·have := h.ge k e; omega
    ·cases e)).trans (h.be.block k hk)⟩
theorem AW.made {w1 : World} {n : Nat} {p : Nat} (hd : DrAt w1 (fun b => w.heap.size ≤ b ∧ b < w1.heap.size) p none (fresh n)) (hb : Below w.heap.size w w1) : AW w w1 (fun b => w.heap.size ≤ b ∧ b < w1.heap.size) p (fresh n) := ⟨hd, fun _ h => h.1, hb⟩
theorem AW.write (h : AW w wk S p d) (s : Nm) (hs : s.length ≤ maxLen) (po : Option Addr) (c : Nat) (bs : List Nat) (h8 : ∀ y ∈ bs, y < 256) (hx : BAt wk po bs) (hn : bs.length ≤ 140737488355328) (ho : d.ops < 1000000000000) (hl : d.F.length < 1000000000000) {r : Nat × Pd × Fs} (hr : d.write none s bs = r) :
  Calls Tryz.prog 38 #[ptr p, sv s, .slice po bs.length c] wk fun e w' => e = .returned (.int .i64 (r.1 : Int)) ∧ ∃ S2, AW w w' S2 p r.2.1 := by
 obtain ⟨m, L, hd⟩ := h.dr
 subst hr
 exact (write_any hd (f := none) trivial s hs po c bs h8 hx hn ho hl).mono fun e w' hD => h.next hD
theorem AW.sync (h : AW w wk S p d) (s : Nm) (hs : s.length ≤ maxLen) (ho : d.ops < 1000000000000) (hl : d.F.length < 1000000000000) {r : Nat × Pd × Fs} (hr : d.sync none s = r) :
  Calls Tryz.prog 115 #[ptr p, sv s] wk fun e w' => e = .returned (.int .i64 (r.1 : Int)) ∧ ∃ S2, AW w w' S2 p r.2.1 := by
 obtain ⟨m, L, hd⟩ := h.dr
 subst hr
 exact (sync_any hd (f := none) trivial s hs ho hl).mono fun e w' hD => h.next hD
end
end Go.Proofs.YtfogkegmdgbecaaGreatDoor

/- Contracts of Offline, Full and Crash of package drive. -/
namespace Go.Proofs.YtfogkegmdgbecaaGreatDoor
open Go Go.RowKit

section
variable {α : Type}
theorem gget_cons_ne {p : Nm × α} {L : List (Nm × α)} {s : Nm} (h : p.1 ≠ s) : gget (p :: L) s = gget L s := by unfold gget; rw [List.find?_cons_of_neg (by simp [h])]
theorem gget_cons_eq {p : Nm × α} {L : List (Nm × α)} : gget (p :: L) p.1 = some p.2 := by unfold gget; rw [List.find?_cons_of_pos (by simp)]; rfl
theorem gdel_cons_ne {p : Nm × α} {L : List (Nm × α)} {s : Nm} (h : p.1 ≠ s) : gdel (p :: L) s = p :: gdel L s := by unfold gdel; rw [List.filter_cons_of_pos (by simp [h])]
theorem gdel_cons_eq {p : Nm × α} {L : List (Nm × α)} : gdel (p :: L) p.1 = gdel L p.1 := by unfold gdel; rw [List.filter_cons_of_neg (by simp)]
theorem gdel_none {L : List (Nm × α)} {s : Nm} (h : ∀ p ∈ L, p.1 ≠ s) : gdel L s = L := by unfold gdel; rw [List.filter_eq_self]; intro p hp; simp [h p hp]
theorem gput_cons {p : Nm × α} {L : List (Nm × α)} {s : Nm} {a : α} (h : bytesBefore p.1 s = true) : gput (p :: L) s a = p :: gput L s a := by
 have h2 : ¬ bytesBefore s p.1 = true := fun h3 => by have := bb_trans h h3; rw [bb_irrefl] at this; cases this
 unfold gput; rw [gdel_cons_ne (bb_ne h)]; rw [gins, if_neg h2]
theorem gput_first {L : List (Nm × α)} {s : Nm} {a : α} (h : ∀ p ∈ L, bytesBefore s p.1 = true) : gput L s a = (s, a) :: L := by
 unfold gput
 rw [gdel_none fun p hp => (bb_ne (h p hp)).symm]
 cases L with
 | nil => rfl
 | cons y r => rw [gins, if_pos (h y (by simp))]
end
/-- What is left of files where the first i loose ones have been looked at. -/
def crashI : List (Nm × Fi) → List Bool → Nat → List (Nm × Fi)
 | [], _, _ => []
 | (s, (b, false)) :: r, ks, i => (s, (b, false)) :: crashI r ks i
 | (s, (b, true)) :: r, _, 0 => (s, (b, true)) :: r
 | (s, (b, true)) :: r, ks, i + 1 => if ks.headD false then (s, (b, false)) :: crashI r ks.tail i else crashI r ks.tail i
def looseN (F : List (Nm × Fi)) : List Nm := namesOf F fun _ x => x.2
theorem looseN_f (s : Nm) (b : List Nat) (r : List (Nm × Fi)) : looseN ((s, (b, false)) :: r) = looseN r := by simp [looseN, namesOf]
theorem looseN_t (s : Nm) (b : List Nat) (r : List (Nm × Fi)) : looseN ((s, (b, true)) :: r) = s :: looseN r := by simp [looseN, namesOf]
def crOne (F : List (Nm × Fi)) (s : Nm) (k : Bool) : List (Nm × Fi) := if k then gput (gdel F s) s (((gget F s).getD ([], false)).1, false) else gdel F s
theorem crashI_zero : ∀ (F : List (Nm × Fi)) (ks : List Bool), crashI F ks 0 = F
 | [], _ => rfl
 | (s, (b, false)) :: r, ks => by rw [crashI, crashI_zero r ks]
 | (s, (b, true)) :: r, ks => by rw [crashI]
theorem crOne_cons {p : Nm × Fi} {G : List (Nm × Fi)} {t : Nm} (h : bytesBefore p.1 t = true) (k : Bool) : crOne (p :: G) t k = p :: crOne G t k := by
 unfold crOne
 rw [gget_cons_ne (bb_ne h), gdel_cons_ne (bb_ne h)]
 cases k
 ·rfl
 ·simp only [if_true]; rw [gput_cons h]
theorem looseN_after {F : List (Nm × Fi)} {s : Nm} (h : ∀ p ∈ F, bytesBefore s p.1 = true) : ∀ t ∈ looseN F, bytesBefore s t = true := by
 intro t ht
 unfold looseN namesOf at ht
 obtain ⟨p, hp, rfl⟩ := List.mem_map.1 ht
 exact h p (List.mem_filter.1 hp).1
theorem crash_step : ∀ {F : List (Nm × Fi)} (_ : Srt F) (ks : List Bool) (i : Nat) (_ : i < (looseN F).length), crashI F ks (i + 1) = crOne (crashI F ks i) ((looseN F).getD i []) (ks.getD i false)
 | [], _, _, _, h => by simp [looseN, namesOf] at h
 | (s, (b, false)) :: r, hs, ks, i, h => by
  obtain ⟨h1, h2⟩ := List.pairwise_cons.1 hs
  rw [looseN_f] at h ⊢
  rw [crashI, crashI, crash_step h2 ks i h]
  rw [crOne_cons (looseN_after h1 _ (by rw [getD_in _ _ _ h]; exact List.getElem_mem h))]
 | (s, (b, true)) :: r, hs, ks, 0, h => by
  obtain ⟨h1, h2⟩ := List.pairwise_cons.1 hs
  rw [looseN_t]
  rw [crashI, crashI, crashI_zero]
  have e1 : gdel ((s, ((b, true) : Fi)) :: r) s = r := by
   have := gdel_cons_eq (p := (s, ((b, true) : Fi))) (L := r)
   rw [this, gdel_none fun p hp => (bb_ne (h1 p hp)).symm]
  have e2 : gget ((s, ((b, true) : Fi)) :: r) s = some (b, true) := gget_cons_eq (p := (s, ((b, true) : Fi)))
  unfold crOne
  simp only [List.getD_cons_zero]
  rw [e1, e2, gput_first h1]
  cases ks <;> rfl
 | (s, (b, true)) :: r, hs, ks, i + 1, h => by
  obtain ⟨h1, h2⟩ := List.pairwise_cons.1 hs
  rw [looseN_t] at h ⊢
  have h' : i < (looseN r).length := by simpa using h
  have ih := crash_step h2 ks.tail i h'
  rw [crashI, crashI, ih]
  have e3 : (s :: looseN r).getD (i + 1) [] = (looseN r).getD i [] := by simp
  have e4 : ks.getD (i + 1) false = ks.tail.getD i false := by cases ks <;> simp
  rw [e3, e4]
  split
  ·rw [crOne_cons (p := (s, ((b, false) : Fi))) (looseN_after (s := s) h1 ((looseN r).getD i []) (by rw [getD_in _ _ _ h']; exact List.getElem_mem h'))]
  ·rfl
/-- The i-th loose file is there still, and loose, where those ahead of it have been looked at. -/
theorem crash_get : ∀ {F : List (Nm × Fi)} (_ : Srt F) (ks : List Bool) (i : Nat) (_ : i < (looseN F).length), ∃ x, gget (crashI F ks i) ((looseN F).getD i []) = some x
 | [], _, _, _, h => by simp [looseN, namesOf] at h
 | (s, (b, false)) :: r, hs, ks, i, h => by
  obtain ⟨h1, h2⟩ := List.pairwise_cons.1 hs
  rw [looseN_f] at h ⊢
  rw [crashI, gget_cons_ne (bb_ne (looseN_after h1 _ (by rw [getD_in _ _ _ h]; exact List.getElem_mem h)))]
  exact crash_get h2 ks i h
 | (s, (b, true)) :: r, hs, ks, 0, h => by rw [looseN_t, crashI]; exact ⟨_, gget_cons_eq (p := (s, ((b, true) : Fi)))⟩
 | (s, (b, true)) :: r, hs, ks, i + 1, h => by
  obtain ⟨h1, h2⟩ := List.pairwise_cons.1 hs
  rw [looseN_t] at h ⊢
  have h' : i < (looseN r).length := by simpa using h
  have e3 : (s :: looseN r).getD (i + 1) [] = (looseN r).getD i [] := by simp
  rw [e3, crashI]
  split
  ·rw [gget_cons_ne (p := (s, ((b, false) : Fi))) (bb_ne (looseN_after (s := s) h1 ((looseN r).getD i []) (by rw [getD_in _ _ _ h']; exact List.getElem_mem h')))]
   exact crash_get h2 _ i h'
  ·exact crash_get h2 _ i h'
theorem crash_len : ∀ (F : List (Nm × Fi)) (ks : List Bool) (i : Nat), (crashI F ks i).length ≤ F.length
 | [], _, _ => by simp [crashI]
 | (s, (b, false)) :: r, ks, i => by rw [crashI]; have := crash_len r ks i; simp; omega
 | (s, (b, true)) :: r, ks, 0 => by rw [crashI]; exact Nat.le_refl _
 | (s, (b, true)) :: r, ks, i + 1 => by rw [crashI]; have := crash_len r ks.tail i; split <;> simp <;> omega
def Pd.crash (d : Pd) (ks : List Bool) : Pd := { d with F := crashI d.F ks (looseN d.F).length, out := false }
end Go.Proofs.YtfogkegmdgbecaaGreatDoor
