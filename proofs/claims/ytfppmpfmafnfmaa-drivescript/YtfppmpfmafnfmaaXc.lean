/- Texts laid into one: the remark ahead of each part says what is proved there. -/
import Derived.Test.YtfppmpfmafnfmaaXb
import Derived.Sort.OwnSorted
import Derived.Maps.AppendAt
import Derived.Sort.KeysCollected
import Derived.Lib.SlBytesConst
/- Contracts of New, Read, Up, Ops, Used, Offline and Full of package drive. -/
namespace Go.Proofs.Ytfppmpfmafnfmaa
open Go Go.RowKit

def fresh (n : Nat) : Pd := ⟨n, 0, false, false, false, []⟩
def NewAt (w : World) (n : Nat) (e : Ending) (w' : World) : Prop :=
  ∃ p, e = .returned (.tuple #[ptr p, .int .i64 0]) ∧ DrAt w' (fun b => w.heap.size ≤ b ∧ b < w'.heap.size) p none (fresh n) ∧ Below w.heap.size w w'
theorem new_ok (n : Nat) (h1 : 1 ≤ n) (h2 : n ≤ 67108864) (w : World) : Calls Try.prog 9 #[.int .i64 (n : Int)] w (NewAt w n) := by
  have hmm := @run_makeMap Try.prog
  have hbl : Below w.heap.size w ((w.alloc (.map #[] 0)).alloc (.cells #[ptr (w.heap.size + 1), .int .i64 (n : Int), .map (some w.heap.size), .int .i64 0, .int .i64 0, .bool false, .bool false, .bool false, .pointer none] 51)) := ((Below.refl _ _).alloc (Nat.le_refl _) _).alloc (by simp only [size_al]; omega) _
  have HB := hid hbl
  clear hbl
  have a1 : ¬ (n : Int) < 1 := by omega
  have a2 : ¬ 67108864 < (n : Int) := by omega
  go_enter Try.func9, Try.ntmps9
  go_wp2
  go_ret2
  refine ⟨w.heap.size + 1, rfl, ⟨w.heap.size, [], ?_⟩, HB.out⟩
  have hc := CAt.made (w.alloc (.map #[] 0)) #[ptr (w.heap.size + 1), .int .i64 (n : Int), .map (some w.heap.size), .int .i64 0, .int .i64 0, .bool false, .bool false, .bool false, .pointer none] 51
  rw [size_al] at hc
  refine { c := hc, mp := ((World.ownsMap_made w Try.prog 9 RF).alloc _), fs := rfl, ow := by simp, ap := List.Pairwise.nil, by8 := by simp, so := List.Pairwise.nil, nm := by simp, sp := ⟨by omega, by simp only [size_al]; omega⟩, sm := ⟨Nat.le_refl _, by simp only [size_al]; omega⟩, sf := by simp, lt := fun b h => h.2, us := Nat.zero_le _, sz := h2 }
theorem new_bad (n : Int) (h : n < 1 ∨ 67108864 < n) (w : World) : Calls Try.prog 9 #[.int .i64 n] w fun e w' => e = .returned (.tuple #[.pointer none, .int .i64 2]) ∧ w' = w := by
  by_cases h1 : n < 1
  · go_enter Try.func9, Try.ntmps9
    go_wp2
    go_ret2
    exact ⟨rfl, rfl⟩
  · have h2 : 67108864 < n := by omega
    go_enter Try.func9, Try.ntmps9
    go_wp2
    go_ret2
    exact ⟨rfl, rfl⟩
theorem own_BAt {w : World} {B n c : Nat} {po : Option Addr} {bs : List Nat} (h : w.ownsRow B 5 1 (.slice po n c) bs.length (bs.map u8)) : BAt w po bs := by
  rcases h.2 with ⟨e, h0⟩ | ⟨g, cap, cur, e, _, hg, h1, _, h3, h4⟩
  · cases e; exact Or.inl ⟨rfl, List.eq_nil_of_length_eq_zero h0⟩
  · cases e
    refine Or.inr ⟨_, rfl, fun i hi => ?_⟩
    have hadd : (⟨g, 0, none⟩ : Addr).add i = ⟨g, i, none⟩ := by unfold Addr.add; split <;> simp_all
    have hc : CAt w g cur 5 := hg
    rw [hadd, hc.cell]
    have := congrArg (fun l => l[i]?) h4
    simp [hi] at this
    rw [this]
    simp [u8, List.getD, List.getElem?_eq_getElem hi]
def ReadAt (w : World) (er : Nat) (bs : List Nat) (e : Ending) (w' : World) : Prop :=
  ∃ po c, e = .returned (.tuple #[.slice po bs.length c, .int .i64 (er : Int)]) ∧ w'.ownsRow w.heap.size 5 1 (.slice po bs.length c) bs.length (bs.map u8) ∧ Below w.heap.size w w'
section
variable {w : World} {S : Nat → Prop} {p m : Nat} {fu : Option Nat} {d : Pd} {L : List (Nm × Ent)}
theorem readB_ok {f : Fs} {s : Nm} {x : Fi} (h : d.readE f s = 0) (hx : gget d.F s = some x) : d.readB f s = x.1 := by
  unfold Pd.readB; rw [if_neg (by simp [(readE_ok h).1]), hx]
theorem readB_bad {f : Fs} {s : Nm} (h : d.readE f s ≠ 0) : d.readB f s = [] := by
  unfold Pd.readB
  rcases readE_not h with ⟨h1, _⟩ | ⟨h1, h2, _⟩
  · rw [if_pos h1]
  · rw [if_neg (by simp [h1]), h2]
set_option maxRecDepth 100000 in
theorem read_any (h : DrC w S p m fu d L) {f : Fs} (hf : FuAt w S fu f) (s : Nm) (hs : s.length ≤ maxLen) :
    Calls Try.prog 21 #[ptr p, sv s] w (ReadAt w (d.readE f s) (d.readB f s)) := by
  have H := hid h
  have HFD := hid (find_any h hf s hs)
  have hus := h.us
  have hsz := h.sz
  have HSR := hid h.srtF
  clear h hf
  by_cases hr : d.readE f s = 0
  · obtain ⟨e, po, c, hg, hv, hev, hgF⟩ := H.out.getE hr
    have HV : Hid (fileOf (findV d f L s) = .agg #[.slice po e.b.length c, .bool e.l]) := hid (by rw [hv, ← hev])
    have HEQ := hid (readB_ok hr hgF)
    have hle := used_le HSR.out hgF
    simp only at hle
    have HLE := hid hle
    have HEV := hid hev
    have HOW := hid (H.out.ow _ (gget_mem hg))
    have HSF := hid (H.out.sf _ (gget_mem hg))
    clear hv hev hgF hle
    go_enter Try.func21, Try.ntmps21
    go_wp2_with (first
      | (go_at_call 59; refine HFD.out.mono ?_; rintro e1 w1 ⟨rfl, hb1⟩; rw [hr, HV.out]; have HB1 := hid hb1; have H1 := hid ((H.out.below hb1).alloc (.cells #[.slice po e.b.length c, .bool e.l] 78)); clear hb1)
      | (go_at_call 41; refine (clone_any po c e.b _ (own_BAt (c := c) (n := e.b.length) (B := 0) (by have := H1.out.ow _ (gget_mem hg); simp only at this; rw [HEV.out] at this; exact this)) (by have := HLE.out; omega)).mono ?_; rintro e2 w2 ⟨pv, cv, rfl, ho2, hb2⟩; have HO2 := hid ho2; have HB2 := hid hb2; clear ho2 hb2))
    go_ret2
    rw [hr, HEQ.out]
    have hbb := below_on _ _ HB1.out ((Below.refl w1.heap.size w1).alloc (Nat.le_refl _) (.cells #[.slice po e.b.length c, .bool e.l] 78))
    exact ⟨pv, cv, rfl, own_base HO2.out hbb.size, below_on _ _ hbb HB2.out⟩
  · have HEQ := hid (readB_bad hr)
    have HV := hid (findV_bad (L := L) hr)
    have hr' : ((d.readE f s : Nat) : Int) ≠ 0 := by omega
    generalize hx : d.readE f s = x at *
    go_enter Try.func21, Try.ntmps21
    go_wp2_with (first
      | (go_at_call 59; refine HFD.out.mono ?_; rintro e1 w1 ⟨rfl, hb1⟩; rw [hx, HV.out]; have HB1 := hid hb1; clear hb1))
    go_ret2
    rw [HEQ.out]
    exact ⟨none, 0, rfl, World.ownsRow_nil _ _ _ _, below_on _ _ HB1.out ((Below.refl w1.heap.size w1).alloc (Nat.le_refl _) _)⟩
def Pd.up (d : Pd) (f : Fs) : Bool := !d.isOut f && !d.offl
theorem up_any (h : DrC w S p m fu d L) {f : Fs} (hf : FuAt w S fu f) : Calls Try.prog 34 #[ptr p] w fun e w' => e = .returned (.bool (d.up f)) ∧ w' = w := by
  have c5 : w.cell? ⟨p, 5, none⟩ = some (.bool d.offl) := h.c.cell 5
  have hmade := made_any h
  have hout := isOut_any h hf
  clear h hf
  unfold Pd.up
  cases ho : d.isOut f <;> rw [ho] at hout <;> cases hof : d.offl <;> rw [hof] at c5 <;>
  · go_enter Try.func34, Try.ntmps34
    go_wp2_with (first
      | (go_at_call 40; refine hmade.mono ?_; rintro e w' ⟨rfl, hw'⟩; have hw2 := hw'.symm; subst hw2)
      | (go_at_call 42; refine hout.mono ?_; rintro e w' ⟨rfl, hw'⟩; have hw2 := hw'.symm; subst hw2))
    go_ret
    exact ⟨rfl, by first | rfl | trivial⟩
theorem ops_any (h : DrC w S p m fu d L) : Calls Try.prog 33 #[ptr p] w fun e w' => e = .returned (.int .i64 (d.ops : Int)) ∧ w' = w := by
  have c4 : w.cell? ⟨p, 4, none⟩ = some (.int .i64 (d.ops : Int)) := h.c.cell 4
  have hmade := made_any h
  clear h
  go_enter Try.func33, Try.ntmps33
  go_wp2_with (first
    | (go_at_call 40; refine hmade.mono ?_; rintro e w' ⟨rfl, hw'⟩; have hw2 := hw'.symm; subst hw2))
  go_ret
  exact ⟨rfl, by first | rfl | trivial⟩
theorem used_any (h : DrC w S p m fu d L) : Calls Try.prog 31 #[ptr p] w fun e w' => e = .returned (.int .i64 (usedOf d.F : Int)) ∧ w' = w := by
  have c3 : w.cell? ⟨p, 3, none⟩ = some (.int .i64 (usedOf d.F : Int)) := h.c.cell 3
  have hmade := made_any h
  clear h
  go_enter Try.func31, Try.ntmps31
  go_wp2_with (first
    | (go_at_call 40; refine hmade.mono ?_; rintro e w' ⟨rfl, hw'⟩; have hw2 := hw'.symm; subst hw2))
  go_ret
  exact ⟨rfl, by first | rfl | trivial⟩
end
#print axioms read_any
end Go.Proofs.Ytfppmpfmafnfmaa

/- Contract of names of package drive: which files are wanted, by rising names. -/
namespace Go.Proofs.Ytfppmpfmafnfmaa
open Go Go.RowKit

/-- Texts that lie in a row of their own. -/
def TxtL (B : Nat) (w : World) (v : Value) (ns : List Nm) : Prop := w.ownsRow B 9 1 v ns.length (ns.map sv)
theorem Try.info9 : (Try.prog.info? 9).map (fun i => (i.zero, i.size, i.bytes)) = some (some (.string ⟨#[]⟩), 1, 16) := by kernel_rfl
theorem TxtL.push {B : Nat} {w : World} {v : Value} {ns : List Nm} (h : TxtL B w v ns) (x : Nm) (hn : ns.length ≤ 1000000000000) (hB : B ≤ w.heap.size) :
    ∃ v' w', (Builtin.append_ #[54, 54] 54 #[v, .slice (some ⟨w.heap.size, 0, none⟩) 1 1]).run Try.prog (w.alloc (.cells #[sv x] 9)) = .ok v' w' ∧ TxtL B w' v' (ns ++ [x]) ∧
      (w.alloc (.cells #[sv x] 9)).grownBy w' v.ownBlock ∧ (v'.ownBlock = v.ownBlock ∨ v'.ownBlock = some (w.heap.size + 1)) := by
  obtain ⟨i0, hi0, hz0, hz1, hz2⟩ := info_parts Try.info9
  have h2 : (w.alloc (.cells #[sv x] 9)).ownsRow B 9 1 v ns.length (ns.map sv) := h.kept (World.grownBy_alloc w _ none) (by
    cases hv : v.ownBlock
    · exact Or.inl rfl
    · exact Or.inr (by simp))
  have hc : CAt (w.alloc (.cells #[sv x] 9)) w.heap.size #[sv x] 9 := CAt.made w _ _
  obtain ⟨v', w', hr, h3, h4, _, h5⟩ := run_append_own_at (P := Try.prog) (w.alloc (.cells #[sv x] 9)) B 54 54 9 i0 (.string ⟨#[]⟩) 1 16 Try.underlying54 hi0 hz0 hz1 hz2 rfl (by decide) v ns.length (ns.map sv) h2 ⟨w.heap.size, 0, none⟩ 1 1 [sv x] rfl (fun j u hj => by
      have : j = 0 := by rcases j with _ | j <;> simp at hj ⊢
      subst this
      simp at hj; subst hj
      have hadd : (⟨w.heap.size, 0, none⟩ : Addr).add 0 = ⟨w.heap.size, 0, none⟩ := by unfold Addr.add; split <;> simp_all
      rw [hadd, hc.cell]; rfl) (by intro u hu; simp at hu; subst hu; rfl) (by unfold maxLen; omega) (by omega) (by rw [size_al]; omega)
  refine ⟨v', w', hr, ?_, h4, by rw [size_al] at h5; exact h5⟩
  unfold TxtL; simpa using h3
theorem wpList_append_run {P : Program} {w w' : World} {ops : Array Oper} {rest : List Oper} {o : Oper} {a : Act} {Q : Exit → Act → World → Prop} (s x : Operand) (t : TypeId)
    (ho : o.op = .call { callee := .builtin .append, args := #[s, x], argTypes := #[t, t] }) (hw : Region.wanted o (yielded ops a.tmps) = true)
    (v xv v' : Value) (hs : a.eval s = v) (hx : a.eval x = xv) (hr : (Builtin.append_ #[t, t] o.type #[v, xv]).run P w = .ok v' w') (h : wpList P ops Q rest (a.put o.dst v') w') : wpList P ops Q (o :: rest) a w := by
  refine BigFrame.wpList_want hw fun K hK => ?_
  unfold Oper.wp execOp
  simp only [ho, resolve, invoke, builtin, Sem.run_bind, Sem.run_pure, Result.andThen_ok, List.map_toArray, List.map_cons, List.map_nil, hs, hx, hr]
  exact hK _ _ h
/-- The names of those that are wanted, met so far. -/
def Coll (L : List (Nm × Ent)) (q : Nm → Fi → Bool) (left : Lit → Bool) (ss : List Nm) : Prop := ss.Nodup ∧ ∀ x, x ∈ ss ↔ ∃ e, gget L x = some e ∧ left (.string x) = false ∧ q x e.fi = true
theorem Coll.start (L : List (Nm × Ent)) (q : Nm → Fi → Bool) : Coll L q (Maps.has (mapD L)) [] := by
  refine ⟨List.nodup_nil, fun x => ?_⟩
  simp only [List.not_mem_nil, false_iff]
  rintro ⟨e, h1, h2, _⟩
  rw [mapD_has, h1] at h2; cases h2
section
variable {L : List (Nm × Ent)} {q : Nm → Fi → Bool} {left : Lit → Bool} {ss : List Nm}
theorem Coll.take (h : Coll L q left ss) {x : Nm} {e : Ent} (hl : left (.string x) = true) (hg : gget L x = some e) (hq : q x e.fi = true) : Coll L q (fun z => left z && !z.sameKey (.string x)) (ss ++ [x]) := by
  have hnew : x ∉ ss := fun hx => by obtain ⟨_, _, h2, _⟩ := (h.2 x).1 hx; rw [hl] at h2; cases h2
  refine ⟨List.nodup_append.2 ⟨h.1, by simp, fun a ha b hb => by simp at hb; subst hb; exact fun e => hnew (e ▸ ha)⟩, fun y => ?_⟩
  by_cases hy : y = x
  · subst hy; simp [hg, Lit.sameKey, hq]
  · simp [h.2 y, hy, Lit.sameKey]
theorem Coll.skip (h : Coll L q left ss) {x : Nm} {e : Ent} (hg : gget L x = some e) (hq : q x e.fi = false) : Coll L q (fun z => left z && !z.sameKey (.string x)) ss := by
  refine ⟨h.1, fun y => ?_⟩
  by_cases hy : y = x
  · subst hy
    rw [h.2 y]
    constructor
    · rintro ⟨e', h1, _, h3⟩; rw [hg] at h1; cases h1; rw [hq] at h3; cases h3
    · rintro ⟨e', h1, _, h3⟩; rw [hg] at h1; cases h1; rw [hq] at h3; cases h3
  · simp [h.2 y, hy, Lit.sameKey]
theorem Coll.end (h : Coll L q left ss) (hs : Srt L) (hl : ∀ k, left k = false) : ss.Perm (namesOf (gmap Ent.fi L) q) := by
  refine (List.perm_ext_iff_of_nodup h.1 ?_).2 fun x => ?_
  · unfold namesOf
    refine List.pairwise_map.2 (List.Pairwise.imp (fun {a b} h e => ?_) ((hs.map Ent.fi).filter (fun p => q p.1 p.2)))
    exact bb_ne h e
  · rw [h.2 x]
    unfold namesOf gmap
    simp only [List.mem_map, List.mem_filter, hl, true_and]
    constructor
    · rintro ⟨e, h1, h3⟩
      exact ⟨(x, e.fi), ⟨⟨(x, e), gget_mem h1, rfl⟩, h3⟩, rfl⟩
    · rintro ⟨p, ⟨⟨⟨y, e⟩, hm, rfl⟩, h3⟩, rfl⟩
      exact ⟨e, gget_of_mem hs hm, h3⟩
theorem Coll.len (h : Coll L q left ss) : ss.length ≤ L.length := by
  have h1 : ss.Nodup := h.1
  have : ss ⊆ L.map (·.1) := fun x hx => by
    obtain ⟨e, h1, _⟩ := (h.2 x).1 hx
    exact List.mem_map.2 ⟨(x, e), gget_mem h1, rfl⟩
  have := h1.length_le_of_subset this
  simpa using this
end
/-- What is sorted is what stands in the list. -/
theorem sort_names {F : List (Nm × Fi)} (hF : Srt F) (q : Nm → Fi → Bool) {ss : List Nm} (h : ss.Perm (namesOf F q)) : (ss.mergeSort fun x y => decide (x ≤ y)) = namesOf F q := by
  have tr : ∀ a b c : Nm, decide (a ≤ b) = true → decide (b ≤ c) = true → decide (a ≤ c) = true := fun a b c h1 h2 => by simp only [decide_eq_true_eq] at *; exact List.le_trans h1 h2
  have to : ∀ a b : Nm, (decide (a ≤ b) || decide (b ≤ a)) = true := fun a b => by simp only [Bool.or_eq_true, decide_eq_true_eq]; exact List.le_total a b
  refine List.Perm.eq_of_pairwise (le := fun a b : Nm => decide (a ≤ b) = true) (fun a b _ _ h1 h2 => ?_) (List.pairwise_mergeSort tr to ss) ?_ ((List.mergeSort_perm ss _).trans h)
  · simp only [decide_eq_true_eq] at h1 h2; exact List.le_antisymm h1 h2
  · unfold namesOf
    refine List.pairwise_map.2 (List.Pairwise.imp (fun {a b} h => ?_) (List.Pairwise.filter (fun p => q p.1 p.2) hF))
    rw [decide_eq_true_eq]
    exact List.le_of_lt ((bb_lt _ _).1 h)
#print axioms sort_names
end Go.Proofs.Ytfppmpfmafnfmaa

/- Contracts of names, List and Loose of package drive, and of the closures that names is handed. -/
namespace Go.Proofs.Ytfppmpfmafnfmaa
open Go Go.RowKit
open Go.Proofs (encStr)

def NamesAt (w : World) (ns : List Nm) (e : Ending) (w' : World) : Prop :=
  ∃ po c, e = .returned (.slice po ns.length c) ∧ TxtL w.heap.size w' (.slice po ns.length c) ns ∧ Below w.heap.size w w'
/-- The loop over the files: the map, the names that have come, and that nothing that was there has turned. -/
structure NmI (w wr : World) (m : Nat) (L : List (Nm × Ent)) (q : Nm → Fi → Bool) (v : Value) (left : Lit → Bool) (cnt : Nat) (ss : List Nm) : Prop where
  rg : wr.ranges Try.prog 9 RF m w.heap.size L.length (mapD L) left cnt
  co : Coll L q left ss
  tx : TxtL w.heap.size wr v ss
  be : Below w.heap.size w wr
theorem TxtL.keep {B : Nat} {w w' : World} {v : Value} {ns : List Nm} (h : TxtL B w v ns) (hk : ∀ b, v.ownBlock = some b → w'.heap[b]? = w.heap[b]?) : TxtL B w' v ns := ownsRow_keep h hk
theorem TxtL.below {B : Nat} {w w' : World} {v : Value} {ns : List Nm} (h : TxtL B w v ns) (hb : Below w.heap.size w w') : TxtL B w' v ns := h.keep fun b hb' => hb.block b (own_ge h b hb').2
theorem invK9 (key : Value) (kl : Lit) (h : keyOf Try.prog 9 key = some kl) : ∃ x : Nm, key = sv x := by
  obtain ⟨x, hx, _⟩ := Maps.keyOf_str under9 h; exact ⟨x, hx⟩
structure FV where
  po : Option Addr
  n : Nat
  c : Nat
  l : Bool
def mkV (c : FV) : Value := .agg #[.slice c.po c.n c.c, .bool c.l]
theorem invV9 (v : Value) (y : DataW HD × List MemPlace) (h : RF v = some y) : ∃ c, v = mkV c := by
  obtain ⟨po, n, c, l, rfl, _⟩ := RF_inv h; exact ⟨⟨po, n, c, l⟩, rfl⟩
theorem met {L : List (Nm × Ent)} {x : Nm} {c : FV} {kl : Lit} {yd : DataW HD} {yp : List MemPlace} (hk : keyOf Try.prog 9 (sv x) = some kl) (hv : RF (mkV c) = some (yd, yp)) (hat : ∀ zd, (mapD L).atKey kl zd = yd) :
    kl = .string x ∧ ∃ e, gget L x = some e ∧ e.v = .slice c.po c.n c.c ∧ e.l = c.l := by
  obtain ⟨x', e1, rfl, _⟩ := Maps.keyOf_str under9 hk
  obtain rfl : x = x' := encStr_inj e1
  refine ⟨rfl, ?_⟩
  have hy : yd = .held (.slice c.po c.n c.c, c.l) := by
    have := RF_mk c.po c.n c.c c.l
    unfold mkV at hv; rw [this] at hv; exact (congrArg Prod.fst (Option.some.inj hv)).symm
  subst hy
  cases hg : gget L x with
  | none => have := hat .nil; rw [mapD_at, hg] at this; cases this
  | some e =>
    have := hat .nil
    rw [mapD_at, hg] at this
    simp at this
    exact ⟨e, rfl, this.1, this.2⟩
theorem loose1_any (x : Nm) (po : Option Addr) (n c : Nat) (l : Bool) (w : World) : Calls Try.prog 71 #[sv x, .agg #[.slice po n c, .bool l]] w fun e w' => e = .returned (.bool l) ∧ Below w.heap.size w w' := by
  go_enter Try.func71, Try.ntmps71
  go_wp2
  go_ret
  exact ⟨rfl, (Below.refl _ _).alloc (Nat.le_refl _) _⟩
theorem list1_any (x pre : Nm) (po : Option Addr) (n c : Nat) (l : Bool) (b : Nat) (w : World) (c0 : w.cell? ⟨b, 0, none⟩ = some (sv pre)) :
    Calls Try.prog 62 #[sv x, .agg #[.slice po n c, .bool l], ptr b] w fun e w' => e = .returned (.bool (pre.isPrefixOf x)) ∧ Below w.heap.size w w' := by
  have hl : b < w.heap.size := cell_lt' (a := ⟨b, 0, none⟩) (by rw [c0]; simp)
  have HH := hid (fun W => Try.strings_HasPrefix ⟨x.toArray⟩ ⟨pre.toArray⟩ W)
  go_enter Try.func62, Try.ntmps62
  go_wp2_with (go_at_call 63; refine (HH.out _).mono ?_; rintro e w' ⟨rfl, hw'⟩; have hw2 := hw'.symm; subst hw2)
  go_ret
  exact ⟨rfl, (Below.refl _ _).alloc (Nat.le_refl _) _⟩
theorem sort_any {w : World} {B : Nat} {v : Value} {ss : List Nm} (h : TxtL B w v ss) (hn : ss.length < 4611686018427387904) :
    Calls Try.prog 77 #[v] w fun e w' => e = .returned (.tuple #[]) ∧ TxtL B w' v (ss.mergeSort fun x y => decide (x ≤ y)) ∧ w.grownBy w' v.ownBlock := by
  have hlen : (ss.mergeSort fun x y => decide (x ≤ y)).length = ss.length := List.length_mergeSort _
  rcases h.2 with ⟨rfl, h0⟩ | ⟨g, cap, cur, rfl, hbase, hb, h1, h2, h3, h4⟩
  · have : ss = [] := List.eq_nil_of_length_eq_zero h0
    subst this
    refine (Try.slices_Sort_string_none none 0 w).mono ?_
    rintro e w' ⟨rfl, rfl⟩
    exact ⟨rfl, by simpa using h, ⟨rfl, rfl, rfl, Nat.le_refl _, fun _ _ _ => rfl⟩⟩
  · refine (Try.slices_Sort_string g 0 cap ss w (holds_of_block hb (by simpa using h4)) (Array.getElem?_eq_some_iff.1 hb).1 hn).mono ?_
    rintro e w' ⟨rfl, n, os, rfl⟩
    refine ⟨rfl, ?_, grownBy_sorted _⟩
    unfold TxtL
    rw [hlen]
    exact ownsRow_sorted hlen hbase hb h1 h2 h3
theorem below_on_grown {w w1 w2 : World} {r : Option Nat} (h : Below w.heap.size w w1) (hg : w1.grownBy w2 r) (hr : ∀ b, r = some b → w.heap.size ≤ b) : Below w.heap.size w w2 :=
  ⟨hg.os.trans h.os, hg.tape.trans h.tape, hg.output.trans h.output, Nat.le_trans h.size hg.size, fun k hk => (hg.block k (Nat.lt_of_lt_of_le hk h.size) (fun e => by have := hr k e.symm; omega)).trans (h.block k hk)⟩
theorem grown_of_below {w w' : World} (h : Below w.heap.size w w') : w.grownBy w' none := ⟨h.os, h.tape, h.output, h.size, fun k hk _ => h.block k hk⟩
set_option maxRecDepth 100000 in
theorem names_o {w : World} {S : Nat → Prop} {p m : Nat} {fu : Option Nat} {d : Pd} {L : List (Nm × Ent)} (h : DrC w S p m fu d L) (q : Nm → Fi → Bool) (hqb : ∀ x b b2 l, q x (b, l) = q x (b2, l))
    (hq : ∀ w1, Below w.heap.size w w1 → ∀ x po n c l, Calls Try.prog 71 #[sv x, .agg #[.slice po n c, .bool l]] w1 fun e w' => e = .returned (.bool (q x ([], l))) ∧ Below w1.heap.size w1 w') (hl : d.F.length < 1000000000000) :
    Calls Try.prog 61 #[ptr p, .func (.func 71) #[] #[]] w (NamesAt w (namesOf d.F q)) := by
  have c2 : w.cell? ⟨p, 2, none⟩ = some (.map (some m)) := h.c.cell 2
  have hm := h.mp
  have hml := h.lt m h.sm
  have HQ := hid hq
  have HQB := hid hqb
  have HFS := hid h.fs
  have HSO := hid h.so
  have HSF := hid h.srtF
  have HL : Hid (L.length < 1000000000000) := hid (by rw [h.lenF]; exact hl)
  clear h hq hqb hl
  go_enter Try.func61, Try.ntmps61
  go_wp2_with (first | (at_range; refine wpList_range_own _ rfl _ 48 rfl 9 78 strLaw underM _ m _ _ rfl hm ?_; intro w0 hrg0 hg0 hs0) | go_in)
  go_frame
  have HI0 : Hid (NmI w w0 m L q (.slice none 0 0) (Maps.has (mapD L)) (Maps.size (mapD L)) []) := hid ⟨hrg0, Coll.start L q, World.ownsRow_nil _ _ _ _, ⟨hg0.os, hg0.tape, hg0.output, hg0.size, fun k hk => hg0.block k hk (by simp)⟩⟩
  clear hrg0 hg0 hs0
  go_loopw [5] (fun v wr => ∃ left cnt ss, NmI w wr m L q v left cnt ss) (fun _ wr => wr.rangeLeft m w.heap.size)
  case atStart => exact ⟨_, _, _, HI0.out⟩
  case round =>
    obtain ⟨left, cnt, ss, hI⟩ := hrel
    have HI := hid hI
    obtain ⟨po5, cc5, hv5⟩ := own_form hI.tx
    subst hv5
    clear hI HI0
    go_wp2_with (first
      | (at_next; refine wpList_next_ranges _ rfl _ rfl 9 strLaw RF sv mkV invK9 invV9 m w.heap.size L.length _ _ _ rfl HI.out.rg ?_ ?_)
      | go_in)
    · intro hc0 hl0
      have HP := hid ((HI.out.co.end HSO.out hl0))
      have HSL := hid (sort_any HI.out.tx (by have := HI.out.co.len; have := HL.out; omega))
      have HE : Hid ((ss.mergeSort fun x y => decide (x ≤ y)) = namesOf d.F q) := hid (sort_names HSF.out q (by rw [HFS.out]; exact HP.out))
      clear hl0 hc0
      go_wp2_with (go_at_call 77; refine HSL.out.mono ?_; rintro e w1 ⟨rfl, htx, hgr⟩; rw [HE.out] at htx; have HTX := hid htx; have HGR := hid hgr; clear htx hgr)
      go_ret
      obtain ⟨po, cc, hf⟩ := own_form HTX.out
      refine ⟨po, cc, by rw [← hf]; rfl, by rw [← hf]; exact HTX.out, below_on_grown HI.out.be HGR.out (fun b hb => (own_ge HI.out.tx b hb).1)⟩
    · intro x c kl yd yp w2 cnt2 hkey hlk hv hat hrg2 hlt hg2 hs2 hen
      clear hs2
      obtain ⟨hkl, en, hgx, hev, hel⟩ := met hkey hv hat
      subst hkl
      obtain ⟨po, n, cc, l⟩ := c
      simp only [mkV] at hen ⊢
      simp only at hel hev
      clear hkey hv hat
      have HB2 := hid (below_on_grown (w := w) HI.out.be hg2 (fun b hb => by cases hb; exact Nat.le_refl _))
      have HTX2 := hid (HI.out.tx.keep (w' := w2) (fun b hb => hg2.block b (own_ge HI.out.tx b hb).2 (fun e => row_ne_iter HI.out.tx HI.out.rg (by rw [hb, ← e]))))
      have HG := hid hgx
      have HEL := hid hel
      have HLK := hid hlk
      have HLT := hid hlt
      have HRG2 := hid hrg2
      clear hgx hel hev hlk hlt hrg2 hg2
      have hqq : q x en.fi = q x ([], l) := by
        have := HQB.out x en.b [] en.l
        rw [HEL.out] at this
        unfold Ent.fi
        rw [HEL.out]; exact this
      cases hb : q x ([], l)
      · rw [hb] at hqq
        have HCO := hid (HI.out.co.skip HG.out hqq)
        have HQ1 := hid (fun w1 hw1 => HQ.out w1 hw1 x po n cc l)
        rw [hb] at HQ1
        clear hqq
        go_wp2_with (go_at_call 71; refine (HQ1.out _ (below_on _ _ HB2.out ((Below.refl _ _).alloc (Nat.le_refl _) _))).mono ?_; rintro e w3 ⟨rfl, hb3⟩; have HB3 := hid (below_on _ _ ((Below.refl w2.heap.size w2).alloc (Nat.le_refl _) _) hb3); clear hb3)
        go_roundw
        case rel =>
          refine ⟨fun z => left z && !z.sameKey (.string x), cnt2, ss, ?_⟩
          exact ⟨HRG2.out.kept (grown_of_below HB3.out) (by simp) (by simp), HCO.out, HTX2.out.below HB3.out, below_on _ _ HB2.out HB3.out⟩
        case measure =>
          have hr3 := HRG2.out.kept (grown_of_below HB3.out) (by simp) (by simp)
          rw [hr3.left_eq, HI.out.rg.left_eq]; exact HLT.out
      · rw [hb] at hqq
        have HCO := hid (HI.out.co.take HLK.out HG.out hqq)
        have HQ1 := hid (fun w1 hw1 => HQ.out w1 hw1 x po n cc l)
        rw [hb] at HQ1
        clear hqq
        go_wp2_with (first
          | (go_at_call 71; refine (HQ1.out _ (below_on _ _ HB2.out ((Below.refl _ _).alloc (Nat.le_refl _) _))).mono ?_; rintro e w3 ⟨rfl, hb3⟩; have HB3 := hid (below_on _ _ ((Below.refl w2.heap.size w2).alloc (Nat.le_refl _) _) hb3); clear hb3
             obtain ⟨v4, w4, hrun, htx4, hgr4, hloc⟩ := (HTX2.out.below HB3.out).push x (by have := HI.out.co.len; have := HL.out; omega) (Nat.le_trans HB2.out.size HB3.out.size)
             have HRUN := hid hrun; have HTX4 := hid htx4; have HGR4 := hid hgr4; have HLOC := hid hloc; clear hrun htx4 hgr4 hloc)
          | (at_builtin; refine wpList_append_run _ _ 54 rfl rfl _ _ v4 rfl rfl HRUN.out ?_))
        go_roundw
        case rel =>
          refine ⟨fun z => left z && !z.sameKey (.string x), cnt2, ss ++ [x], ?_⟩
          have hge := fun b hb => (own_ge HTX2.out b hb).1
          have hr3 := HRG2.out.kept (grown_of_below HB3.out) (by simp) (by simp)
          have hr4 := hr3.alloc (.cells #[sv x] 9)
          have hne : some w.heap.size ≠ (Value.slice po5 ss.length cc5).ownBlock := row_ne_iter (HTX2.out.below HB3.out) hr3
          have hnm : some m ≠ (Value.slice po5 ss.length cc5).ownBlock := fun e => by have := hge m e.symm; omega
          exact ⟨hr4.kept HGR4.out hnm hne, HCO.out, HTX4.out, below_on_grown (below_on _ _ (below_on _ _ HB2.out HB3.out) ((Below.refl _ _).alloc (Nat.le_refl _) _)) HGR4.out (fun b hb => hge b hb)⟩
        case measure =>
          have hge := fun b hb => (own_ge HTX2.out b hb).1
          have hr3 := HRG2.out.kept (grown_of_below HB3.out) (by simp) (by simp)
          have hr4 := hr3.alloc (.cells #[sv x] 9)
          have hne : some w.heap.size ≠ (Value.slice po5 ss.length cc5).ownBlock := row_ne_iter (HTX2.out.below HB3.out) hr3
          have hnm : some m ≠ (Value.slice po5 ss.length cc5).ownBlock := fun e => by have := hge m e.symm; omega
          rw [(hr4.kept HGR4.out hnm hne).left_eq, HI.out.rg.left_eq]; exact HLT.out
set_option maxRecDepth 100000 in
theorem names_l {w : World} {S : Nat → Prop} {p m : Nat} {fu : Option Nat} {d : Pd} {L : List (Nm × Ent)} (h : DrC w S p m fu d L) (q : Nm → Fi → Bool) (x0 : Value) (hqb : ∀ x b b2 l, q x (b, l) = q x (b2, l))
    (hq : ∀ w1, Below w.heap.size w w1 → ∀ x po n c l, Calls Try.prog 62 #[sv x, .agg #[.slice po n c, .bool l], x0] w1 fun e w' => e = .returned (.bool (q x ([], l))) ∧ Below w1.heap.size w1 w') (hl : d.F.length < 1000000000000) :
    Calls Try.prog 61 #[ptr p, .func (.func 62) #[] #[x0]] w (NamesAt w (namesOf d.F q)) := by
  have c2 : w.cell? ⟨p, 2, none⟩ = some (.map (some m)) := h.c.cell 2
  have hm := h.mp
  have hml := h.lt m h.sm
  have HQ := hid hq
  have HQB := hid hqb
  have HFS := hid h.fs
  have HSO := hid h.so
  have HSF := hid h.srtF
  have HL : Hid (L.length < 1000000000000) := hid (by rw [h.lenF]; exact hl)
  clear h hq hqb hl
  go_enter Try.func61, Try.ntmps61
  go_wp2_with (first | (at_range; refine wpList_range_own _ rfl _ 48 rfl 9 78 strLaw underM _ m _ _ rfl hm ?_; intro w0 hrg0 hg0 hs0) | go_in)
  go_frame
  have HI0 : Hid (NmI w w0 m L q (.slice none 0 0) (Maps.has (mapD L)) (Maps.size (mapD L)) []) := hid ⟨hrg0, Coll.start L q, World.ownsRow_nil _ _ _ _, ⟨hg0.os, hg0.tape, hg0.output, hg0.size, fun k hk => hg0.block k hk (by simp)⟩⟩
  clear hrg0 hg0 hs0
  go_loopw [5] (fun v wr => ∃ left cnt ss, NmI w wr m L q v left cnt ss) (fun _ wr => wr.rangeLeft m w.heap.size)
  case atStart => exact ⟨_, _, _, HI0.out⟩
  case round =>
    obtain ⟨left, cnt, ss, hI⟩ := hrel
    have HI := hid hI
    obtain ⟨po5, cc5, hv5⟩ := own_form hI.tx
    subst hv5
    clear hI HI0
    go_wp2_with (first
      | (at_next; refine wpList_next_ranges _ rfl _ rfl 9 strLaw RF sv mkV invK9 invV9 m w.heap.size L.length _ _ _ rfl HI.out.rg ?_ ?_)
      | go_in)
    · intro hc0 hl0
      have HP := hid ((HI.out.co.end HSO.out hl0))
      have HSL := hid (sort_any HI.out.tx (by have := HI.out.co.len; have := HL.out; omega))
      have HE : Hid ((ss.mergeSort fun x y => decide (x ≤ y)) = namesOf d.F q) := hid (sort_names HSF.out q (by rw [HFS.out]; exact HP.out))
      clear hl0 hc0
      go_wp2_with (go_at_call 77; refine HSL.out.mono ?_; rintro e w1 ⟨rfl, htx, hgr⟩; rw [HE.out] at htx; have HTX := hid htx; have HGR := hid hgr; clear htx hgr)
      go_ret
      obtain ⟨po, cc, hf⟩ := own_form HTX.out
      refine ⟨po, cc, by rw [← hf]; rfl, by rw [← hf]; exact HTX.out, below_on_grown HI.out.be HGR.out (fun b hb => (own_ge HI.out.tx b hb).1)⟩
    · intro x c kl yd yp w2 cnt2 hkey hlk hv hat hrg2 hlt hg2 hs2 hen
      clear hs2
      obtain ⟨hkl, en, hgx, hev, hel⟩ := met hkey hv hat
      subst hkl
      obtain ⟨po, n, cc, l⟩ := c
      simp only [mkV] at hen ⊢
      simp only at hel hev
      clear hkey hv hat
      have HB2 := hid (below_on_grown (w := w) HI.out.be hg2 (fun b hb => by cases hb; exact Nat.le_refl _))
      have HTX2 := hid (HI.out.tx.keep (w' := w2) (fun b hb => hg2.block b (own_ge HI.out.tx b hb).2 (fun e => row_ne_iter HI.out.tx HI.out.rg (by rw [hb, ← e]))))
      have HG := hid hgx
      have HEL := hid hel
      have HLK := hid hlk
      have HLT := hid hlt
      have HRG2 := hid hrg2
      clear hgx hel hev hlk hlt hrg2 hg2
      have hqq : q x en.fi = q x ([], l) := by
        have := HQB.out x en.b [] en.l
        rw [HEL.out] at this
        unfold Ent.fi
        rw [HEL.out]; exact this
      cases hb : q x ([], l)
      · rw [hb] at hqq
        have HCO := hid (HI.out.co.skip HG.out hqq)
        have HQ1 := hid (fun w1 hw1 => HQ.out w1 hw1 x po n cc l)
        rw [hb] at HQ1
        clear hqq
        go_wp2_with (go_at_call 62; refine (HQ1.out _ (below_on _ _ HB2.out ((Below.refl _ _).alloc (Nat.le_refl _) _))).mono ?_; rintro e w3 ⟨rfl, hb3⟩; have HB3 := hid (below_on _ _ ((Below.refl w2.heap.size w2).alloc (Nat.le_refl _) _) hb3); clear hb3)
        go_roundw
        case rel =>
          refine ⟨fun z => left z && !z.sameKey (.string x), cnt2, ss, ?_⟩
          exact ⟨HRG2.out.kept (grown_of_below HB3.out) (by simp) (by simp), HCO.out, HTX2.out.below HB3.out, below_on _ _ HB2.out HB3.out⟩
        case measure =>
          have hr3 := HRG2.out.kept (grown_of_below HB3.out) (by simp) (by simp)
          rw [hr3.left_eq, HI.out.rg.left_eq]; exact HLT.out
      · rw [hb] at hqq
        have HCO := hid (HI.out.co.take HLK.out HG.out hqq)
        have HQ1 := hid (fun w1 hw1 => HQ.out w1 hw1 x po n cc l)
        rw [hb] at HQ1
        clear hqq
        go_wp2_with (first
          | (go_at_call 62; refine (HQ1.out _ (below_on _ _ HB2.out ((Below.refl _ _).alloc (Nat.le_refl _) _))).mono ?_; rintro e w3 ⟨rfl, hb3⟩; have HB3 := hid (below_on _ _ ((Below.refl w2.heap.size w2).alloc (Nat.le_refl _) _) hb3); clear hb3
             obtain ⟨v4, w4, hrun, htx4, hgr4, hloc⟩ := (HTX2.out.below HB3.out).push x (by have := HI.out.co.len; have := HL.out; omega) (Nat.le_trans HB2.out.size HB3.out.size)
             have HRUN := hid hrun; have HTX4 := hid htx4; have HGR4 := hid hgr4; have HLOC := hid hloc; clear hrun htx4 hgr4 hloc)
          | (at_builtin; refine wpList_append_run _ _ 54 rfl rfl _ _ v4 rfl rfl HRUN.out ?_))
        go_roundw
        case rel =>
          refine ⟨fun z => left z && !z.sameKey (.string x), cnt2, ss ++ [x], ?_⟩
          have hge := fun b hb => (own_ge HTX2.out b hb).1
          have hr3 := HRG2.out.kept (grown_of_below HB3.out) (by simp) (by simp)
          have hr4 := hr3.alloc (.cells #[sv x] 9)
          have hne : some w.heap.size ≠ (Value.slice po5 ss.length cc5).ownBlock := row_ne_iter (HTX2.out.below HB3.out) hr3
          have hnm : some m ≠ (Value.slice po5 ss.length cc5).ownBlock := fun e => by have := hge m e.symm; omega
          exact ⟨hr4.kept HGR4.out hnm hne, HCO.out, HTX4.out, below_on_grown (below_on _ _ (below_on _ _ HB2.out HB3.out) ((Below.refl _ _).alloc (Nat.le_refl _) _)) HGR4.out (fun b hb => hge b hb)⟩
        case measure =>
          have hge := fun b hb => (own_ge HTX2.out b hb).1
          have hr3 := HRG2.out.kept (grown_of_below HB3.out) (by simp) (by simp)
          have hr4 := hr3.alloc (.cells #[sv x] 9)
          have hne : some w.heap.size ≠ (Value.slice po5 ss.length cc5).ownBlock := row_ne_iter (HTX2.out.below HB3.out) hr3
          have hnm : some m ≠ (Value.slice po5 ss.length cc5).ownBlock := fun e => by have := hge m e.symm; omega
          rw [(hr4.kept HGR4.out hnm hne).left_eq, HI.out.rg.left_eq]; exact HLT.out
#print axioms names_o
end Go.Proofs.Ytfppmpfmafnfmaa

/- Contracts of Loose and List of package drive; texts held against one another. -/
namespace Go.Proofs.Ytfppmpfmafnfmaa
open Go Go.RowKit

section
variable {w : World} {S : Nat → Prop} {p m : Nat} {fu : Option Nat} {d : Pd} {L : List (Nm × Ent)}
theorem loose_any (h : DrC w S p m fu d L) (hl : d.F.length < 1000000000000) : Calls Try.prog 32 #[ptr p] w (NamesAt w d.loose) := by
  have hmade := made_any h
  have HN := hid (names_o h (fun _ x => x.2) (fun _ _ _ _ => rfl) (fun w1 _ x po n c l => loose1_any x po n c l w1) hl)
  clear h
  go_enter Try.func32, Try.ntmps32
  go_wp2_with (first
    | (go_at_call 40; refine hmade.mono ?_; rintro e w' ⟨rfl, hw'⟩; have hw2 := hw'.symm; subst hw2)
    | (go_at_call 61; refine HN.out.mono ?_; rintro e w1 ⟨po, c, rfl, htx, hb⟩; have HR := hid (And.intro htx hb); clear htx hb))
  go_ret
  exact ⟨po, c, rfl, HR.out.1, HR.out.2⟩
def Pd.list (d : Pd) (f : Fs) (pre : Nm) : List Nm := if d.ans f [] = 0 then namesOf d.F (fun x _ => pre.isPrefixOf x) else []
def ListAt (w : World) (er : Nat) (ns : List Nm) (e : Ending) (w' : World) : Prop :=
  ∃ po c, e = .returned (.tuple #[.slice po ns.length c, .int .i64 (er : Int)]) ∧ TxtL w.heap.size w' (.slice po ns.length c) ns ∧ Below w.heap.size w w'
theorem TxtL.base {B B2 : Nat} {w : World} {v : Value} {ns : List Nm} (h : TxtL B w v ns) (hB : B2 ≤ B) : TxtL B2 w v ns := own_base h hB
theorem list_any (h : DrC w S p m fu d L) {f : Fs} (hf : FuAt w S fu f) (pre : Nm) (hl : d.F.length < 1000000000000) : Calls Try.prog 22 #[ptr p, sv pre] w (ListAt w (d.ans f []) (d.list f pre)) := by
  have HA := hid (fun (o : Obj) => answers_any (h.alloc o) (hf.alloc o) (.slice none 0 0) [] (Or.inl ⟨rfl, rfl⟩) (by simp) (by simp))
  have HN := hid (names_l (h.alloc (.cells #[sv pre] 9)) (fun x _ => pre.isPrefixOf x) (ptr w.heap.size) (fun _ _ _ _ => rfl) (fun w1 hw1 x po n c l => list1_any x pre po n c l w.heap.size w1 (((CAt.made w _ _).below hw1).cell 0)) hl)
  clear h hf
  by_cases ha : d.ans f [] = 0
  · have e : d.list f pre = namesOf d.F (fun x _ => pre.isPrefixOf x) := by unfold Pd.list; rw [if_pos ha]
    rw [e, ha]
    clear e
    go_enter Try.func22, Try.ntmps22
    go_wp2_with (first
      | (go_at_call 60; refine (HA.out _).mono ?_; rintro e w' ⟨rfl, hw'⟩; rw [ha]; have hw2 := hw'.symm; subst hw2)
      | (go_at_call 61; refine HN.out.mono ?_; rintro e w1 ⟨po, c, rfl, htx, hb⟩; have HR := hid (And.intro htx hb); clear htx hb))
    go_ret2
    exact ⟨po, c, rfl, HR.out.1.base (by rw [size_al]; omega), below_on _ _ ((Below.refl _ _).alloc (Nat.le_refl _) _) HR.out.2⟩
  · have e : d.list f pre = [] := by unfold Pd.list; rw [if_neg ha]
    rw [e]
    clear e
    have ha' : ((d.ans f [] : Nat) : Int) ≠ 0 := by omega
    generalize hx : d.ans f [] = x at *
    go_enter Try.func22, Try.ntmps22
    go_wp2_with (first
      | (go_at_call 60; refine (HA.out _).mono ?_; rintro e w' ⟨rfl, hw'⟩; have hw2 := hw'.symm; subst hw2))
    go_ret2
    exact ⟨none, 0, rfl, World.ownsRow_nil _ _ _ _, (Below.refl _ _).alloc (Nat.le_refl _) _⟩
end
theorem TxtL.at {B : Nat} {w : World} {v : Value} {ns : List Nm} (h : TxtL B w v ns) : TxtAt w v ns := by
  rcases h.2 with ⟨rfl, h0⟩ | ⟨g, cap, cur, rfl, _, hg, h1, _, h3, h4⟩
  · exact Or.inl ⟨List.eq_nil_of_length_eq_zero h0, rfl⟩
  · refine Or.inr ⟨g, cap, rfl, fun i hi => ?_⟩
    have hc : CAt w g cur 9 := hg
    rw [hc.cell]
    have := congrArg (fun l => l[i]?) h4
    simp [hi] at this
    rw [this, getD_in _ _ _ hi]
theorem TxtAt.below {w w' : World} {v : Value} {ns : List Nm} (h : TxtAt w v ns) (hb : Below w.heap.size w w') : TxtAt w' v ns := by
  rcases h with h | ⟨b, c, rfl, h⟩
  · exact Or.inl h
  · exact Or.inr ⟨b, c, rfl, fun i hi => (World.cell?_of_block (hb.block b (cell_lt' (a := ⟨b, i, none⟩) (by rw [h i hi]; simp)))).trans (h i hi)⟩
set_option maxHeartbeats 400000 in
theorem sameTexts_true (a b : Value) (ns : List Nm) (w : World) (hn : ns.length ≤ 1000000000000) (ha : TxtAt w a ns) (hb : TxtAt w b ns) :
    Calls Try.prog 39 #[a, b] w fun e w' => e = .returned (.bool true) ∧ ∃ k, w' = w.drewN k := by
  by_cases h0 : ns = []
  · subst h0
    have fa : ∃ pa ca, a = .slice pa 0 ca := by rcases ha with ⟨_, rfl⟩ | ⟨b, c, rfl, _⟩ <;> exact ⟨_, _, rfl⟩
    have fb : ∃ pa ca, b = .slice pa 0 ca := by rcases hb with ⟨_, rfl⟩ | ⟨b, c, rfl, _⟩ <;> exact ⟨_, _, rfl⟩
    obtain ⟨pa, ca, rfl⟩ := fa
    obtain ⟨pb, cb, rfl⟩ := fb
    clear ha hb
    go_enter Try.func39, Try.ntmps39
    go_wp2
    refine wp_loop_rounds 1 ?_
    rw [rounds_succ]
    go_wp2
    go_ret
    exact ⟨rfl, 0, rfl⟩
  · rcases ha with ⟨h, _⟩ | ⟨ga, ca, rfl, ha⟩
    · exact absurd h h0
    rcases hb with ⟨h, _⟩ | ⟨gb, cb, rfl, hb⟩
    · exact absurd h h0
    clear h0
    have HP := hid ha
    have HQ := hid hb
    clear ha hb
    go_enter Try.func39, Try.ntmps39
    go_wp2
    go_loopw [5] (fun v wr => ∃ i : Nat, i ≤ ns.length ∧ v = .int .i64 (i : Int) ∧ ∃ k, wr = w.drewN k) (fun v _ => (ns.length - intOf v).toNat)
    case atStart => exact ⟨0, by omega, rfl, 0, rfl⟩
    case round =>
      obtain ⟨i, hi, rfl, hw⟩ := hrel
      have HW := hid hw
      have hcell : ∀ a : Addr, wr.cell? a = w.cell? a := by obtain ⟨k, rfl⟩ := hw; intro a; rfl
      have HCE := hid hcell
      clear hw hcell
      by_cases hlt : i < ns.length
      · have c1 := (HCE.out _).trans (HP.out i hlt)
        have c2 := (HCE.out _).trans (HQ.out i hlt)
        have hlt' : (i : Int) < (ns.length : Int) := by omega
        unfold sv at c1 c2
        generalize (⟨(ns.getD i []).toArray⟩ : ByteArray) = bs at c1 c2
        go_wp2
        go_quiet (fail)
        go_wp2
        go_roundw
        case rel =>
          refine ⟨i + 1, by omega, by go_num, ?_⟩
          obtain ⟨k, rfl⟩ := HW.out
          first | exact ⟨_, rfl⟩ | exact ⟨k + nq, by simp [World.drewN, Nat.add_assoc]⟩
        case measure => simp [intOf]; omega
      · have hlt' : ¬ (i : Int) < (ns.length : Int) := by omega
        go_wp2
        go_ret
        exact ⟨rfl, HW.out⟩
#print axioms list_any
#print axioms sameTexts_true
end Go.Proofs.Ytfppmpfmafnfmaa

/- Contract of awake of the statements: the document's example is answered as it says. -/
namespace Go.Proofs.Ytfppmpfmafnfmaa
open Go Go.RowKit

/-- A drive of one's own, without a fuse, made since w. -/
structure AW (w wk : World) (S : Nat → Prop) (p : Nat) (d : Pd) : Prop where
  dr : DrAt wk S p none d
  ge : ∀ b, S b → w.heap.size ≤ b
  be : Below w.heap.size w wk
section
variable {w wk : World} {S : Nat → Prop} {p : Nat} {d : Pd}
theorem AW.below (h : AW w wk S p d) {w' : World} (hb : Below wk.heap.size wk w') : AW w w' S p d := by
  obtain ⟨m, L, hd⟩ := h.dr
  exact ⟨⟨m, L, hd.below hb⟩, h.ge, below_on _ _ h.be hb⟩
theorem AW.alloc (h : AW w wk S p d) (o : Obj) : AW w (wk.alloc o) S p d := h.below ((Below.refl _ _).alloc (Nat.le_refl _) _)
theorem AW.next (h : AW w wk S p d) {r : Nat × Pd × Fs} {e : Ending} {w' : World} (hD : Done wk S p none r e w') : e = .returned (.int .i64 (r.1 : Int)) ∧ ∃ S2, AW w w' S2 p r.2.1 := by
  obtain ⟨h1, S2, hg, hd, _, ho⟩ := hD
  refine ⟨h1, S2, hd, fun b hb => ?_, ?_⟩
  · rcases hg.2 b hb with h2 | h2
    · exact h.ge b h2
    · exact Nat.le_trans h.be.size h2
  · exact ⟨ho.os.trans h.be.os, ho.tape.trans h.be.tape, ho.output.trans h.be.output, Nat.le_trans h.be.size ho.size, fun k hk => (ho.block k (Nat.lt_of_lt_of_le hk h.be.size) (fun e => by
      rcases e with e | e
      · have := h.ge k e; omega
      · cases e)).trans (h.be.block k hk)⟩
theorem AW.made {w1 : World} {n : Nat} {p : Nat} (hd : DrAt w1 (fun b => w.heap.size ≤ b ∧ b < w1.heap.size) p none (fresh n)) (hb : Below w.heap.size w w1) : AW w w1 (fun b => w.heap.size ≤ b ∧ b < w1.heap.size) p (fresh n) := ⟨hd, fun _ h => h.1, hb⟩
theorem AW.write (h : AW w wk S p d) (s : Nm) (hs : s.length ≤ maxLen) (po : Option Addr) (c : Nat) (bs : List Nat) (h8 : ∀ y ∈ bs, y < 256) (hx : BAt wk po bs) (hn : bs.length ≤ 140737488355328) (ho : d.ops < 1000000000000) (hl : d.F.length < 1000000000000) {r : Nat × Pd × Fs} (hr : d.write none s bs = r) :
    Calls Try.prog 23 #[ptr p, sv s, .slice po bs.length c] wk fun e w' => e = .returned (.int .i64 (r.1 : Int)) ∧ ∃ S2, AW w w' S2 p r.2.1 := by
  obtain ⟨m, L, hd⟩ := h.dr
  subst hr
  exact (write_any hd (f := none) trivial s hs po c bs h8 hx hn ho hl).mono fun e w' hD => h.next hD
theorem AW.sync (h : AW w wk S p d) (s : Nm) (hs : s.length ≤ maxLen) (ho : d.ops < 1000000000000) (hl : d.F.length < 1000000000000) {r : Nat × Pd × Fs} (hr : d.sync none s = r) :
    Calls Try.prog 24 #[ptr p, sv s] wk fun e w' => e = .returned (.int .i64 (r.1 : Int)) ∧ ∃ S2, AW w w' S2 p r.2.1 := by
  obtain ⟨m, L, hd⟩ := h.dr
  subst hr
  exact (sync_any hd (f := none) trivial s hs ho hl).mono fun e w' hD => h.next hD
theorem AW.loose (h : AW w wk S p d) (hl : d.F.length < 1000000000000) {ns : List Nm} (hr : d.loose = ns) :
    Calls Try.prog 32 #[ptr p] wk fun e w' => ∃ po c, e = .returned (.slice po ns.length c) ∧ TxtL wk.heap.size w' (.slice po ns.length c) ns ∧ AW w w' S p d := by
  obtain ⟨m, L, hd⟩ := h.dr
  subst hr
  exact (loose_any hd hl).mono fun e w' ⟨po, c, h1, h2, h3⟩ => ⟨po, c, h1, h2, h.below h3⟩
theorem AW.up (h : AW w wk S p d) {b : Bool} (hr : d.up none = b) : Calls Try.prog 34 #[ptr p] wk fun e w' => e = .returned (.bool b) ∧ w' = wk := by
  obtain ⟨m, L, hd⟩ := h.dr
  subst hr
  exact up_any hd (f := none) trivial
end
def aw1 : Pd := ⟨10, 1, false, false, false, [([97], ([97, 98, 99, 100], true))]⟩
def aw2 : Pd := ⟨10, 2, false, false, false, [([97], ([97, 98, 99, 100], false))]⟩
theorem aw_w : (fresh 10).write none [97] [97, 98, 99, 100] = (0, aw1, none) := rfl
theorem aw_s : aw1.sync none [97] = (0, aw2, none) := rfl
theorem aw_b : aw2.write none [98] [49, 50, 51, 52, 53, 54, 55] = (8, aw2, none) := rfl
theorem aw_l : aw1.loose = [[97]] := rfl
theorem lit_at (w : World) (b : Nat) (hb : b = w.heap.size) (bs : List Nat) (fr : Nat × Nat) : BAt (w.alloc (.cells (bs.map u8).toArray 5 fr)) (some ⟨b, 0, none⟩) bs := by
  subst hb
  refine Or.inr ⟨_, rfl, fun i hi => ?_⟩
  have hadd : (⟨w.heap.size, 0, none⟩ : Addr).add i = ⟨w.heap.size, i, none⟩ := by unfold Addr.add; split <;> simp_all
  rw [hadd]
  simp only [World.cell?, at_new]
  simp [u8, List.getD, List.getElem?_eq_getElem hi]
set_option maxHeartbeats 1000000 in
set_option maxRecDepth 100000 in
theorem awake_any (w : World) : Calls Try.prog 20 #[] w fun e w' => e = .returned (.bool true) ∧ Below w.heap.size w w' := by
  have HN := hid (new_ok 10 (by omega) (by omega) w)
  have n0 := fun W => name_any [] W (by unfold maxLen; simp)
  have n1 := fun W => name_any [97] W (by unfold maxLen; simp)
  rw [show okNm [] = false from rfl] at n0
  rw [show okNm [97] = true from rfl] at n1
  have HN0 := hid n0
  have HN1 := hid n1
  clear n0 n1
  have hcv := fun (w : World) (C : Array Value) (n c : Nat) => Lib.run_convert_bytes_const (P := Try.prog) w 33 5 C n c Try.underlying33 Try.underlying5
  have t1 : True := trivial
  have t2 : True := trivial
  go_enter Try.func20, Try.ntmps20
  go_wp2_with (first
    | (go_at_call 9; refine HN.out.mono ?_; rintro e w1 ⟨p, rfl, hd1, hb1⟩; have HA := hid (AW.made hd1 hb1); clear hd1 hb1)
    | (go_at_call 23; have _t := t1; refine ((HA.out.alloc _).write [97] (by unfold maxLen; simp) _ _ [97, 98, 99, 100] (by decide) (lit_at _ _ rfl [97, 98, 99, 100] _) (by decide) (by decide) (by decide) aw_w).mono ?_; rintro e w2 ⟨rfl, S2, hA2⟩; have HA := hid hA2; clear hA2 t1)
    | (go_at_call 32; refine (HA.out.loose (by decide) aw_l).mono ?_; rintro e w3 ⟨po, c, rfl, htx, hA3⟩; have HA := hid hA3; have HTX := hid htx; clear hA3 htx)
    | (go_at_call 39; refine (sameTexts_true _ _ [[97]] _ (by decide) (HTX.out.at.below ((Below.refl _ _).alloc (Nat.le_refl _) _)) (txt_one _ _ _ _ _ rfl)).mono ?_; rintro e w4 ⟨rfl, k4, hw4⟩; have HA : Hid (AW w w4 S2 p aw1) := hid (by rw [hw4]; exact (HA.out.alloc _).below (below_drewN _ k4)); clear hw4 HTX)
    | (go_at_call 24; refine (HA.out.sync [97] (by unfold maxLen; simp) (by decide) (by decide) aw_s).mono ?_; rintro e w5 ⟨rfl, S5, hA5⟩; have HA := hid hA5; clear hA5)
    | (go_at_call 23; refine ((HA.out.alloc _).write [98] (by unfold maxLen; simp) _ _ [49, 50, 51, 52, 53, 54, 55] (by decide) (lit_at _ _ rfl [49, 50, 51, 52, 53, 54, 55] _) (by decide) (by decide) (by decide) aw_b).mono ?_; rintro e w6 ⟨rfl, S6, hA6⟩; have HA := hid hA6; clear hA6)
    | (go_at_call 34; refine (HA.out.up (b := true) rfl).mono ?_; rintro e w' ⟨rfl, hw'⟩; have hw2 := hw'.symm; subst hw2)
    | (go_at_call 18; have _t := t2; refine (HN0.out _).mono ?_; rintro e w' ⟨rfl, hw'⟩; have hw2 := hw'.symm; subst hw2; clear t2)
    | (go_at_call 18; refine (HN1.out _).mono ?_; rintro e w' ⟨rfl, hw'⟩; have hw2 := hw'.symm; subst hw2))
  go_ret
  exact ⟨rfl, HA.out.be⟩
#print axioms awake_any
end Go.Proofs.Ytfppmpfmafnfmaa

/- Contract of Name of the document's own answer; the walk of DriveNames. -/
namespace Go.Proofs.Ytfppmpfmafnfmaa
open Go Go.RowKit

set_option maxRecDepth 100000 in
theorem rname_any (s : Nm) (w : World) (hl : s.length ≤ maxLen) : Calls Try.prog 19 #[sv s] w fun e w' => e = .returned (.bool (okNm s)) ∧ w' = w := by
  have hz : (⟨s.toArray⟩ : ByteArray).size = s.length := by simp [ByteArray.size]
  have hml : maxLen = 9223372036854775807 := rfl
  rw [hml] at hl
  have HX := hid (idx_sv s)
  unfold sv at HX ⊢
  generalize (⟨s.toArray⟩ : ByteArray) = bs at hz HX ⊢
  go_enter Try.func19, Try.ntmps19
  go_wp2
  go_loopw [3] (fun v wr => ∃ k : Nat, k ≤ s.length ∧ v = .int .i64 (k : Int) ∧ wr = w ∧ ∀ i, i < k → okB (s.getD i 0) = true) (fun v _ => (s.length - intOf v).toNat)
  case atStart => exact ⟨0, by omega, rfl, rfl, fun i hi => by omega⟩
  case round =>
    obtain ⟨k, hk, rfl, hw, hok⟩ := hrel
    have HOK := hid hok
    subst hw
    clear hok
    by_cases hlt : k < s.length
    · have hx := HX.out k hlt
      generalize hc : s.getD k 0 = c at hx
      have HC := hid hc
      clear hc
      have hlt' : (k : Int) < (s.length : Int) := by omega
      by_cases hlo : (c.toNat : Int) < 33
      · go_wp2
        go_ret
        rw [okNm_not hlt (by rw [HC.out]; exact okB_lo hlo)]; simp
      by_cases hhi : 126 < (c.toNat : Int)
      · go_wp2
        go_ret
        rw [okNm_not hlt (by rw [HC.out]; exact okB_hi hhi)]; simp
      go_wp2
      go_roundw
      case rel =>
        refine ⟨k + 1, by omega, by go_num, by trivial, fun i hi => ?_⟩
        by_cases e : i = k
        · rw [e, HC.out]; exact okB_in hlo hhi
        · exact HOK.out i (by omega)
      case measure => simp [intOf]; omega
    · have hlt' : ¬ (k : Int) < (s.length : Int) := by omega
      have e : okNm s = (decide (1 ≤ (s.length : Int)) && decide ((s.length : Int) ≤ 512)) := by
        rw [Bool.eq_iff_iff, okNm_iff]
        simp only [Bool.and_eq_true, decide_eq_true_eq]
        constructor
        · rintro ⟨h1, h2, _⟩; omega
        · rintro ⟨h1, h2⟩; exact ⟨by omega, by omega, fun i hi => HOK.out i (by omega)⟩
      by_cases h1 : s.length < 1
      · have h1' : ¬ 1 ≤ (s.length : Int) := by omega
        have e2 : okNm s = false := by rw [e]; simp; omega
        clear e
        go_wp2
        go_ret
        exact ⟨by first | rfl | (rw [e2]; rfl), by first | rfl | trivial⟩
      · by_cases h2 : s.length ≤ 512
        · have h1' : 1 ≤ (s.length : Int) := by omega
          have h2' : (s.length : Int) ≤ 512 := by omega
          have e2 : okNm s = true := by rw [e]; simp; omega
          clear e
          go_wp2
          go_ret
          exact ⟨by first | rfl | (rw [e2]; rfl), by first | rfl | trivial⟩
        · have h1' : 1 ≤ (s.length : Int) := by omega
          have h2' : ¬ (s.length : Int) ≤ 512 := by omega
          have e2 : okNm s = false := by rw [e]; simp; omega
          clear e
          go_wp2
          go_ret
          exact ⟨by first | rfl | (rw [e2]; rfl), by first | rfl | trivial⟩
theorem driveNames_walk (s : Nm) (w : World) (hl : s.length ≤ maxLen) : Calls Try.prog 4 #[sv s] w fun e w' => e = .returned (.bool true) ∧ Below w.heap.size w w' := by
  have h1 := name_any s w hl
  have h2 := rname_any s w hl
  have h3 := awake_any w
  generalize okNm s = b at *
  go_enter Try.func4, Try.ntmps4
  go_wp2_with (first
    | (go_at_call 18; refine h1.mono ?_; rintro e w' ⟨rfl, hw'⟩; have hw2 := hw'.symm; subst hw2)
    | (go_at_call 19; refine h2.mono ?_; rintro e w' ⟨rfl, hw'⟩; have hw2 := hw'.symm; subst hw2)
    | (go_at_call 20; refine h3.mono ?_; rintro e w1 ⟨rfl, hb⟩))
  go_ret
  exact ⟨rfl, hb⟩
#print axioms driveNames_walk
end Go.Proofs.Ytfppmpfmafnfmaa
