/- Texts laid into one: the remark ahead of each part says what is proved there. -/
import Derived.Test.YtklchjfkkbpipaaGreatDoorPaa
import Derived.Test.YtklchjfkkbpipaaGreatDoorPab
import Derived.Test.YtklchjfkkbpipaaGreatDoorPac
import Derived.Test.YtklchjfkkbpipaaGreatDoorPad
import Derived.Test.YtklchjfkkbpipaaGreatDoorPae
import Derived.Test.YtklchjfkkbpipaaGreatDoorPaf
import Derived.Test.YtklchjfkkbpipaaGreatDoorPag
import Derived.Test.YtklchjfkkbpipaaGreatDoorPah
import Derived.Test.YtklchjfkkbpipaaGreatDoorPai
import Derived.Test.YtklchjfkkbpipaaGreatDoorPaj
import Derived.Test.YtklchjfkkbpipaaGreatDoorPak
import Derived.Test.YtklchjfkkbpipaaGreatDoorPal
import Derived.Test.YtklchjfkkbpipaaGreatDoorPam
import Derived.Test.YtklchjfkkbpipaaGreatDoorPan
import Derived.Test.YtklchjfkkbpipaaGreatDoorPao
import Derived.Maps.RangeWalk
import Derived.Sort.KeysCollected
import Derived.Laws.BytesArg
import Derived.Laws.BytesString
import Derived.Deep.Grids
import Derived.ChangeArms
/- Drives as mathematics: names, files by rising names, and what each call makes of them. -/
namespace Go.Proofs.YtklchjfkkbpipaaGreatDoor
open Go

section
variable {α β : Type}
theorem gget_del {L : List (Nm × α)} (h : Srt L) (s t : Nm) : gget (gdel L s) t = if t = s then none else gget L t := by
  by_cases e : t = s
  · rw [if_pos e]; exact gget_none.2 fun p hp => by rw [e]; exact (mem_del.1 hp).2
  · rw [if_neg e]
    refine Option.ext fun a => ?_
    rw [gget_iff (h.del s), gget_iff h, mem_del]; simp [e]
theorem srt_ext {L M : List (Nm × α)} (hL : Srt L) (hM : Srt M) (h : ∀ s, gget L s = gget M s) : L = M := by
  have nd : ∀ (K : List (Nm × α)), Srt K → K.Nodup := fun K hK => by
    refine List.Pairwise.imp (R := fun (p q : Nm × α) => bytesBefore p.1 q.1 = true) (fun {a b} h e => ?_) hK
    exact bb_ne h (congrArg Prod.fst e)
  refine List.Perm.eq_of_pairwise (le := fun (p q : Nm × α) => bytesBefore p.1 q.1 = true) (fun a b _ _ h1 h2 => ?_) hL hM ((List.perm_ext_iff_of_nodup (nd L hL) (nd M hM)).2 fun p => ?_)
  · have := bb_trans h1 h2; rw [bb_irrefl] at this; cases this
  · rw [← gget_iff (s := p.1) (a := p.2) hL, ← gget_iff (s := p.1) (a := p.2) hM, h]
end

end Go.Proofs.YtklchjfkkbpipaaGreatDoor

/- Contracts of New, Read, Up, Ops, Used, Offline and Full of package drive. -/
namespace Go.Proofs.YtklchjfkkbpipaaGreatDoor
open Go Go.RowKit

section
variable {w : World} {S : Nat → Prop} {p m : Nat} {fu : Option Nat} {d : Pd} {L : List (Nm × Ent)}
def Pd.up (d : Pd) (f : Fs) : Bool := !d.isOut f && !d.offl
theorem up_any (h : DrC w S p m fu d L) {f : Fs} (hf : FuAt w S fu f) : Calls Tryz.prog 28 #[ptr p] w fun e w' => e = .returned (.bool (d.up f)) ∧ w' = w := by
  have c5 : w.cell? ⟨p, 5, none⟩ = some (.bool d.offl) := h.c.cell 5
  have hmade := made_any h
  have hout := isOut_any h hf
  clear h hf
  unfold Pd.up
  cases ho : d.isOut f <;> rw [ho] at hout <;> cases hof : d.offl <;> rw [hof] at c5 <;>
  · go_enter Tryz.func28, Tryz.ntmps28
    go_wp2_with (first
      | (go_at_call 93; refine hmade.mono ?_; rintro e w' ⟨rfl, hw'⟩; have hw2 := hw'.symm; subst hw2)
      | (go_at_call 94; refine hout.mono ?_; rintro e w' ⟨rfl, hw'⟩; have hw2 := hw'.symm; subst hw2))
    go_ret
    exact ⟨rfl, by first | rfl | trivial⟩
end
end Go.Proofs.YtklchjfkkbpipaaGreatDoor

/- Contracts of names, List and Loose of package drive, and of the closures that names is handed. -/
namespace Go.Proofs.YtklchjfkkbpipaaGreatDoor
open Go Go.RowKit
open Go.Proofs (encStr)

theorem list1_any (x pre : Nm) (po : Option Addr) (n c : Nat) (l : Bool) (b : Nat) (w : World) (c0 : w.cell? ⟨b, 0, none⟩ = some (sv pre)) :
    Calls Tryz.prog 117 #[sv x, .agg #[.slice po n c, .bool l], ptr b] w fun e w' => e = .returned (.bool (pre.isPrefixOf x)) ∧ Below w.heap.size w w' := by
  have hl : b < w.heap.size := cell_lt' (a := ⟨b, 0, none⟩) (by rw [c0]; simp)
  have HH := hid (fun W => Tryz.strings_HasPrefix ⟨x.toArray⟩ ⟨pre.toArray⟩ W)
  go_enter Tryz.func117, Tryz.ntmps117
  go_wp2_with (go_at_call 118; refine (HH.out _).mono ?_; rintro e w' ⟨rfl, hw'⟩; have hw2 := hw'.symm; subst hw2)
  go_ret
  exact ⟨rfl, (Below.refl _ _).alloc (Nat.le_refl _) _⟩
set_option maxRecDepth 100000 in
theorem names_l {w : World} {S : Nat → Prop} {p m : Nat} {fu : Option Nat} {d : Pd} {L : List (Nm × Ent)} (h : DrC w S p m fu d L) (q : Nm → Fi → Bool) (x0 : Value) (hqb : ∀ x b b2 l, q x (b, l) = q x (b2, l))
    (hq : ∀ w1, Below w.heap.size w w1 → ∀ x po n c l, Calls Tryz.prog 117 #[sv x, .agg #[.slice po n c, .bool l], x0] w1 fun e w' => e = .returned (.bool (q x ([], l))) ∧ Below w1.heap.size w1 w') (hl : d.F.length < 1000000000000) :
    Calls Tryz.prog 116 #[ptr p, .func (.func 117) #[] #[x0]] w (NamesAt w (namesOf d.F q)) := by
  have c2 : w.cell? ⟨p, 2, none⟩ = some (.map (some m)) := h.c.cell 2
  have hm := h.mp
  have hml := h.lt m h.sm
  have HQ := hid hq
  have HQB := hid hqb
  have HFS := hid h.fs
  have HSO := hid h.so
  have HSF := hid h.srtF
  have HL : Hid (L.length < 1000000000000) := hid (by rw [h.lenF]; exact hl)
  clear h hq hqb hl
  go_enter Tryz.func116, Tryz.ntmps116
  go_wp2_with (first | (at_range; refine wpList_range_own _ rfl _ 42 rfl 9 136 strLaw underM _ m _ _ rfl hm ?_; intro w0 hrg0 hg0 hs0) | go_in)
  go_frame
  have HI0 : Hid (NmI w w0 m L q (.slice none 0 0) (Maps.has (mapD L)) (Maps.size (mapD L)) []) := hid ⟨hrg0, Coll.start L q, World.ownsRow_nil _ _ _ _, ⟨hg0.os, hg0.tape, hg0.output, hg0.size, fun k hk => hg0.block k hk (by simp)⟩⟩
  clear hrg0 hg0 hs0
  go_loopw [5] (fun v wr => ∃ left cnt ss, NmI w wr m L q v left cnt ss) (fun _ wr => wr.rangeLeft m w.heap.size)
  case atStart => exact ⟨_, _, _, HI0.out⟩
  case round =>
    obtain ⟨left, cnt, ss, hI⟩ := hrel
    have HI := hid hI
    obtain ⟨po5, cc5, hv5⟩ := own_form hI.tx
    subst hv5
    clear hI HI0
    go_wp2_with (first
      | (at_next; refine wpList_next_ranges _ rfl _ rfl 9 strLaw RF sv mkV invK9 invV9 m w.heap.size L.length _ _ _ rfl HI.out.rg ?_ ?_)
      | go_in)
    · intro hc0 hl0
      have HP := hid ((HI.out.co.end HSO.out hl0))
      have HSL := hid (sort_any HI.out.tx (by have := HI.out.co.len; have := HL.out; omega))
      have HE : Hid ((ss.mergeSort fun x y => decide (x ≤ y)) = namesOf d.F q) := hid (sort_names HSF.out q (by rw [HFS.out]; exact HP.out))
      clear hl0 hc0
      go_wp2_with (go_at_call 85; refine HSL.out.mono ?_; rintro e w1 ⟨rfl, htx, hgr⟩; rw [HE.out] at htx; have HTX := hid htx; have HGR := hid hgr; clear htx hgr)
      go_ret
      obtain ⟨po, cc, hf⟩ := own_form HTX.out
      refine ⟨po, cc, by rw [← hf]; rfl, by rw [← hf]; exact HTX.out, below_on_grown HI.out.be HGR.out (fun b hb => (own_ge HI.out.tx b hb).1)⟩
    · intro x c kl yd yp w2 cnt2 hkey hlk hv hat hrg2 hlt hg2 hs2 hen
      clear hs2
      obtain ⟨hkl, en, hgx, hev, hel⟩ := met hkey hv hat
      subst hkl
      obtain ⟨po, n, cc, l⟩ := c
      simp only [mkV] at hen ⊢
      simp only at hel hev
      clear hkey hv hat
      have HB2 := hid (below_on_grown (w := w) HI.out.be hg2 (fun b hb => by cases hb; exact Nat.le_refl _))
      have HTX2 := hid (HI.out.tx.keep (w' := w2) (fun b hb => hg2.block b (own_ge HI.out.tx b hb).2 (fun e => row_ne_iter HI.out.tx HI.out.rg (by rw [hb, ← e]))))
      have HG := hid hgx
      have HEL := hid hel
      have HLK := hid hlk
      have HLT := hid hlt
      have HRG2 := hid hrg2
      clear hgx hel hev hlk hlt hrg2 hg2
      have hqq : q x en.fi = q x ([], l) := by
        have := HQB.out x en.b [] en.l
        rw [HEL.out] at this
        unfold Ent.fi
        rw [HEL.out]; exact this
      cases hb : q x ([], l)
      · rw [hb] at hqq
        have HCO := hid (HI.out.co.skip HG.out hqq)
        have HQ1 := hid (fun w1 hw1 => HQ.out w1 hw1 x po n cc l)
        rw [hb] at HQ1
        clear hqq
        go_wp2_with (go_at_call 117; refine (HQ1.out _ (below_on _ _ HB2.out ((Below.refl _ _).alloc (Nat.le_refl _) _))).mono ?_; rintro e w3 ⟨rfl, hb3⟩; have HB3 := hid (below_on _ _ ((Below.refl w2.heap.size w2).alloc (Nat.le_refl _) _) hb3); clear hb3)
        go_roundw
        case rel =>
          refine ⟨fun z => left z && !z.sameKey (.string x), cnt2, ss, ?_⟩
          exact ⟨HRG2.out.kept (grown_of_below HB3.out) (by simp) (by simp), HCO.out, HTX2.out.below HB3.out, below_on _ _ HB2.out HB3.out⟩
        case measure =>
          have hr3 := HRG2.out.kept (grown_of_below HB3.out) (by simp) (by simp)
          rw [hr3.left_eq, HI.out.rg.left_eq]; exact HLT.out
      · rw [hb] at hqq
        have HCO := hid (HI.out.co.take HLK.out HG.out hqq)
        have HQ1 := hid (fun w1 hw1 => HQ.out w1 hw1 x po n cc l)
        rw [hb] at HQ1
        clear hqq
        go_wp2_with (first
          | (go_at_call 117; refine (HQ1.out _ (below_on _ _ HB2.out ((Below.refl _ _).alloc (Nat.le_refl _) _))).mono ?_; rintro e w3 ⟨rfl, hb3⟩; have HB3 := hid (below_on _ _ ((Below.refl w2.heap.size w2).alloc (Nat.le_refl _) _) hb3); clear hb3
             obtain ⟨v4, w4, hrun, htx4, hgr4, hloc⟩ := (HTX2.out.below HB3.out).push x (by have := HI.out.co.len; have := HL.out; omega) (Nat.le_trans HB2.out.size HB3.out.size)
             have HRUN := hid hrun; have HTX4 := hid htx4; have HGR4 := hid hgr4; have HLOC := hid hloc; clear hrun htx4 hgr4 hloc)
          | (at_builtin; refine wpList_append_run _ _ 32 rfl rfl _ _ v4 rfl rfl HRUN.out ?_))
        go_roundw
        case rel =>
          refine ⟨fun z => left z && !z.sameKey (.string x), cnt2, ss ++ [x], ?_⟩
          have hge := fun b hb => (own_ge HTX2.out b hb).1
          have hr3 := HRG2.out.kept (grown_of_below HB3.out) (by simp) (by simp)
          have hr4 := hr3.alloc (.cells #[sv x] 9)
          have hne : some w.heap.size ≠ (Value.slice po5 ss.length cc5).ownBlock := row_ne_iter (HTX2.out.below HB3.out) hr3
          have hnm : some m ≠ (Value.slice po5 ss.length cc5).ownBlock := fun e => by have := hge m e.symm; omega
          exact ⟨hr4.kept HGR4.out hnm hne, HCO.out, HTX4.out, below_on_grown (below_on _ _ (below_on _ _ HB2.out HB3.out) ((Below.refl _ _).alloc (Nat.le_refl _) _)) HGR4.out (fun b hb => hge b hb)⟩
        case measure =>
          have hge := fun b hb => (own_ge HTX2.out b hb).1
          have hr3 := HRG2.out.kept (grown_of_below HB3.out) (by simp) (by simp)
          have hr4 := hr3.alloc (.cells #[sv x] 9)
          have hne : some w.heap.size ≠ (Value.slice po5 ss.length cc5).ownBlock := row_ne_iter (HTX2.out.below HB3.out) hr3
          have hnm : some m ≠ (Value.slice po5 ss.length cc5).ownBlock := fun e => by have := hge m e.symm; omega
          rw [(hr4.kept HGR4.out hnm hne).left_eq, HI.out.rg.left_eq]; exact HLT.out
end Go.Proofs.YtklchjfkkbpipaaGreatDoor

/- Contracts of Loose and List of package drive; texts held against one another. -/
namespace Go.Proofs.YtklchjfkkbpipaaGreatDoor
open Go Go.RowKit

section
variable {w : World} {S : Nat → Prop} {p m : Nat} {fu : Option Nat} {d : Pd} {L : List (Nm × Ent)}
def Pd.list (d : Pd) (f : Fs) (pre : Nm) : List Nm := if d.ans f [] = 0 then namesOf d.F (fun x _ => pre.isPrefixOf x) else []
def ListAt (w : World) (er : Nat) (ns : List Nm) (e : Ending) (w' : World) : Prop :=
  ∃ po c, e = .returned (.tuple #[.slice po ns.length c, .int .i64 (er : Int)]) ∧ TxtL w.heap.size w' (.slice po ns.length c) ns ∧ Below w.heap.size w w'
theorem list_any (h : DrC w S p m fu d L) {f : Fs} (hf : FuAt w S fu f) (pre : Nm) (hl : d.F.length < 1000000000000) : Calls Tryz.prog 55 #[ptr p, sv pre] w (ListAt w (d.ans f []) (d.list f pre)) := by
  have HA := hid (fun (o : Obj) => answers_any (h.alloc o) (hf.alloc o) (.slice none 0 0) [] (Or.inl ⟨rfl, rfl⟩) (by simp) (by simp))
  have HN := hid (names_l (h.alloc (.cells #[sv pre] 9)) (fun x _ => pre.isPrefixOf x) (ptr w.heap.size) (fun _ _ _ _ => rfl) (fun w1 hw1 x po n c l => list1_any x pre po n c l w.heap.size w1 (((CAt.made w _ _).below hw1).cell 0)) hl)
  clear h hf
  by_cases ha : d.ans f [] = 0
  · have e : d.list f pre = namesOf d.F (fun x _ => pre.isPrefixOf x) := by unfold Pd.list; rw [if_pos ha]
    rw [e, ha]
    clear e
    go_enter Tryz.func55, Tryz.ntmps55
    go_wp2_with (first
      | (go_at_call 88; refine (HA.out _).mono ?_; rintro e w' ⟨rfl, hw'⟩; rw [ha]; have hw2 := hw'.symm; subst hw2)
      | (go_at_call 116; refine HN.out.mono ?_; rintro e w1 ⟨po, c, rfl, htx, hb⟩; have HR := hid (And.intro htx hb); clear htx hb))
    go_ret2
    exact ⟨po, c, rfl, HR.out.1.base (by rw [size_al]; omega), below_on _ _ ((Below.refl _ _).alloc (Nat.le_refl _) _) HR.out.2⟩
  · have e : d.list f pre = [] := by unfold Pd.list; rw [if_neg ha]
    rw [e]
    clear e
    have ha' : ((d.ans f [] : Nat) : Int) ≠ 0 := by omega
    generalize hx : d.ans f [] = x at *
    go_enter Tryz.func55, Tryz.ntmps55
    go_wp2_with (first
      | (go_at_call 88; refine (HA.out _).mono ?_; rintro e w' ⟨rfl, hw'⟩; have hw2 := hw'.symm; subst hw2))
    go_ret2
    exact ⟨none, 0, rfl, World.ownsRow_nil _ _ _ _, (Below.refl _ _).alloc (Nat.le_refl _) _⟩
end
end Go.Proofs.YtklchjfkkbpipaaGreatDoor

/- Contracts of Offline, Full and Crash of package drive. -/
namespace Go.Proofs.YtklchjfkkbpipaaGreatDoor
open Go Go.RowKit

section
variable {w : World} {S : Nat → Prop} {p m : Nat} {fu : Option Nat} {d : Pd} {L : List (Nm × Ent)}
theorem full_any (h : DrC w S p m fu d L) (b : Bool) : Calls Tryz.prog 26 #[ptr p, .bool b] w (SetAt w S p m fu { d with full := b } L) := by
  have c6 : w.cell? ⟨p, 6, none⟩ = some (.bool d.full) := h.c.cell 6
  have z6 : w.frozen? ⟨p, 6, none⟩ = false := h.c.free 6
  have hmade := made_any h
  have H := hid (h.setC 6 (.bool b) (d2 := { d with full := b }) (fu2 := fu) rfl rfl rfl)
  clear h
  go_enter Tryz.func26, Tryz.ntmps26
  go_wp2_with (go_at_call 93; refine hmade.mono ?_; rintro e w' ⟨rfl, hw'⟩; have hw2 := hw'.symm; subst hw2)
  go_ret
  exact ⟨rfl, H.out, Only.set (S := fun b => b = p) _ _ _ rfl, setCell_size _ _ _⟩
end
end Go.Proofs.YtklchjfkkbpipaaGreatDoor

/- Contract of Clone of package drive. -/
namespace Go.Proofs.YtklchjfkkbpipaaGreatDoor
open Go Go.RowKit

section
variable {w wr : World} {m : Nat} {fu : Option Nat} {d : Pd} {L : List (Nm × Ent)} {left : Lit → Bool} {cnt : Nat} {Lc : List (Nm × Ent)}
theorem ClI.all (h : ClI w wr m fu d L left cnt Lc) (hs : Srt L) (hl : ∀ k, left k = false) : gmap Ent.fi Lc = gmap Ent.fi L := by
  refine srt_ext (h.so.map _) (hs.map _) fun x => ?_
  rw [gget_map, gget_map, h.get x, hl]; rfl
end
theorem run_makeMapH (n : Int) (w : World) : (Instr.makeMap 42 (some (.int .i64 n))).run Tryz.prog w = .ok (.map (some w.heap.size)) (w.alloc (.map #[] 0)) := by
  simp [Instr.makeMap, run_underlying underM, asInt, asIntOf, Result.andThen]
def CloAt (w : World) (d : Pd) (e : Ending) (w' : World) : Prop :=
  ∃ pc, e = .returned (ptr pc) ∧ DrAt w' (fun b => w.heap.size ≤ b ∧ b < w'.heap.size) pc none d ∧ Below w.heap.size w w'
section
variable {w : World} {S : Nat → Prop} {p m : Nat} {fu : Option Nat} {d : Pd} {L : List (Nm × Ent)}
set_option maxHeartbeats 1000000 in
set_option maxRecDepth 100000 in
theorem dclone_any (h : DrC w S p m fu d L) {f : Fs} (hf : FuAt w S fu f) (hl : d.F.length < 1000000000000) : Calls Tryz.prog 27 #[ptr p] w (CloAt w { d with out := d.isOut f }) := by
  have hmade := made_any h
  have hmm := run_makeMapH
  have H := hid h
  have HF := hid hf
  have HL : Hid (L.length < 1000000000000) := hid (by rw [h.lenF]; exact hl)
  have hml := h.lt m h.sm
  have hpl := h.lt p h.sp
  have c0 : w.cell? ⟨p, 0, none⟩ = some (ptr p) := h.c.cell 0
  have c1 : w.cell? ⟨p, 1, none⟩ = some (.int .i64 (d.size : Int)) := h.c.cell 1
  have c2 : w.cell? ⟨p, 2, none⟩ = some (.map (some m)) := h.c.cell 2
  have c3 : w.cell? ⟨p, 3, none⟩ = some (.int .i64 (usedOf d.F : Int)) := h.c.cell 3
  have c4 : w.cell? ⟨p, 4, none⟩ = some (.int .i64 (d.ops : Int)) := h.c.cell 4
  have c5 : w.cell? ⟨p, 5, none⟩ = some (.bool d.offl) := h.c.cell 5
  have c6 : w.cell? ⟨p, 6, none⟩ = some (.bool d.full) := h.c.cell 6
  have c7 : w.cell? ⟨p, 7, none⟩ = some (.bool d.out) := h.c.cell 7
  have c8 : w.cell? ⟨p, 8, none⟩ = some (fuV fu) := h.c.cell 8
  obtain ⟨fa, hfa⟩ : ∃ fa, fuV fu = .pointer fa := by cases fu <;> exact ⟨_, rfl⟩
  rw [hfa] at c8
  have HFA := hid hfa
  clear h hf hfa hl
  go_enter Tryz.func27, Tryz.ntmps27
  go_wp2_with (first
    | (go_at_call 93; refine hmade.mono ?_; rintro e w' ⟨rfl, hw'⟩; have hw2 := hw'.symm; subst hw2)
    | (at_len; refine wpList_len_own _ rfl _ 42 rfl 9 136 underM _ m _ _ rfl (H.out.mp.alloc _) ?_)
    | (at_range; refine wpList_range_own _ rfl _ 42 rfl 9 136 strLaw underM _ m _ _ rfl ((H.out.mp.alloc _).alloc _) ?_; intro w0 hrg0 hg0 hs0))
  go_frame
  simp only [size_al] at hrg0 ⊢
  have HI0 : Hid (ClI w w0 m fu d L (Maps.has (mapD L)) (Maps.size (mapD L)) []) := hid {
    rg := hrg0
    c := by
      have h1 := ((CAt.made w _ _).old (.map #[] 0)).keep (w' := w0) (hg0.block w.heap.size (by simp only [size_al]; omega) (by simp))
      unfold dcells; rw [HFA.out]; exact h1
    mp := by
      have h1 := ownsMap_keep (w' := w0) (World.ownsMap_made (w.alloc (.cells #[.pointer (some ⟨w.heap.size, 0, none⟩), .int .i64 (d.size : Int), .map (some (w.heap.size + 1)), .int .i64 (usedOf d.F : Int), .int .i64 (d.ops : Int), .bool d.offl, .bool d.full, .bool d.out, .pointer fa] 45)) Tryz.prog 9 RF) (hg0.block _ (by simp only [size_al]; omega) (by simp))
      rw [size_al] at h1
      exact h1
    so := List.Pairwise.nil
    get := fun x => by rw [mapD_has]; cases gget L x <;> rfl
    ow := by simp
    ap := List.Pairwise.nil
    be := below_on_grown (((Below.refl _ _).alloc (Nat.le_refl _) _).alloc (by simp only [size_al]; omega) _) hg0 (by simp) }
  clear hrg0 hg0 hs0
  go_loopw [25] (fun _ wr => ∃ left cnt Lc, ClI w wr m fu d L left cnt Lc) (fun _ wr => wr.rangeLeft m (w.heap.size + 1 + 1))
  case atStart => exact ⟨_, _, _, HI0.out⟩
  case round =>
    obtain ⟨left, cnt, Lc, hI⟩ := hrel
    have HI := hid hI
    clear hI HI0
    go_wp2_with (first
      | (at_next; refine wpList_next_ranges _ rfl _ rfl 9 strLaw RF sv mkV invK9 invV9 m (w.heap.size + 1 + 1) L.length _ _ _ rfl HI.out.rg ?_ ?_)
      | go_in)
    · intro hc0 hl0
      have HALL := hid (HI.out.all H.out.so hl0)
      have HIO := hid (isOut_any (H.out.below HI.out.be) (HF.out.below HI.out.be))
      have k7 : wr.cell? ⟨w.heap.size, 7, none⟩ = some (.bool d.out) := HI.out.c.cell 7
      have k8 : wr.cell? ⟨w.heap.size, 8, none⟩ = some (fuV fu) := HI.out.c.cell 8
      have y7 : wr.frozen? ⟨w.heap.size, 7, none⟩ = false := HI.out.c.free 7
      have y8 : wr.frozen? ⟨w.heap.size, 8, none⟩ = false := HI.out.c.free 8
      clear hc0 hl0
      go_wp2_with (go_at_call 94; refine HIO.out.mono ?_; rintro e w' ⟨rfl, hw'⟩; have hw2 := hw'.symm; subst hw2)
      go_ret
      have hS : Only (fun b => b = w.heap.size) wr ((wr.setCell ⟨w.heap.size, 7, none⟩ (.bool (d.isOut f))).setCell ⟨w.heap.size, 8, none⟩ (.pointer none)) :=
        (Only.set (S := fun b => b = w.heap.size) wr ⟨w.heap.size, 7, none⟩ _ rfl).then (Only.set (S := fun b => b = w.heap.size) _ ⟨w.heap.size, 8, none⟩ _ rfl) (fun _ _ h => h)
      have hcc := (HI.out.c.set 7 (.bool (d.isOut f))).set 8 (.pointer none)
      generalize ((wr.setCell ⟨w.heap.size, 7, none⟩ (.bool (d.isOut f))).setCell ⟨w.heap.size, 8, none⟩ (.pointer none)) = wz at *
      have hwz : w.heap.size + 1 + 1 < wz.heap.size := Nat.lt_of_lt_of_le HI.out.rg.lt hS.size
      refine ⟨w.heap.size, rfl, ⟨w.heap.size + 1, Lc, ?_⟩, ?_⟩
      · exact {
          c := hcc
          mp := ownsMap_keep HI.out.mp (hS.block _ (by have := HI.out.rg.lt; omega) (by omega))
          fs := by show d.F = _; rw [H.out.fs, HALL.out]
          ow := fun x hx => own_base (ownsRow_keep (HI.out.ow x hx) fun b hb => hS.block b (own_ge (HI.out.ow x hx) b hb).2 (HI.out.row_ne (HI.out.ow x hx) b hb).1) (Nat.zero_le _)
          ap := HI.out.ap
          by8 := fun x hx y hy => by
            obtain ⟨e0, he, hfi⟩ := HI.out.sub (x := x.1) (e := x.2) hx
            have : e0.b = x.2.b := congrArg Prod.fst hfi
            exact H.out.by8 _ he y (by show y ∈ e0.b; rw [this]; exact hy)
          so := HI.out.so
          nm := fun x hx => by obtain ⟨e0, he, _⟩ := HI.out.sub (x := x.1) (e := x.2) hx; exact H.out.nm (x.1, e0) he
          sp := ⟨Nat.le_refl _, by omega⟩
          sm := ⟨by omega, by omega⟩
          sf := fun x hx b hb => ⟨(own_ge (HI.out.ow x hx) b hb).1, Nat.lt_of_lt_of_le (own_ge (HI.out.ow x hx) b hb).2 hS.size⟩
          lt := fun b hb => hb.2
          us := H.out.us
          sz := H.out.sz }
      · exact ⟨hS.os.trans HI.out.be.os, hS.tape.trans HI.out.be.tape, hS.output.trans HI.out.be.output, Nat.le_trans HI.out.be.size hS.size, fun k hk => (hS.block k (Nat.lt_of_lt_of_le hk HI.out.be.size) (by omega)).trans (HI.out.be.block k hk)⟩
    · intro x c kl yd yp w2 cnt2 hkey hlk hv hat hrg2 hlt hg2 hs2 hen
      clear hs2
      obtain ⟨hkl, en, hgx, hev, hel⟩ := met hkey hv hat
      subst hkl
      obtain ⟨po, n, cc, l⟩ := c
      simp only [mkV] at hen ⊢
      simp only at hel hev
      clear hkey hv hat hlk
      have hn : n = en.b.length := by
        obtain ⟨po', cc', h1⟩ := own_form (H.out.ow _ (gget_mem hgx))
        simp only at h1
        rw [hev] at h1; cases h1; rfl
      subst hn
      have HB2 := hid (below_on_grown (w := w) HI.out.be hg2 (fun b hb => by cases hb; omega))
      have hxl : x.length ≤ maxLen := by have := ok_len (H.out.nm _ (gget_mem hgx)); simp only at this; unfold maxLen; omega
      have HG := hid hgx
      have HEL := hid hel
      have HEV := hid hev
      have HLT := hid hlt
      have HRG2 := hid hrg2
      have HG2 := hid hg2
      have HM2 := hid (ownsMap_keep (w' := w2) HI.out.mp (hg2.block _ (by have := HI.out.rg.lt; omega) (fun e => by have := Option.some.inj e; omega)))
      have HC2 := hid (HI.out.c.keep (w' := w2) (hg2.block _ (by have := HI.out.rg.lt; omega) (fun e => by have := Option.some.inj e; omega)))
      have hw2l : w.heap.size + 1 + 1 < w2.heap.size := Nat.lt_of_lt_of_le HI.out.rg.lt hg2.size
      have hle : en.b.length ≤ 67108864 := by
        have h1 : gget d.F x = some en.fi := by rw [H.out.fs, gget_map, hgx]; rfl
        have h2 := used_le H.out.srtF h1
        have h3 := H.out.us
        have h4 := H.out.sz
        have h5 : en.fi.1.length = en.b.length := rfl
        omega
      clear hgx hel hev hlt hrg2 hg2
      go_wp2_with (first
        | (go_at_call 92
           have hb3 : Below w.heap.size w (w2.alloc (.cells #[.slice po en.b.length cc, .bool l] 136)) := below_on _ _ HB2.out ((Below.refl _ _).alloc (Nat.le_refl _) _)
           refine (clone_any po cc en.b _ (own_BAt (c := cc) (n := en.b.length) (B := 0) (by have := (H.out.below hb3).ow _ (gget_mem HG.out); simp only at this; rw [HEV.out] at this; exact this)) (by omega)).mono ?_
           rintro e1 w4 ⟨pv, cv, rfl, ho4, hb4⟩
           have hbx := (CAt.made w2 #[.slice po en.b.length cc, .bool l] 136).below hb4
           have x0 : w4.cell? ⟨w2.heap.size, 0, none⟩ = some (.slice po en.b.length cc) := hbx.cell 0
           have x1 : w4.cell? ⟨w2.heap.size, 1, none⟩ = some (.bool l) := hbx.cell 1
           have y0 : w4.frozen? ⟨w2.heap.size, 0, none⟩ = false := hbx.free 0
           have k2 : w4.cell? ⟨w.heap.size, 2, none⟩ = some (.map (some (w.heap.size + 1))) := ((HC2.out.old _).below hb4).cell 2
           have HO4 := hid ho4
           have HB4 := hid hb4
           have HM5 := hid ((ownsMap_keep (w' := w4) (HM2.out.alloc _) (hb4.block _ (by rw [size_al]; omega))).setCell (a := ⟨w2.heap.size, 0, none⟩) (by simp; omega) (.slice pv en.b.length cv))
           clear hbx ho4 hb4 hb3)
        | (at_mapUpdate; refine wpList_mapUpdate_in _ rfl _ _ _ 42 rfl 9 136 strLaw underM _ (w.heap.size + 1) _ _ rfl HM5.out (by have := HI.out.len; have := HL.out; unfold maxLen; omega) _ _ _ rfl rfl (keyS x hxl) _ _ (RF_mk _ _ _ _) ?_; intro w6 hown6 hturn6; have HOWN6 := hid hown6; have HT6 := hid hturn6; clear hown6 hturn6; simp only [Act.put]))
      have h26 : Only (fun b => b = w.heap.size + 1) w2 w6 :=
        (((Only.alloc w2 (.cells #[.slice po en.b.length cc, .bool l] 136)).then (Only.of_below HB4.out) (fun _ _ h => h)).then (Only.set (S := fun b => b = w2.heap.size) w4 ⟨w2.heap.size, 0, none⟩ (.slice pv en.b.length cv) rfl) (fun j hj e => by omega)).then (Only.of_grown (S := fun b => b = w.heap.size + 1) HT6.out.grown (fun k e _ => by cases e; rfl)) (fun _ _ h => h)
      have hz4 := HB4.out.size
      rw [size_al] at hz4
      have ho6 : w6.ownsRow w2.heap.size 5 1 (.slice pv en.b.length cv) en.b.length (en.b.map u8) := by
        refine own_base (B := (w2.alloc (.cells #[.slice po en.b.length cc, .bool l] 136)).heap.size) (ownsRow_keep HO4.out fun b hb => ?_) (by rw [size_al]; omega)
        have h1 := own_ge HO4.out b hb
        rw [size_al] at h1
        exact (HT6.out.grown.block b (by rw [setCell_size]; exact h1.2) (fun e => by have := Option.some.inj e; omega)).trans (heap_setCell_ne _ _ _ _ (by intro e; simp at e; omega))
      have hel := HEL.out
      subst hel
      have hm6 : w6.ownsMap Tryz.prog 9 RF (w.heap.size + 1) (Lc.length + 1) (mapD (gput Lc x ⟨.slice pv en.b.length cv, en.b, en.l⟩)) := by rw [← mapD_put]; exact HOWN6.out
      have HN := hid (HI.out.more HG.out HRG2.out HG2.out h26 hm6 ho6 hml)
      clear h26 ho6 hm6 hz4
      go_roundw
      case rel => exact ⟨_, cnt2, _, HN.out⟩
      case measure => rw [HN.out.rg.left_eq, HI.out.rg.left_eq]; exact HLT.out
end
end Go.Proofs.YtklchjfkkbpipaaGreatDoor

/- Contracts of SameBytes, in and names of the statements; acts and bools that came in. -/
namespace Go.Proofs.YtklchjfkkbpipaaGreatDoor
open Go Go.RowKit

theorem sv_eq (x y : Nm) : (⟨x.toArray⟩ : ByteArray) = ⟨y.toArray⟩ ↔ x = y :=
  ⟨fun e => by have := congrArg (fun b : ByteArray => b.data.toList) e; simpa using this, fun e => by rw [e]⟩
theorem ba_ne {X Y : ByteArray} (h : X ≠ Y) : (X.toList == Y.toList) = false := by
  cases hb : (X.toList == Y.toList)
  · rfl
  · exfalso
    have h2 := eq_of_beq hb
    rw [ByteArray.toList_eq, ByteArray.toList_eq] at h2
    exact h (WideShapes.bytes_inj h2)
section
variable {w : World} {S : Nat → Prop} {p m : Nat} {fu : Option Nat} {d : Pd} {L : List (Nm × Ent)}
end
theorem list_all (d : Pd) (f : Fs) (h : d.ans f [] = 0) : d.list f [] = d.F.map (·.1) := by
  unfold Pd.list namesOf; rw [if_pos h, List.filter_eq_self.2 (by simp)]

end Go.Proofs.YtklchjfkkbpipaaGreatDoor

/- Acts and bools that came in. -/
namespace Go.Proofs.YtklchjfkkbpipaaGreatDoor
open Go Go.RowKit

theorem plain_at (a : Addr) (w : World) (h : w.cell? a ≠ none) : ∃ b o, a = ⟨b, o, none⟩ := by
  obtain ⟨b, o, sp⟩ := a
  cases sp with
  | none => exact ⟨b, o, rfl⟩
  | some s =>
    exfalso; apply h
    unfold World.cell?
    split <;> simp
theorem bounds_u8 {k : Int} (h : (Lit.int .u8 k).wf = true) : 0 ≤ k ∧ k ≤ 255 := by
  simp [Lit.wf, IntKind.min, IntKind.max, IntKind.signed, IntKind.bits] at h; omega
section
variable {H : Type} {enc : TypeId × Value → H} {w : World} {held : Bool} {fuel : Nat}
theorem bools_read {cs : List Value} {x : DataW H × List MemPlace} (h : DataW.trod enc Tryz.prog w 0 (fun _ => true) held fuel 33 cs = some x) :
    ∃ (po : Option Addr) (c : Nat) (ks : List Bool), cs = [.slice po ks.length c] ∧ KAt w (fun _ => False) po ks := by
  rcases Go.Deep.open_bools Tryz.underlying33 Tryz.underlying4 (by kernel_rfl) h with ⟨hcs, _⟩ | ⟨a, len, cap, B, hcs, _, hl, _, _, hcell⟩
  · exact ⟨none, 0, [], hcs, Or.inl rfl⟩
  · refine ⟨some a, cap, (List.range len).map B, by simpa using hcs, ?_⟩
    by_cases h0 : len = 0
    · subst h0; exact Or.inl rfl
    · obtain ⟨b, o, rfl⟩ := plain_at a w (by have := hcell 0 (by omega); rw [add_zero'] at this; rw [this]; simp)
      refine Or.inr ⟨b, o, rfl, fun h => h, fun i hi => ?_⟩
      have hi' : i < len := by simpa using hi
      have := hcell i (by omega)
      rw [add_none] at this
      rw [this]; simp [List.getD, hi']
theorem bytes_read {cs : List Value} {x : DataW H × List MemPlace} (h : DataW.trod enc Tryz.prog w 0 (fun _ => true) held fuel 30 cs = some x) :
    ∃ (po : Option Addr) (c : Nat) (bs : List Nat), cs = [.slice po bs.length c] ∧ BAt w po bs ∧ ∀ y ∈ bs, y < 256 := by
  rcases Go.ChangeShapes.open_ints Tryz.underlying30 Tryz.underlying5 (by kernel_rfl) h with ⟨hcs, _⟩ | ⟨a, l, c, zs, hcs, _, hl, hm, hz, _, hcell, hwz⟩
  · exact ⟨none, 0, [], hcs, Or.inl ⟨rfl, rfl⟩, by simp⟩
  · have hz' : zs.length = c := by simpa using hz
    have hbd : ∀ i, i < l → 0 ≤ zs.getD i 0 ∧ zs.getD i 0 ≤ 255 := fun i hi => by
      have hlt : i < zs.length := by omega
      have e : zs.getD i 0 = zs[i] := by simp [List.getD, hlt]
      rw [e]; exact bounds_u8 (hwz _ (List.getElem_mem hlt))
    refine ⟨some a, c, (List.range l).map fun i => (zs.getD i 0).toNat, by simpa using hcs, Or.inr ⟨a, rfl, fun i hi => ?_⟩, fun y hy => ?_⟩
    · have hi' : i < l := by simpa using hi
      rw [hcell i (by omega)]
      have e1 : ((List.range l).map fun i => (zs.getD i 0).toNat).getD i 0 = (zs.getD i 0).toNat := by rw [getD_in _ _ _ (by simpa using hi')]; simp
      rw [e1, Int.toNat_of_nonneg (hbd i hi').1]
    · obtain ⟨i, hi, rfl⟩ := List.mem_map.1 hy
      have := hbd i (by simpa using hi)
      omega
end

end Go.Proofs.YtklchjfkkbpipaaGreatDoor

/- Some sets of drives beside one another. -/
namespace Go.Proofs.YtklchjfkkbpipaaGreatDoor
open Go Go.RowKit Go.Shelf

def SomeAt2 (w w1 : World) (n size : Nat) (e : Ending) (w' : World) : Prop :=
  ∃ v p T, e = .returned (.tuple #[v, .bool true]) ∧ FA w w' T n p (fun _ => fresh size) none 0 ∧ LsAt w' T v n p ∧ Below w1.heap.size w1 w' ∧ (∀ b, T b → w1.heap.size ≤ b) ∧ ∀ b c, v = .slice (some ⟨b, 0, none⟩) n c → w1.heap.size ≤ b
theorem SmI.done2 {w w1 wr : World} {T : Nat → Prop} {n i : Nat} {p : Nat → Nat} {v : Value} (h : SmI w w1 wr T n i p v) : SomeAt2 w w1 i n (.returned (.tuple #[v, .bool true])) wr := by
  obtain ⟨v', p', T', e, h1, h2, h3, h4⟩ := h.done
  cases e
  exact ⟨v, p', T', rfl, h1, h2, h3, h4, fun b c e => (own_ge h.ow b (by rw [e]; rfl)).1⟩
set_option maxRecDepth 100000 in
theorem some_any2 (w w1 : World) (hb : Below w.heap.size w w1) (n size : Nat) (hn : n ≤ 20) (h1 : 1 ≤ size) (h2 : size ≤ 67108864) : Calls Tryz.prog 21 #[.int .i64 (n : Int), .int .i64 (size : Int)] w1 (SomeAt2 w w1 n size) := by
  have H0 : Hid (SmI w w1 w1 (fun _ => False) size 0 (fun _ => 0) (.slice none 0 0)) := ⟨FA.empty w w1 hb _ _, World.ownsRow_nil _ _ _ _, fun _ e => (by cases e), fun _ h => h.elim, Below.refl _ _, hb.size, fun _ => rfl⟩
  have HN := hid (fun W => new_ok size h1 h2 W)
  clear hb
  go_enter Tryz.func21, Tryz.ntmps21
  go_wp2
  go_loopw [6, 7] (fun v q wr => ∃ i T p, i ≤ n ∧ q = .int .i64 (i : Int) ∧ SmI w w1 wr T size i p v) (fun _ q _ => (1000 - intOf q).toNat)
  case atStart => exact ⟨0, _, _, Nat.zero_le _, rfl, H0.out⟩
  case round =>
    obtain ⟨i, T, p, hi, rfl, hI⟩ := hrel
    have HI := hid hI
    clear hI
    by_cases hlt : i < n
    · have hlt' : (i : Int) < (n : Int) := by omega
      have hi2 : (i : Int) < 1000 := by omega
      have hi3 : i ≤ 1000 := by omega
      obtain ⟨po, cc, hv⟩ := own_form HI.out.ow
      subst hv
      go_wp2_with (first
        | (go_at_call 13; refine (HN.out _).mono ?_; rintro e w2 ⟨q, rfl, hd, hb2⟩; obtain ⟨v4, w4, hrun, T4, p4, hS4⟩ := HI.out.new hd hb2 hi3; have HRUN := hid hrun; have HS4 := hid hS4; clear hd hb2 hrun hS4)
        | (at_builtin; refine wpList_append_run _ _ 23 rfl rfl _ _ v4 rfl rfl HRUN.out ?_))
      go_roundw
      case rel => exact ⟨i + 1, T4, p4, by omega, by go_num, HS4.out⟩
      case measure => simp [intOf]; omega
    · have hlt' : ¬ (i : Int) < (n : Int) := by omega
      have e : i = n := by omega
      subst e
      have HD := hid HI.out.done2
      obtain ⟨po, cc, hv⟩ := own_form HI.out.ow
      subst hv
      go_wp2
      go_ret2
      exact HD.out
section
variable {w W W' : World} {n : Nat} {T : Nat → Nat → Prop} {lv : Nat → Value} {p : Nat → Nat → Nat} {X : Nat → FS} {c : Nat → Nat} {Z : Nat → Prop}
end
end Go.Proofs.YtklchjfkkbpipaaGreatDoor
