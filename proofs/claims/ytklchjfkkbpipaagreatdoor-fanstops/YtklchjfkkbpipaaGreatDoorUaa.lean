/- Texts laid into one: the remark ahead of each part says what is proved there. -/
import Derived.Test.YtklchjfkkbpipaaGreatDoorPaa
import Derived.Test.YtklchjfkkbpipaaGreatDoorPab
import Derived.Test.YtklchjfkkbpipaaGreatDoorPac
import Derived.Test.YtklchjfkkbpipaaGreatDoorPad
import Derived.Test.YtklchjfkkbpipaaGreatDoorPae
import Derived.Test.YtklchjfkkbpipaaGreatDoorPaf
import Derived.Test.YtklchjfkkbpipaaGreatDoorPag
import Derived.Test.YtklchjfkkbpipaaGreatDoorPah
import Derived.Test.YtklchjfkkbpipaaGreatDoorPai
import Derived.Test.YtklchjfkkbpipaaGreatDoorPaj
import Derived.Test.YtklchjfkkbpipaaGreatDoorPak
import Derived.Test.YtklchjfkkbpipaaGreatDoorPal
import Derived.Test.YtklchjfkkbpipaaGreatDoorPam
import Derived.Test.YtklchjfkkbpipaaGreatDoorPan
import Derived.Test.YtklchjfkkbpipaaGreatDoorPao
import Derived.Maps.RangeWalk
import Derived.Sort.KeysCollected
import Derived.Laws.BytesArg
import Derived.Laws.BytesString
import Derived.Deep.Grids
import Derived.ChangeArms
/- Drives as mathematics: names, files by rising names, and what each call makes of them. -/
namespace Go.Proofs.YtklchjfkkbpipaaGreatDoor
open Go

section
variable {α β : Type}
theorem gget_del {L : List (Nm × α)} (h : Srt L) (s t : Nm) : gget (gdel L s) t = if t = s then none else gget L t := by
  by_cases e : t = s
  · rw [if_pos e]; exact gget_none.2 fun p hp => by rw [e]; exact (mem_del.1 hp).2
  · rw [if_neg e]
    refine Option.ext fun a => ?_
    rw [gget_iff (h.del s), gget_iff h, mem_del]; simp [e]
theorem srt_ext {L M : List (Nm × α)} (hL : Srt L) (hM : Srt M) (h : ∀ s, gget L s = gget M s) : L = M := by
  have nd : ∀ (K : List (Nm × α)), Srt K → K.Nodup := fun K hK => by
    refine List.Pairwise.imp (R := fun (p q : Nm × α) => bytesBefore p.1 q.1 = true) (fun {a b} h e => ?_) hK
    exact bb_ne h (congrArg Prod.fst e)
  refine List.Perm.eq_of_pairwise (le := fun (p q : Nm × α) => bytesBefore p.1 q.1 = true) (fun a b _ _ h1 h2 => ?_) hL hM ((List.perm_ext_iff_of_nodup (nd L hL) (nd M hM)).2 fun p => ?_)
  · have := bb_trans h1 h2; rw [bb_irrefl] at this; cases this
  · rw [← gget_iff (s := p.1) (a := p.2) hL, ← gget_iff (s := p.1) (a := p.2) hM, h]
end

end Go.Proofs.YtklchjfkkbpipaaGreatDoor

/- Contracts of New, Read, Up, Ops, Used, Offline and Full of package drive. -/
namespace Go.Proofs.YtklchjfkkbpipaaGreatDoor
open Go Go.RowKit

section
variable {w : World} {S : Nat → Prop} {p m : Nat} {fu : Option Nat} {d : Pd} {L : List (Nm × Ent)}
def Pd.up (d : Pd) (f : Fs) : Bool := !d.isOut f && !d.offl
theorem up_any (h : DrC w S p m fu d L) {f : Fs} (hf : FuAt w S fu f) : Calls Tryz.prog 28 #[ptr p] w fun e w' => e = .returned (.bool (d.up f)) ∧ w' = w := by
  have c5 : w.cell? ⟨p, 5, none⟩ = some (.bool d.offl) := h.c.cell 5
  have hmade := made_any h
  have hout := isOut_any h hf
  clear h hf
  unfold Pd.up
  cases ho : d.isOut f <;> rw [ho] at hout <;> cases hof : d.offl <;> rw [hof] at c5 <;>
  · go_enter Tryz.func28, Tryz.ntmps28
    go_wp2_with (first
      | (go_at_call 93; refine hmade.mono ?_; rintro e w' ⟨rfl, hw'⟩; have hw2 := hw'.symm; subst hw2)
      | (go_at_call 94; refine hout.mono ?_; rintro e w' ⟨rfl, hw'⟩; have hw2 := hw'.symm; subst hw2))
    go_ret
    exact ⟨rfl, by first | rfl | trivial⟩
end
end Go.Proofs.YtklchjfkkbpipaaGreatDoor

/- Contracts of names, List and Loose of package drive, and of the closures that names is handed. -/
namespace Go.Proofs.YtklchjfkkbpipaaGreatDoor
open Go Go.RowKit
open Go.Proofs (encStr)

theorem list1_any (x pre : Nm) (po : Option Addr) (n c : Nat) (l : Bool) (b : Nat) (w : World) (c0 : w.cell? ⟨b, 0, none⟩ = some (sv pre)) :
    Calls Tryz.prog 117 #[sv x, .agg #[.slice po n c, .bool l], ptr b] w fun e w' => e = .returned (.bool (pre.isPrefixOf x)) ∧ Below w.heap.size w w' := by
  have hl : b < w.heap.size := cell_lt' (a := ⟨b, 0, none⟩) (by rw [c0]; simp)
  have HH := hid (fun W => Tryz.strings_HasPrefix ⟨x.toArray⟩ ⟨pre.toArray⟩ W)
  go_enter Tryz.func117, Tryz.ntmps117
  go_wp2_with (go_at_call 118; refine (HH.out _).mono ?_; rintro e w' ⟨rfl, hw'⟩; have hw2 := hw'.symm; subst hw2)
  go_ret
  exact ⟨rfl, (Below.refl _ _).alloc (Nat.le_refl _) _⟩
set_option maxRecDepth 100000 in
theorem names_l {w : World} {S : Nat → Prop} {p m : Nat} {fu : Option Nat} {d : Pd} {L : List (Nm × Ent)} (h : DrC w S p m fu d L) (q : Nm → Fi → Bool) (x0 : Value) (hqb : ∀ x b b2 l, q x (b, l) = q x (b2, l))
    (hq : ∀ w1, Below w.heap.size w w1 → ∀ x po n c l, Calls Tryz.prog 117 #[sv x, .agg #[.slice po n c, .bool l], x0] w1 fun e w' => e = .returned (.bool (q x ([], l))) ∧ Below w1.heap.size w1 w') (hl : d.F.length < 1000000000000) :
    Calls Tryz.prog 116 #[ptr p, .func (.func 117) #[] #[x0]] w (NamesAt w (namesOf d.F q)) := by
  have c2 : w.cell? ⟨p, 2, none⟩ = some (.map (some m)) := h.c.cell 2
  have hm := h.mp
  have hml := h.lt m h.sm
  have HQ := hid hq
  have HQB := hid hqb
  have HFS := hid h.fs
  have HSO := hid h.so
  have HSF := hid h.srtF
  have HL : Hid (L.length < 1000000000000) := hid (by rw [h.lenF]; exact hl)
  clear h hq hqb hl
  go_enter Tryz.func116, Tryz.ntmps116
  go_wp2_with (first | (at_range; refine wpList_range_own _ rfl _ 42 rfl 9 136 strLaw underM _ m _ _ rfl hm ?_; intro w0 hrg0 hg0 hs0) | go_in)
  go_frame
  have HI0 : Hid (NmI w w0 m L q (.slice none 0 0) (Maps.has (mapD L)) (Maps.size (mapD L)) []) := hid ⟨hrg0, Coll.start L q, World.ownsRow_nil _ _ _ _, ⟨hg0.os, hg0.tape, hg0.output, hg0.size, fun k hk => hg0.block k hk (by simp)⟩⟩
  clear hrg0 hg0 hs0
  go_loopw [5] (fun v wr => ∃ left cnt ss, NmI w wr m L q v left cnt ss) (fun _ wr => wr.rangeLeft m w.heap.size)
  case atStart => exact ⟨_, _, _, HI0.out⟩
  case round =>
    obtain ⟨left, cnt, ss, hI⟩ := hrel
    have HI := hid hI
    obtain ⟨po5, cc5, hv5⟩ := own_form hI.tx
    subst hv5
    clear hI HI0
    go_wp2_with (first
      | (at_next; refine wpList_next_ranges _ rfl _ rfl 9 strLaw RF sv mkV invK9 invV9 m w.heap.size L.length _ _ _ rfl HI.out.rg ?_ ?_)
      | go_in)
    · intro hc0 hl0
      have HP := hid ((HI.out.co.end HSO.out hl0))
      have HSL := hid (sort_any HI.out.tx (by have := HI.out.co.len; have := HL.out; omega))
      have HE : Hid ((ss.mergeSort fun x y => decide (x ≤ y)) = namesOf d.F q) := hid (sort_names HSF.out q (by rw [HFS.out]; exact HP.out))
      clear hl0 hc0
      go_wp2_with (go_at_call 85; refine HSL.out.mono ?_; rintro e w1 ⟨rfl, htx, hgr⟩; rw [HE.out] at htx; have HTX := hid htx; have HGR := hid hgr; clear htx hgr)
      go_ret
      obtain ⟨po, cc, hf⟩ := own_form HTX.out
      refine ⟨po, cc, by rw [← hf]; rfl, by rw [← hf]; exact HTX.out, below_on_grown HI.out.be HGR.out (fun b hb => (own_ge HI.out.tx b hb).1)⟩
    · intro x c kl yd yp w2 cnt2 hkey hlk hv hat hrg2 hlt hg2 hs2 hen
      clear hs2
      obtain ⟨hkl, en, hgx, hev, hel⟩ := met hkey hv hat
      subst hkl
      obtain ⟨po, n, cc, l⟩ := c
      simp only [mkV] at hen ⊢
      simp only at hel hev
      clear hkey hv hat
      have HB2 := hid (below_on_grown (w := w) HI.out.be hg2 (fun b hb => by cases hb; exact Nat.le_refl _))
      have HTX2 := hid (HI.out.tx.keep (w' := w2) (fun b hb => hg2.block b (own_ge HI.out.tx b hb).2 (fun e => row_ne_iter HI.out.tx HI.out.rg (by rw [hb, ← e]))))
      have HG := hid hgx
      have HEL := hid hel
      have HLK := hid hlk
      have HLT := hid hlt
      have HRG2 := hid hrg2
      clear hgx hel hev hlk hlt hrg2 hg2
      have hqq : q x en.fi = q x ([], l) := by
        have := HQB.out x en.b [] en.l
        rw [HEL.out] at this
        unfold Ent.fi
        rw [HEL.out]; exact this
      cases hb : q x ([], l)
      · rw [hb] at hqq
        have HCO := hid (HI.out.co.skip HG.out hqq)
        have HQ1 := hid (fun w1 hw1 => HQ.out w1 hw1 x po n cc l)
        rw [hb] at HQ1
        clear hqq
        go_wp2_with (go_at_call 117; refine (HQ1.out _ (below_on _ _ HB2.out ((Below.refl _ _).alloc (Nat.le_refl _) _))).mono ?_; rintro e w3 ⟨rfl, hb3⟩; have HB3 := hid (below_on _ _ ((Below.refl w2.heap.size w2).alloc (Nat.le_refl _) _) hb3); clear hb3)
        go_roundw
        case rel =>
          refine ⟨fun z => left z && !z.sameKey (.string x), cnt2, ss, ?_⟩
          exact ⟨HRG2.out.kept (grown_of_below HB3.out) (by simp) (by simp), HCO.out, HTX2.out.below HB3.out, below_on _ _ HB2.out HB3.out⟩
        case measure =>
          have hr3 := HRG2.out.kept (grown_of_below HB3.out) (by simp) (by simp)
          rw [hr3.left_eq, HI.out.rg.left_eq]; exact HLT.out
      · rw [hb] at hqq
        have HCO := hid (HI.out.co.take HLK.out HG.out hqq)
        have HQ1 := hid (fun w1 hw1 => HQ.out w1 hw1 x po n cc l)
        rw [hb] at HQ1
        clear hqq
        go_wp2_with (first
          | (go_at_call 117; refine (HQ1.out _ (below_on _ _ HB2.out ((Below.refl _ _).alloc (Nat.le_refl _) _))).mono ?_; rintro e w3 ⟨rfl, hb3⟩; have HB3 := hid (below_on _ _ ((Below.refl w2.heap.size w2).alloc (Nat.le_refl _) _) hb3); clear hb3
             obtain ⟨v4, w4, hrun, htx4, hgr4, hloc⟩ := (HTX2.out.below HB3.out).push x (by have := HI.out.co.len; have := HL.out; omega) (Nat.le_trans HB2.out.size HB3.out.size)
             have HRUN := hid hrun; have HTX4 := hid htx4; have HGR4 := hid hgr4; have HLOC := hid hloc; clear hrun htx4 hgr4 hloc)
          | (at_builtin; refine wpList_append_run _ _ 32 rfl rfl _ _ v4 rfl rfl HRUN.out ?_))
        go_roundw
        case rel =>
          refine ⟨fun z => left z && !z.sameKey (.string x), cnt2, ss ++ [x], ?_⟩
          have hge := fun b hb => (own_ge HTX2.out b hb).1
          have hr3 := HRG2.out.kept (grown_of_below HB3.out) (by simp) (by simp)
          have hr4 := hr3.alloc (.cells #[sv x] 9)
          have hne : some w.heap.size ≠ (Value.slice po5 ss.length cc5).ownBlock := row_ne_iter (HTX2.out.below HB3.out) hr3
          have hnm : some m ≠ (Value.slice po5 ss.length cc5).ownBlock := fun e => by have := hge m e.symm; omega
          exact ⟨hr4.kept HGR4.out hnm hne, HCO.out, HTX4.out, below_on_grown (below_on _ _ (below_on _ _ HB2.out HB3.out) ((Below.refl _ _).alloc (Nat.le_refl _) _)) HGR4.out (fun b hb => hge b hb)⟩
        case measure =>
          have hge := fun b hb => (own_ge HTX2.out b hb).1
          have hr3 := HRG2.out.kept (grown_of_below HB3.out) (by simp) (by simp)
          have hr4 := hr3.alloc (.cells #[sv x] 9)
          have hne : some w.heap.size ≠ (Value.slice po5 ss.length cc5).ownBlock := row_ne_iter (HTX2.out.below HB3.out) hr3
          have hnm : some m ≠ (Value.slice po5 ss.length cc5).ownBlock := fun e => by have := hge m e.symm; omega
          rw [(hr4.kept HGR4.out hnm hne).left_eq, HI.out.rg.left_eq]; exact HLT.out
end Go.Proofs.YtklchjfkkbpipaaGreatDoor

/- Contracts of Loose and List of package drive; texts held against one another. -/
namespace Go.Proofs.YtklchjfkkbpipaaGreatDoor
open Go Go.RowKit

section
variable {w : World} {S : Nat → Prop} {p m : Nat} {fu : Option Nat} {d : Pd} {L : List (Nm × Ent)}
def Pd.list (d : Pd) (f : Fs) (pre : Nm) : List Nm := if d.ans f [] = 0 then namesOf d.F (fun x _ => pre.isPrefixOf x) else []
def ListAt (w : World) (er : Nat) (ns : List Nm) (e : Ending) (w' : World) : Prop :=
  ∃ po c, e = .returned (.tuple #[.slice po ns.length c, .int .i64 (er : Int)]) ∧ TxtL w.heap.size w' (.slice po ns.length c) ns ∧ Below w.heap.size w w'
theorem list_any (h : DrC w S p m fu d L) {f : Fs} (hf : FuAt w S fu f) (pre : Nm) (hl : d.F.length < 1000000000000) : Calls Tryz.prog 55 #[ptr p, sv pre] w (ListAt w (d.ans f []) (d.list f pre)) := by
  have HA := hid (fun (o : Obj) => answers_any (h.alloc o) (hf.alloc o) (.slice none 0 0) [] (Or.inl ⟨rfl, rfl⟩) (by simp) (by simp))
  have HN := hid (names_l (h.alloc (.cells #[sv pre] 9)) (fun x _ => pre.isPrefixOf x) (ptr w.heap.size) (fun _ _ _ _ => rfl) (fun w1 hw1 x po n c l => list1_any x pre po n c l w.heap.size w1 (((CAt.made w _ _).below hw1).cell 0)) hl)
  clear h hf
  by_cases ha : d.ans f [] = 0
  · have e : d.list f pre = namesOf d.F (fun x _ => pre.isPrefixOf x) := by unfold Pd.list; rw [if_pos ha]
    rw [e, ha]
    clear e
    go_enter Tryz.func55, Tryz.ntmps55
    go_wp2_with (first
      | (go_at_call 88; refine (HA.out _).mono ?_; rintro e w' ⟨rfl, hw'⟩; rw [ha]; have hw2 := hw'.symm; subst hw2)
      | (go_at_call 116; refine HN.out.mono ?_; rintro e w1 ⟨po, c, rfl, htx, hb⟩; have HR := hid (And.intro htx hb); clear htx hb))
    go_ret2
    exact ⟨po, c, rfl, HR.out.1.base (by rw [size_al]; omega), below_on _ _ ((Below.refl _ _).alloc (Nat.le_refl _) _) HR.out.2⟩
  · have e : d.list f pre = [] := by unfold Pd.list; rw [if_neg ha]
    rw [e]
    clear e
    have ha' : ((d.ans f [] : Nat) : Int) ≠ 0 := by omega
    generalize hx : d.ans f [] = x at *
    go_enter Tryz.func55, Tryz.ntmps55
    go_wp2_with (first
      | (go_at_call 88; refine (HA.out _).mono ?_; rintro e w' ⟨rfl, hw'⟩; have hw2 := hw'.symm; subst hw2))
    go_ret2
    exact ⟨none, 0, rfl, World.ownsRow_nil _ _ _ _, (Below.refl _ _).alloc (Nat.le_refl _) _⟩
end
end Go.Proofs.YtklchjfkkbpipaaGreatDoor

/- Contracts of Offline, Full and Crash of package drive. -/
namespace Go.Proofs.YtklchjfkkbpipaaGreatDoor
open Go Go.RowKit

section
variable {α : Type}
theorem gget_cons_ne {p : Nm × α} {L : List (Nm × α)} {s : Nm} (h : p.1 ≠ s) : gget (p :: L) s = gget L s := by unfold gget; rw [List.find?_cons_of_neg (by simp [h])]
theorem gget_cons_eq {p : Nm × α} {L : List (Nm × α)} : gget (p :: L) p.1 = some p.2 := by unfold gget; rw [List.find?_cons_of_pos (by simp)]; rfl
theorem gdel_cons_ne {p : Nm × α} {L : List (Nm × α)} {s : Nm} (h : p.1 ≠ s) : gdel (p :: L) s = p :: gdel L s := by unfold gdel; rw [List.filter_cons_of_pos (by simp [h])]
theorem gdel_cons_eq {p : Nm × α} {L : List (Nm × α)} : gdel (p :: L) p.1 = gdel L p.1 := by unfold gdel; rw [List.filter_cons_of_neg (by simp)]
theorem gdel_none {L : List (Nm × α)} {s : Nm} (h : ∀ p ∈ L, p.1 ≠ s) : gdel L s = L := by unfold gdel; rw [List.filter_eq_self]; intro p hp; simp [h p hp]
theorem gput_cons {p : Nm × α} {L : List (Nm × α)} {s : Nm} {a : α} (h : bytesBefore p.1 s = true) : gput (p :: L) s a = p :: gput L s a := by
  have h2 : ¬ bytesBefore s p.1 = true := fun h3 => by have := bb_trans h h3; rw [bb_irrefl] at this; cases this
  unfold gput; rw [gdel_cons_ne (bb_ne h)]; rw [gins, if_neg h2]
theorem gput_first {L : List (Nm × α)} {s : Nm} {a : α} (h : ∀ p ∈ L, bytesBefore s p.1 = true) : gput L s a = (s, a) :: L := by
  unfold gput
  rw [gdel_none fun p hp => (bb_ne (h p hp)).symm]
  cases L with
  | nil => rfl
  | cons y r => rw [gins, if_pos (h y (by simp))]
end
/-- What is left of files where the first i loose ones have been looked at. -/
def crashI : List (Nm × Fi) → List Bool → Nat → List (Nm × Fi)
  | [], _, _ => []
  | (s, (b, false)) :: r, ks, i => (s, (b, false)) :: crashI r ks i
  | (s, (b, true)) :: r, _, 0 => (s, (b, true)) :: r
  | (s, (b, true)) :: r, ks, i + 1 => if ks.headD false then (s, (b, false)) :: crashI r ks.tail i else crashI r ks.tail i
def looseN (F : List (Nm × Fi)) : List Nm := namesOf F fun _ x => x.2
theorem looseN_f (s : Nm) (b : List Nat) (r : List (Nm × Fi)) : looseN ((s, (b, false)) :: r) = looseN r := by simp [looseN, namesOf]
theorem looseN_t (s : Nm) (b : List Nat) (r : List (Nm × Fi)) : looseN ((s, (b, true)) :: r) = s :: looseN r := by simp [looseN, namesOf]
def crOne (F : List (Nm × Fi)) (s : Nm) (k : Bool) : List (Nm × Fi) := if k then gput (gdel F s) s (((gget F s).getD ([], false)).1, false) else gdel F s
theorem crashI_zero : ∀ (F : List (Nm × Fi)) (ks : List Bool), crashI F ks 0 = F
  | [], _ => rfl
  | (s, (b, false)) :: r, ks => by rw [crashI, crashI_zero r ks]
  | (s, (b, true)) :: r, ks => by rw [crashI]
theorem crashI_sub : ∀ (F : List (Nm × Fi)) (ks : List Bool) (i : Nat) (p : Nm × Fi), p ∈ crashI F ks i → ∃ l, (p.1, (p.2.1, l)) ∈ F
  | [], _, _, p, h => by simp [crashI] at h
  | (s, (b, false)) :: r, ks, i, p, h => by
    rw [crashI] at h
    rcases List.mem_cons.1 h with rfl | h
    · exact ⟨false, by simp⟩
    · obtain ⟨l, hl⟩ := crashI_sub r ks i p h; exact ⟨l, by simp [hl]⟩
  | (s, (b, true)) :: r, ks, 0, p, h => by rw [crashI] at h; exact ⟨p.2.2, h⟩
  | (s, (b, true)) :: r, ks, i + 1, p, h => by
    rw [crashI] at h
    split at h
    · rcases List.mem_cons.1 h with rfl | h
      · exact ⟨true, by simp⟩
      · obtain ⟨l, hl⟩ := crashI_sub r _ i p h; exact ⟨l, by simp [hl]⟩
    · obtain ⟨l, hl⟩ := crashI_sub r _ i p h; exact ⟨l, by simp [hl]⟩
theorem crashI_first {F : List (Nm × Fi)} {s : Nm} (h : ∀ p ∈ F, bytesBefore s p.1 = true) (ks : List Bool) (i : Nat) : ∀ p ∈ crashI F ks i, bytesBefore s p.1 = true := fun p hp => by
  obtain ⟨l, hl⟩ := crashI_sub F ks i p hp; exact h (p.1, (p.2.1, l)) hl
theorem srt_crash : ∀ {F : List (Nm × Fi)} (_ : Srt F) (ks : List Bool) (i : Nat), Srt (crashI F ks i)
  | [], _, _, _ => List.Pairwise.nil
  | (s, (b, false)) :: r, h, ks, i => by
    obtain ⟨h1, h2⟩ := List.pairwise_cons.1 h
    rw [crashI]; exact List.pairwise_cons.2 ⟨crashI_first h1 ks i, srt_crash h2 ks i⟩
  | (s, (b, true)) :: r, h, ks, 0 => by rw [crashI]; exact h
  | (s, (b, true)) :: r, h, ks, i + 1 => by
    obtain ⟨h1, h2⟩ := List.pairwise_cons.1 h
    rw [crashI]; split
    · exact List.pairwise_cons.2 ⟨crashI_first h1 _ i, srt_crash h2 _ i⟩
    · exact srt_crash h2 _ i
theorem crOne_cons {p : Nm × Fi} {G : List (Nm × Fi)} {t : Nm} (h : bytesBefore p.1 t = true) (k : Bool) : crOne (p :: G) t k = p :: crOne G t k := by
  unfold crOne
  rw [gget_cons_ne (bb_ne h), gdel_cons_ne (bb_ne h)]
  cases k
  · rfl
  · simp only [if_true]; rw [gput_cons h]
theorem looseN_after {F : List (Nm × Fi)} {s : Nm} (h : ∀ p ∈ F, bytesBefore s p.1 = true) : ∀ t ∈ looseN F, bytesBefore s t = true := by
  intro t ht
  unfold looseN namesOf at ht
  obtain ⟨p, hp, rfl⟩ := List.mem_map.1 ht
  exact h p (List.mem_filter.1 hp).1
theorem crash_step : ∀ {F : List (Nm × Fi)} (_ : Srt F) (ks : List Bool) (i : Nat) (_ : i < (looseN F).length), crashI F ks (i + 1) = crOne (crashI F ks i) ((looseN F).getD i []) (ks.getD i false)
  | [], _, _, _, h => by simp [looseN, namesOf] at h
  | (s, (b, false)) :: r, hs, ks, i, h => by
    obtain ⟨h1, h2⟩ := List.pairwise_cons.1 hs
    rw [looseN_f] at h ⊢
    rw [crashI, crashI, crash_step h2 ks i h]
    rw [crOne_cons (looseN_after h1 _ (by rw [getD_in _ _ _ h]; exact List.getElem_mem h))]
  | (s, (b, true)) :: r, hs, ks, 0, h => by
    obtain ⟨h1, h2⟩ := List.pairwise_cons.1 hs
    rw [looseN_t]
    rw [crashI, crashI, crashI_zero]
    have e1 : gdel ((s, ((b, true) : Fi)) :: r) s = r := by
      have := gdel_cons_eq (p := (s, ((b, true) : Fi))) (L := r)
      rw [this, gdel_none fun p hp => (bb_ne (h1 p hp)).symm]
    have e2 : gget ((s, ((b, true) : Fi)) :: r) s = some (b, true) := gget_cons_eq (p := (s, ((b, true) : Fi)))
    unfold crOne
    simp only [List.getD_cons_zero]
    rw [e1, e2, gput_first h1]
    cases ks <;> rfl
  | (s, (b, true)) :: r, hs, ks, i + 1, h => by
    obtain ⟨h1, h2⟩ := List.pairwise_cons.1 hs
    rw [looseN_t] at h ⊢
    have h' : i < (looseN r).length := by simpa using h
    have ih := crash_step h2 ks.tail i h'
    rw [crashI, crashI, ih]
    have e3 : (s :: looseN r).getD (i + 1) [] = (looseN r).getD i [] := by simp
    have e4 : ks.getD (i + 1) false = ks.tail.getD i false := by cases ks <;> simp
    rw [e3, e4]
    split
    · rw [crOne_cons (p := (s, ((b, false) : Fi))) (looseN_after (s := s) h1 ((looseN r).getD i []) (by rw [getD_in _ _ _ h']; exact List.getElem_mem h'))]
    · rfl
/-- The i-th loose file is there still, and loose, where those ahead of it have been looked at. -/
theorem crash_get : ∀ {F : List (Nm × Fi)} (_ : Srt F) (ks : List Bool) (i : Nat) (_ : i < (looseN F).length), ∃ x, gget (crashI F ks i) ((looseN F).getD i []) = some x
  | [], _, _, _, h => by simp [looseN, namesOf] at h
  | (s, (b, false)) :: r, hs, ks, i, h => by
    obtain ⟨h1, h2⟩ := List.pairwise_cons.1 hs
    rw [looseN_f] at h ⊢
    rw [crashI, gget_cons_ne (bb_ne (looseN_after h1 _ (by rw [getD_in _ _ _ h]; exact List.getElem_mem h)))]
    exact crash_get h2 ks i h
  | (s, (b, true)) :: r, hs, ks, 0, h => by rw [looseN_t, crashI]; exact ⟨_, gget_cons_eq (p := (s, ((b, true) : Fi)))⟩
  | (s, (b, true)) :: r, hs, ks, i + 1, h => by
    obtain ⟨h1, h2⟩ := List.pairwise_cons.1 hs
    rw [looseN_t] at h ⊢
    have h' : i < (looseN r).length := by simpa using h
    have e3 : (s :: looseN r).getD (i + 1) [] = (looseN r).getD i [] := by simp
    rw [e3, crashI]
    split
    · rw [gget_cons_ne (p := (s, ((b, false) : Fi))) (bb_ne (looseN_after (s := s) h1 ((looseN r).getD i []) (by rw [getD_in _ _ _ h']; exact List.getElem_mem h')))]
      exact crash_get h2 _ i h'
    · exact crash_get h2 _ i h'
theorem crash_len : ∀ (F : List (Nm × Fi)) (ks : List Bool) (i : Nat), (crashI F ks i).length ≤ F.length
  | [], _, _ => by simp [crashI]
  | (s, (b, false)) :: r, ks, i => by rw [crashI]; have := crash_len r ks i; simp; omega
  | (s, (b, true)) :: r, ks, 0 => by rw [crashI]; exact Nat.le_refl _
  | (s, (b, true)) :: r, ks, i + 1 => by rw [crashI]; have := crash_len r ks.tail i; split <;> simp <;> omega
def Pd.crash (d : Pd) (ks : List Bool) : Pd := { d with F := crashI d.F ks (looseN d.F).length, out := false }
end Go.Proofs.YtklchjfkkbpipaaGreatDoor

/- Contracts of Offline, Full and Crash of package drive. -/
namespace Go.Proofs.YtklchjfkkbpipaaGreatDoor
open Go Go.RowKit

section
variable {w : World} {S : Nat → Prop} {p m : Nat} {fu : Option Nat} {d : Pd} {L : List (Nm × Ent)}
theorem full_any (h : DrC w S p m fu d L) (b : Bool) : Calls Tryz.prog 26 #[ptr p, .bool b] w (SetAt w S p m fu { d with full := b } L) := by
  have c6 : w.cell? ⟨p, 6, none⟩ = some (.bool d.full) := h.c.cell 6
  have z6 : w.frozen? ⟨p, 6, none⟩ = false := h.c.free 6
  have hmade := made_any h
  have H := hid (h.setC 6 (.bool b) (d2 := { d with full := b }) (fu2 := fu) rfl rfl rfl)
  clear h
  go_enter Tryz.func26, Tryz.ntmps26
  go_wp2_with (go_at_call 93; refine hmade.mono ?_; rintro e w' ⟨rfl, hw'⟩; have hw2 := hw'.symm; subst hw2)
  go_ret
  exact ⟨rfl, H.out, Only.set (S := fun b => b = p) _ _ _ rfl, setCell_size _ _ _⟩
theorem kat_at {b o : Nat} {ks : List Bool} {k : Bool} (h : KAt w S (some ⟨b, o, none⟩) ks) {i : Nat} (hi : i < ks.length) (hk : ks.getD i false = k) : w.cell? ⟨b, o + i, none⟩ = some (.bool k) := by
  rcases h with h | ⟨b', o', e, _, h⟩
  · rw [h] at hi; simp at hi
  · cases e; rw [← hk]; exact h i hi
structure CrI (w wr : World) (S : Nat → Prop) (p m : Nat) (fu : Option Nat) (d : Pd) (ks : List Bool) (v : Value) (i : Nat) (L : List (Nm × Ent)) : Prop where
  dr : DrC wr S p m fu { d with F := crashI d.F ks i } L
  tx : TxtL w.heap.size wr v (looseN d.F)
  on : Only (fun b => b = p ∨ b = m) w wr
theorem CrI.next {wr w4 : World} {ks : List Bool} {v : Value} {i : Nat} {L L2 : List (Nm × Ent)} (h : CrI w wr S p m fu d ks v i L) (ho : Only (fun b => b = p ∨ b = m) wr w4) (hd : DrC w4 S p m fu { d with F := crashI d.F ks (i + 1) } L2) (hp : p < w.heap.size) (hm : m < w.heap.size) : CrI w w4 S p m fu d ks v (i + 1) L2 :=
  ⟨hd, h.tx.keep fun b hb => ho.block b (own_ge h.tx b hb).2 (fun e => by have := (own_ge h.tx b hb).1; rcases e with rfl | rfl <;> omega), h.on.then ho (fun _ _ h => h)⟩
theorem crOne_true {F : List (Nm × Fi)} {s : Nm} {x : Fi} (h : gget F s = some x) : crOne F s true = gput (gdel F s) s (x.1, false) := by unfold crOne; rw [h]; rfl
theorem looseN_ok (h : DrC w S p m fu d L) {s : Nm} (hs : s ∈ looseN d.F) : okNm s = true := by
  unfold looseN namesOf at hs
  obtain ⟨x, hx, rfl⟩ := List.mem_map.1 hs
  have hx := (List.mem_filter.1 hx).1
  rw [h.fs] at hx
  obtain ⟨y, hy, rfl⟩ := List.mem_map.1 hx
  exact h.nm y hy
set_option maxHeartbeats 1000000 in
set_option maxRecDepth 100000 in
theorem crash_any (h : DrC w S p m fu d L) (po : Option Addr) (c : Nat) (ks : List Bool) (hk : KAt w S po ks) (hkn : ks.length ≤ 1000000000) (hl : d.F.length < 1000000000000) :
    Calls Tryz.prog 31 #[ptr p, .slice po ks.length c] w fun e w' => e = .returned (.int .i64 0) ∧ DrAt w' S p none (d.crash ks) ∧ Only (fun b => b = p ∨ b = m) w w' := by
  have hmade := made_any h
  have HL := hid (loose_any h hl)
  have HLN := hid hl
  have H := hid h
  have HK := hid hk
  have HSF := hid h.srtF
  have hlp := h.lt p h.sp
  have hlm := h.lt m h.sm
  clear h hk hl
  go_enter Tryz.func31, Tryz.ntmps31
  go_wp2_with (first
    | (go_at_call 93; refine hmade.mono ?_; rintro e w' ⟨rfl, hw'⟩; have hw2 := hw'.symm; subst hw2)
    | (go_at_call 60; refine HL.out.mono ?_; rintro e w1 ⟨pv, cv, rfl, htx, hb⟩; have HI0 : Hid (CrI w w1 S p m fu d ks (.slice pv d.loose.length cv) 0 L) := hid ⟨by rw [crashI_zero]; exact H.out.below hb, htx, Only.of_below hb⟩; clear htx hb))
  have HNL : Hid (d.loose = looseN d.F) := hid rfl
  rw [HNL.out] at HI0 ⊢
  have hnl : (looseN d.F).length ≤ d.F.length := by unfold looseN namesOf; rw [List.length_map]; exact List.length_filter_le _ _
  have hnl2 : (looseN d.F).length < 1000000000000 := by have := HLN.out; omega
  clear hnl HNL
  go_loopw [14] (fun v wr => ∃ i : Nat, i ≤ (looseN d.F).length ∧ v = .int .i64 (i : Int) ∧ ∃ Li, CrI w wr S p m fu d ks (.slice pv (looseN d.F).length cv) i Li) (fun v _ => ((looseN d.F).length - intOf v).toNat)
  case atStart => exact ⟨0, by omega, rfl, L, HI0.out⟩
  case round =>
    obtain ⟨i, hi, rfl, Li, hI⟩ := hrel
    have HI := hid hI
    clear hI HI0
    by_cases hlt : i < (looseN d.F).length
    · have hlt' : (i : Int) < ((looseN d.F).length : Int) := by omega
      obtain ⟨x, hx⟩ := crash_get HSF.out ks i hlt
      have hstep := crash_step HSF.out ks i hlt
      have hsok : okNm ((looseN d.F).getD i []) = true := looseN_ok H.out (by rw [getD_in _ _ _ hlt]; exact List.getElem_mem hlt)
      have htx := HI.out.tx.at
      rcases htx with ⟨h0, _⟩ | ⟨g, cg, hv, hcell⟩
      · rw [h0] at hlt; simp at hlt
      obtain ⟨rfl, rfl⟩ : pv = some ⟨g, 0, none⟩ ∧ cv = cg := by cases hv; exact ⟨rfl, rfl⟩
      have ci := hcell i hlt
      clear hv hcell
      generalize hsn : (looseN d.F).getD i [] = s at *
      have HSN := hid hsn
      have HX := hid hx
      have HST := hid hstep
      have HSOK := hid hsok
      have hsm : s.length ≤ maxLen := by have := ok_len hsok; unfold maxLen; omega
      clear hsn hx hstep hsok
      have hge : ∃ e pe ce, gget Li s = some e ∧ e.v = .slice pe e.b.length ce ∧ x = (e.b, e.l) := by
        have h1 := HX.out
        have h2 := HI.out.dr.fs
        simp only at h2
        rw [h2, gget_map] at h1
        cases hg : gget Li s with
        | none => rw [hg] at h1; cases h1
        | some e =>
          rw [hg] at h1
          obtain ⟨pe, ce, hv⟩ := own_form (HI.out.dr.ow _ (gget_mem hg))
          exact ⟨e, pe, ce, rfl, hv, by cases h1; rfl⟩
      obtain ⟨e, pe, ce, hg, hev, rfl⟩ := hge
      have HEV := hid hev
      have hbl := used_le (by have := HI.out.dr.srtF; exact this) HX.out
      clear hev hbl
      have HDA := hid (HI.out.dr.alloc (.cells #[.slice pe e.b.length ce, .bool e.l] 136))
      have HTK := hid (take_any HDA.out s hsm)
      have d2 : wr.cell? ⟨p, 2, none⟩ = some (.map (some m)) := HI.out.dr.c.cell 2
      have hsub : (gdel (crashI d.F ks i) s).length < 1000000000000 := by have := len_del (crashI d.F ks i) s; have := crash_len d.F ks i; have := HLN.out; omega
      cases hkb : ks.getD i false
      · rw [hkb] at HST
        by_cases hik : i < ks.length
        · have hik' : (i : Int) < (ks.length : Int) := by omega
          have HK2 := hid (HK.out.only HI.out.on (fun b _ hb => hb.elim (fun e => e ▸ H.out.sp) (fun e => e ▸ H.out.sm)))
          rcases HK.out with h0 | ⟨bk, ok, hpo, hnb, _⟩
          · rw [h0] at hik; simp at hik
          subst hpo
          go_wp2_with (first
            | (at_lookup; refine wpList_look _ rfl _ _ false rfl HI.out.dr.mp hsm rfl rfl (r := .agg #[.slice pe e.b.length ce, .bool e.l]) (by rw [hg, ← HEV.out]; rfl) ?_)
            | (go_at_call 95; refine HTK.out.mono ?_; rintro e1 w2 ⟨rfl, hd2, ho2, hz2⟩; have HD2 := hid hd2; have HO2 := hid ho2
               have ckk : w2.cell? ⟨bk, ok + i, none⟩ = some (.bool false) := kat_at (HK2.out.only ((Only.alloc wr _).then ho2 (fun _ _ h => h)) (fun b _ hb => hb.elim (fun e => e ▸ H.out.sp) (fun e => e ▸ H.out.sm))) hik hkb
               clear hd2 ho2 hz2))
          go_roundw
          case rel =>
            refine ⟨i + 1, by omega, by go_num, _, HI.out.next ((Only.alloc wr _).then HO2.out (fun _ _ h => h)) (by rw [HST.out]; exact HD2.out) hlp hlm⟩
          case measure => simp [intOf]; omega
        · have hik' : ¬ (i : Int) < (ks.length : Int) := by omega
          go_wp2_with (first
            | (at_lookup; refine wpList_look _ rfl _ _ false rfl HI.out.dr.mp hsm rfl rfl (r := .agg #[.slice pe e.b.length ce, .bool e.l]) (by rw [hg, ← HEV.out]; rfl) ?_)
            | (go_at_call 95; refine HTK.out.mono ?_; rintro e1 w2 ⟨rfl, hd2, ho2, hz2⟩; have HD2 := hid hd2; have HO2 := hid ho2; clear hd2 ho2 hz2))
          go_roundw
          case rel =>
            refine ⟨i + 1, by omega, by go_num, _, HI.out.next ((Only.alloc wr _).then HO2.out (fun _ _ h => h)) (by rw [HST.out]; exact HD2.out) hlp hlm⟩
          case measure => simp [intOf]; omega
      · rw [hkb, crOne_true HX.out] at HST
        have hik : i < ks.length := by
          rcases Nat.lt_or_ge i ks.length with h | h
          · exact h
          · rw [List.getD_eq_getElem?_getD, List.getElem?_eq_none h] at hkb; cases hkb
        have hik' : (i : Int) < (ks.length : Int) := by omega
        have HK2 := hid (HK.out.only HI.out.on (fun b _ hb => hb.elim (fun e => e ▸ H.out.sp) (fun e => e ▸ H.out.sm)))
        rcases HK.out with h0 | ⟨bk, ok, hpo, hnb, _⟩
        · rw [h0] at hik; simp at hik
        subst hpo
        have hltS : ∀ b, S b → b < wr.heap.size := HI.out.dr.lt
        go_wp2_with (first
          | (at_lookup; refine wpList_look _ rfl _ _ false rfl HI.out.dr.mp hsm rfl rfl (r := .agg #[.slice pe e.b.length ce, .bool e.l]) (by rw [hg, ← HEV.out]; rfl) ?_)
          | (go_at_call 95; refine HTK.out.mono ?_; rintro e1 w2 ⟨rfl, hd2, ho2, hz2⟩; have HD2 := hid hd2; have HO2 := hid ho2
             have ckk : w2.cell? ⟨bk, ok + i, none⟩ = some (.bool true) := kat_at (HK2.out.only ((Only.alloc wr _).then ho2 (fun _ _ h => h)) (fun b _ hb => hb.elim (fun e => e ▸ H.out.sp) (fun e => e ▸ H.out.sm))) hik hkb
             have hbx : CAt w2 wr.heap.size #[.slice pe e.b.length ce, .bool e.l] 136 := (CAt.made wr _ _).keep (ho2.block _ (by rw [size_al]; omega) (fun h => by have := hltS p H.out.sp; have := hltS m H.out.sm; rcases h with h | h <;> omega))
             have x0 : w2.cell? ⟨wr.heap.size, 0, none⟩ = some (.slice pe e.b.length ce) := hbx.cell 0
             have x1 : w2.cell? ⟨wr.heap.size, 1, none⟩ = some (.bool e.l) := hbx.cell 1
             have y1 : w2.frozen? ⟨wr.heap.size, 1, none⟩ = false := hbx.free 1
             have hk3 : ∀ b, S b → (w2.setCell ⟨wr.heap.size, 1, none⟩ (.bool false)).heap[b]? = w2.heap[b]? := fun b hb => heap_setCell_ne _ _ _ _ (by have := hltS b hb; intro e; simp at e; omega)
             have HD3 := hid (hd2.keep (w' := w2.setCell ⟨wr.heap.size, 1, none⟩ (.bool false)) (Nat.le_of_eq (setCell_size _ _ _).symm) hk3)
             have hn := HDA.out.newOf hg false
             rw [HEV.out] at hn
             have hne : NewE (w2.setCell ⟨wr.heap.size, 1, none⟩ (.bool false)) S p m (gdel (gdel Li s) s) ⟨.slice pe e.b.length ce, e.b, false⟩ :=
               ⟨ownsRow_keep hn.ow fun b hb => (hk3 b (hn.sf b hb).1).trans (ho2.block b (HDA.out.lt b (hn.sf b hb).1) (fun e => e.elim (hn.sf b hb).2.1 (hn.sf b hb).2.2)), hn.by8, hn.sf, fun y hy => hn.ap y (mem_del.1 hy).1⟩
             have HP := hid (put_any HD3.out s HSOK.out pe e.b.length ce e.b false rfl hne (by rw [HD3.out.lenF]; exact hsub) (by
               show usedOf (gdel (gdel (crashI d.F ks i) s) s) + e.b.length ≤ d.size
               have h1 := HI.out.dr.used_at hg
               have h2 := used_del (HI.out.dr.srtF.del s) s
               have h3 := HI.out.dr.us
               simp only at h1 h2 h3
               omega))
             have HOT := hid (((Only.alloc wr (.cells #[.slice pe e.b.length ce, .bool e.l] 136)).then ho2 (fun _ _ h => h)).then (Only.set (S := fun b => b = wr.heap.size) w2 ⟨wr.heap.size, 1, none⟩ (.bool false) rfl) (fun j hj e => by omega))
             clear hd2 ho2 hz2 hbx hk3 hn hne)
          | (go_at_call 91; refine HP.out.mono ?_; rintro e2 w4 ⟨rfl, hd4, ho4⟩; have HD4 := hid hd4; have HO4 := hid ho4; clear hd4 ho4))
        go_roundw
        case rel =>
          refine ⟨i + 1, by omega, by go_num, _, HI.out.next (HOT.out.then HO4.out (fun _ _ h => h)) (by rw [HST.out]; exact HD4.out) hlp hlm⟩
        case measure => simp [intOf]; omega
    · have hlt' : ¬ (i : Int) < ((looseN d.F).length : Int) := by omega
      obtain rfl : i = (looseN d.F).length := by omega
      have c7 : wr.cell? ⟨p, 7, none⟩ = some (.bool d.out) := HI.out.dr.c.cell 7
      have c8 : wr.cell? ⟨p, 8, none⟩ = some (fuV fu) := HI.out.dr.c.cell 8
      have z7 : wr.frozen? ⟨p, 7, none⟩ = false := HI.out.dr.c.free 7
      have z8 : wr.frozen? ⟨p, 8, none⟩ = false := HI.out.dr.c.free 8
      go_wp2
      go_ret
      have h1 := HI.out.dr.setC 7 (.bool false) (d2 := d.crash ks) (fu2 := fu) rfl rfl rfl
      have h2 := h1.setC 8 (.pointer none) (d2 := d.crash ks) (fu2 := none) rfl rfl rfl
      exact ⟨rfl, ⟨m, _, h2⟩, (HI.out.on.then (Only.set (S := fun b => b = p ∨ b = m) wr ⟨p, 7, none⟩ _ (Or.inl rfl)) (fun _ _ h => h)).then (Only.set (S := fun b => b = p ∨ b = m) _ ⟨p, 8, none⟩ _ (Or.inl rfl)) (fun _ _ h => h)⟩
end
end Go.Proofs.YtklchjfkkbpipaaGreatDoor

/- Contracts of SameBytes, in and names of the statements; acts and bools that came in. -/
namespace Go.Proofs.YtklchjfkkbpipaaGreatDoor
open Go Go.RowKit

theorem sv_eq (x y : Nm) : (⟨x.toArray⟩ : ByteArray) = ⟨y.toArray⟩ ↔ x = y :=
  ⟨fun e => by have := congrArg (fun b : ByteArray => b.data.toList) e; simpa using this, fun e => by rw [e]⟩
theorem ba_ne {X Y : ByteArray} (h : X ≠ Y) : (X.toList == Y.toList) = false := by
  cases hb : (X.toList == Y.toList)
  · rfl
  · exfalso
    have h2 := eq_of_beq hb
    rw [ByteArray.toList_eq, ByteArray.toList_eq] at h2
    exact h (WideShapes.bytes_inj h2)
section
variable {w : World} {S : Nat → Prop} {p m : Nat} {fu : Option Nat} {d : Pd} {L : List (Nm × Ent)}
end
theorem list_all (d : Pd) (f : Fs) (h : d.ans f [] = 0) : d.list f [] = d.F.map (·.1) := by
  unfold Pd.list namesOf; rw [if_pos h, List.filter_eq_self.2 (by simp)]

end Go.Proofs.YtklchjfkkbpipaaGreatDoor

/- Acts and bools that came in. -/
namespace Go.Proofs.YtklchjfkkbpipaaGreatDoor
open Go Go.RowKit

theorem plain_at (a : Addr) (w : World) (h : w.cell? a ≠ none) : ∃ b o, a = ⟨b, o, none⟩ := by
  obtain ⟨b, o, sp⟩ := a
  cases sp with
  | none => exact ⟨b, o, rfl⟩
  | some s =>
    exfalso; apply h
    unfold World.cell?
    split <;> simp
theorem bounds_u8 {k : Int} (h : (Lit.int .u8 k).wf = true) : 0 ≤ k ∧ k ≤ 255 := by
  simp [Lit.wf, IntKind.min, IntKind.max, IntKind.signed, IntKind.bits] at h; omega
section
variable {H : Type} {enc : TypeId × Value → H} {w : World} {held : Bool} {fuel : Nat}
theorem bools_read {cs : List Value} {x : DataW H × List MemPlace} (h : DataW.trod enc Tryz.prog w 0 (fun _ => true) held fuel 33 cs = some x) :
    ∃ (po : Option Addr) (c : Nat) (ks : List Bool), cs = [.slice po ks.length c] ∧ KAt w (fun _ => False) po ks := by
  rcases Go.Deep.open_bools Tryz.underlying33 Tryz.underlying4 (by kernel_rfl) h with ⟨hcs, _⟩ | ⟨a, len, cap, B, hcs, _, hl, _, _, hcell⟩
  · exact ⟨none, 0, [], hcs, Or.inl rfl⟩
  · refine ⟨some a, cap, (List.range len).map B, by simpa using hcs, ?_⟩
    by_cases h0 : len = 0
    · subst h0; exact Or.inl rfl
    · obtain ⟨b, o, rfl⟩ := plain_at a w (by have := hcell 0 (by omega); rw [add_zero'] at this; rw [this]; simp)
      refine Or.inr ⟨b, o, rfl, fun h => h, fun i hi => ?_⟩
      have hi' : i < len := by simpa using hi
      have := hcell i (by omega)
      rw [add_none] at this
      rw [this]; simp [List.getD, hi']
theorem bytes_read {cs : List Value} {x : DataW H × List MemPlace} (h : DataW.trod enc Tryz.prog w 0 (fun _ => true) held fuel 30 cs = some x) :
    ∃ (po : Option Addr) (c : Nat) (bs : List Nat), cs = [.slice po bs.length c] ∧ BAt w po bs ∧ ∀ y ∈ bs, y < 256 := by
  rcases Go.ChangeShapes.open_ints Tryz.underlying30 Tryz.underlying5 (by kernel_rfl) h with ⟨hcs, _⟩ | ⟨a, l, c, zs, hcs, _, hl, hm, hz, _, hcell, hwz⟩
  · exact ⟨none, 0, [], hcs, Or.inl ⟨rfl, rfl⟩, by simp⟩
  · have hz' : zs.length = c := by simpa using hz
    have hbd : ∀ i, i < l → 0 ≤ zs.getD i 0 ∧ zs.getD i 0 ≤ 255 := fun i hi => by
      have hlt : i < zs.length := by omega
      have e : zs.getD i 0 = zs[i] := by simp [List.getD, hlt]
      rw [e]; exact bounds_u8 (hwz _ (List.getElem_mem hlt))
    refine ⟨some a, c, (List.range l).map fun i => (zs.getD i 0).toNat, by simpa using hcs, Or.inr ⟨a, rfl, fun i hi => ?_⟩, fun y hy => ?_⟩
    · have hi' : i < l := by simpa using hi
      rw [hcell i (by omega)]
      have e1 : ((List.range l).map fun i => (zs.getD i 0).toNat).getD i 0 = (zs.getD i 0).toNat := by rw [getD_in _ _ _ (by simpa using hi')]; simp
      rw [e1, Int.toNat_of_nonneg (hbd i hi').1]
    · obtain ⟨i, hi, rfl⟩ := List.mem_map.1 hy
      have := hbd i (by simpa using hi)
      omega
theorem wf64 {k : Int} (h : (Lit.int .i64 k).wf = true) : -9223372036854775808 ≤ k ∧ k ≤ 9223372036854775807 := by
  simp [Lit.wf, IntKind.min, IntKind.max, IntKind.signed, IntKind.bits] at h; omega
end

end Go.Proofs.YtklchjfkkbpipaaGreatDoor

/- What happens to the drives of a set: made, crashed, offline, full, turned, a fuse for all; none, checkDrives. -/
namespace Go.Proofs.YtklchjfkkbpipaaGreatDoor
open Go Go.RowKit

section
variable {w wr : World} {T : Nat → Prop} {k : Nat} {p : Nat → Nat} {d : Nat → Pd} {f : Fs} {c : Nat}
/-- The first drive that has the fuse still crashes. -/
theorem FA.crash (h : FA w wr T k p d f c) (hi : c < k) (po : Option Addr) (cc : Nat) (ks : List Bool) (hk : KAt wr T po ks) (hkn : ks.length ≤ 1000000000) (hl : (d c).F.length < 1000000000000) :
    Calls Tryz.prog 31 #[ptr (p c), .slice po ks.length cc] wr fun e w' => e = .returned (.int .i64 0) ∧ FStep w wr T k p (upd d c ((d c).crash ks)) f (c + 1) w' := by
  refine h.turn hi (c2 := c + 1) (R := fun e => e = .returned (.int .i64 0)) ⟨fun j _ hj => by omega, Or.inr (by omega)⟩ (fun fu S m L hST hd hf => ?_) (fun h => absurd h (Nat.lt_irrefl _)) rfl
  have hkS : KAt wr S po ks := by
    rcases hk with hk | ⟨b, o, h1, h2, h3⟩
    · exact Or.inl hk
    · exact Or.inr ⟨b, o, h1, fun hs => h2 (hST b hs), h3⟩
  refine (crash_any hd po cc ks hkS hkn hl).mono ?_
  rintro e w' ⟨h1, h2, h3⟩
  have ho : Only S wr w' := h3.mono fun b hb => hb.elim (fun e => e ▸ hd.sp) (fun e => e ▸ hd.sm)
  exact ⟨h1, S, Grows.refl _ _, by rw [if_pos ⟨by omega, by omega⟩]; exact h2, hf.kept ho (fun q hq => hf.ne q hq), ho.mono fun b hb => Or.inl hb⟩
/-- A drive is given a fuse q that lies ready. -/
theorem Sys.lit1 {D : Nat → Dv} {Z : Nat → Nat × Bool} (h : Sys w wr k D Z) {i : Nat} (hi : i < k) {q : Nat} (hq : CAt wr q #[.int .i64 ((Z q).1 : Int), .bool (Z q).2] 140) (hz : (Z q).1 ≤ 9223372036854775807) (hw : w.heap.size ≤ q) (hS : ∀ j, j < k → ¬ (D j).S q) (o : Bool) :
    Sys w ((wr.setCell ⟨(D i).p, 7, none⟩ (.bool o)).setCell ⟨(D i).p, 8, none⟩ (ptr q)) k (setD D i ⟨(D i).p, (D i).S, some q, { (D i).d with out := o }⟩) Z := by
  obtain ⟨m, L, hr⟩ := h.dr i hi
  have hk : ∀ b, b ≠ (D i).p → ((wr.setCell ⟨(D i).p, 7, none⟩ (.bool o)).setCell ⟨(D i).p, 8, none⟩ (ptr q)).heap[b]? = wr.heap[b]? := fun b hb => (heap_setCell_ne _ _ _ _ hb).trans (heap_setCell_ne _ _ _ _ hb)
  have hsz : ((wr.setCell ⟨(D i).p, 7, none⟩ (.bool o)).setCell ⟨(D i).p, 8, none⟩ (ptr q)).heap.size = wr.heap.size := (setCell_size _ _ _).trans (setCell_size _ _ _)
  have fne : ∀ {x : Nat} {cs : Array Value}, CAt wr x cs 140 → x ≠ (D i).p := fun {x cs} hx e => by
    have h1 := hr.c; unfold CAt at h1 hx; rw [e, h1] at hx; simp at hx
  have sS : ∀ j, (setD D i ⟨(D i).p, (D i).S, some q, { (D i).d with out := o }⟩ j).S = (D j).S := fun j => by
    by_cases e : j = i
    · subst e; rw [setD_same]
    · rw [setD_ne _ _ e]
  refine ⟨fun j hj => ?_, fun j hj x e => ?_, fun a b ha hb hab => by rw [sS, sS]; exact h.dj a b ha hb hab, fun j hj => by rw [sS]; exact h.ge j hj, ?_⟩
  · by_cases e : j = i
    · subst e; rw [setD_same]; exact ⟨m, L, hr.litC o q⟩
    · rw [setD_ne _ _ e]
      exact (h.dr j hj).keep (Nat.le_of_eq hsz.symm) fun b hb => hk b fun e2 => h.dj j i hj hi e b hb (e2 ▸ hr.sp)
  · by_cases e2 : j = i
    · subst e2; rw [setD_same] at e; cases e
      exact ⟨hq.keep (hk _ (fne hq)), hz, hw, fun j2 hj2 => by rw [sS]; exact hS j2 hj2⟩
    · rw [setD_ne _ _ e2] at e
      obtain ⟨h1, h2, h3, h4⟩ := h.fz j hj x e
      exact ⟨h1.keep (hk _ (fne h1)), h2, h3, fun j2 hj2 => by rw [sS]; exact h4 j2 hj2⟩
  · have := h.ge i hi _ hr.sp
    exact ⟨h.be.os, h.be.tape, h.be.output, by rw [hsz]; exact h.be.size, fun b hb => (hk b (by omega)).trans (h.be.block b hb)⟩
end
end Go.Proofs.YtklchjfkkbpipaaGreatDoor

/- A fuse for all drives of a set; none, checkDrives. -/
namespace Go.Proofs.YtklchjfkkbpipaaGreatDoor
open Go Go.RowKit

section
variable {w wr : World} {T : Nat → Prop} {k : Nat} {p : Nat → Nat} {d : Nat → Pd} {f : Fs} {c : Nat}
end
/-! ### A fuse for all -/
def litD (D : Nat → Dv) (Z : Nat → Nat × Bool) (q i : Nat) : Nat → Dv := fun j => if j < i then ⟨(D j).p, (D j).S, some q, (D j).d.lit (fsOf Z (D j))⟩ else D j
theorem litD_zero (D : Nat → Dv) (Z : Nat → Nat × Bool) (q : Nat) : litD D Z q 0 = D := by funext j; simp [litD]
theorem litD_at (D : Nat → Dv) (Z : Nat → Nat × Bool) (q i : Nat) : litD D Z q i i = D i := by simp [litD]
theorem litD_succ (D : Nat → Dv) (Z : Nat → Nat × Bool) (q i : Nat) : setD (litD D Z q i) i ⟨(D i).p, (D i).S, some q, { (D i).d with out := (D i).d.isOut (fsOf Z (D i)) }⟩ = litD D Z q (i + 1) := by
  funext j
  by_cases e : j = i
  · subst e; rw [setD_same]; simp [litD, Pd.lit]
  · rw [setD_ne _ _ e]; unfold litD
    by_cases h : j < i
    · rw [if_pos h, if_pos (by omega)]
    · rw [if_neg h, if_neg (by omega)]
theorem litD_S (D : Nat → Dv) (Z : Nat → Nat × Bool) (q i j : Nat) : (litD D Z q i j).S = (D j).S := by unfold litD; split <;> rfl
theorem litD_p (D : Nat → Dv) (Z : Nat → Nat × Bool) (q i j : Nat) : (litD D Z q i j).p = (D j).p := by unfold litD; split <;> rfl
theorem Sys.zc {w wr : World} {k : Nat} {D : Nat → Dv} {Z Z2 : Nat → Nat × Bool} (h : Sys w wr k D Z) (hz : ∀ i, i < k → ∀ q, (D i).fu = some q → Z2 q = Z q) : Sys w wr k D Z2 :=
  ⟨h.dr, fun i hi q e => by rw [hz i hi q e]; exact h.fz i hi q e, h.dj, h.ge, h.be⟩
structure LtI (w w0 wr : World) (T : Nat → Prop) (k : Nat) (D : Nat → Dv) (Z Z2 : Nat → Nat × Bool) (q b : Nat) (p : Nat → Nat) (i : Nat) : Prop where
  sy : Sys w wr k (litD D Z q i) Z2
  fq : CAt wr q #[.int .i64 ((Z2 q).1 : Int), .bool (Z2 q).2] 140
  ls : ∀ j, j < k → wr.cell? ⟨b, j, none⟩ = some (ptr (p j))
  on : Only T w0 wr
  kp : KpL 0 w0 wr
section
variable {w w0 wr : World} {T : Nat → Prop} {k : Nat} {D : Nat → Dv} {Z Z2 : Nat → Nat × Bool} {q b : Nat} {p : Nat → Nat} {i : Nat}
theorem LtI.next (h : LtI w w0 wr T k D Z Z2 q b p i) (hi : i < k) (hz : (Z2 q).1 ≤ 9223372036854775807) (hw : w.heap.size ≤ q) (hS : ∀ j, j < k → ¬ (D j).S q) (hT : ∀ x, (D i).S x → T x) (hb : ¬ T b) :
    LtI w w0 ((wr.setCell ⟨(D i).p, 7, none⟩ (.bool ((D i).d.isOut (fsOf Z (D i))))).setCell ⟨(D i).p, 8, none⟩ (ptr q)) T k D Z Z2 q b p (i + 1) := by
  obtain ⟨m, L, hr⟩ := h.sy.dr i hi
  rw [litD_at] at hr
  have hl := h.sy.lit1 hi h.fq hz hw (fun j hj => by rw [litD_S]; exact hS j hj) ((D i).d.isOut (fsOf Z (D i)))
  rw [litD_at, litD_succ] at hl
  have hk : ∀ x, x ≠ (D i).p → ((wr.setCell ⟨(D i).p, 7, none⟩ (.bool ((D i).d.isOut (fsOf Z (D i))))).setCell ⟨(D i).p, 8, none⟩ (ptr q)).heap[x]? = wr.heap[x]? := fun b hb => (heap_setCell_ne _ _ _ _ hb).trans (heap_setCell_ne _ _ _ _ hb)
  have hsz : ((wr.setCell ⟨(D i).p, 7, none⟩ (.bool ((D i).d.isOut (fsOf Z (D i))))).setCell ⟨(D i).p, 8, none⟩ (ptr q)).heap.size = wr.heap.size := (setCell_size _ _ _).trans (setCell_size _ _ _)
  have fne : q ≠ (D i).p := fun e => by have h1 := hr.c; have hx := h.fq; unfold CAt at h1 hx; rw [e, h1] at hx; simp at hx
  have hTp : T (D i).p := hT _ hr.sp
  have o1 : Only T wr ((wr.setCell ⟨(D i).p, 7, none⟩ (.bool ((D i).d.isOut (fsOf Z (D i))))).setCell ⟨(D i).p, 8, none⟩ (ptr q)) := (Only.set (S := T) wr ⟨(D i).p, 7, none⟩ _ hTp).then (Only.set (S := T) _ ⟨(D i).p, 8, none⟩ _ hTp) (fun _ _ h => h)
  refine ⟨hl, h.fq.keep (hk _ fne), fun j hj => (World.cell?_of_block (a := ⟨b, j, none⟩) (hk b fun e => hb (e ▸ hTp))).trans (h.ls j hj), h.on.then o1 (fun _ _ h => h), h.kp.trans ⟨Nat.le_of_eq hsz.symm, fun r o _ hr2 hb2 => (hk r fun e => ?_).trans hr2⟩⟩
  subst e
  exact hr.c.nbk rfl ⟨o, hr2, hb2⟩
end
section
variable {w w1 : World} {T : Nat → Prop} {k : Nat} {p : Nat → Nat} {d : Nat → Pd} {f : Fs}
set_option maxHeartbeats 1000000 in
set_option maxRecDepth 100000 in
theorem fuse_fa (h : FA w w1 T k p d f 0) {v : Value} (hl : LsAt w1 T v k p) (hk : k ≤ 64) (n : Nat) (hn : n ≤ 9223372036854775807) :
    Calls Tryz.prog 30 #[v, .int .i64 (n : Int)] w1 fun e w' => e = .returned (.int .i64 0) ∧ FStep w w1 T k p (fun i => (d i).lit f) (some (n, false)) 0 w' := by
  have H := hid (fun i (hi : i < k) => h.made hi)
  have HK := hid hk
  have hn0 : ¬ (n : Int) < 0 := by omega
  have hk0 : ¬ 64 < (k : Int) := by omega
  have HN := hid hn
  obtain ⟨D, Z, fu, hs, hdd, hf, hq⟩ := h.ex
  have hfs : ∀ i, i < k → fsOf Z (D i) = f := fun i hi => by unfold fsOf; rw [(hdd i hi).2.1, ← hf]; simp
  obtain ⟨Z2, hZ2⟩ : ∃ Z2 : Nat → Nat × Bool, (fun x => if x = w1.heap.size then (n, false) else Z x) = Z2 := ⟨_, rfl⟩
  have hz : Z2 w1.heap.size = (n, false) := by rw [← hZ2]; simp
  have hold : ∀ i, i < k → ∀ x, (D i).fu = some x → Z2 x = Z x := fun i hi x e => by
    have := (hs.fz i hi x e).1.lt; rw [← hZ2]; simp; omega
  have s0 : Sys w (w1.alloc (.cells #[.int .i64 (n : Int), .bool false] 140)) k D Z2 := (hs.below ((Below.refl _ _).alloc (Nat.le_refl _) _)).zc hold
  have fin : ∀ W, (∃ D2, D2 = litD D Z w1.heap.size k ∧ Sys w W k D2 Z2) → Only T w1 W → KpL 0 w1 W → CAt W w1.heap.size #[.int .i64 (n : Int), .bool false] 140 → FStep w w1 T k p (fun i => (d i).lit f) (some (n, false)) 0 W := fun W ⟨D2, e2, hs2⟩ ho hkp hcq => by
    subst e2
    refine ⟨fun x => T x ∨ x = w1.heap.size, ⟨fun b hb => Or.inl hb, fun b hb => hb.elim Or.inl (fun e => Or.inr (by omega))⟩, ⟨⟨_, Z2, some w1.heap.size, hs2, fun i hi => ?_, by simp [hz], fun x e => by cases e; exact Or.inr rfl⟩, fun x hx => ?_, fun x hx => ?_, hs2.be⟩, ho, hkp⟩
    · obtain ⟨g1, g2, g3, g4⟩ := hdd i hi
      refine ⟨by rw [litD_p]; exact g1, by simp [litD, hi], ?_, fun x hx => by rw [litD_S] at hx; exact Or.inl (g4 x hx)⟩
      simp [litD, hi, hfs i hi, g3]
    · exact hx.elim (fun h' => Nat.lt_of_lt_of_le (h.lt x h') ho.size) (fun e => by subst e; exact hcq.lt)
    · exact hx.elim (h.ge x) (fun e => by subst e; exact h.be.size)
  have FIN := hid fin
  have CQ := hid (CAt.made w1 #[.int .i64 (n : Int), .bool false] 140)
  have hkp0 : KpL 0 w1 (w1.alloc (.cells #[.int .i64 (n : Int), .bool false] 140)) := KpL.below ((Below.refl _ _).alloc (Nat.le_refl _) _)
  rcases hl.ex with ⟨rfl, rfl⟩ | ⟨h0, b, cc, rfl, hTb, hb⟩
  · have FZ := hid (FIN.out _ ⟨_, (litD_zero D Z w1.heap.size).symm, s0⟩ (Only.alloc _ _) hkp0 CQ.out)
    clear h hl fin s0 hkp0 hs hdd hfs hold
    go_enter Tryz.func30, Tryz.ntmps30
    go_wp2
    refine wp_loop_rounds 1 ?_
    rw [rounds_succ]
    go_wp2
    refine wp_loop_rounds 1 ?_
    rw [rounds_succ]
    go_wp2
    go_ret
    exact ⟨rfl, FZ.out⟩
  · have HB := hid hb
    have hbl := cell_lt2 (hb 0 h0)
    have L0 : Hid (LtI w w1 (w1.alloc (.cells #[.int .i64 (n : Int), .bool false] 140)) T k D Z Z2 w1.heap.size b p 0) :=
      ⟨by rw [litD_zero]; exact s0, by rw [hz]; exact CQ.out, fun j hj => (World.cell?_of_block (a := ⟨b, j, none⟩) (heap_alloc_old w1 _ hbl)).trans (hb j hj), Only.alloc _ _, hkp0⟩
    have HZ := hid hz
    have HD := hid hdd
    have HS := hid hs
    have HF := hid hfs
    have HO := hid hold
    have HT := hid hTb
    have HG := hid h.be.size
    have HSq : Hid (∀ j, j < k → ¬ (D j).S w1.heap.size) := fun j hj hx => by have := hs.lt hj _ hx; omega
    clear h hl hb hk fin s0 hkp0 hz hdd hs hfs hold hZ2 hTb hf hq
    go_enter Tryz.func30, Tryz.ntmps30
    go_wp2
    go_loopw [12] (fun x wx => ∃ i : Nat, i ≤ k ∧ x = .int .i64 (i : Int) ∧ w1 = wx) (fun x _ => (1000 - intOf x).toNat)
    case atStart => exact ⟨0, by omega, rfl, rfl⟩
    case round =>
      obtain ⟨i, hi, rfl, hw⟩ := hrel
      subst hw
      by_cases hlt : i < k
      · have hx := HB.out i hlt
        have hm := H.out i hlt
        have hlt' : (i : Int) < (k : Int) := by omega
        have hi2 : (i : Int) < 1000 := by have := HK.out; omega
        go_wp2_with (go_at_call 93; refine hm.mono ?_; rintro e w' ⟨rfl, hw'⟩; have hw2 := hw'.symm; subst hw2)
        go_roundw
        case rel => exact ⟨i + 1, by omega, by go_num, by trivial⟩
        case measure => simp [intOf]; omega
      · have hlt' : ¬ (i : Int) < (k : Int) := by omega
        go_wp2
        clear hlt'
        generalize w1.alloc (.cells #[.int .i64 (n : Int), .bool false] 140) = W0 at *
        go_loopw [32] (fun x wx => ∃ j : Nat, j ≤ k ∧ x = .int .i64 (j : Int) ∧ LtI w w1 wx T k D Z Z2 w1.heap.size b p j) (fun x _ => (1000 - intOf x).toNat)
        case atStart => exact ⟨0, by omega, rfl, L0.out⟩
        case round =>
          obtain ⟨j, hj, rfl, hL⟩ := hrel
          have HL := hid hL
          clear hL
          by_cases hlj : j < k
          · have hx := HL.out.ls j hlj
            obtain ⟨m, L, hr⟩ := HL.out.sy.dr j hlj
            have hu := HL.out.sy.fu hlj
            rw [litD_at] at hr hu
            have ef : fsOf Z2 (D j) = fsOf Z (D j) := by
              unfold fsOf
              cases e : (D j).fu with
              | none => rfl
              | some x => simp [HO.out j hlj x e]
            rw [ef] at hu
            have hpj : (D j).p = p j := (HD.out j hlj).1
            have HN1 := hid (HL.out.next hlj (by rw [HZ.out]; exact HN.out) HG.out HSq.out (HD.out j hlj).2.2.2 HT.out)
            have HIO := hid (isOut_any hr hu)
            have a7 : wr.cell? ⟨(D j).p, 7, none⟩ = some (.bool (D j).d.out) := hr.c.cell 7
            have a8 : wr.cell? ⟨(D j).p, 8, none⟩ = some (fuV (D j).fu) := hr.c.cell 8
            have y7 : wr.frozen? ⟨(D j).p, 7, none⟩ = false := hr.c.free 7
            have y8 : wr.frozen? ⟨(D j).p, 8, none⟩ = false := hr.c.free 8
            rw [hpj] at a7 a8 y7 y8 HIO HN1
            generalize (D j).d.isOut (fsOf Z (D j)) = o at HIO HN1
            generalize fuV (D j).fu = fv at a8
            generalize (D j).d.out = ov at a7
            generalize hpp : p j = pj at *
            clear hr hu ef hpj
            have hlj' : (j : Int) < (k : Int) := by omega
            have hj2 : (j : Int) < 1000 := by have := HK.out; omega
            go_wp2_with (go_at_call 94; refine HIO.out.mono ?_; rintro e w' ⟨rfl, hw'⟩; have hw2 := hw'.symm; subst hw2)
            go_roundw
            case rel => exact ⟨j + 1, by omega, by go_num, HN1.out⟩
            case measure => simp [intOf]; omega
          · have hlj' : ¬ (j : Int) < (k : Int) := by omega
            have hjk : j = k := by omega
            have FZ := hid (FIN.out wr ⟨_, rfl, hjk ▸ HL.out.sy⟩ HL.out.on HL.out.kp (by have := HL.out.fq; rw [HZ.out] at this; exact this))
            go_wp2
            go_ret
            exact ⟨by first | rfl | trivial, FZ.out⟩
end
end Go.Proofs.YtklchjfkkbpipaaGreatDoor

/- Delete, Clean, unstage; checkNames. -/
namespace Go.Proofs.YtklchjfkkbpipaaGreatDoor
open Go Go.RowKit

/-- What stands against files of these names. -/
def ckN (ns : List Nm) : Nat := if 128 < ns.length then 3 else if ns.all okNm then 0 else 13
theorem all_not {ns : List Nm} {k : Nat} (hk : k < ns.length) (h : okNm (ns.getD k []) = false) : ns.all okNm = false := by
  rw [List.all_eq_false]
  exact ⟨ns[k], List.getElem_mem hk, by rw [getD_in _ _ _ hk] at h; simp [h]⟩
theorem all_yes {ns : List Nm} (h : ∀ i, i < ns.length → okNm (ns.getD i []) = true) : ns.all okNm = true := by
  rw [List.all_eq_true]
  intro x hx
  obtain ⟨i, hi, rfl⟩ := List.mem_iff_getElem.1 hx
  have := h i hi; rwa [getD_in _ _ _ hi] at this
set_option maxRecDepth 100000 in
theorem checkNames_any (po : Option Addr) (c : Nat) (ns : List Nm) (w : World) (hv : TxtAt w (.slice po ns.length c) ns) (hl : ∀ x ∈ ns, x.length ≤ maxLen) (hn : ns.length ≤ 1000000) :
    Calls Tryz.prog 80 #[.slice po ns.length c] w fun e w' => e = .returned (.int .i64 (ckN ns : Int)) ∧ w' = w := by
  by_cases h128 : 128 < ns.length
  · have e : ckN ns = 3 := by unfold ckN; rw [if_pos h128]
    have h' : (128 : Int) < (ns.length : Int) := by omega
    rw [e]
    clear hv e
    go_enter Tryz.func80, Tryz.ntmps80
    go_wp2
    go_ret
    exact ⟨rfl, rfl⟩
  · have h' : ¬ (128 : Int) < (ns.length : Int) := by omega
    have HV := hid hv
    have HL := hid hl
    clear hv hl
    go_enter Tryz.func80, Tryz.ntmps80
    go_wp2
    go_loopw [10] (fun v wr => ∃ k : Nat, k ≤ ns.length ∧ v = .int .i64 (k : Int) ∧ w = wr ∧ ∀ i, i < k → okNm (ns.getD i []) = true) (fun v _ => (1000 - intOf v).toNat)
    case atStart => exact ⟨0, by omega, rfl, rfl, fun i hi => by omega⟩
    case round =>
      obtain ⟨k, hk, rfl, hw, hok⟩ := hrel
      have HOK := hid hok
      clear hok
      subst hw
      by_cases hlt : k < ns.length
      · rcases HV.out with ⟨h0, _⟩ | ⟨b, c', he, hb⟩
        · rw [h0] at hlt; simp at hlt
        have hpo : po = some ⟨b, 0, none⟩ := by injection he
        subst hpo
        have hx := hb k hlt
        have hnm := name_any (ns.getD k []) w (HL.out _ (by rw [getD_in _ _ _ hlt]; exact List.getElem_mem hlt))
        clear hb he
        generalize hc : ns.getD k [] = s at hx hnm
        have HC := hid hc
        clear hc
        have hlt' : (k : Int) < (ns.length : Int) := by omega
        cases hb : okNm s
        · rw [hb] at hnm
          go_wp2_with (go_at_call 66; refine hnm.mono ?_; rintro e w' ⟨rfl, hw'⟩; have hw2 := hw'.symm; subst hw2)
          go_ret
          have e : ckN ns = 13 := by unfold ckN; rw [if_neg h128, all_not hlt (by rw [HC.out]; exact hb)]; rfl
          exact ⟨by first | rfl | trivial | (rw [e]; rfl), by first | rfl | trivial⟩
        · rw [hb] at hnm
          go_wp2_with (go_at_call 66; refine hnm.mono ?_; rintro e w' ⟨rfl, hw'⟩; have hw2 := hw'.symm; subst hw2)
          go_roundw
          case rel =>
            refine ⟨k + 1, by omega, by go_num, by trivial, fun i hi => ?_⟩
            by_cases e : i = k
            · rw [e, HC.out]; exact hb
            · exact HOK.out i (by omega)
          case measure => simp [intOf]; omega
      · have hlt' : ¬ (k : Int) < (ns.length : Int) := by omega
        have e : ckN ns = 0 := by unfold ckN; rw [if_neg h128, all_yes fun i hi => HOK.out i (by omega)]; rfl
        go_wp2
        go_ret
        exact ⟨by first | rfl | trivial | (rw [e]; rfl), by first | rfl | trivial⟩
section
variable {w w1 : World} {T : Nat → Prop} {k : Nat} {p : Nat → Nat} {X0 : FS}
end
end Go.Proofs.YtklchjfkkbpipaaGreatDoor

/- Some sets of drives beside one another. -/
namespace Go.Proofs.YtklchjfkkbpipaaGreatDoor
open Go Go.RowKit Go.Shelf

def SomeAt2 (w w1 : World) (n size : Nat) (e : Ending) (w' : World) : Prop :=
  ∃ v p T, e = .returned (.tuple #[v, .bool true]) ∧ FA w w' T n p (fun _ => fresh size) none 0 ∧ LsAt w' T v n p ∧ Below w1.heap.size w1 w' ∧ (∀ b, T b → w1.heap.size ≤ b) ∧ ∀ b c, v = .slice (some ⟨b, 0, none⟩) n c → w1.heap.size ≤ b
theorem SmI.done2 {w w1 wr : World} {T : Nat → Prop} {n i : Nat} {p : Nat → Nat} {v : Value} (h : SmI w w1 wr T n i p v) : SomeAt2 w w1 i n (.returned (.tuple #[v, .bool true])) wr := by
  obtain ⟨v', p', T', e, h1, h2, h3, h4⟩ := h.done
  cases e
  exact ⟨v, p', T', rfl, h1, h2, h3, h4, fun b c e => (own_ge h.ow b (by rw [e]; rfl)).1⟩
set_option maxRecDepth 100000 in
theorem some_any2 (w w1 : World) (hb : Below w.heap.size w w1) (n size : Nat) (hn : n ≤ 20) (h1 : 1 ≤ size) (h2 : size ≤ 67108864) : Calls Tryz.prog 21 #[.int .i64 (n : Int), .int .i64 (size : Int)] w1 (SomeAt2 w w1 n size) := by
  have H0 : Hid (SmI w w1 w1 (fun _ => False) size 0 (fun _ => 0) (.slice none 0 0)) := ⟨FA.empty w w1 hb _ _, World.ownsRow_nil _ _ _ _, fun _ e => (by cases e), fun _ h => h.elim, Below.refl _ _, hb.size, fun _ => rfl⟩
  have HN := hid (fun W => new_ok size h1 h2 W)
  clear hb
  go_enter Tryz.func21, Tryz.ntmps21
  go_wp2
  go_loopw [6, 7] (fun v q wr => ∃ i T p, i ≤ n ∧ q = .int .i64 (i : Int) ∧ SmI w w1 wr T size i p v) (fun _ q _ => (1000 - intOf q).toNat)
  case atStart => exact ⟨0, _, _, Nat.zero_le _, rfl, H0.out⟩
  case round =>
    obtain ⟨i, T, p, hi, rfl, hI⟩ := hrel
    have HI := hid hI
    clear hI
    by_cases hlt : i < n
    · have hlt' : (i : Int) < (n : Int) := by omega
      have hi2 : (i : Int) < 1000 := by omega
      have hi3 : i ≤ 1000 := by omega
      obtain ⟨po, cc, hv⟩ := own_form HI.out.ow
      subst hv
      go_wp2_with (first
        | (go_at_call 13; refine (HN.out _).mono ?_; rintro e w2 ⟨q, rfl, hd, hb2⟩; obtain ⟨v4, w4, hrun, T4, p4, hS4⟩ := HI.out.new hd hb2 hi3; have HRUN := hid hrun; have HS4 := hid hS4; clear hd hb2 hrun hS4)
        | (at_builtin; refine wpList_append_run _ _ 23 rfl rfl _ _ v4 rfl rfl HRUN.out ?_))
      go_roundw
      case rel => exact ⟨i + 1, T4, p4, by omega, by go_num, HS4.out⟩
      case measure => simp [intOf]; omega
    · have hlt' : ¬ (i : Int) < (n : Int) := by omega
      have e : i = n := by omega
      subst e
      have HD := hid HI.out.done2
      obtain ⟨po, cc, hv⟩ := own_form HI.out.ow
      subst hv
      go_wp2
      go_ret2
      exact HD.out
section
variable {w W W' : World} {n : Nat} {T : Nat → Nat → Prop} {lv : Nat → Value} {p : Nat → Nat → Nat} {X : Nat → FS} {c : Nat → Nat} {Z : Nat → Prop}
end
end Go.Proofs.YtklchjfkkbpipaaGreatDoor
