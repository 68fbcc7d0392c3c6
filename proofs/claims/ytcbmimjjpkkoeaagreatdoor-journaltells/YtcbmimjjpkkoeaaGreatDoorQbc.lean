/- Texts laid into one: the remark ahead of each part says what is proved there. -/
import Derived.Test.YtcbmimjjpkkoeaaGreatDoorQbb
import Derived.Test.YtcbmimjjpkkoeaaGreatDoorQao
import Derived.Test.YtcbmimjjpkkoeaaGreatDoorQat
/- over. -/
namespace Go.Proofs.YtcbmimjjpkkoeaaGreatDoor
open Go Go.RowKit

def ovR : Rv := { zR with id := ⟨#[111, 118, 101, 114]⟩ }
theorem builtOv : Tryz.prog.built 45 [(0, .string ⟨#[111, 118, 101, 114]⟩)] = some ovR.cs := by kernel_rfl
theorem builtPm : Tryz.prog.built 59 [(0, .int .i64 (-1))] = some #[i64 (-1), i64 0] := by kernel_rfl
theorem sizeP8 : (Tryz.prog.info? 59).map (·.size) = some 2 := by kernel_rfl
theorem ovR_size : ovR.cs.size = 42 := by kernel_rfl
theorem ovR_one : ovR.cs.all (·.oneCell') = true := by kernel_rfl
theorem CAt.thereP {w : World} {b : Nat} {cs : Array Value} {t : TypeId} (h : CAt w b cs t) {o n : Nat} (hn : o + n ≤ cs.size) : w.there b o n := fun j hj => ⟨by rw [h.cell, Array.getElem?_eq_getElem (by omega)]; rfl, h.free _⟩
set_option maxRecDepth 100000 in
set_option maxHeartbeats 2000000 in
theorem over_any (s : Int) (v : Value) (l : List Rp) (B H : Nat) (w : World) (h : OvL B H w v l) (hH : H ≤ w.heap.size) : Calls Tryz.prog 15 #[.agg (jC s v)] w fun e w' => e = .returned (.tuple #[]) ∧ Only (fun b => B ≤ b ∧ b < H) w w' := by
  obtain ⟨po, c, rfl, hn, hcell, hx⟩ := h
  obtain ⟨n, hN⟩ : ∃ n, l.length = n := ⟨_, rfl⟩
  have HN := hid hN
  obtain ⟨g, hg⟩ : ∃ g, l = [] ∨ (po = some ⟨g, 0, none⟩ ∧ Ov B H g l 0 w w) := by
    rcases hcell with e | ⟨g, cs, hp, hc, k1, k2, k3, k4⟩
    · exact ⟨0, Or.inl e⟩
    · exact ⟨g, Or.inr ⟨hp, ⟨⟨cs, hc, k1, fun i x _ => k4 i x⟩, k2, k3, fun x hx' => (hx x hx').2, Only.refl _ _⟩⟩⟩
  have HX := hid hx
  have HG := hid hg
  have hnz : (n : Int) ≤ 100000 := by omega
  rw [hN]
  have HHH := hid hH
  clear hx hg hcell hN hn hH
  obtain ⟨X, hX⟩ : ∃ X : Array Value, ovR.cs = X := ⟨_, rfl⟩
  have HXV := hid hX
  clear hX
  go_enter Tryz.func15, Tryz.ntmps15
  go_wp2_with ((with_reducible refine wpList_boxT 24 rfl _ rfl (jC s (.slice po n c)) ?_ ?_); exact rfl; intro w1 g1 hc1 hb1 hg1; have HJ := hid hc1; have HB := hid hb1; have HG1 := hid hg1; clear hb1 hc1 hg1)
  go_loopg [2, 3] n (fun gg s2 _ wr => ∃ kk : Nat, kk ≤ n ∧ n - kk ≤ gg ∧ s2 = i64 kk ∧ Hid (Only (fun b => B ≤ b ∧ b < H) w wr ∧ CAt wr g1 (jC s (.slice po n c)) 24) ∧ Hid (l = [] ∨ (po = some ⟨g, 0, none⟩ ∧ Ov B H g l kk w wr)))
  case atStart =>
    refine ⟨0, Nat.zero_le _, by omega, rfl, ⟨Only.of_below HB.out, HJ.out⟩, ?_⟩
    rcases HG.out with e | ⟨e, h⟩
    · exact Or.inl e
    · exact Or.inr ⟨e, h.on HB.out⟩
  case round =>
    obtain ⟨kk, hkk, hg, rfl, BO, A⟩ := hrel
    have c1 := BO.out.2.j1
    by_cases hlt : kk < n
    · have hltz : (kk : Int) < (n : Int) := by omega
      obtain ⟨hpo, ho⟩ := A.out.resolve_left (fun e => by have := HN.out; rw [e] at this; simp at this; omega)
      subst hpo
      obtain ⟨x, hx⟩ : ∃ x, l[kk]? = some x := ⟨_, List.getElem?_eq_getElem (by have := HN.out; omega)⟩
      have hxo := HX.out x (List.mem_of_getElem? hx)
      obtain ⟨pp, m, cp, hpv, hm, hpc⟩ := ho.parts x (List.mem_of_getElem? hx)
      have HO := hid ho
      have HXX := hid hx
      have HPV := hid hpv
      have HXO := hid hxo.1
      have hmz : (m : Int) ≤ 100000 := by omega
      clear hx hxo hpv hpc ho
      have c40 : wr.cell? ⟨g, kk * 42 + 40, none⟩ = some (.slice pp m cp) := HO.out.cell HXX.out 40 _ (by rw [HXO.out.pv, HPV.out])
      go_wp2
      clear c40 c1
      go_loopg [3] m (fun gg s3 wi => ∃ k : Nat, k ≤ m ∧ m - k ≤ gg ∧ s3 = i64 k ∧ Hid (Ov B H g l kk w wi) ∧ Hid (CAt wi g1 (jC s (.slice (some ⟨g, 0, none⟩) n c)) 24))
      case atStart => exact ⟨0, Nat.zero_le _, by omega, rfl, HO.out, BO.out.2⟩
      case round =>
        obtain ⟨k, hk, hgk, rfl, OI, JI⟩ := hrel
        have c1 := JI.out.j1
        have c40 : wr.cell? ⟨g, kk * 42 + 40, none⟩ = some (.slice pp m cp) := OI.out.cell HXX.out 40 _ (by rw [HXO.out.pv, HPV.out])
        by_cases hkt : k < m
        · have hktz : (k : Int) < (m : Int) := by omega
          obtain ⟨p2, m2, c2, hpv2, _, hpc⟩ := OI.out.parts x (List.mem_of_getElem? HXX.out)
          rw [HPV.out] at hpv2
          cases hpv2
          obtain ⟨b, o, cs, hp, hc, hs, hB, hHb⟩ := hpc.resolve_left (by omega)
          subst hp
          obtain ⟨z0, e0⟩ : ∃ z, wr.cell? ⟨b, o + k * 2, none⟩ = some z := ⟨_, by rw [hc.cell, Array.getElem?_eq_getElem (by omega)]⟩
          obtain ⟨z1, e1⟩ : ∃ z, wr.cell? ⟨b, o + k * 2 + 1, none⟩ = some z := ⟨_, by rw [hc.cell, Array.getElem?_eq_getElem (by omega)]⟩
          have f0 := hc.free (o + k * 2)
          have f1 := hc.free (o + k * 2 + 1)
          have HOI := hid (OI.out.part (o := o + k * 2) (vs := #[i64 (-1), i64 0].toList) hc hB hHb)
          have HJI := hid (JI.out.keep ((only_setCells (S := fun q => q = b) wr b (o + k * 2) #[i64 (-1), i64 0].toList rfl).block g1 JI.out.lt (fun e => by have := HHH.out; have := HG1.out; omega)))
          clear hc hs
          go_wp2_with ((with_reducible refine wpList_build_want 59 _ rfl ?_ #[i64 (-1), i64 0] ?_ ?_); exact rfl; exact builtPm)
          go_roundg (m - (k + 1))
          case measure => omega
          case rel => exact ⟨k + 1, by omega, by omega, by go_num, HOI.out, HJI.out⟩
        · have hktz : ¬ (k : Int) < (m : Int) := by omega
          obtain ⟨ht, hr⟩ := OI.out.nextR (vs := X.toList) (by rw [← HXV.out]; exact ovR_size) (by have := HN.out; omega) (fun y hy => (HX.out y hy).1)
          have HT := hid ht
          have HR := hid hr
          have HJI := hid (JI.out.keep ((only_setCells (S := fun q => q = g) wr g (kk * 42) X.toList rfl).block g1 JI.out.lt (fun e => by have := HHH.out; have := HG1.out; have := HR.out.hi; omega)))
          clear ht hr
          go_wp2_with (first
            | ((with_reducible refine wpList_build_want 45 _ rfl ?_ X ?_ ?_); exact rfl; (rw [← HXV.out]; exact builtOv))
            | ((with_reducible refine wpList_store_mid rfl 45 _ _ rfl g (kk * 42) X ?_ ?_ ?_ ?_ ?_ ?_); exact rfl; exact rfl; (rw [← HXV.out, ovR_size]; exact HT.out); (rw [← HXV.out, ovR_size]; exact sizeR); (rw [← HXV.out]; exact ovR_one)))
          go_roundg (n - (kk + 1))
          case measure => omega
          case rel => exact ⟨kk + 1, by omega, by omega, by go_num, ⟨HR.out.only, HJI.out⟩, Or.inr ⟨(by first | rfl | trivial), HR.out⟩⟩
    · have hltz : ¬ (kk : Int) < (n : Int) := by omega
      go_wp2
      go_end0
      exact ⟨rfl, BO.out.1⟩
#print axioms over_any
end Go.Proofs.YtcbmimjjpkkoeaaGreatDoor

/- What Add, Remove, Find and Newest tell, the program's and the document's alike. -/
namespace Go.Proofs.YtcbmimjjpkkoeaaGreatDoor
open Go Go.RowKit

/-- A journal and an error's number. -/
def JrS (w : World) (j : Nat × Option Jr) (e : Ending) (w' : World) : Prop := ∃ (s : Int) (v : Value) (m : List Rp), e = .returned (.tuple #[.agg (jC s v), i64 ((j.1 : Nat) : Int)]) ∧ Rs w.heap.size w' v m ∧ (⟨s, rcs m⟩ : Jr) = j.2.getD ⟨0, []⟩ ∧ m.length ≤ 100000 ∧ Below w.heap.size w w'
theorem jr_none {F : Nat} {args : Array Value} {w : World} {n : Nat} (h : Calls Tryz.prog F args w fun e w' => e = .returned (.tuple #[.agg (jC 0 (.slice none 0 0)), i64 ((n : Nat) : Int)]) ∧ Below w.heap.size w w') : Calls Tryz.prog F args w (JrS w (n, none)) :=
  h.mono fun e w' ⟨he, hb⟩ => ⟨0, .slice none 0 0, [], he, Rs.nil _ _, rfl, by simp, hb⟩
theorem jr_some {F : Nat} {args : Array Value} {w : World} {j : Jr} (h : Calls Tryz.prog F args w (JouE w j.seq j.recs)) (hn : j.recs.length ≤ 100000) : Calls Tryz.prog F args w (JrS w (0, some j)) :=
  h.mono fun e w' ⟨v, m, he, hr, hm, hb⟩ => ⟨j.seq, v, m, he, hr, by rw [hm]; rfl, by rw [← rcs_len, hm]; exact hn, hb⟩
/-- Add, by the ways that a call of it may go. -/
theorem add_of {F : Nat} {args : Array Value} {w : World} {s : Int} {l : List Rp} {x : Rp}
    (a1 : ¬ s = 0 → okJ ⟨s, rcs l⟩ = false → Calls Tryz.prog F args w (JrS w (2, none)))
    (a0 : s = 0 → ¬ l.length = 0 → okJ ⟨0, rcs l⟩ = false → Calls Tryz.prog F args w (JrS w (2, none)))
    (a2 : s = 0 → l.length = 0 → okRc x.rc = false → Calls Tryz.prog F args w (JrS w (2, none)))
    (a3 : ¬ s = 0 → okJ ⟨s, rcs l⟩ = true → okRc x.rc = false → Calls Tryz.prog F args w (JrS w (2, none)))
    (f1 : s = 1099511627776 → okJ ⟨1099511627776, rcs l⟩ = true → okRc x.rc = true → Calls Tryz.prog F args w (JrS w (8, none)))
    (f2 : ¬ s = 0 → okJ ⟨s, rcs l⟩ = true → okRc x.rc = true → ¬ s = 1099511627776 → (wout (rcs l) (lst x.r.id)).length = 64 → Calls Tryz.prog F args w (JrS w (8, none)))
    (o2 : ¬ s = 0 → okJ ⟨s, rcs l⟩ = true → okRc x.rc = true → 0 ≤ s → s < 1099511627776 → (wout (rcs l) (lst x.r.id)).length < 64 → Calls Tryz.prog F args w (JouE w (s + 1) (x.rc :: wout (rcs l) (lst x.r.id))))
    (o1 : s = 0 → l.length = 0 → okRc x.rc = true → (wout (rcs l) (lst x.r.id)).length < 64 → Calls Tryz.prog F args w (JouE w (s + 1) (x.rc :: wout (rcs l) (lst x.r.id)))) :
    Calls Tryz.prog F args w (JrS w (addJ ⟨s, rcs l⟩ x.rc)) := by
  have hbe : ∀ b, (decide (s = 0) && (rcs l).isEmpty) = b → okA ⟨s, rcs l⟩ = (b || okJ ⟨s, rcs l⟩) := fun b hb => by rw [← hb]; rfl
  have hem : (rcs l).isEmpty = decide (l.length = 0) := by cases l <;> simp [rcs]
  have hz : okJ ⟨0, rcs l⟩ = false := by simp [okJ, inR]
  unfold addJ
  by_cases hs0 : s = 0
  · by_cases hl0 : l.length = 0
    · have hA : okA ⟨s, rcs l⟩ = true := by rw [hbe true (by simp [hs0, hem, hl0])]; rfl
      cases hr : okRc x.rc with
      | false => rw [if_pos (Or.inr rfl)]; exact a2 hs0 hl0 hr
      | true =>
        have hw : (wout (rcs l) (lst x.r.id)).length < 64 := by have := wout_len (rcs l) (lst x.r.id); rw [rcs_len] at this; omega
        rw [if_neg (by rw [hA]; simp), if_neg (by rw [rc_id]; show ¬ (s = _ ∨ 64 ≤ (wout (rcs l) (lst x.r.id)).length); omega)]
        exact jr_some (j := ⟨s + 1, x.rc :: wout (rcs l) x.rc.id⟩) (o1 hs0 hl0 hr hw) (by rw [rc_id]; simp; omega)
    · have hA : okA ⟨s, rcs l⟩ = false := by rw [hbe false (by simp [hem, hl0]), hs0, hz]; rfl
      rw [if_pos (Or.inl hA)]
      exact a0 hs0 hl0 hz
  · have hA : okA ⟨s, rcs l⟩ = okJ ⟨s, rcs l⟩ := by rw [hbe false (by simp [hs0])]; rfl
    rw [hA]
    cases hj : okJ ⟨s, rcs l⟩ with
    | false => rw [if_pos (Or.inl rfl)]; exact a1 hs0 hj
    | true =>
      cases hr : okRc x.rc with
      | false => rw [if_pos (Or.inr rfl)]; exact a3 hs0 hj hr
      | true =>
        rw [if_neg (by simp)]
        obtain ⟨k1, k2, k3, _⟩ := okJ_parts hj
        have hwl := wout_len (rcs l) (lst x.r.id)
        simp only at k1 k2 k3
        by_cases h2 : s = 1099511627776 ∨ 64 ≤ (wout (rcs l) x.rc.id).length
        · rw [if_pos h2]
          by_cases hs : s = 1099511627776
          · exact f1 hs (hs ▸ hj) hr
          · have h3 := h2.resolve_left hs
            rw [rc_id] at h3
            exact f2 hs0 hj hr hs (by omega)
        · rw [if_neg h2]
          rw [rc_id] at h2
          exact jr_some (j := ⟨s + 1, x.rc :: wout (rcs l) x.rc.id⟩) (o2 hs0 hj hr (by omega) (by omega) (by omega)) (by rw [rc_id]; simp; omega)
theorem jadd_any (s : Int) (v : Value) (l : List Rp) (x : Rp) (w : World) (hl : RL w v l) (hx : RpOk w x) : Calls Tryz.prog 39 #[.agg (jC s v), .agg x.r.cs] w (JrS w (addJ ⟨s, rcs l⟩ x.rc)) := by
  have h := add_any s v l x w hl hx
  obtain ⟨q, hq⟩ : ∃ q, addJ ⟨s, rcs l⟩ x.rc = q := ⟨_, rfl⟩
  rw [hq] at h ⊢
  obtain ⟨n, o⟩ := q
  cases o with
  | none => exact jr_none h
  | some j =>
    obtain ⟨k1, rfl⟩ := okJ_add hq
    exact jr_some h (by have := (okJ_parts k1).2.2.1; omega)
/-- Remove, by its ways. -/
theorem rem_of {F : Nat} {args : Array Value} {w : World} {s : Int} {l : List Rp} {id : ByteArray}
    (b : okJ ⟨s, rcs l⟩ = false → Calls Tryz.prog F args w (JrS w (2, none)))
    (m : okJ ⟨s, rcs l⟩ = true → atI (rcs l) (lst id) = none → Calls Tryz.prog F args w (JrS w (6, none)))
    (f : s = 1099511627776 → okJ ⟨1099511627776, rcs l⟩ = true → ∀ i, atI (rcs l) (lst id) = some i → ∀ x, l[i]? = some x → Calls Tryz.prog F args w (JrS w (8, none)))
    (k : okJ ⟨s, rcs l⟩ = true → ∀ i, atI (rcs l) (lst id) = some i → ∀ x, l[i]? = some x → 0 ≤ s → s < 1099511627776 → Calls Tryz.prog F args w (JouE w (s + 1) (wout (rcs l) (lst id)))) :
    Calls Tryz.prog F args w (JrS w (remJ ⟨s, rcs l⟩ (lst id))) := by
  unfold remJ
  cases hj : okJ ⟨s, rcs l⟩ with
  | false => rw [if_pos rfl]; exact b hj
  | true =>
    rw [if_neg (by simp)]
    obtain ⟨k1, k2, k3, _⟩ := okJ_parts hj
    simp only at k1 k2 k3
    cases ha : atI (rcs l) (lst id) with
    | none => rw [if_pos rfl]; exact m hj ha
    | some i =>
      rw [if_neg (by simp)]
      have hi := (atI_some ha).1
      rw [rcs_len] at hi
      have hx : l[i]? = some l[i] := List.getElem?_eq_getElem hi
      by_cases hs : s = 1099511627776
      · rw [if_pos hs]; exact f hs (hs ▸ hj) i ha _ hx
      · rw [if_neg hs]
        exact jr_some (j := ⟨s + 1, wout (rcs l) (lst id)⟩) (k hj i ha _ hx (by omega) (by omega)) (by have := wout_len (rcs l) (lst id); simp only; omega)
/-- A record, a place and an error's number. -/
def zRc : Rc := zR.rc []
def fndT (j : Jr) (id : List Nat) : Int × Int × Rc := if okJ j = false then (0, 2, zRc) else match atI j.recs id with
  | none => (0, 6, zRc)
  | some i => ((i : Int), 0, (j.recs[i]?).getD zRc)
def FnS (w : World) (t : Int × Int × Rc) (e : Ending) (w' : World) : Prop := ∃ y : Rp, e = .returned (.tuple #[.agg y.r.cs, i64 t.1, i64 t.2.1]) ∧ y.rc = t.2.2 ∧ RpX w.heap.size w' y ∧ Below w.heap.size w w'
def newT (j : Jr) : Int × Rc := if okJ j = false then (2, zRc) else match j.recs with
  | [] => (6, zRc)
  | r :: _ => (0, r)
def NwS (w : World) (t : Int × Rc) (e : Ending) (w' : World) : Prop := ∃ y : Rp, e = .returned (.tuple #[.agg y.r.cs, i64 t.1]) ∧ y.rc = t.2 ∧ RpX w.heap.size w' y ∧ Below w.heap.size w w'
theorem zR_x (B : Nat) (w : World) : RpX B w ⟨zR, []⟩ := ⟨zR_ok, PLF.nil B w⟩
theorem fn_of {F : Nat} {args : Array Value} {w : World} {s : Int} {l : List Rp} {id : ByteArray}
    (b : okJ ⟨s, rcs l⟩ = false → Calls Tryz.prog F args w fun e w' => e = .returned (.tuple #[.agg zR.cs, i64 0, i64 2]) ∧ Below w.heap.size w w')
    (m : okJ ⟨s, rcs l⟩ = true → atI (rcs l) (lst id) = none → Calls Tryz.prog F args w fun e w' => e = .returned (.tuple #[.agg zR.cs, i64 0, i64 6]) ∧ Below w.heap.size w w')
    (k : okJ ⟨s, rcs l⟩ = true → ∀ i, atI (rcs l) (lst id) = some i → ∀ x, l[i]? = some x → Calls Tryz.prog F args w (RecE w x.rc #[i64 i, i64 0])) :
    Calls Tryz.prog F args w (FnS w (fndT ⟨s, rcs l⟩ (lst id))) := by
  unfold fndT
  cases hj : okJ ⟨s, rcs l⟩ with
  | false => rw [if_pos rfl]; exact (b hj).mono fun e w' ⟨he, hb⟩ => ⟨⟨zR, []⟩, he, rfl, zR_x _ _, hb⟩
  | true =>
    rw [if_neg (by simp)]
    cases ha : atI (rcs l) (lst id) with
    | none => exact (m hj ha).mono fun e w' ⟨he, hb⟩ => ⟨⟨zR, []⟩, he, rfl, zR_x _ _, hb⟩
    | some i =>
      have hi := (atI_some ha).1
      rw [rcs_len] at hi
      have hx : l[i]? = some l[i] := List.getElem?_eq_getElem hi
      exact (k hj i ha _ hx).mono fun e w' ⟨y, he, hy, hr, hb⟩ => ⟨y, he, by rw [hy]; show _ = ((rcs l)[i]?).getD zRc; rw [rcs_get, hx]; rfl, hr, hb⟩
theorem nw_of {F : Nat} {args : Array Value} {w : World} {s : Int} {l : List Rp}
    (b : okJ ⟨s, rcs l⟩ = false → Calls Tryz.prog F args w fun e w' => e = .returned (.tuple #[.agg zR.cs, i64 2]) ∧ Below w.heap.size w w')
    (m : okJ ⟨s, rcs l⟩ = true → l.length = 0 → Calls Tryz.prog F args w fun e w' => e = .returned (.tuple #[.agg zR.cs, i64 6]) ∧ Below w.heap.size w w')
    (k : okJ ⟨s, rcs l⟩ = true → ∀ x, l[0]? = some x → Calls Tryz.prog F args w (RecE w x.rc #[i64 0])) :
    Calls Tryz.prog F args w (NwS w (newT ⟨s, rcs l⟩)) := by
  unfold newT
  cases hj : okJ ⟨s, rcs l⟩ with
  | false => rw [if_pos rfl]; exact (b hj).mono fun e w' ⟨he, hb⟩ => ⟨⟨zR, []⟩, he, rfl, zR_x _ _, hb⟩
  | true =>
    rw [if_neg (by simp)]
    cases l with
    | nil => exact (m hj rfl).mono fun e w' ⟨he, hb⟩ => ⟨⟨zR, []⟩, he, rfl, zR_x _ _, hb⟩
    | cons x r => exact (k hj x rfl).mono fun e w' ⟨y, he, hy, hr, hb⟩ => ⟨y, he, hy, hr, hb⟩




end Go.Proofs.YtcbmimjjpkkoeaaGreatDoor

/- journal.Copy. -/
namespace Go.Proofs.YtcbmimjjpkkoeaaGreatDoor
open Go Go.RowKit

set_option maxRecDepth 100000 in
set_option maxHeartbeats 2000000 in
theorem jcopyJ_any (s : Int) (v : Value) (l : List Rp) (w : World) (hl : RL w v l) : Calls Tryz.prog 14 #[.agg (jC s v)] w (JcpS w s (rcs l)) := by
  have HL := hid hl
  obtain ⟨po, c, rfl, _⟩ := hl
  obtain ⟨n, hN⟩ : ∃ n, l.length = n := ⟨_, rfl⟩
  have HN := hid hN
  rw [hN]
  clear hN
  go_enter Tryz.func14, Tryz.ntmps14
  go_upto_region 1 with (first
    | ((with_reducible refine wpList_boxT 24 rfl _ rfl (jC s (.slice po n c)) ?_ ?_); exact rfl; intro w1 g1 hc1 hb1 hg1; have HC1 := hid hc1; have HB1 := hid hb1; clear hb1 hc1)
    | ((with_reducible refine wpList_allocJ rfl rfl ?_); intro w2 g2 hz2 hb2 hg2; have HF : Hid (G2 w g1 g2 s (.slice po n c) w2) := hid ⟨below_on HB1.out hb2, HC1.out.below hb2, hz2⟩; have HG := hid (show w.heap.size ≤ g2 by have := HB1.out.size; omega); have HG12 := hid (show g1 < g2 by have := HC1.out.lt; omega); clear hz2 hb2 hg2))
  have HCL := hid (fun W (hW : Below w2.heap.size w2 W) => jclone_any _ l W (HL.out.below (below_on HF.out.below hW)))
  rw [HN.out] at HCL
  have HSF : Hid (∀ W : World, W.heap[g1]? = w2.heap[g1]? → (fun W => W.cell? ⟨g1, 0, none⟩ = some (i64 s) ∧ W.cell? ⟨g1, 1, none⟩ = some (.slice po n c)) W) := hid fun W hW => ⟨(HF.out.cj.keep hW).j0, (HF.out.cj.keep hW).j1⟩
  refine wp_region_held_drew (S := (fun W => W.cell? ⟨g1, 0, none⟩ = some (i64 s) ∧ W.cell? ⟨g1, 1, none⟩ = some (.slice po n c))) (by kernel_rfl) (HSF.out _ rfl) (fun hHeld => ?_)
  have HD := hid (below_drew w2)
  refine wpAnyH_take (i := 0) (oi := ⟨some 3, .fieldAddr 24 (.tmp 1) 0, _, _, _, none⟩) (v := .pointer (some ⟨g1, 0, none⟩)) rfl (by kernel_rfl) (by kernel_rfl) (by kernel_rfl) (fun _ _ _ h => h) (Or.inl ⟨by kernel_rfl, by intro W hW; go_simp⟩) hHeld ?_
  refine wpAnyH_take (i := 1) (oi := ⟨some 4, .load 3 (.tmp 3), _, _, _, none⟩) (v := i64 s) rfl (by kernel_rfl) (by kernel_rfl) (by kernel_rfl) (fun _ _ _ h => h) (Or.inl ⟨by kernel_rfl, by intro W hW; have q0 := hW.1; go_simp⟩) hHeld ?_
  refine wpAnyH_take (i := 2) (oi := ⟨some 5, .fieldAddr 24 (.tmp 1) 1, _, _, _, none⟩) (v := .pointer (some ⟨g1, 1, none⟩)) rfl (by kernel_rfl) (by kernel_rfl) (by kernel_rfl) (fun _ _ _ h => h) (Or.inl ⟨by kernel_rfl, by intro W hW; go_simp⟩) hHeld ?_
  refine wpAnyH_take (i := 3) (oi := ⟨some 6, .load 22 (.tmp 5), _, _, _, none⟩) (v := .slice po n c) rfl (by kernel_rfl) (by kernel_rfl) (by kernel_rfl) (fun _ _ _ h => h) (Or.inl ⟨by kernel_rfl, by intro W hW; have q0 := hW.2; go_simp⟩) hHeld ?_
  refine wpAnyH_ready (rs := [4]) (by kernel_rfl) (by simp) ?_
  refine AllReadyH.cons rfl (fun K hK => ?_) AllReadyH.nil
  go_simp
  refine (HCL.out _ HD.out).mono ?_
  rintro e w7 ⟨v7, m7, rfl, hr7, he7, hb7⟩
  obtain ⟨p7, c7, hv7, _⟩ := hr7.buf.form
  subst hv7
  have HR7 := hid hr7
  have HE7 := hid he7
  replace HD := hid (below_on HD.out hb7)
  have HF7 := hid (HF.out.on HD.out)
  clear hr7 he7 hb7
  go_wp2_with fail
  refine hK.out _ _ (HSF.out _ (HD.out.block g1 HF.out.cj.lt)) (fun hHeld => ?_)
  clear hK K
  refine wpAnyH_take (i := 5) (oi := ⟨some 8, .build 24 #[(0, .tmp 4), (1, .tmp 7)], _, _, _, none⟩) (v := .agg (jC s (.slice p7 m7.length c7))) rfl (by kernel_rfl) (by kernel_rfl) (by kernel_rfl) (fun _ _ _ h => h) (Or.inl ⟨by kernel_rfl, by intro W hW; go_simp; rfl⟩) hHeld ?_
  refine wpAnyH_ready (rs := [6]) (by kernel_rfl) (by simp) ?_
  refine AllReadyH.cons (o := ⟨none, .store 24 (.tmp 2) (.tmp 8), _, _, _, none⟩) rfl (fun K hK => ?_) AllReadyH.nil
  with_reducible refine step_storeJ ?_ ?_ (.tmp 2) (.tmp 8) ?_ g2 ?_ (s := s) (v := .slice p7 m7.length c7) ?_ ?_ HF7.out.cr ?_
  · exact rfl
  · exact rfl
  · exact rfl
  · kernel_rfl
  · kernel_rfl
  · exact rfl
  intro w10 h10 o10
  have H10 := hid h10
  have O10 := hid o10
  clear h10 o10
  refine hK.out _ _ (HSF.out _ ((O10.out.block g1 HF7.out.cj.lt (by have := HG12.out; omega)).trans (HD.out.block g1 HF.out.cj.lt))) (fun hHeld => ?_)
  clear hK K
  refine wpAnyH_done (by kernel_rfl) ?_ _
  simp only [Act.put, List.setIfInBounds_toArray, List.set_cons_zero, List.set_cons_succ]
  go_wp2
  refine ret_rowJ1 rfl g2 rfl rfl H10.out ⟨_, m7, rfl, (HR7.out.only O10.out (fun i e => ?_)).base HF.out.below.size, HE7.out, below_tr HF7.out.below (O10.out.below HF7.out.below.size (fun i e => by have := HG.out; omega))⟩
  have := HF.out.cr.lt
  show i < w2.heap.size
  omega
#print axioms jcopyJ_any
end Go.Proofs.YtcbmimjjpkkoeaaGreatDoor

/- The document's numbers: rows of ints, and what is read. -/
namespace Go.Proofs.YtcbmimjjpkkoeaaGreatDoor
open Go Go.RowKit

/-- So many numbers from the front. -/
def rdN : Nat → List Nat → Option (List Nat × List Nat)
  | 0, b => some ([], b)
  | n + 1, b => (rdU b).bind fun q => (rdN n q.2).map fun r => (q.1 :: r.1, r.2)
def pairs : List Nat → Ps
  | a :: b :: r => ((a : Int), (b : Int)) :: pairs r
  | _ => []
theorem rdPs_rdN : ∀ (n : Nat) (b : List Nat), rdPs n b = (rdN (2 * n) b).map fun q => (pairs q.1, q.2)
  | 0, b => rfl
  | n + 1, b => by
    rw [rdPs_succ, show 2 * (n + 1) = (2 * n + 1) + 1 by omega, rdN]
    cases rdU b with
    | none => rfl
    | some q =>
      simp only [Option.bind_some]
      rw [rdN]
      cases rdU q.2 with
      | none => rfl
      | some q2 =>
        simp only [Option.bind_some]
        rw [rdPs_rdN n q2.2]
        cases rdN (2 * n) q2.2 with
        | none => rfl
        | some r => rfl
theorem rdN_len : ∀ {n : Nat} {b : List Nat} {xs c : List Nat}, rdN n b = some (xs, c) → xs.length = n
  | 0, b, xs, c, h => by simp [rdN] at h; rw [h.1]; rfl
  | n + 1, b, xs, c, h => by
    rw [rdN] at h
    cases h1 : rdU b with
    | none => rw [h1] at h; cases h
    | some q =>
      rw [h1] at h
      simp only [Option.bind_some] at h
      cases h2 : rdN n q.2 with
      | none => rw [h2] at h; cases h
      | some r =>
        rw [h2] at h
        simp at h
        rw [← h.1, List.length_cons, rdN_len h2]
/-- What is read so far, and what then. -/
def NAcc (n : Nat) (c : List Nat) (k : Nat) (xs : List Nat) (d : List Nat) : Prop := xs.length = k ∧ rdN n c = (rdN (n - k) d).map fun q => (xs ++ q.1, q.2)
theorem NAcc.start (n : Nat) (c : List Nat) : NAcc n c 0 [] c := ⟨rfl, by simp⟩
theorem NAcc.next {n k : Nat} {c d xs : List Nat} (h : NAcc n c k xs d) (hk : k < n) {m : Nat} {r : List Nat} (hx : rdU d = some (m, r)) : NAcc n c (k + 1) (xs ++ [m]) r := by
  refine ⟨by simp [h.1], ?_⟩
  have h2 := h.2
  rw [show n - k = (n - (k + 1)) + 1 by omega, rdN, hx] at h2
  simp only [Option.bind_some] at h2
  rw [h2]
  cases rdN (n - (k + 1)) r with
  | none => rfl
  | some q => simp
theorem NAcc.stop {n k : Nat} {c d xs : List Nat} (h : NAcc n c k xs d) (hk : k < n) (hx : rdU d = none) : rdN n c = none := by
  have h2 := h.2
  rw [show n - k = (n - (k + 1)) + 1 by omega, rdN, hx] at h2
  exact h2
theorem NAcc.last {n : Nat} {c d xs : List Nat} (h : NAcc n c n xs d) : rdN n c = some (xs, d) := by
  have h2 := h.2
  rw [Nat.sub_self] at h2
  rw [h2]; simp [rdN]
/-- Ints in a row of their own. -/
def IBuf (B : Nat) (w : World) (v : Value) (xs : List Nat) : Prop := w.ownsRow B 3 1 v xs.length (xs.map fun n : Nat => i64 n)
theorem Tryz.infoI : (Tryz.prog.info? 3).map (fun i => (i.zero, i.size, i.bytes)) = some (some (.int .i64 0), 1, 8) := by kernel_rfl
theorem IBuf.nil (B : Nat) (w : World) : IBuf B w (.slice none 0 0) [] := World.ownsRow_nil w B 3 1
theorem IBuf.keep {B : Nat} {w w' : World} {v : Value} {xs : List Nat} (h : IBuf B w v xs) (hk : ∀ b, v.ownBlock = some b → w'.heap[b]? = w.heap[b]?) : IBuf B w' v xs := ownsRow_keep h hk
theorem IBuf.below {B : Nat} {w w' : World} {v : Value} {xs : List Nat} (h : IBuf B w v xs) (hb : Below w.heap.size w w') : IBuf B w' v xs := h.keep fun b e => hb.block b (own_ge h b e).2
theorem IBuf.push {B : Nat} {w : World} {v : Value} {xs : List Nat} (h : IBuf B w v xs) (x : Nat) (hn : xs.length ≤ 1000000) (hB : B ≤ w.heap.size) :
    ∃ v' w', (Builtin.append_ #[146, 146] 146 #[v, .slice (some ⟨w.heap.size, 0, none⟩) 1 1]).run Tryz.prog (w.alloc (.cells #[i64 x] 3)) = .ok v' w' ∧ IBuf B w' v' (xs ++ [x]) ∧ (w.alloc (.cells #[i64 x] 3)).grownBy w' v.ownBlock := by
  obtain ⟨i0, hi0, hz0, hz1, hz2⟩ := info_parts Tryz.infoI
  have h2 : (w.alloc (.cells #[i64 x] 3)).ownsRow B 3 1 v xs.length (xs.map fun n : Nat => i64 n) := h.alloc _
  have hc : CAt (w.alloc (.cells #[i64 x] 3)) w.heap.size #[i64 x] 3 := CAt.made w _ _
  obtain ⟨v', w', hr, h3, h4, _, _⟩ := run_append_own_at (P := Tryz.prog) (w.alloc (.cells #[i64 x] 3)) B 146 146 3 i0 _ 1 8 Tryz.underlying146 hi0 hz0 hz1 hz2 rfl (by decide) v xs.length _ h2 ⟨w.heap.size, 0, none⟩ 1 1 [i64 x] rfl (fun j u hj => by
      rw [add_none, Nat.zero_add, hc.cell]
      rcases j with _ | j
      · simpa using hj
      · simp at hj) (by intro u hu; simp at hu; rw [hu]; rfl) (by unfold maxLen; omega) (by omega) (by rw [size_al]; omega)
  refine ⟨v', w', hr, ?_, h4⟩
  unfold IBuf
  rw [show (xs ++ [x]).map (fun n : Nat => i64 n) = xs.map (fun n : Nat => i64 n) ++ [i64 x] by simp]
  simpa using h3
#print axioms IBuf.push
#print axioms rdPs_rdN
end Go.Proofs.YtcbmimjjpkkoeaaGreatDoor
