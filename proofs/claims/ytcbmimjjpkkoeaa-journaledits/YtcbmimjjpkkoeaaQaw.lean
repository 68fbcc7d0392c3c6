/- Texts laid into one: the remark ahead of each part says what is proved there. -/
import Derived.Test.YtcbmimjjpkkoeaaQaj
import Derived.Test.YtcbmimjjpkkoeaaQav
/- What over writes over: records in memory of their own, and their parts. -/
namespace Go.Proofs.Ytcbmimjjpkkoeaa
open Go Go.RowKit

/-- Parts that may be written: they lie in a block from B on, below H. -/
def Pw (B H : Nat) (w : World) (v : Value) : Prop := ∃ po n c, v = .slice po n c ∧ n ≤ 100000 ∧ (n = 0 ∨ ∃ b o cs, po = some ⟨b, o, none⟩ ∧ CAt w b cs 52 ∧ o + n * 2 ≤ cs.size ∧ B ≤ b ∧ b < H)
theorem PLF.pw {B : Nat} {w : World} {v : Value} {ps : Ps} (h : PLF B w v ps) : Pw B w.heap.size w v := by
  obtain ⟨⟨po, c, h1, h2, h3, h4⟩, hB, hz⟩ := h
  refine ⟨po, ps.length, c, h1, h3, ?_⟩
  rcases h4 with h4 | ⟨b, o, hp, h4⟩
  · left; rw [h4]; rfl
  · by_cases h0 : ps = []
    · left; rw [h0]; rfl
    · right
      obtain ⟨k1, cs, k2⟩ := hB ⟨b, o, none⟩ _ _ (by rw [h1, hp]) h0
      refine ⟨b, o, cs, hp, k2, ?_, k1, k2.lt⟩
      have hl : 0 < ps.length := List.length_pos_iff.2 h0
      have h5 := (h4 (ps.length - 1) (by omega)).2
      rw [k2.cell] at h5
      have := (Array.getElem?_eq_some_iff.1 h5).1
      omega
/-- A block keeps its type and its room. -/
def Shp (w w' : World) : Prop := ∀ b cs t, CAt w b cs t → ∃ ds : Array Value, CAt w' b ds t ∧ ds.size = cs.size
theorem Shp.of_below {w w' : World} (h : Below w.heap.size w w') : Shp w w' := fun _ cs _ hc => ⟨cs, hc.below h, rfl⟩
theorem setAll_len8 (vs : List Value) : ∀ (cs : List Value) (o : Nat), (setAll cs o vs).length = cs.length := by
  induction vs with
  | nil => intro cs o; rfl
  | cons v vs ih => intro cs o; rw [setAll, ih, List.length_set]
theorem Shp.setCells (w : World) (g o : Nat) (vs : List Value) : Shp w (w.setCells g o vs) := fun b cs t hc => by
  by_cases e : b = g
  · subst e
    exact ⟨_, CAt.setCells vs o cs w hc, by rw [List.size_toArray, setAll_len8, Array.length_toList]⟩
  · exact ⟨cs, hc.keep ((only_setCells (S := fun k => k = g) w g o vs rfl).block b hc.lt e), rfl⟩
theorem Pw.shp {B H : Nat} {w w' : World} {v : Value} (h : Pw B H w v) (hs : Shp w w') : Pw B H w' v := by
  obtain ⟨po, n, c, h1, h2, h⟩ := h
  refine ⟨po, n, c, h1, h2, ?_⟩
  rcases h with h | ⟨b, o, cs, hp, hc, hn, hB, hH⟩
  · exact Or.inl h
  · obtain ⟨ds, hd, hds⟩ := hs b cs _ hc
    exact Or.inr ⟨b, o, ds, hp, hd, by omega, hB, hH⟩
theorem Pw.only {B H : Nat} {w w' : World} {v : Value} {S : Nat → Prop} (h : Pw B H w v) (hO : Only S w w') (hS : ∀ i, S i → i < B ∨ H ≤ i) : Pw B H w' v := by
  obtain ⟨po, n, c, h1, h2, h⟩ := h
  refine ⟨po, n, c, h1, h2, ?_⟩
  rcases h with h | ⟨b, o, cs, hp, hc, hn, hB, hH⟩
  · exact Or.inl h
  · exact Or.inr ⟨b, o, cs, hp, hc.keep (hO.block b hc.lt fun e => by have := hS b e; omega), hn, hB, hH⟩
theorem Pw.wide {B B' H H' : Nat} {w : World} {v : Value} (h : Pw B H w v) (hB : B' ≤ B) (hH : H ≤ H') : Pw B' H' w v := by
  obtain ⟨po, n, c, h1, h2, h⟩ := h
  refine ⟨po, n, c, h1, h2, ?_⟩
  rcases h with h | ⟨b, o, cs, hp, hc, hn, k1, k2⟩
  · exact Or.inl h
  · exact Or.inr ⟨b, o, cs, hp, hc, hn, by omega, by omega⟩
theorem Pw.nil (B H : Nat) (w : World) : Pw B H w (.slice none 0 0) := ⟨none, 0, 0, rfl, by omega, Or.inl rfl⟩
/-- The slice v leads to the records l; they and their parts may be written over. -/
def OvL (B H : Nat) (w : World) (v : Value) (l : List Rp) : Prop := ∃ po c, v = .slice po l.length c ∧ l.length ≤ 100000 ∧ (l = [] ∨ ∃ g cs, po = some ⟨g, 0, none⟩ ∧ CAt w g cs 29 ∧ l.length * 42 ≤ cs.size ∧ B ≤ g ∧ g < H ∧ ∀ i x, l[i]? = some x → ∀ j v, x.r.cs[j]? = some v → cs[i * 42 + j]? = some v) ∧ ∀ x ∈ l, x.r.ok ∧ Pw B H w x.r.pv
theorem RBuf.rg {B : Nat} {w : World} {v : Value} {l : List Rp} (h : RBuf B w v l) (hk : ∀ x ∈ l, x.r.ok) : l = [] ∨ ∃ g c cs, v = .slice (some ⟨g, 0, none⟩) l.length c ∧ CAt w g cs 29 ∧ l.length * 42 ≤ cs.size ∧ B ≤ g ∧ ∀ i x, l[i]? = some x → ∀ j v, x.r.cs[j]? = some v → cs[i * 42 + j]? = some v := by
  rcases h.2 with ⟨rfl, h0⟩ | ⟨g, cap, cur, rfl, hB, hg, h1, hm, h3, h4⟩
  · exact Or.inl (List.eq_nil_of_length_eq_zero h0)
  · right
    have hc : CAt w g cur 29 := hg
    have hlen := flatR_len hk
    have htk : l.length * 42 ≤ cur.size := by
      have := congrArg List.length h4
      rw [List.length_take, hlen, Array.length_toList] at this
      omega
    refine ⟨g, cap, cur, rfl, hc, htk, hB, fun i x e j u hu => ?_⟩
    have hi := (List.getElem?_eq_some_iff.1 e).1
    have hj : j < 42 := by
      rcases Nat.lt_or_ge j 42 with q | q
      · exact q
      · rw [Array.getElem?_eq_none (by rw [(hk x (List.mem_of_getElem? e)).size]; exact q)] at hu; cases hu
    have := flatR_get hk e hj
    rw [← h4, List.getElem?_take, if_pos (by omega), Array.getElem?_toList] at this
    rw [this]; exact hu
theorem Rs.ov {B : Nat} {w : World} {v : Value} {l : List Rp} (h : Rs B w v l) (hn : l.length ≤ 100000) : OvL B w.heap.size w v l := by
  obtain ⟨po, c, hv, _⟩ := h.buf.form
  refine ⟨po, c, hv, hn, ?_, fun x hx => ⟨(h.each x hx).ok, (h.each x hx).pl.pw⟩⟩
  rcases h.buf.rg (fun x hx => (h.each x hx).ok) with e | ⟨g, c', cs, e, hc, h1, h2, h3⟩
  · exact Or.inl e
  · rw [hv] at e
    cases e
    exact Or.inr ⟨g, cs, rfl, hc, h1, h2, hc.lt, h3⟩
theorem OvL.only {B H : Nat} {w w' : World} {v : Value} {l : List Rp} {S : Nat → Prop} (h : OvL B H w v l) (hO : Only S w w') (hS : ∀ i, S i → i < B ∨ H ≤ i) : OvL B H w' v l := by
  obtain ⟨po, c, h1, h2, h3, h4⟩ := h
  refine ⟨po, c, h1, h2, ?_, fun x hx => ⟨(h4 x hx).1, (h4 x hx).2.only hO hS⟩⟩
  rcases h3 with h3 | ⟨g, cs, hp, hc, k1, k2, k3, k4⟩
  · exact Or.inl h3
  · exact Or.inr ⟨g, cs, hp, hc.keep (hO.block g hc.lt fun e => by have := hS g e; omega), k1, k2, k3, k4⟩
theorem OvL.below {B H : Nat} {w w' : World} {v : Value} {l : List Rp} (h : OvL B H w v l) (hb : Below w.heap.size w w') : OvL B H w' v l := h.only (S := fun _ => False) (Only.of_below hb) (fun _ e => e.elim)
theorem OvL.nil (B H : Nat) (w : World) : OvL B H w (.slice none 0 0) [] := ⟨none, 0, rfl, by simp, Or.inl rfl, fun x hx => by cases hx⟩
/-- In the midst of over: the records from kk on are as they were. -/
structure Ov (B H g : Nat) (l : List Rp) (kk : Nat) (w W : World) : Prop where
  cur : ∃ cs, CAt W g cs 29 ∧ l.length * 42 ≤ cs.size ∧ ∀ i x, kk ≤ i → l[i]? = some x → ∀ j v, x.r.cs[j]? = some v → cs[i * 42 + j]? = some v
  lo : B ≤ g
  hi : g < H
  parts : ∀ x ∈ l, Pw B H W x.r.pv
  only : Only (fun b => B ≤ b ∧ b < H) w W
theorem Ov.on {B H g : Nat} {l : List Rp} {kk : Nat} {w W W' : World} (h : Ov B H g l kk w W) (hb : Below W.heap.size W W') : Ov B H g l kk w W' := by
  obtain ⟨cs, hc, h1, h2⟩ := h.cur
  exact ⟨⟨cs, hc.below hb, h1, h2⟩, h.lo, h.hi, fun x hx => (h.parts x hx).shp (Shp.of_below hb), h.only.trans (Only.of_below hb)⟩
/-- A part is written over. -/
theorem Ov.part {B H g : Nat} {l : List Rp} {kk : Nat} {w W : World} (h : Ov B H g l kk w W) {b o : Nat} {cs : Array Value} {vs : List Value} (hc : CAt W b cs 52) (hB : B ≤ b) (hH : b < H) : Ov B H g l kk w (W.setCells b o vs) := by
  obtain ⟨ds, hd, h1, h2⟩ := h.cur
  have hO := only_setCells (S := fun k => k = b) W b o vs rfl
  refine ⟨⟨ds, hd.keep (hO.block g hd.lt fun e => ?_), h1, h2⟩, h.lo, h.hi, fun x hx => (h.parts x hx).shp (Shp.setCells W b o vs), h.only.trans (hO.mono fun i e => by subst e; exact ⟨hB, hH⟩)⟩
  exact hd.apart hc (by decide) e
/-- A record is written over. -/
theorem Ov.nextR {B H g : Nat} {l : List Rp} {kk : Nat} {w W : World} (h : Ov B H g l kk w W) {vs : List Value} (hv : vs.length = 42) (hk : kk < l.length) (hok : ∀ x ∈ l, x.r.ok) : W.there g (kk * 42) 42 ∧ Ov B H g l (kk + 1) w (W.setCells g (kk * 42) vs) := by
  obtain ⟨ds, hd, h1, h2⟩ := h.cur
  have hO := only_setCells (S := fun k => k = g) W g (kk * 42) vs rfl
  refine ⟨fun j hj => ⟨?_, hd.free _⟩, ⟨_, CAt.setCells vs (kk * 42) ds W hd, ?_, ?_⟩, h.lo, h.hi, fun x hx => (h.parts x hx).shp (Shp.setCells W g _ vs), h.only.trans (hO.mono fun i e => by subst e; exact ⟨h.lo, h.hi⟩)⟩
  · rw [hd.cell, Array.getElem?_eq_getElem (by omega)]; rfl
  · rw [List.size_toArray, setAll_len8, Array.length_toList]; exact h1
  · intro i x hi hx j v hj
    have hj42 : j < 42 := by
      rcases Nat.lt_or_ge j 42 with q | q
      · exact q
      · rw [Array.getElem?_eq_none (by rw [(hok x (List.mem_of_getElem? hx)).size]; exact q)] at hj; cases hj
    have hlt := (List.getElem?_eq_some_iff.1 hx).1
    have e := h2 i x (by omega) hx j v hj
    rw [List.getElem?_toArray, setAll_splice (by rw [hv, Array.length_toList]; omega), hv]
    have l1 : (ds.toList.take (kk * 42)).length = kk * 42 := by rw [List.length_take, Array.length_toList]; omega
    rw [List.getElem?_append_right (by omega), l1, List.getElem?_append_right (by omega), hv, List.getElem?_drop, Array.getElem?_toList, show kk * 42 + 42 + (i * 42 + j - kk * 42 - 42) = i * 42 + j by omega]
    exact e
/-- The cells of a record that is still as it was. -/
theorem Ov.cell {B H g : Nat} {l : List Rp} {kk : Nat} {w W : World} (h : Ov B H g l kk w W) {x : Rp} (hx : l[kk]? = some x) (j : Nat) (v : Value) (hj : x.r.cs[j]? = some v) : W.cell? ⟨g, kk * 42 + j, none⟩ = some v := by
  obtain ⟨ds, hd, _, h2⟩ := h.cur
  rw [hd.cell]
  exact h2 kk x (Nat.le_refl _) hx j v hj
#print axioms Ov.nextR
#print axioms Rs.ov
end Go.Proofs.Ytcbmimjjpkkoeaa

/- over. -/
namespace Go.Proofs.Ytcbmimjjpkkoeaa
open Go Go.RowKit

def ovR : Rv := { zR with id := ⟨#[111, 118, 101, 114]⟩ }
theorem builtOv : Try.prog.built 29 [(0, .string ⟨#[111, 118, 101, 114]⟩)] = some ovR.cs := by kernel_rfl
theorem builtPm : Try.prog.built 52 [(0, .int .i64 (-1))] = some #[i64 (-1), i64 0] := by kernel_rfl
theorem sizeP8 : (Try.prog.info? 52).map (·.size) = some 2 := by kernel_rfl
theorem ovR_size : ovR.cs.size = 42 := by kernel_rfl
theorem ovR_one : ovR.cs.all (·.oneCell') = true := by kernel_rfl
theorem CAt.thereP {w : World} {b : Nat} {cs : Array Value} {t : TypeId} (h : CAt w b cs t) {o n : Nat} (hn : o + n ≤ cs.size) : w.there b o n := fun j hj => ⟨by rw [h.cell, Array.getElem?_eq_getElem (by omega)]; rfl, h.free _⟩
set_option maxRecDepth 100000 in
set_option maxHeartbeats 2000000 in
theorem over_any (s : Int) (v : Value) (l : List Rp) (B H : Nat) (w : World) (h : OvL B H w v l) (hH : H ≤ w.heap.size) : Calls Try.prog 12 #[.agg (jC s v)] w fun e w' => e = .returned (.tuple #[]) ∧ Only (fun b => B ≤ b ∧ b < H) w w' := by
  obtain ⟨po, c, rfl, hn, hcell, hx⟩ := h
  obtain ⟨n, hN⟩ : ∃ n, l.length = n := ⟨_, rfl⟩
  have HN := hid hN
  obtain ⟨g, hg⟩ : ∃ g, l = [] ∨ (po = some ⟨g, 0, none⟩ ∧ Ov B H g l 0 w w) := by
    rcases hcell with e | ⟨g, cs, hp, hc, k1, k2, k3, k4⟩
    · exact ⟨0, Or.inl e⟩
    · exact ⟨g, Or.inr ⟨hp, ⟨⟨cs, hc, k1, fun i x _ => k4 i x⟩, k2, k3, fun x hx' => (hx x hx').2, Only.refl _ _⟩⟩⟩
  have HX := hid hx
  have HG := hid hg
  have hnz : (n : Int) ≤ 100000 := by omega
  rw [hN]
  have HHH := hid hH
  clear hx hg hcell hN hn hH
  obtain ⟨X, hX⟩ : ∃ X : Array Value, ovR.cs = X := ⟨_, rfl⟩
  have HXV := hid hX
  clear hX
  go_enter Try.func12, Try.ntmps12
  go_wp2_with ((with_reducible refine wpList_boxT 24 rfl _ rfl (jC s (.slice po n c)) ?_ ?_); exact rfl; intro w1 g1 hc1 hb1 hg1; have HJ := hid hc1; have HB := hid hb1; have HG1 := hid hg1; clear hb1 hc1 hg1)
  go_loopg [2, 3] n (fun gg s2 _ wr => ∃ kk : Nat, kk ≤ n ∧ n - kk ≤ gg ∧ s2 = i64 kk ∧ Hid (Only (fun b => B ≤ b ∧ b < H) w wr ∧ CAt wr g1 (jC s (.slice po n c)) 24) ∧ Hid (l = [] ∨ (po = some ⟨g, 0, none⟩ ∧ Ov B H g l kk w wr)))
  case atStart =>
    refine ⟨0, Nat.zero_le _, by omega, rfl, ⟨Only.of_below HB.out, HJ.out⟩, ?_⟩
    rcases HG.out with e | ⟨e, h⟩
    · exact Or.inl e
    · exact Or.inr ⟨e, h.on HB.out⟩
  case round =>
    obtain ⟨kk, hkk, hg, rfl, BO, A⟩ := hrel
    have c1 := BO.out.2.j1
    by_cases hlt : kk < n
    · have hltz : (kk : Int) < (n : Int) := by omega
      obtain ⟨hpo, ho⟩ := A.out.resolve_left (fun e => by have := HN.out; rw [e] at this; simp at this; omega)
      subst hpo
      obtain ⟨x, hx⟩ : ∃ x, l[kk]? = some x := ⟨_, List.getElem?_eq_getElem (by have := HN.out; omega)⟩
      have hxo := HX.out x (List.mem_of_getElem? hx)
      obtain ⟨pp, m, cp, hpv, hm, hpc⟩ := ho.parts x (List.mem_of_getElem? hx)
      have HO := hid ho
      have HXX := hid hx
      have HPV := hid hpv
      have HXO := hid hxo.1
      have hmz : (m : Int) ≤ 100000 := by omega
      clear hx hxo hpv hpc ho
      have c40 : wr.cell? ⟨g, kk * 42 + 40, none⟩ = some (.slice pp m cp) := HO.out.cell HXX.out 40 _ (by rw [HXO.out.pv, HPV.out])
      go_wp2
      clear c40 c1
      go_loopg [3] m (fun gg s3 wi => ∃ k : Nat, k ≤ m ∧ m - k ≤ gg ∧ s3 = i64 k ∧ Hid (Ov B H g l kk w wi) ∧ Hid (CAt wi g1 (jC s (.slice (some ⟨g, 0, none⟩) n c)) 24))
      case atStart => exact ⟨0, Nat.zero_le _, by omega, rfl, HO.out, BO.out.2⟩
      case round =>
        obtain ⟨k, hk, hgk, rfl, OI, JI⟩ := hrel
        have c1 := JI.out.j1
        have c40 : wr.cell? ⟨g, kk * 42 + 40, none⟩ = some (.slice pp m cp) := OI.out.cell HXX.out 40 _ (by rw [HXO.out.pv, HPV.out])
        by_cases hkt : k < m
        · have hktz : (k : Int) < (m : Int) := by omega
          obtain ⟨p2, m2, c2, hpv2, _, hpc⟩ := OI.out.parts x (List.mem_of_getElem? HXX.out)
          rw [HPV.out] at hpv2
          cases hpv2
          obtain ⟨b, o, cs, hp, hc, hs, hB, hHb⟩ := hpc.resolve_left (by omega)
          subst hp
          obtain ⟨z0, e0⟩ : ∃ z, wr.cell? ⟨b, o + k * 2, none⟩ = some z := ⟨_, by rw [hc.cell, Array.getElem?_eq_getElem (by omega)]⟩
          obtain ⟨z1, e1⟩ : ∃ z, wr.cell? ⟨b, o + k * 2 + 1, none⟩ = some z := ⟨_, by rw [hc.cell, Array.getElem?_eq_getElem (by omega)]⟩
          have f0 := hc.free (o + k * 2)
          have f1 := hc.free (o + k * 2 + 1)
          have HOI := hid (OI.out.part (o := o + k * 2) (vs := #[i64 (-1), i64 0].toList) hc hB hHb)
          have HJI := hid (JI.out.keep ((only_setCells (S := fun q => q = b) wr b (o + k * 2) #[i64 (-1), i64 0].toList rfl).block g1 JI.out.lt (fun e => by have := HHH.out; have := HG1.out; omega)))
          clear hc hs
          go_wp2_with ((with_reducible refine wpList_build_want 52 _ rfl ?_ #[i64 (-1), i64 0] ?_ ?_); exact rfl; exact builtPm)
          go_roundg (m - (k + 1))
          case measure => omega
          case rel => exact ⟨k + 1, by omega, by omega, by go_num, HOI.out, HJI.out⟩
        · have hktz : ¬ (k : Int) < (m : Int) := by omega
          obtain ⟨ht, hr⟩ := OI.out.nextR (vs := X.toList) (by rw [← HXV.out]; exact ovR_size) (by have := HN.out; omega) (fun y hy => (HX.out y hy).1)
          have HT := hid ht
          have HR := hid hr
          have HJI := hid (JI.out.keep ((only_setCells (S := fun q => q = g) wr g (kk * 42) X.toList rfl).block g1 JI.out.lt (fun e => by have := HHH.out; have := HG1.out; have := HR.out.hi; omega)))
          clear ht hr
          go_wp2_with (first
            | ((with_reducible refine wpList_build_want 29 _ rfl ?_ X ?_ ?_); exact rfl; (rw [← HXV.out]; exact builtOv))
            | ((with_reducible refine wpList_store_mid rfl 29 _ _ rfl g (kk * 42) X ?_ ?_ ?_ ?_ ?_ ?_); exact rfl; exact rfl; (rw [← HXV.out, ovR_size]; exact HT.out); (rw [← HXV.out, ovR_size]; exact sizeR); (rw [← HXV.out]; exact ovR_one)))
          go_roundg (n - (kk + 1))
          case measure => omega
          case rel => exact ⟨kk + 1, by omega, by omega, by go_num, ⟨HR.out.only, HJI.out⟩, Or.inr ⟨(by first | rfl | trivial), HR.out⟩⟩
    · have hltz : ¬ (kk : Int) < (n : Int) := by omega
      go_wp2
      go_end0
      exact ⟨rfl, BO.out.1⟩
#print axioms over_any
end Go.Proofs.Ytcbmimjjpkkoeaa

/- What Add, Remove, Find and Newest tell, the program's and the document's alike. -/
namespace Go.Proofs.Ytcbmimjjpkkoeaa
open Go Go.RowKit

/-- A journal and an error's number. -/
def JrS (w : World) (j : Nat × Option Jr) (e : Ending) (w' : World) : Prop := ∃ (s : Int) (v : Value) (m : List Rp), e = .returned (.tuple #[.agg (jC s v), i64 ((j.1 : Nat) : Int)]) ∧ Rs w.heap.size w' v m ∧ (⟨s, rcs m⟩ : Jr) = j.2.getD ⟨0, []⟩ ∧ m.length ≤ 100000 ∧ Below w.heap.size w w'
theorem jr_none {F : Nat} {args : Array Value} {w : World} {n : Nat} (h : Calls Try.prog F args w fun e w' => e = .returned (.tuple #[.agg (jC 0 (.slice none 0 0)), i64 ((n : Nat) : Int)]) ∧ Below w.heap.size w w') : Calls Try.prog F args w (JrS w (n, none)) :=
  h.mono fun e w' ⟨he, hb⟩ => ⟨0, .slice none 0 0, [], he, Rs.nil _ _, rfl, by simp, hb⟩
theorem jr_some {F : Nat} {args : Array Value} {w : World} {j : Jr} (h : Calls Try.prog F args w (JouE w j.seq j.recs)) (hn : j.recs.length ≤ 100000) : Calls Try.prog F args w (JrS w (0, some j)) :=
  h.mono fun e w' ⟨v, m, he, hr, hm, hb⟩ => ⟨j.seq, v, m, he, hr, by rw [hm]; rfl, by rw [← rcs_len, hm]; exact hn, hb⟩
/-- Add, by the ways that a call of it may go. -/
theorem add_of {F : Nat} {args : Array Value} {w : World} {s : Int} {l : List Rp} {x : Rp}
    (a1 : ¬ s = 0 → okJ ⟨s, rcs l⟩ = false → Calls Try.prog F args w (JrS w (2, none)))
    (a0 : s = 0 → ¬ l.length = 0 → okJ ⟨0, rcs l⟩ = false → Calls Try.prog F args w (JrS w (2, none)))
    (a2 : s = 0 → l.length = 0 → okRc x.rc = false → Calls Try.prog F args w (JrS w (2, none)))
    (a3 : ¬ s = 0 → okJ ⟨s, rcs l⟩ = true → okRc x.rc = false → Calls Try.prog F args w (JrS w (2, none)))
    (f1 : s = 1099511627776 → okJ ⟨1099511627776, rcs l⟩ = true → okRc x.rc = true → Calls Try.prog F args w (JrS w (8, none)))
    (f2 : ¬ s = 0 → okJ ⟨s, rcs l⟩ = true → okRc x.rc = true → ¬ s = 1099511627776 → (wout (rcs l) (lst x.r.id)).length = 64 → Calls Try.prog F args w (JrS w (8, none)))
    (o2 : ¬ s = 0 → okJ ⟨s, rcs l⟩ = true → okRc x.rc = true → 0 ≤ s → s < 1099511627776 → (wout (rcs l) (lst x.r.id)).length < 64 → Calls Try.prog F args w (JouE w (s + 1) (x.rc :: wout (rcs l) (lst x.r.id))))
    (o1 : s = 0 → l.length = 0 → okRc x.rc = true → (wout (rcs l) (lst x.r.id)).length < 64 → Calls Try.prog F args w (JouE w (s + 1) (x.rc :: wout (rcs l) (lst x.r.id)))) :
    Calls Try.prog F args w (JrS w (addJ ⟨s, rcs l⟩ x.rc)) := by
  have hbe : ∀ b, (decide (s = 0) && (rcs l).isEmpty) = b → okA ⟨s, rcs l⟩ = (b || okJ ⟨s, rcs l⟩) := fun b hb => by rw [← hb]; rfl
  have hem : (rcs l).isEmpty = decide (l.length = 0) := by cases l <;> simp [rcs]
  have hz : okJ ⟨0, rcs l⟩ = false := by simp [okJ, inR]
  unfold addJ
  by_cases hs0 : s = 0
  · by_cases hl0 : l.length = 0
    · have hA : okA ⟨s, rcs l⟩ = true := by rw [hbe true (by simp [hs0, hem, hl0])]; rfl
      cases hr : okRc x.rc with
      | false => rw [if_pos (Or.inr rfl)]; exact a2 hs0 hl0 hr
      | true =>
        have hw : (wout (rcs l) (lst x.r.id)).length < 64 := by have := wout_len (rcs l) (lst x.r.id); rw [rcs_len] at this; omega
        rw [if_neg (by rw [hA]; simp), if_neg (by rw [rc_id]; show ¬ (s = _ ∨ 64 ≤ (wout (rcs l) (lst x.r.id)).length); omega)]
        exact jr_some (j := ⟨s + 1, x.rc :: wout (rcs l) x.rc.id⟩) (o1 hs0 hl0 hr hw) (by rw [rc_id]; simp; omega)
    · have hA : okA ⟨s, rcs l⟩ = false := by rw [hbe false (by simp [hem, hl0]), hs0, hz]; rfl
      rw [if_pos (Or.inl hA)]
      exact a0 hs0 hl0 hz
  · have hA : okA ⟨s, rcs l⟩ = okJ ⟨s, rcs l⟩ := by rw [hbe false (by simp [hs0])]; rfl
    rw [hA]
    cases hj : okJ ⟨s, rcs l⟩ with
    | false => rw [if_pos (Or.inl rfl)]; exact a1 hs0 hj
    | true =>
      cases hr : okRc x.rc with
      | false => rw [if_pos (Or.inr rfl)]; exact a3 hs0 hj hr
      | true =>
        rw [if_neg (by simp)]
        obtain ⟨k1, k2, k3, _⟩ := okJ_parts hj
        have hwl := wout_len (rcs l) (lst x.r.id)
        simp only at k1 k2 k3
        by_cases h2 : s = 1099511627776 ∨ 64 ≤ (wout (rcs l) x.rc.id).length
        · rw [if_pos h2]
          by_cases hs : s = 1099511627776
          · exact f1 hs (hs ▸ hj) hr
          · have h3 := h2.resolve_left hs
            rw [rc_id] at h3
            exact f2 hs0 hj hr hs (by omega)
        · rw [if_neg h2]
          rw [rc_id] at h2
          exact jr_some (j := ⟨s + 1, x.rc :: wout (rcs l) x.rc.id⟩) (o2 hs0 hj hr (by omega) (by omega) (by omega)) (by rw [rc_id]; simp; omega)
theorem jadd_any (s : Int) (v : Value) (l : List Rp) (x : Rp) (w : World) (hl : RL w v l) (hx : RpOk w x) : Calls Try.prog 7 #[.agg (jC s v), .agg x.r.cs] w (JrS w (addJ ⟨s, rcs l⟩ x.rc)) := by
  have h := add_any s v l x w hl hx
  obtain ⟨q, hq⟩ : ∃ q, addJ ⟨s, rcs l⟩ x.rc = q := ⟨_, rfl⟩
  rw [hq] at h ⊢
  obtain ⟨n, o⟩ := q
  cases o with
  | none => exact jr_none h
  | some j =>
    obtain ⟨k1, rfl⟩ := okJ_add hq
    exact jr_some h (by have := (okJ_parts k1).2.2.1; omega)
theorem radd_any (s : Int) (v : Value) (l : List Rp) (x : Rp) (w : World) (hl : RL w v l) (hx : RpOk w x) : Calls Try.prog 8 #[.agg (jC s v), .agg x.r.cs] w (JrS w (addJ ⟨s, rcs l⟩ x.rc)) :=
  add_of (fun h h' => jr_none (radd_a1 s v l x w hl hx h h')) (fun e h h' => by subst e; exact jr_none (radd_a0 v l x w hl hx h h')) (fun e h h' => by subst e; exact jr_none (radd_a2 v l x w hl hx h h'))
    (fun h h' h2 => jr_none (radd_a3 s v l x w hl hx h h' h2)) (fun e h h' => by subst e; exact jr_none (radd_f1 v l x w hl hx h h')) (fun h h1 h2 h3 h4 => jr_none (radd_f2 s v l x w hl hx h h1 h2 h3 h4))
    (fun h h1 h2 h3 h4 h5 => radd_o2 s v l x w hl hx h h1 h2 h3 h4 h5) (fun e h h1 h2 => by subst e; exact radd_o1 v l x w hl hx h h1 h2)
/-- Remove, by its ways. -/
theorem rem_of {F : Nat} {args : Array Value} {w : World} {s : Int} {l : List Rp} {id : ByteArray}
    (b : okJ ⟨s, rcs l⟩ = false → Calls Try.prog F args w (JrS w (2, none)))
    (m : okJ ⟨s, rcs l⟩ = true → atI (rcs l) (lst id) = none → Calls Try.prog F args w (JrS w (6, none)))
    (f : s = 1099511627776 → okJ ⟨1099511627776, rcs l⟩ = true → ∀ i, atI (rcs l) (lst id) = some i → ∀ x, l[i]? = some x → Calls Try.prog F args w (JrS w (8, none)))
    (k : okJ ⟨s, rcs l⟩ = true → ∀ i, atI (rcs l) (lst id) = some i → ∀ x, l[i]? = some x → 0 ≤ s → s < 1099511627776 → Calls Try.prog F args w (JouE w (s + 1) (wout (rcs l) (lst id)))) :
    Calls Try.prog F args w (JrS w (remJ ⟨s, rcs l⟩ (lst id))) := by
  unfold remJ
  cases hj : okJ ⟨s, rcs l⟩ with
  | false => rw [if_pos rfl]; exact b hj
  | true =>
    rw [if_neg (by simp)]
    obtain ⟨k1, k2, k3, _⟩ := okJ_parts hj
    simp only at k1 k2 k3
    cases ha : atI (rcs l) (lst id) with
    | none => rw [if_pos rfl]; exact m hj ha
    | some i =>
      rw [if_neg (by simp)]
      have hi := (atI_some ha).1
      rw [rcs_len] at hi
      have hx : l[i]? = some l[i] := List.getElem?_eq_getElem hi
      by_cases hs : s = 1099511627776
      · rw [if_pos hs]; exact f hs (hs ▸ hj) i ha _ hx
      · rw [if_neg hs]
        exact jr_some (j := ⟨s + 1, wout (rcs l) (lst id)⟩) (k hj i ha _ hx (by omega) (by omega)) (by have := wout_len (rcs l) (lst id); simp only; omega)
theorem jrem_any (s : Int) (v : Value) (l : List Rp) (id : ByteArray) (w : World) (hl : RL w v l) : Calls Try.prog 9 #[.agg (jC s v), .string id] w (JrS w (remJ ⟨s, rcs l⟩ (lst id))) :=
  rem_of (fun h => jr_none (rem_bad s v l id w hl h)) (fun h h' => jr_none (rem_miss s v l id w hl h h')) (fun e h i h' x hx => by subst e; exact jr_none (rem_full v l id w hl h i h' x hx)) (fun h i h' x hx h1 h2 => rem_ok s v l id w hl h i h' x hx h1 h2)
theorem rrem_any (s : Int) (v : Value) (l : List Rp) (id : ByteArray) (w : World) (hl : RL w v l) : Calls Try.prog 10 #[.agg (jC s v), .string id] w (JrS w (remJ ⟨s, rcs l⟩ (lst id))) :=
  rem_of (fun h => jr_none (rrem_bad s v l id w hl h)) (fun h h' => jr_none (rrem_miss s v l id w hl h h')) (fun e h i h' _ _ => by subst e; exact jr_none (rrem_full v l id w hl h i h')) (fun h i h' _ _ h1 h2 => rrem_ok s v l id w hl h i h' h1 h2)
/-- A record, a place and an error's number. -/
def zRc : Rc := zR.rc []
def fndT (j : Jr) (id : List Nat) : Int × Int × Rc := if okJ j = false then (0, 2, zRc) else match atI j.recs id with
  | none => (0, 6, zRc)
  | some i => ((i : Int), 0, (j.recs[i]?).getD zRc)
def FnS (w : World) (t : Int × Int × Rc) (e : Ending) (w' : World) : Prop := ∃ y : Rp, e = .returned (.tuple #[.agg y.r.cs, i64 t.1, i64 t.2.1]) ∧ y.rc = t.2.2 ∧ RpX w.heap.size w' y ∧ Below w.heap.size w w'
def newT (j : Jr) : Int × Rc := if okJ j = false then (2, zRc) else match j.recs with
  | [] => (6, zRc)
  | r :: _ => (0, r)
def NwS (w : World) (t : Int × Rc) (e : Ending) (w' : World) : Prop := ∃ y : Rp, e = .returned (.tuple #[.agg y.r.cs, i64 t.1]) ∧ y.rc = t.2 ∧ RpX w.heap.size w' y ∧ Below w.heap.size w w'
theorem zR_x (B : Nat) (w : World) : RpX B w ⟨zR, []⟩ := ⟨zR_ok, PLF.nil B w⟩
theorem fn_of {F : Nat} {args : Array Value} {w : World} {s : Int} {l : List Rp} {id : ByteArray}
    (b : okJ ⟨s, rcs l⟩ = false → Calls Try.prog F args w fun e w' => e = .returned (.tuple #[.agg zR.cs, i64 0, i64 2]) ∧ Below w.heap.size w w')
    (m : okJ ⟨s, rcs l⟩ = true → atI (rcs l) (lst id) = none → Calls Try.prog F args w fun e w' => e = .returned (.tuple #[.agg zR.cs, i64 0, i64 6]) ∧ Below w.heap.size w w')
    (k : okJ ⟨s, rcs l⟩ = true → ∀ i, atI (rcs l) (lst id) = some i → ∀ x, l[i]? = some x → Calls Try.prog F args w (RecE w x.rc #[i64 i, i64 0])) :
    Calls Try.prog F args w (FnS w (fndT ⟨s, rcs l⟩ (lst id))) := by
  unfold fndT
  cases hj : okJ ⟨s, rcs l⟩ with
  | false => rw [if_pos rfl]; exact (b hj).mono fun e w' ⟨he, hb⟩ => ⟨⟨zR, []⟩, he, rfl, zR_x _ _, hb⟩
  | true =>
    rw [if_neg (by simp)]
    cases ha : atI (rcs l) (lst id) with
    | none => exact (m hj ha).mono fun e w' ⟨he, hb⟩ => ⟨⟨zR, []⟩, he, rfl, zR_x _ _, hb⟩
    | some i =>
      have hi := (atI_some ha).1
      rw [rcs_len] at hi
      have hx : l[i]? = some l[i] := List.getElem?_eq_getElem hi
      exact (k hj i ha _ hx).mono fun e w' ⟨y, he, hy, hr, hb⟩ => ⟨y, he, by rw [hy]; show _ = ((rcs l)[i]?).getD zRc; rw [rcs_get, hx]; rfl, hr, hb⟩
theorem jfind_any (s : Int) (v : Value) (l : List Rp) (id : ByteArray) (w : World) (hl : RL w v l) : Calls Try.prog 13 #[.agg (jC s v), .string id] w (FnS w (fndT ⟨s, rcs l⟩ (lst id))) :=
  fn_of (find_bad s v l id w hl) (find_miss s v l id w hl) (find_ok s v l id w hl)
theorem rfind_any (s : Int) (v : Value) (l : List Rp) (id : ByteArray) (w : World) (hl : RL w v l) : Calls Try.prog 14 #[.agg (jC s v), .string id] w (FnS w (fndT ⟨s, rcs l⟩ (lst id))) :=
  fn_of (rfind_bad s v l id w hl) (rfind_miss s v l id w hl) (rfind_ok s v l id w hl)
theorem nw_of {F : Nat} {args : Array Value} {w : World} {s : Int} {l : List Rp}
    (b : okJ ⟨s, rcs l⟩ = false → Calls Try.prog F args w fun e w' => e = .returned (.tuple #[.agg zR.cs, i64 2]) ∧ Below w.heap.size w w')
    (m : okJ ⟨s, rcs l⟩ = true → l.length = 0 → Calls Try.prog F args w fun e w' => e = .returned (.tuple #[.agg zR.cs, i64 6]) ∧ Below w.heap.size w w')
    (k : okJ ⟨s, rcs l⟩ = true → ∀ x, l[0]? = some x → Calls Try.prog F args w (RecE w x.rc #[i64 0])) :
    Calls Try.prog F args w (NwS w (newT ⟨s, rcs l⟩)) := by
  unfold newT
  cases hj : okJ ⟨s, rcs l⟩ with
  | false => rw [if_pos rfl]; exact (b hj).mono fun e w' ⟨he, hb⟩ => ⟨⟨zR, []⟩, he, rfl, zR_x _ _, hb⟩
  | true =>
    rw [if_neg (by simp)]
    cases l with
    | nil => exact (m hj rfl).mono fun e w' ⟨he, hb⟩ => ⟨⟨zR, []⟩, he, rfl, zR_x _ _, hb⟩
    | cons x r => exact (k hj x rfl).mono fun e w' ⟨y, he, hy, hr, hb⟩ => ⟨y, he, hy, hr, hb⟩
theorem jnew_any (s : Int) (v : Value) (l : List Rp) (w : World) (hl : RL w v l) : Calls Try.prog 15 #[.agg (jC s v)] w (NwS w (newT ⟨s, rcs l⟩)) :=
  nw_of (newest_bad s v l w hl) (newest_miss s v l w hl) (newest_ok s v l w hl)
theorem rnew_any (s : Int) (v : Value) (l : List Rp) (w : World) (hl : RL w v l) : Calls Try.prog 16 #[.agg (jC s v)] w (NwS w (newT ⟨s, rcs l⟩)) :=
  nw_of (rnewest_bad s v l w hl) (rnewest_miss s v l w hl) (rnewest_ok s v l w hl)
#print axioms radd_any
#print axioms rrem_any
#print axioms rfind_any
#print axioms rnew_any
end Go.Proofs.Ytcbmimjjpkkoeaa
