/- Texts laid into one: the remark ahead of each part says what is proved there. -/
import Derived.Test.YtcbmimjjpkkoeaaGreatDoorQam
import Derived.Laws.IdiomCopy
import Derived.Lib.AppendZerosOnto
import Derived.Lib.Overlaps
import Derived.Shelf.RegionOpenPlain
/- slices.DeleteFunc with has; without. -/
namespace Go.Proofs.YtcbmimjjpkkoeaaGreatDoor
open Go Go.RowKit

theorem elemRc (w : World) : (sizeOf (Tryz.prog.elem 22)).run Tryz.prog w = .ok 42 w := by
  have hi : (Tryz.prog.info? (Tryz.prog.elem 22)).map (·.size) = some 42 := by kernel_rfl
  obtain ⟨i, h1, h2⟩ := Option.map_eq_some_iff.1 hi
  simp [sizeOf, typeInfo, h1, h2]
theorem underERc : Tryz.prog.underlying 22 = some (.slice (Tryz.prog.elem 22)) := by kernel_rfl
/-- s[l:] -/
theorem run_fromR (g n c l : Nat) (hl : l ≤ n) (hlt : l < c) (w : World) : (Instr.slice 22 (.slice (some ⟨g, 0, none⟩) n c) (some (.int .i64 (l : Int))) none none).run Tryz.prog w = .ok (.slice (some ⟨g, l * 42, none⟩) (n - l) (c - l)) w := by
  rw [run_slice_l (P := Tryz.prog) w 22 _ n c underERc .i64 (l : Int) (by omega) (by omega), elemRc]
  have e : ¬ c = l := by omega
  simp [Result.andThen, sliced, e, add_none]
/-- s[:h] -/
theorem run_headR (po : Option Addr) (n c h : Nat) (hh : h ≤ c) (w : World) : (Instr.slice 22 (.slice po n c) none (some (.int .i64 (h : Int))) none).run Tryz.prog w = .ok (.slice po h c) w := by
  rw [run_slice_h (P := Tryz.prog) w 22 po n c underERc .i64 (h : Int) (by omega) (by omega), elemRc]
  cases po with
  | none => simp [Result.andThen, sliced]
  | some a =>
    by_cases h0 : c = 0
    · simp [Result.andThen, sliced, h0]
    · simp [Result.andThen, sliced, h0, add_zero']
theorem zeroVR (w : World) : (zeroValue 45).run Tryz.prog w = .ok (.agg zR.cs) w := by
  obtain ⟨i, hq, hz'⟩ := Option.map_eq_some_iff.1 zeroR
  simp [zeroValue, typeInfo, hq, hz']
theorem zeroC_len (n : Nat) : (Builtin.zeroCells zR.cs n).toList.length = n * 42 := by simp [Builtin.zeroCells, zR_ok.size]
theorem zeroC_one (n : Nat) : ∀ v ∈ (Builtin.zeroCells zR.cs n).toList, v.oneCell' = true := by
  intro v hv
  rw [Array.mem_toList_iff] at hv
  unfold Builtin.zeroCells at hv
  obtain ⟨i, hi, rfl⟩ := Array.mem_map.1 hv
  have h42 : i % zR.cs.size < zR.cs.size := Nat.mod_lt _ (by rw [zR_ok.size]; decide)
  rw [getElem!_pos zR.cs _ h42]
  exact Rv.cs_one zR rfl _ (by rw [Array.mem_toList_iff]; exact Array.getElem_mem h42)
/-- clear -/
theorem run_clearR (w : World) (g o n c : Nat) (hn : 0 < n) (ht : w.there g o (n * 42)) (ty : TypeId) : (Builtin.clear_ #[22] ty #[.slice (some ⟨g, o, none⟩) n c]).run Tryz.prog w = .ok (.tuple #[]) (w.setCells g o (Builtin.zeroCells zR.cs n).toList) := by
  have hst := run_storeCells_cells (P := Tryz.prog) g o (Builtin.zeroCells zR.cs n).toList 0 w (fun j hj => by rw [zeroC_len] at hj; exact (ht j hj).1) (fun j hj => by rw [zeroC_len] at hj; exact (ht j hj).2) (zeroC_one n)
  simp only [Nat.add_zero] at hst
  obtain ⟨m, rfl⟩ : ∃ m, n = m + 1 := ⟨n - 1, by omega⟩
  have hv := zeroVR
  generalize zR.cs = C at hst hv ⊢
  simp [Builtin.clear_, run_underlying Tryz.underlying22, hv, Value.cells, hst]
/-- The records but the one of an ID. -/
def woutR (l : List Rp) (id : List Nat) : List Rp := l.filter fun x => decide (lst x.r.id ≠ id)
theorem rcs_wout (l : List Rp) (id : List Nat) : rcs (woutR l id) = wout (rcs l) id := by
  induction l with
  | nil => rfl
  | cons x l ih =>
    unfold woutR wout rcs at ih ⊢
    rw [List.map_cons, List.filter_cons, List.filter_cons, rc_id]
    split
    · rw [List.map_cons, ih]
    · exact ih
theorem flatR_take {l : List Rp} (hk : ∀ x ∈ l, x.r.ok) {i : Nat} (hi : i ≤ l.length) : flatR (l.take i) = (flatR l).take (i * 42) := by
  have hl : (flatR (l.take i)).length = i * 42 := by
    rw [flatR_len (fun x hx => hk x (List.mem_of_mem_take hx)), List.length_take, Nat.min_eq_left hi]
  have e : flatR l = flatR (l.take i) ++ flatR (l.drop i) := by rw [← flatR_app, List.take_append_drop]
  rw [e, List.take_left' hl]
/-- The last ones are cleared, and cut off. -/
theorem RBuf.cut {B : Nat} {w : World} {g n c : Nat} {l : List Rp} (h : RBuf B w (.slice (some ⟨g, 0, none⟩) n c) l) (hk : ∀ x ∈ l, x.r.ok) {i : Nat} (hi : i ≤ l.length) (zs : List Value) (hz : i * 42 + zs.length ≤ l.length * 42) :
    RBuf B (w.setCells g (i * 42) zs) (.slice (some ⟨g, 0, none⟩) i c) (l.take i) := by
  rcases h.2 with ⟨e, _⟩ | ⟨g', cap, cur, e, hB, hg, h1, hm, h3, h4⟩
  · cases e
  cases e
  have hc : CAt w g cur 45 := hg
  have hlen : (l.take i).length = i := by rw [List.length_take]; omega
  have hcl : cur.toList.length = c * 42 := by rw [Array.length_toList, h3]
  have e := setAll_splice (cs := cur.toList) (vs := zs) (o := i * 42) (by have := Nat.mul_le_mul_right 42 h1; omega)
  refine ⟨by rw [flatR_len (fun x hx => hk x (List.mem_of_mem_take hx))], Or.inr ⟨g, c, _, by rw [hlen], hB, CAt.setCells zs (i * 42) cur w hc, by omega, hm, ?_, ?_⟩⟩
  · rw [List.size_toArray, e, List.length_append, List.length_append, List.length_take, List.length_drop, Array.length_toList, h3]; have := Nat.mul_le_mul_right 42 h1; omega
  · have ha : (cur.toList.take (i * 42)).length = i * 42 := by rw [List.length_take, Array.length_toList, h3]; have := Nat.mul_le_mul_right 42 h1; omega
    rw [List.toList_toArray, e, hlen, List.take_left' ha, flatR_take hk hi, ← h4, List.take_take, Nat.min_eq_left (Nat.mul_le_mul_right 42 hi)]
theorem RBuf.thereAll {B : Nat} {w : World} {g n c : Nat} {l : List Rp} (h : RBuf B w (.slice (some ⟨g, 0, none⟩) n c) l) {i : Nat} (hi : i ≤ l.length) : w.there g (i * 42) ((l.length - i) * 42) := by
  rcases h.2 with ⟨e, _⟩ | ⟨g', cap, cur, e, hB, hg, h1, hm, h3, h4⟩
  · cases e
  cases e
  have hc : CAt w g cur 45 := hg
  intro j hj
  have := Nat.mul_le_mul_right 42 h1
  exact ⟨by rw [hc.cell, Array.getElem?_eq_getElem (by omega)]; rfl, hc.free _⟩
/-- So far: the first j have been looked at, i of them are kept. -/
structure DInv (B : Nat) (w : World) (l : List Rp) (v : Value) (s : ByteArray) (gf i j : Nat) (m : List Rp) (W : World) : Prop where
  len : m.length = l.length
  lt : i < j
  le : j ≤ l.length
  low : m.take i = woutR (l.take j) (lst s)
  high : ∀ k, j ≤ k → m[k]? = l[k]?
  each : ∀ x ∈ m, RpX B W x
  buf : RBuf B W v m
  below : Below B w W
  hf : CAt W gf #[.string s] 9
theorem woutR_succ {l : List Rp} {id : List Nat} {j : Nat} {x : Rp} (hx : l[j]? = some x) : woutR (l.take (j + 1)) id = woutR (l.take j) id ++ if lst x.r.id = id then [] else [x] := by
  have hj := (List.getElem?_eq_some_iff.1 hx).1
  have e : l[j] = x := (List.getElem?_eq_some_iff.1 hx).2
  rw [List.take_succ_eq_append_getElem hj, e]
  unfold woutR
  rw [List.filter_append]
  by_cases h : lst x.r.id = id <;> simp [h]
section
variable {B : Nat} {w : World} {l : List Rp} {v : Value} {s : ByteArray} {gf i j : Nat} {m : List Rp} {W W1 : World} (h : DInv B w l v s gf i j m W)
include h
theorem DInv.on (hB : B ≤ w.heap.size) (hb : Below W.heap.size W W1) : DInv B w l v s gf i j m W1 :=
  ⟨h.len, h.lt, h.le, h.low, h.high, fun x hx => (h.each x hx).below hb, h.buf.below hb, below_tr h.below (below_less hb (Nat.le_trans hB h.below.size)), h.hf.below hb⟩
theorem DInv.skip {x : Rp} (hx : l[j]? = some x) (he : lst x.r.id = lst s) : DInv B w l v s gf i (j + 1) m W :=
  ⟨h.len, by have := h.lt; omega, (List.getElem?_eq_some_iff.1 hx).1, by rw [woutR_succ hx, if_pos he, List.append_nil]; exact h.low, fun k hk => h.high k (by omega), h.each, h.buf, h.below, h.hf⟩
theorem DInv.keep (hB : B ≤ w.heap.size) {x : Rp} (hx : l[j]? = some x) (he : lst x.r.id ≠ lst s) :
    ∃ g c, v = .slice (some ⟨g, 0, none⟩) l.length c ∧ W.there g (i * 42) 42 ∧ DInv B w l v s gf (i + 1) (j + 1) (m.set i x) (W.setCells g (i * 42) x.r.cs.toList) := by
  have hxm : m[j]? = some x := by rw [h.high j (Nat.le_refl _)]; exact hx
  have hxX := h.each x (List.mem_of_getElem? hxm)
  have hlt := h.lt
  have hle := (List.getElem?_eq_some_iff.1 hx).1
  obtain ⟨g, c, e, hg, ht, ⟨cs, hc⟩, hbuf, ho⟩ := h.buf.set (fun y hy => (h.each y hy).ok) (i := i) (by rw [h.len]; omega) hxX.ok
  refine ⟨g, c, by rw [e, h.len], ht, by rw [List.length_set, h.len], by omega, hle, ?_, fun k hk => ?_, fun y hy => ?_, hbuf, below_tr h.below (ho.below (by have := h.below.size; omega) (fun i e => by omega)), h.hf.keep (ho.block gf h.hf.lt fun e => h.hf.apart hc (by decide) e)⟩
  · rw [woutR_succ hx, if_neg he, ← h.low, List.take_succ_eq_append_getElem (by rw [List.length_set, h.len]; omega), List.getElem_set_self, List.take_set_of_le (by omega)]
  · rw [List.getElem?_set, if_neg (by omega)]
    exact h.high k (by omega)
  · rcases List.mem_or_eq_of_mem_set hy with hy | rfl
    · exact (h.each y hy).other hc ho
    · exact hxX.other hc ho
end
def DelS (B : Nat) (w : World) (rs : List Rc) (e : Ending) (w' : World) : Prop := ∃ v m, e = .returned v ∧ Rs B w' v m ∧ rcs m = rs ∧ Below B w w'
theorem woutR_none {l : List Rp} {id : List Nat} (h : atI (rcs l) id = none) : woutR l id = l := by
  unfold woutR
  rw [List.filter_eq_self]
  intro x hx
  rw [atI_none] at h
  simp only [ne_eq, decide_eq_true_eq]
  exact fun e => h (List.mem_map.2 ⟨x.rc, List.mem_map.2 ⟨x, hx, rfl⟩, e⟩)
theorem DInv.start {B : Nat} {w W : World} {l : List Rp} {v : Value} {s : ByteArray} {gf i : Nat} (h : Rs B W v l) (hb : Below B w W) (hf : CAt W gf #[.string s] 9) (hi : atI (rcs l) (lst s) = some i) : DInv B w l v s gf i (i + 1) l W := by
  obtain ⟨h1, h2, h3⟩ := atI_some hi
  rw [rcs_len] at h1
  have hx : l[i]? = some l[i] := List.getElem?_eq_getElem h1
  have e2 : lst l[i].r.id = lst s := by have := h2; simpa [rcs, Rp.rc, Rv.rc] using this
  refine ⟨rfl, by omega, by omega, ?_, fun k _ => rfl, h.each, h.buf, hb, hf⟩
  rw [woutR_succ hx, if_pos e2, List.append_nil]
  unfold woutR
  rw [List.filter_eq_self.2]
  intro y hy
  obtain ⟨j, hj, e⟩ := List.getElem_of_mem hy
  rw [List.length_take] at hj
  have := h3 j (by omega)
  simp only [ne_eq, decide_eq_true_eq]
  intro e3
  apply this
  rw [List.getElem_take] at e
  simpa [rcs, Rp.rc, Rv.rc, e] using e3
set_option maxRecDepth 100000 in
set_option maxHeartbeats 2000000 in
theorem delete_any (B : Nat) (v f : Value) (l : List Rp) (s : ByteArray) (w : World) (hl : Rs B w v l) (hn : l.length ≤ 100000) (hf : HasF w f s) (hB : B ≤ w.heap.size) : Calls Tryz.prog 98 #[v, f] w (DelS B w (wout (rcs l) (lst s))) := by
  have HI := hid (fun W (hW : Below w.heap.size w W) => index_any v f l s W ((hl.rl hn).below hW) (hf.below hW))
  obtain ⟨gf, rfl, hgf⟩ := hf
  obtain ⟨po, c, rfl, hc1, hz1⟩ := hl.buf.form
  have HL := hid hl
  have HF := hid hgf
  clear hl hgf
  cases ha : atI (rcs l) (lst s) with
  | none =>
    rw [ha] at HI
    have HA := hid ha
    clear ha
    go_enter Tryz.func98, Tryz.ntmps98
    go_wp2_with (go_at_call 44; refine (HI.out _ (Below.refl _ _)).mono ?_; rintro e w1 ⟨rfl, hb1⟩; rw [show plI none = -1 from rfl]; have HB1 := hid hb1; clear hb1)
    go_ret
    refine ⟨_, l, rfl, HL.out.below HB1.out, ?_, below_less HB1.out hB⟩
    rw [← rcs_wout, woutR_none HA.out]
  | some i0 =>
    rw [ha] at HI
    have HA := hid ha
    have hi0 := (atI_some ha).1
    rw [rcs_len] at hi0
    clear ha
    obtain ⟨q0, hq0⟩ : ∃ q : Int, plI (some i0) = q := ⟨_, rfl⟩
    have hq1 : q0 = (i0 : Int) := hq0.symm
    rw [hq0, hq1] at HI
    clear hq0 hq1
    have hne : ¬ ((i0 : Int) = -1) := by omega
    go_enter Tryz.func98, Tryz.ntmps98
    go_wp2_with (go_at_call 44; refine (HI.out _ (Below.refl _ _)).mono ?_; rintro e w1 ⟨rfl, hb1⟩; have HS := hid (DInv.start (HL.out.below hb1) (below_less hb1 hB) (HF.out.below hb1) HA.out); clear hb1)
    go_loopg [5, 6, 7] l.length (fun gg s5 s6 _ wr => ∃ (i j : Nat) (m : List Rp), s5 = i64 i ∧ s6 = i64 j ∧ j ≤ l.length ∧ i < j ∧ l.length - j ≤ gg ∧ Hid (DInv B w l (.slice po l.length c) s gf i j m wr))
    case atStart => exact ⟨i0, i0 + 1, l, rfl, by go_num, by omega, by omega, by omega, HS.out⟩
    case round =>
      obtain ⟨i, j, m, rfl, rfl, hj, hij, hg, I⟩ := hrel
      clear HS
      by_cases hlt : j < l.length
      · have hltz : (j : Int) < (l.length : Int) := by omega
        obtain ⟨x, hx⟩ : ∃ x, l[j]? = some x := ⟨_, List.getElem?_eq_getElem hlt⟩
        have hxm : m[j]? = some x := by rw [I.out.high j (Nat.le_refl _)]; exact hx
        have hxX := I.out.each x (List.mem_of_getElem? hxm)
        obtain ⟨g, c2, he, hr⟩ := I.out.buf.range (fun y hy => (I.out.each y hy).ok) hxm
        rw [I.out.len] at he
        cases he
        have HX := hid hx
        have HR := hid hr
        have hok := hxX.ok
        have HC := hid (fun W (hW : Below wr.heap.size wr W) => hasF_any x.r hok s gf W (I.out.hf.below hW))
        have hone : x.r.pv.oneCell' = true := by obtain ⟨p0, c0, e0, _⟩ := hxX.pl.1; rw [e0]; rfl
        clear hx hxm hr hxX
        have T1 : Hid True := hid trivial
        by_cases hq : lst x.r.id = lst s
        · rw [decide_eq_true hq] at HC
          go_wp2_with (first
            | (clear T1; (with_reducible refine wpList_loadM rfl _ rfl g (j * 42) ?_ x.r hok HR.out ?_); exact rfl)
            | ((with_reducible refine wpList_allocR rfl rfl ?_); intro w2 g2 hz2 hb2 hg2; have HZ2 := hid hz2; have HB2 := hid hb2; have HG2 := hid hg2; clear hz2 hb2 hg2)
            | ((with_reducible refine wpList_storeR rfl rfl _ _ rfl g2 ?_ (r := x.r) ?_ zR_ok hok hone HZ2.out ?_); exact rfl; exact rfl; intro w3 h3 o3; have HO3 := hid (Own1.mk1 HB2.out HG2.out h3 o3); clear h3 o3 HZ2)
            | ((with_reducible refine wpList_load_at 45 _ rfl ?_ g2 0 ?_ x.r.cs (.struct (Tryz.prog.fieldsOf 45)) ?_ underRec rfl ?_ ?_); exact rfl; exact rfl; exact HO3.out.box.whole; (rw [hok.size]; exact sizeR))
            | (go_at_call 83; refine (HC.out _ HO3.out.below).mono ?_; rintro e w4 ⟨rfl, hb4⟩; have HB4 := hid (below_on HO3.out.below hb4); clear hb4))
          go_roundg (l.length - (j + 1))
          case measure => omega
          case rel => exact ⟨i, j + 1, m, rfl, by go_num, by omega, by omega, by omega, (I.out.on hB HB4.out).skip HX.out hq⟩
        · rw [decide_eq_false hq] at HC
          go_wp2_with (first
            | (clear T1; (with_reducible refine wpList_loadM rfl _ rfl g (j * 42) ?_ x.r hok HR.out ?_); exact rfl)
            | ((with_reducible refine wpList_allocR rfl rfl ?_); intro w2 g2 hz2 hb2 hg2; have HZ2 := hid hz2; have HB2 := hid hb2; have HG2 := hid hg2; clear hz2 hb2 hg2)
            | ((with_reducible refine wpList_storeR rfl rfl _ _ rfl g2 ?_ (r := x.r) ?_ zR_ok hok hone HZ2.out ?_); exact rfl; exact rfl; intro w3 h3 o3; have HO3 := hid (Own1.mk1 HB2.out HG2.out h3 o3); clear h3 o3 HZ2)
            | ((with_reducible refine wpList_load_at 45 _ rfl ?_ g2 0 ?_ x.r.cs (.struct (Tryz.prog.fieldsOf 45)) ?_ underRec rfl ?_ ?_); exact rfl; exact rfl; (first | exact HO4.out.box.whole | exact HO3.out.box.whole); (rw [hok.size]; exact sizeR))
            | (go_at_call 83; refine (HC.out _ HO3.out.below).mono ?_; rintro e w4 ⟨rfl, hb4⟩; have HO4 := hid (HO3.out.on hok hb4); obtain ⟨g9, c9, he9, ht9, hi9⟩ := (I.out.on hB HO4.out.below).keep hB HX.out hq; cases he9; have HT := hid ht9; have HI9 := hid hi9; clear hb4 ht9 hi9)
            | ((with_reducible refine wpList_store_mid rfl 45 _ _ rfl g (i * 42) x.r.cs ?_ ?_ ?_ ?_ (Rv.one hone) ?_); exact rfl; exact rfl; (rw [hok.size]; exact HT.out); (rw [hok.size]; exact sizeR)))
          go_roundg (l.length - (j + 1))
          case measure => omega
          case rel => exact ⟨i + 1, j + 1, _, by go_num, by go_num, by omega, by omega, by omega, HI9.out⟩
      · obtain rfl : j = l.length := by omega
        have hltz : ¬ (l.length : Int) < (l.length : Int) := by omega
        have hpo : ∃ g, po = some ⟨g, 0, none⟩ := by
          obtain ⟨x, hx⟩ : ∃ x, m[0]? = some x := ⟨_, List.getElem?_eq_getElem (by rw [I.out.len]; omega)⟩
          obtain ⟨g, c2, he, hr⟩ := I.out.buf.range (fun y hy => (I.out.each y hy).ok) hx
          rw [I.out.len] at he
          cases he; exact ⟨g, rfl⟩
        obtain ⟨g, rfl⟩ := hpo
        have hbuf := I.out.buf
        have hmok : ∀ y ∈ m, y.r.ok := fun y hy => (I.out.each y hy).ok
        have hth := hbuf.thereAll (i := i) (by rw [I.out.len]; omega)
        rw [I.out.len] at hth
        have hcl := run_clearR wr g (i * 42) (l.length - i) (c - i) (by omega) hth
        have hs1 := run_fromR g l.length c i (by omega) (by omega)
        have hs2 := run_headR (some ⟨g, 0, none⟩) l.length c i (by omega)
        have hcut := hbuf.cut hmok (i := i) (by rw [I.out.len]; omega) (Builtin.zeroCells zR.cs (l.length - i)).toList (by rw [zeroC_len, I.out.len]; omega)
        have hon := only_setCells (S := fun b => b = g) wr g (i * 42) (Builtin.zeroCells zR.cs (l.length - i)).toList rfl
        obtain ⟨cs, hcs, hgB⟩ : ∃ cs, CAt wr g cs 45 ∧ B ≤ g := by
          rcases hbuf.2 with ⟨e, _⟩ | ⟨g', cap, cur, e, hB', hg, _⟩
          · cases e
          · rw [I.out.len] at e; cases e; exact ⟨cur, hg, hB'⟩
        obtain ⟨W', hW'⟩ : ∃ W', wr.setCells g (i * 42) (Builtin.zeroCells zR.cs (l.length - i)).toList = W' := ⟨_, rfl⟩
        rw [hW'] at hcl hcut hon
        have HCUT := hid hcut
        have HON := hid hon
        have HCS := hid hcs
        clear hW' hcut hon hcs hbuf hmok hth
        go_wp2
        go_ret
        refine ⟨_, m.take i, rfl, ⟨HCUT.out, fun x hx => (I.out.each x (List.mem_of_mem_take hx)).other HCS.out HON.out⟩, ?_, below_tr I.out.below (HON.out.below (by have := I.out.below.size; omega) (fun k e => by omega))⟩
        rw [I.out.low, List.take_of_length_le (Nat.le_refl _), rcs_wout]
set_option maxRecDepth 100000 in
theorem without_any (v : Value) (l : List Rp) (s : ByteArray) (w : World) (hl : RL w v l) : Calls Tryz.prog 77 #[v, .string s] w (ClonS w (wout (rcs l) (lst s))) := by
  have HL := hid hl
  have hn := hl.len
  obtain ⟨po, c, rfl, _⟩ := hl
  go_enter Tryz.func77, Tryz.ntmps77
  go_wp2_with (first
    | (go_at_call 34; refine (jclone_any _ l w HL.out).mono ?_; rintro e w1 ⟨v1, m, rfl, hr1, he1, hb1⟩; obtain ⟨p1, c1, hv1, _⟩ := hr1.buf.form; subst hv1; have HR1 := hid hr1; have HE1 := hid he1; have HB1 := hid hb1; have hml : m.length = l.length := (by have := congrArg List.length he1; rwa [rcs_len, rcs_len] at this); have HML := hid hml; clear hr1 he1 hb1 hml)
    | (go_at_call 45; refine (has_any s _).mono ?_; rintro e w2 ⟨f, rfl, hf, hb2⟩; have HF := hid hf; have HB2 := hid hb2; obtain ⟨gf, hf2, _⟩ := hf; subst hf2; clear hb2)
    | (go_at_call 98; refine (delete_any w.heap.size _ _ m s _ (HR1.out.below HB2.out) (by have := HML.out; omega) HF.out (by have := HB1.out.size; have := HB2.out.size; omega)).mono ?_; rintro e w3 ⟨v3, m3, rfl, hr3, he3, hb3⟩; rw [HE1.out] at he3))
  go_ret
  exact ⟨v3, m3, rfl, hr3, he3, below_tr (below_on HB1.out HB2.out) hb3⟩
#print axioms without_any
end Go.Proofs.YtcbmimjjpkkoeaaGreatDoor

/- slices.Insert of one record ahead of all. -/
namespace Go.Proofs.YtcbmimjjpkkoeaaGreatDoor
open Go Go.RowKit

theorem wpList_copy_run {P : Program} {w w' : World} {ops : Array Oper} {rest : List Oper} {o : Oper} {a : Act} {Q : Exit → Act → World → Prop} (d s : Operand) (t t2 : TypeId)
    (ho : o.op = .call { callee := .builtin .copy, args := #[d, s], argTypes := #[t, t2] }) (hw : Region.wanted o (yielded ops a.tmps) = true)
    (v xv v' : Value) (hs : a.eval d = v) (hx : a.eval s = xv) (hr : (Builtin.copy_ #[t, t2] o.type #[v, xv]).run P w = .ok v' w') (h : wpList P ops Q rest (a.put o.dst v') w') : wpList P ops Q (o :: rest) a w := by
  refine BigFrame.wpList_want hw fun K hK => ?_
  unfold Oper.wp execOp
  simp only [ho, resolve, invoke, builtin, Sem.run_bind, Sem.run_pure, Result.andThen_ok, List.map_toArray, List.map_cons, List.map_nil, hs, hx, hr]
  exact hK _ _ h
theorem step_copy_run {P : Program} {w w' : World} {ops : Array Oper} {o : Oper} {a : Act} {K : Act → World → Prop} {Q : Exit → Act → World → Prop} {E : Prop} (hgd : o.guard = none) (d s : Operand) (t t2 : TypeId)
    (ho : o.op = .call { callee := .builtin .copy, args := #[d, s], argTypes := #[t, t2] }) (v xv v' : Value) (hs : a.eval d = v) (hx : a.eval s = xv) (hr : (Builtin.copy_ #[t, t2] o.type #[v, xv]).run P w = .ok v' w') (h : K (a.put o.dst v') w') :
    if Region.wanted o (yielded ops a.tmps) = true then Oper.wp P o a w K Q else E := by
  rw [if_pos (by simp [Region.wanted, hgd])]
  unfold Oper.wp execOp
  simp only [ho, resolve, invoke, builtin, Sem.run_bind, Sem.run_pure, Result.andThen_ok, List.map_toArray, List.map_cons, List.map_nil, hs, hx, hr]
  exact h
/-- s[0:] -/
theorem run_from0R (po : Option Addr) (n c : Nat) (w : World) : (Instr.slice 22 (.slice po n c) (some (.int .i64 0)) none none).run Tryz.prog w = .ok (.slice po n c) w := by
  rw [run_slice_l (P := Tryz.prog) w 22 po n c underERc .i64 0 (by omega) (by omega), elemRc]
  cases po with
  | none => simp [Result.andThen, sliced]
  | some a =>
    by_cases h0 : c = 0
    · simp [Result.andThen, sliced, h0]
    · simp [Result.andThen, sliced, h0, add_zero']
/-- copy of records -/
theorem run_copyR (w : World) (g o dl dc : Nat) (a : Addr) (sl sc k : Nat) (hk : min sl dl = k) (cs : List Value) (hn : cs.length = k * 42) (hsrc : ∀ j v, cs[j]? = some v → w.cell? (a.add j) = some v) (ht : w.there g o cs.length) (h1 : ∀ v ∈ cs, v.oneCell' = true) (ty : TypeId) :
    (Builtin.copy_ #[22, 22] ty #[.slice (some ⟨g, o, none⟩) dl dc, .slice (some a) sl sc]).run Tryz.prog w = .ok (goInt k) (w.setCells g o cs) := by
  have hk' : Nat.min sl dl = k := hk
  have hl := run_loadCells_list (P := Tryz.prog) w a cs hsrc
  have hst := run_storeCells_cells (P := Tryz.prog) g o cs 0 w (by simpa using fun j hj => (ht j hj).1) (by simpa using fun j hj => (ht j hj).2) h1
  obtain ⟨i, hi0, hi⟩ := Option.map_eq_some_iff.1 sizeR
  simp only [Nat.add_zero] at hst
  rw [hn] at hl
  simp [Builtin.copy_, run_underlying Tryz.underlying22, Builtin.lenOf, Builtin.firstCells, sizeOf, typeInfo, hi0, hi, hk', hl, hst]
theorem one_rl {w : World} {g : Nat} {y : Rp} (hc : CAt w g y.r.cs 45) (hy : RpOk w y) : RL w (.slice (some ⟨g, 0, none⟩) 1 1) [y] :=
  ⟨_, 1, rfl, Nat.le_refl _, by simp, (fun e => by cases e), Or.inr ⟨g, 0, rfl, fun i x e j v hv => by
    cases i with
    | zero => simp at e; subst e; rw [hc.cell]; simpa using hv
    | succ i => simp at e⟩, fun x hx => by simp at hx; subst hx; exact hy⟩
theorem RpX.grown {B : Nat} {w w' : World} {x : Rp} {v : Value} {l : List Rp} (h : RpX B w x) (hb : RBuf B w v l) (hg : w.grownBy w' v.ownBlock) : RpX B w' x := by
  rcases hb.2 with ⟨rfl, _⟩ | ⟨g, cap, cur, rfl, hB, hc, _⟩
  · exact h.below ⟨hg.os, hg.tape, hg.output, hg.size, fun i hi => hg.block i hi (fun e => by cases e)⟩
  · exact h.other (cs := cur) (g := g) hc (Only.of_grown hg fun k e _ => by cases e; rfl)
theorem splice2a {Z a b : List Value} {k : Nat} (ha : a.length = k) (hz : k + b.length ≤ Z.length) : (setAll (setAll Z 0 a) k b).take (k + b.length) = a ++ b ∧ (setAll (setAll Z 0 a) k b).length = Z.length := by
  have e1 : setAll Z 0 a = a ++ Z.drop k := by have := setAll_splice (cs := Z) (vs := a) (o := 0) (by omega); simpa [ha] using this
  have e2 := setAll_splice (cs := a ++ Z.drop k) (vs := b) (o := k) (by rw [List.length_append, List.length_drop]; omega)
  rw [e1, e2, List.take_left' ha]
  refine ⟨?_, ?_⟩
  · rw [← List.append_assoc, List.take_left' (by rw [List.length_append]; omega)]
  · rw [List.length_append, List.length_append, List.length_drop, List.length_append, List.length_drop]; omega
theorem splice2b {Z a b : List Value} {k : Nat} (ha : a.length = k) (hz : k + b.length ≤ Z.length) : (setAll (setAll Z k b) 0 a).take (k + b.length) = a ++ b ∧ (setAll (setAll Z k b) 0 a).length = Z.length := by
  have e1 := setAll_splice (cs := Z) (vs := b) (o := k) hz
  have hl : (setAll Z k b).length = Z.length := by rw [e1, List.length_append, List.length_append, List.length_take, List.length_drop]; omega
  have e2 := setAll_splice (cs := setAll Z k b) (vs := a) (o := 0) (by omega)
  have hk : (Z.take k).length = k := by rw [List.length_take]; omega
  rw [e2, List.take_zero, List.nil_append, Nat.zero_add, ha, e1, List.drop_left' hk]
  refine ⟨?_, ?_⟩
  · rw [← List.append_assoc, List.take_left' (by rw [List.length_append]; omega)]
  · rw [List.length_append, List.length_append, List.length_drop]; omega
theorem drop_mul42 (n c : Nat) (h : n + 1 ≤ c) : 42 + n * 42 ≤ c * 42 := by omega
/-- A record ahead of others, in a row that has room. -/
theorem RBuf.mk2 {B : Nat} {w : World} {g c : Nat} {C : List Value} {y : Rp} {l : List Rp} (hB : B ≤ g) (hc : CAt w g C.toArray 45) (hm : c ≤ maxLen) (hn : l.length + 1 ≤ c) (hok : ∀ x ∈ y :: l, x.r.ok) (hl : C.length = c * 42) (ht : C.take (42 + (flatR l).length) = y.r.cs.toList ++ flatR l) : RBuf B w (.slice (some ⟨g, 0, none⟩) (l.length + 1) c) (y :: l) := by
  refine ⟨flatR_len hok, Or.inr ⟨g, c, C.toArray, rfl, hB, hc, hn, hm, by rw [List.size_toArray]; exact hl, ?_⟩⟩
  rw [List.toList_toArray, flatR_cons, ← ht, flatR_len (l := l) (fun x hx => hok x (by simp [hx])), List.length_cons]
  congr 1
  omega
set_option maxRecDepth 100000 in
set_option maxHeartbeats 1000000 in
theorem ins_nil (B : Nat) (v : Value) (y : Rp) (g : Nat) (w : World) (hl : Rs B w v []) (hc : CAt w g y.r.cs 45) (hy : RpX B w y) (hB : B ≤ w.heap.size) : Calls Tryz.prog 78 #[v, i64 0, .slice (some ⟨g, 0, none⟩) 1 1] w (DelS B w [y.rc]) := by
  obtain ⟨v1, w1, hr, hb1, hgr⟩ := hl.buf.app _ [y] (one_rl hc hy.one) (by simp) hB
  obtain ⟨po, c, rfl, hc1, hz1⟩ := hl.buf.form
  have HRUN := hid hr
  have HB1 := hid hb1
  have HG := hid hgr
  have HL := hid hl
  have HY := hid hy
  have HC := hid hc
  clear hr hb1 hgr hl hy hc
  have hs0 := run_from0R po 0 c
  go_enter Tryz.func78, Tryz.ntmps78
  go_wp2_with (at_builtin; refine wpList_append_run _ _ 22 22 rfl rfl _ _ _ rfl rfl HRUN.out ?_)
  go_ret
  have hbel := below_grown (Below.refl B w) HG.out hB (fun b hb => (own_ge HL.out.buf b hb).1)
  refine ⟨_, [y], rfl, ⟨HB1.out, fun x hx => ?_⟩, rfl, hbel⟩
  simp at hx
  subst hx
  exact HY.out.grown HL.out.buf HG.out
theorem firstC0 (a : Option Addr) (c : Nat) (w : World) : (Builtin.firstCells 42 0 (.slice a 0 c)).run Tryz.prog w = .ok (([] : List Value).toArray) w := by
  cases a <;> simp [Builtin.firstCells, loadCells]
  all_goals rfl
set_option maxRecDepth 100000 in
set_option maxHeartbeats 2000000 in
theorem ins_grow (B : Nat) (v : Value) (l : List Rp) (y : Rp) (g : Nat) (w : World) (hl : Rs B w v l) (hn : l.length ≤ 100000) (hne : 0 < l.length) (hc : CAt w g y.r.cs 45) (hy : RpX B w y) (hB : B ≤ w.heap.size) (po : Option Addr) (c : Nat) (hv : v = .slice po l.length c) (hroom : c < l.length + 1) : Calls Tryz.prog 78 #[v, i64 0, .slice (some ⟨g, 0, none⟩) 1 1] w (DelS B w (y.rc :: rcs l)) := by
  subst hv
  obtain ⟨i0, hi0, hz0, hzs, hzb⟩ := info_parts Tryz.infoRec
  have hrl := hl.rl hn
  obtain ⟨po', c', e, hnc, _, _, hcell, _⟩ := hrl
  cases e
  obtain ⟨b, o, rfl, hcells⟩ : ∃ b o, po = some ⟨b, o, none⟩ ∧ RCells w b o l := by
    rcases hcell with h | h
    · rw [h] at hne; cases hne
    · exact h
  have hok : ∀ x ∈ l, x.r.ok := fun x hx => (hl.each x hx).ok
  have hfl := flatR_len hok
  have hun := hcells.unflat hok
  have hbw : b < w.heap.size := by
    have := hun 0 _ (List.getElem?_eq_getElem (by rw [hfl]; omega))
    exact cell_lt' (a := ⟨b, o + 0, none⟩) (by rw [this]; simp)
  have hgw := hc.lt
  obtain ⟨G, hG⟩ : ∃ G, grownCap w (l.length + 1) c 45 = G := ⟨_, rfl⟩
  have hGn : l.length + 1 ≤ G := by rw [← hG]; exact grownCap_ge w _ _ _
  have hGm : G ≤ maxLen := by rw [← hG]; exact grownCap_le_maxLen w _ _ _ (by unfold maxLen; omega)
  obtain ⟨ROW, hROW⟩ : ∃ ROW : Array Value, ([] : List Value).toArray ++ Builtin.zeroCells (Value.agg zR.cs).cells (l.length + 1) ++ Builtin.zeroCells (Value.agg zR.cs).cells (G - (l.length + 1)) = ROW := ⟨_, rfl⟩
  have hRl : ROW.toList.length = G * 42 := by
    rw [← hROW]
    have e1 := zeroC_len (l.length + 1)
    have e2 := zeroC_len (G - (l.length + 1))
    rw [Array.length_toList] at e1 e2
    rw [Array.length_toList, Array.size_append, Array.size_append]
    show 0 + (Builtin.zeroCells zR.cs (l.length + 1)).size + (Builtin.zeroCells zR.cs (G - (l.length + 1))).size = _
    omega
  have hrz : ∀ ty, (Builtin.append_ #[22, 3] ty #[.slice (some ⟨b, o, none⟩) 0 c, .int .i64 ((l.length : Int) + 1)]).run Tryz.prog w = .ok (.slice (some ⟨w.heap.size, 0, none⟩) (l.length + 1) G) (w.drew.alloc (.cells ROW 45)) := fun ty => by
    have h := Lib.run_append_grow_zeros w 22 3 ty 45 i0 _ .i64 .i64 Tryz.underlying22 (by kernel_rfl) hi0 hz0 (some ⟨b, o, none⟩) 0 c [] (by rw [hzs]; exact firstC0 _ _ _) (l.length + 1) (by omega) (by omega) (by omega) (by omega) (by rw [hzb]; omega) (by rw [hzb, Nat.zero_add]; exact growslice_fits hroom (by omega))
    rw [Nat.zero_add, hG, hROW] at h
    rw [show (l.length : Int) + 1 = ((l.length + 1 : Nat) : Int) by omega]
    exact h
  clear hROW hG
  obtain ⟨W1, hW1⟩ : ∃ W1, w.drew.alloc (.cells ROW 45) = W1 := ⟨_, rfl⟩
  obtain ⟨N, hN⟩ : ∃ N, w.heap.size = N := ⟨_, rfl⟩
  have hC1 : CAt W1 N ROW.toList.toArray 45 := by rw [← hW1, ← hN]; exact CAt.made w.drew _ _
  have hBel1 : Below w.heap.size w W1 := by rw [← hW1]; exact below_on (below_drew w) (below_al w.drew _)
  rw [hW1, hN] at hrz
  have hcb1 : W1.rangeAt b o (flatR l) := rangeAt_below hun hBel1
  have hcg1 := hc.below hBel1
  -- the first copy
  have hcopA := run_copyR W1 N 0 (l.length + 1) G ⟨g, 0, none⟩ 1 1 1 (by omega) y.r.cs.toList (by rw [sizeR42 hy.ok]) (fun j v hj => by rw [add_none, Nat.zero_add, hcg1.cell]; simpa using hj) (fun j hj => by rw [sizeR42 hy.ok] at hj; exact ⟨by rw [hC1.cell, Nat.zero_add, List.getElem?_toArray, List.getElem?_eq_getElem (by omega)]; rfl, hC1.free _⟩) hy.one.one
  have hC2 := CAt.setCells y.r.cs.toList 0 _ _ hC1
  have hO2 := only_setCells (S := fun k => k = N) W1 N 0 y.r.cs.toList rfl
  obtain ⟨W2, hW2⟩ : ∃ W2, W1.setCells N 0 y.r.cs.toList = W2 := ⟨_, rfl⟩
  rw [hW2] at hcopA hC2 hO2
  rw [List.toList_toArray] at hC2
  have hlen2 : (setAll ROW.toList 0 y.r.cs.toList).length = G * 42 := by rw [setAll_splice (by rw [sizeR42 hy.ok]; omega), List.length_append, List.length_append, List.length_take, List.length_drop, sizeR42 hy.ok]; omega
  have hcb2 : W2.rangeAt b o (flatR l) := fun j v hv => by
    rw [World.cell?_of_block (a := ⟨b, o + j, none⟩) (hO2.block b (by have := hBel1.size; omega) (by omega))]
    exact hcb1 j v hv
  -- the second one
  have hcopB := fun n => run_copyR (W2.drewN n) N 42 l.length (G - 1) ⟨b, o, none⟩ l.length c l.length (by omega) (flatR l) hfl (fun j v hj => by rw [add_none]; exact hcb2 j v hj) (fun j hj => by rw [hfl] at hj; exact ⟨by show (W2.cell? _).isSome = true; rw [hC2.cell, List.getElem?_toArray, List.getElem?_eq_getElem (by rw [hlen2]; omega)]; rfl, hC2.free _⟩) (flatR_one fun x hx => (hl.each x hx).one)
  have hC3 := fun n => CAt.setCells (flatR l) 42 _ (W2.drewN n) hC2
  have hO3 := fun n => only_setCells (S := fun k => k = N) (W2.drewN n) N 42 (flatR l) rfl
  have hsp := splice2a (Z := ROW.toList) (a := y.r.cs.toList) (b := flatR l) (k := 42) (sizeR42 hy.ok) (by rw [hfl, hRl]; omega)
  have FIN : Hid (∀ n, Rs B ((W2.drewN n).setCells N 42 (flatR l)) (.slice (some ⟨N, 0, none⟩) (l.length + 1) G) (y :: l) ∧ Below B w ((W2.drewN n).setCells N 42 (flatR l))) := hid fun n => by
    have hbel : Below w.heap.size w ((W2.drewN n).setCells N 42 (flatR l)) := below_tr (below_tr (below_tr hBel1 (hO2.below hBel1.size (fun i e => by omega))) (below_less (below_drewN W2 n) (by have := hO2.size; have := hBel1.size; omega))) ((hO3 n).below (by show _ ≤ W2.heap.size; have := hO2.size; have := hBel1.size; omega) (fun i e => by omega))
    refine ⟨⟨RBuf.mk2 (by omega) (hC3 n) hGm hGn (fun x hx => ?_) (by rw [hsp.2, hRl]) hsp.1, fun x hx => ?_⟩, below_less hbel hB⟩
    · rcases List.mem_cons.1 hx with rfl | hx
      · exact hy.ok
      · exact hok x hx
    · rcases List.mem_cons.1 hx with rfl | hx
      · exact hy.below hbel
      · exact (hl.each x hx).below hbel
  have mixed : Tryz.prog.follows .mixedOrders = true := by kernel_rfl
  have hw1 : IntKind.i64.wrap (1 : Int) = 1 := by rw [IntKind.wrap_i64]; omega
  have hs0 := run_from0R (some ⟨b, o, none⟩) l.length c
  have hs1 : ∀ w, (Instr.slice 22 (.slice (some ⟨b, o, none⟩) l.length c) none (some (.int .i64 0)) none).run Tryz.prog w = .ok (.slice (some ⟨b, o, none⟩) 0 c) w := run_headR (some ⟨b, o, none⟩) l.length c 0 (by omega)
  have hs2 := run_from0R (some ⟨N, 0, none⟩) (l.length + 1) G
  have hs3 : ∀ w, (Instr.slice 22 (.slice (some ⟨N, 0, none⟩) (l.length + 1) G) (some (.int .i64 1)) none none).run Tryz.prog w = .ok (.slice (some ⟨N, 42, none⟩) l.length (G - 1)) w := run_fromR N (l.length + 1) G 1 (by omega) (by omega)
  have hl0 : ¬ ((0 : Int) = (l.length : Int)) := by omega
  have hcl : (c : Int) < (l.length : Int) + 1 := by omega
  have HA := hid hcopA
  have HBC := hid hcopB
  have HRZ := hid hrz
  clear hcopA hcopB hrz hC3 hO3 hsp hcb2 hlen2 hC2 hO2 hW2 hcb1 hcg1 hBel1 hC1 hN hW1 hRl hun hcells hcell hl hy hc hok hfl
  go_enter Tryz.func78, Tryz.ntmps78
  go_wp2_with (first
    | (at_builtin; refine wpList_append_run _ _ 22 3 rfl rfl _ _ _ rfl rfl (HRZ.out _) ?_)
    | ((with_reducible refine wpList_copy_run _ _ 22 22 rfl ?_ (.slice (some ⟨N, 0, none⟩) (l.length + 1) G) (.slice (some ⟨g, 0, none⟩) 1 1) _ ?_ ?_ (HA.out _) ?_); exact rfl; exact rfl; exact rfl))

  go_region_law_o (refine step_copy_run rfl _ _ 22 22 rfl (.slice (some ⟨N, 42, none⟩) l.length (G - 1)) (.slice (some ⟨b, o, none⟩) l.length c) _ (by simp [Act.eval, Act.put]) (by simp [Act.eval, Act.put]) (HBC.out 1 _) ?_)
  go_wp2
  go_ret
  exact ⟨_, y :: l, rfl, (FIN.out 1).1, rfl, (FIN.out 1).2⟩
theorem CAt.shape {w : World} {b : Nat} {cs : Array Value} {t : TypeId} (h : CAt w b cs t) : w.shape? b = some (t, cs.size) := by
  simp [World.shape?, show w.heap[b]? = _ from h]
set_option maxRecDepth 100000 in
set_option maxHeartbeats 2000000 in
theorem ins_room (B : Nat) (v : Value) (l : List Rp) (y : Rp) (g : Nat) (w : World) (hl : Rs B w v l) (hn : l.length ≤ 100000) (hne : 0 < l.length) (hc : CAt w g y.r.cs 45) (hy : RpX B w y) (hB : B ≤ w.heap.size) (hg : ∀ b, v.ownBlock = some b → b ≠ g) (po : Option Addr) (c : Nat) (hv : v = .slice po l.length c) (hroom : l.length + 1 ≤ c) : Calls Tryz.prog 78 #[v, i64 0, .slice (some ⟨g, 0, none⟩) 1 1] w (DelS B w (y.rc :: rcs l)) := by
  subst hv
  have hok : ∀ x ∈ l, x.r.ok := fun x hx => (hl.each x hx).ok
  have hfl := flatR_len hok
  obtain ⟨b, cur, rfl, hBb, hcb, hm, h3, h4⟩ : ∃ b cur, po = some ⟨b, 0, none⟩ ∧ B ≤ b ∧ CAt w b cur 45 ∧ c ≤ maxLen ∧ cur.size = c * 42 ∧ cur.toList.take (l.length * 42) = flatR l := by
    rcases hl.buf.2 with ⟨e, h0⟩ | ⟨g', cap, cur, e, hB', hg', h1, hm, h3, h4⟩
    · omega
    · cases e; exact ⟨g', cur, rfl, hB', hg', hm, h3, h4⟩
  have hbg : g ≠ b := fun e => hg b rfl e.symm
  have hcl : cur.toList.length = c * 42 := by rw [Array.length_toList, h3]
  have hm63 : c ≤ 9223372036854775807 := by unfold maxLen at hm; exact hm
  have hun : w.rangeAt b 0 (flatR l) := fun j v hv => by
    have hj : j < l.length * 42 := by
      rcases Nat.lt_or_ge j (l.length * 42) with q | q
      · exact q
      · rw [List.getElem?_eq_none (by omega)] at hv; cases hv
    rw [Nat.zero_add, hcb.cell]
    rw [← h4, List.getElem?_take, if_pos hj] at hv
    simpa using hv
  have hov : ∀ W lb cb, CAt W g y.r.cs 45 → CAt W b cur 45 → (callFunc 99 #[.slice (some ⟨g, 0, none⟩) 1 1, .slice (some ⟨b, 42, none⟩) lb cb]).run Tryz.prog W = .ok (.value (.bool false)) W := fun W lb cb h1 h2 => by
    rw [run_callFunc_extern Tryz.func99 (by kernel_rfl) (by kernel_rfl) (by kernel_rfl) (e := Extern.SlicesOverlaps.overlaps #[22, 22] #[4]) (by kernel_rfl),
      Lib.run_overlaps_apart W 22 4 45 Tryz.underlying22 42 (fun w => by obtain ⟨i, hi0, hi⟩ := Option.map_eq_some_iff.1 sizeR; simp [sizeOf, typeInfo, hi0, hi]) ⟨g, 0, none⟩ ⟨b, 42, none⟩ 1 1 lb cb hbg _ _ _ _ h1.shape h2.shape (by rw [h3]; omega) (h1.free _) (h1.free _)]
    rfl
  have hov' := hov w l.length (c - 1) hc hcb
  -- the first copy
  have hcopA := fun n => run_copyR (w.drewN n) b 42 l.length (c - 1) ⟨b, 0, none⟩ (l.length + 1) c l.length (by omega) (flatR l) hfl (fun j v hj => by rw [add_none]; exact hun j v hj) (fun j hj => by rw [hfl] at hj; exact ⟨by show (w.cell? _).isSome = true; rw [hcb.cell, Array.getElem?_eq_getElem (by omega)]; rfl, hcb.free _⟩) (flatR_one fun x hx => (hl.each x hx).one)
  have hC2 := fun n => CAt.setCells (flatR l) 42 cur (w.drewN n) hcb
  have hO2 := fun n => only_setCells (S := fun k => k = b) (w.drewN n) b 42 (flatR l) rfl
  have hlen2 : (setAll cur.toList 42 (flatR l)).length = c * 42 := by rw [setAll_splice (by omega), List.length_append, List.length_append, List.length_take, List.length_drop]; omega
  obtain ⟨W2, hW2⟩ : ∃ W2 : Nat → World, W2 = fun n => (w.drewN n).setCells b 42 (flatR l) := ⟨_, rfl⟩
  have hcopA' : ∀ n ty, (Builtin.copy_ #[22, 22] ty #[.slice (some ⟨b, 42, none⟩) l.length (c - 1), .slice (some ⟨b, 0, none⟩) (l.length + 1) c]).run Tryz.prog (w.drewN n) = .ok (goInt l.length) (W2 n) := by rw [hW2]; exact hcopA
  have hC2' : ∀ n, CAt (W2 n) b (setAll cur.toList 42 (flatR l)).toArray 45 := by rw [hW2]; exact hC2
  have hO2' : ∀ n, Only (fun k => k = b) w (W2 n) := fun n => by rw [hW2]; exact (Only.of_below (below_drewN w n)).trans (hO2 n)
  clear hcopA hC2 hO2 hW2
  have hcg2 : ∀ n, CAt (W2 n) g y.r.cs 45 := fun n => hc.keep ((hO2' n).block g hc.lt hbg)
  -- the second one
  have hcopB := fun n => run_copyR (W2 n) b 0 (l.length + 1) c ⟨g, 0, none⟩ 1 1 1 (by omega) y.r.cs.toList (by rw [sizeR42 hy.ok]) (fun j v hj => by rw [add_none, Nat.zero_add, (hcg2 n).cell]; simpa using hj) (fun j hj => by rw [sizeR42 hy.ok] at hj; exact ⟨by rw [(hC2' n).cell, List.getElem?_toArray, List.getElem?_eq_getElem (by rw [hlen2]; omega)]; rfl, (hC2' n).free _⟩) hy.one.one
  have hC3 := fun n => CAt.setCells y.r.cs.toList 0 _ (W2 n) (hC2' n)
  have hO3 := fun n => only_setCells (S := fun k => k = b) (W2 n) b 0 y.r.cs.toList rfl
  have hsp := splice2b (Z := cur.toList) (a := y.r.cs.toList) (b := flatR l) (k := 42) (sizeR42 hy.ok) (by omega)
  have FIN : Hid (∀ n, Rs B ((W2 n).setCells b 0 y.r.cs.toList) (.slice (some ⟨b, 0, none⟩) (l.length + 1) c) (y :: l) ∧ Below B w ((W2 n).setCells b 0 y.r.cs.toList)) := hid fun n => by
    have ho : Only (fun k => k = b) w ((W2 n).setCells b 0 y.r.cs.toList) := (hO2' n).trans (hO3 n)
    refine ⟨⟨RBuf.mk2 hBb (hC3 n) hm hroom (fun x hx => ?_) (by rw [List.toList_toArray, hsp.2, hcl]) hsp.1, fun x hx => ?_⟩, ho.below hB (fun i e => by omega)⟩
    · rcases List.mem_cons.1 hx with rfl | hx
      · exact hy.ok
      · exact hok x hx
    · rcases List.mem_cons.1 hx with rfl | hx
      · exact hy.other hcb ho
      · exact (hl.each x hx).other hcb ho
  have mixed : Tryz.prog.follows .mixedOrders = true := by kernel_rfl
  have hw1 : IntKind.i64.wrap (1 : Int) = 1 := by rw [IntKind.wrap_i64]; omega
  have hs0 := run_from0R (some ⟨b, 0, none⟩) l.length c
  have hs1 : ∀ w, (Instr.slice 22 (.slice (some ⟨b, 0, none⟩) l.length c) none (some (.int .i64 ((l.length : Int) + 1))) none).run Tryz.prog w = .ok (.slice (some ⟨b, 0, none⟩) (l.length + 1) c) w := run_headR (some ⟨b, 0, none⟩) l.length c (l.length + 1) (by omega)
  have hs2 := run_from0R (some ⟨b, 0, none⟩) (l.length + 1) c
  have hs3 : ∀ w, (Instr.slice 22 (.slice (some ⟨b, 0, none⟩) (l.length + 1) c) (some (.int .i64 1)) none none).run Tryz.prog w = .ok (.slice (some ⟨b, 42, none⟩) l.length (c - 1)) w := run_fromR b (l.length + 1) c 1 (by omega) (by omega)
  have hl0 : ¬ ((0 : Int) = (l.length : Int)) := by omega
  have hcl' : ¬ (c : Int) < (l.length : Int) + 1 := by omega
  have HA := hid hcopA'
  have HBC := hid hcopB
  clear hcopA' hcopB hC3 hO3 hsp hcg2 hO2' hC2' hlen2 hun hcl hl hy hc hok hfl hov hcb h3 h4
  go_enter Tryz.func78, Tryz.ntmps78
  go_wp2_with (simp only [hov'])
  go_region_law_o (refine step_copy_run rfl _ _ 22 22 rfl (.slice (some ⟨b, 42, none⟩) l.length (c - 1)) (.slice (some ⟨b, 0, none⟩) (l.length + 1) c) _ (by simp [Act.eval, Act.put]) (by simp [Act.eval, Act.put]) (HA.out 1 _) ?_)
  go_wp2_with ((with_reducible refine wpList_copy_run _ _ 22 22 rfl ?_ (.slice (some ⟨b, 0, none⟩) (l.length + 1) c) (.slice (some ⟨g, 0, none⟩) 1 1) _ ?_ ?_ (HBC.out 1 _) ?_); exact rfl; exact rfl; exact rfl)
  go_ret
  exact ⟨_, y :: l, rfl, (FIN.out 1).1, rfl, (FIN.out 1).2⟩
theorem insert_any (B : Nat) (v : Value) (l : List Rp) (y : Rp) (g : Nat) (w : World) (hl : Rs B w v l) (hn : l.length ≤ 100000) (hc : CAt w g y.r.cs 45) (hy : RpX B w y) (hB : B ≤ w.heap.size) (hg : ∀ b, v.ownBlock = some b → b ≠ g) : Calls Tryz.prog 78 #[v, i64 0, .slice (some ⟨g, 0, none⟩) 1 1] w (DelS B w (y.rc :: rcs l)) := by
  by_cases h0 : l = []
  · subst h0
    exact ins_nil B v y g w hl hc hy hB
  · have hne : 0 < l.length := List.length_pos_iff.2 h0
    obtain ⟨po, c, hv, _⟩ := hl.buf.form
    by_cases hr : c < l.length + 1
    · exact ins_grow B v l y g w hl hn hne hc hy hB po c hv hr
    · exact ins_room B v l y g w hl hn hne hc hy hB hg po c hv (by omega)
#print axioms insert_any
end Go.Proofs.YtcbmimjjpkkoeaaGreatDoor
