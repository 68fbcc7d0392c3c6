/- Texts laid into one: the remark ahead of each part says what is proved there. -/
import Derived.Test.YtelkijiphhoacaaDoorLaa
import Derived.Test.YtelkijiphhoacaaDoorLab
import Derived.Test.YtelkijiphhoacaaDoorLac
import Derived.Test.YtelkijiphhoacaaDoorLad
import Derived.Test.YtelkijiphhoacaaDoorLae
import Derived.Test.YtelkijiphhoacaaDoorLaf
import Derived.Test.YtelkijiphhoacaaDoorLag
import Derived.Test.YtelkijiphhoacaaDoorLah
import Derived.Test.YtelkijiphhoacaaDoorLai
import Derived.Test.YtelkijiphhoacaaDoorLaj
import Derived.Test.YtelkijiphhoacaaDoorLak
import Derived.Test.YtelkijiphhoacaaDoorLal
import Derived.Test.YtelkijiphhoacaaDoorLam
import Derived.Test.YtelkijiphhoacaaDoorLan
import Derived.Test.YtelkijiphhoacaaDoorLao
import Derived.Test.YtelkijiphhoacaaDoorLap
import Derived.Test.YtelkijiphhoacaaDoorLaq
import Derived.Test.YtelkijiphhoacaaDoorLar
import Derived.Test.YtelkijiphhoacaaDoorLas
import Derived.Test.YtelkijiphhoacaaDoorLat
import Derived.Test.YtelkijiphhoacaaDoorLau
import Derived.Test.YtelkijiphhoacaaDoorLav
import Derived.Test.YtelkijiphhoacaaDoorRaa
import Derived.Test.YtelkijiphhoacaaDoorRad
/- The record's Check and the journal's, of texts and lists of any size (after the texts of the same contracts for bounded ones). -/
namespace Go.Proofs.YtelkijiphhoacaaDoor.G
open Go Go.RowKit
theorem Rv.toL (r : Rv) : r.cs.toList = [.string r.id, i64 r.time, .bool r.mark, i64 r.size, .string r.etag, i64 r.k, i64 r.m, .string r.data] ++ (r.sum.map u8 ++ [r.pv, .string r.up]) := by simp [Rv.cs, sumC]
def zR : Rv := ⟨⟨#[]⟩, 0, false, 0, ⟨#[]⟩, 0, 0, ⟨#[]⟩, zeroD, .slice none 0 0, ⟨#[]⟩⟩
theorem zR_ok : zR.ok := ⟨rfl, by simp [zR, zeroD], by simp [zR, ByteArray.size], by simp [zR, ByteArray.size], by simp [zR, ByteArray.size], by simp [zR, ByteArray.size]⟩
theorem zeroR : (Tryd.prog.info? 60).map (·.zero) = some (some (.agg zR.cs)) := by kernel_rfl
theorem Rv.one {r : Rv} (h : r.pv.oneCell' = true) : r.cs.all (·.oneCell') = true := by
  rw [Array.all_eq_true_iff_forall_mem]
  intro v hv
  rw [← Array.mem_toList_iff, Rv.toL] at hv
  simp only [List.mem_append, List.mem_cons, List.not_mem_nil, or_false, List.mem_map] at hv
  rcases hv with (rfl | rfl | rfl | rfl | rfl | rfl | rfl | rfl) | ⟨_, _, rfl⟩ | rfl | rfl <;> first | rfl | exact h
theorem only_setRow {S : Nat → Prop} (w : World) (g : Nat) (cs : Array Value) (h : S g) : Only S w (w.setRow g cs) := ⟨rfl, rfl, rfl, by simp, fun k _ hk => setRow_other w g k cs fun e => hk (e ▸ h)⟩
theorem run_storeR {w : World} {g : Nat} {r0 r : Rv} (h0 : r0.ok) (hr : r.ok) (hpv : r.pv.oneCell' = true) (hb : RBox w g r0) : (Instr.storeAt 60 (.pointer (some ⟨g, 0, none⟩)) (.agg r.cs)).run Tryd.prog w = .ok () (w.setRow g r.cs) ∧ RBox (w.setRow g r.cs) g r := by
  have e := run_storeVar_row (P := Tryd.prog) w g 60 60 r0.cs r.cs hb.at_ (by rw [hr.size]; exact sizeR) (by rw [h0.size, hr.size]) (Rv.one hpv)
  refine ⟨?_, RBox.mk' hr (setRow_heap w g r0.cs r.cs _ _ hb.at_)⟩
  simp only [Instr.storeAt, Instr.sureAddr, Sem.run_bind, Sem.run_pure, Result.andThen_ok, e]
theorem wpList_allocR {ops : Array Oper} {rest : List Oper} {o : Oper} {a : Act} {w : World} {Q : Exit → Act → World → Prop} (hg : o.guard = none) (ho : o.op = .alloc 60)
    (h : ∀ w1 g, RBox w1 g zR → Below w.heap.size w w1 → w.heap.size = g → wpList Tryd.prog ops Q rest (a.put o.dst (ptr g)) w1) : wpList Tryd.prog ops Q (o :: rest) a w := by
  refine wpList_plain hg fun _ hK => ?_
  obtain ⟨i, hq, hz'⟩ := Option.map_eq_some_iff.1 zeroR
  unfold Oper.wp execOp
  simp only [ho, Instr.alloc, zeroValue, typeInfo, Sem.run_bind, newVar, newRow]
  simp [hq, hz', Value.cells]
  exact hK _ _ (h _ _ (RBox.mk' zR_ok (CAt.made _ _ _)) (below_al _ _) rfl)
theorem wpList_storeR {ops : Array Oper} {rest : List Oper} {o : Oper} {a : Act} {w : World} {Q : Exit → Act → World → Prop} (hg : o.guard = none) (hdst : o.dst = none) (x y : Operand) (ho : o.op = .store 60 x y) (g : Nat) (hx : a.eval x = ptr g) {r0 r : Rv} (hy : a.eval y = .agg r.cs) (h0 : r0.ok) (hr : r.ok) (hpv : r.pv.oneCell' = true) (hb : RBox w g r0)
    (h : ∀ w1, RBox w1 g r → Only (fun b => b = g) w w1 → wpList Tryd.prog ops Q rest a w1) : wpList Tryd.prog ops Q (o :: rest) a w := by
  refine wpList_plain hg fun _ hK => ?_
  obtain ⟨e1, e2⟩ := run_storeR h0 hr hpv hb
  unfold Oper.wp execOp
  simp only [ho, hx, hy, ptr, Sem.run_bind, e1, Result.andThen_ok, Sem.run_pure]
  refine hK (a.put o.dst undef) _ ?_
  rw [hdst]
  exact h _ e2 (only_setRow _ _ _ rfl)
open Go Go.RowKit

/-- A record as a value, and its parts. -/
structure Rp where
  r : Rv
  ps : Ps
def Rp.rc (x : Rp) : Rc := x.r.rc x.ps
def rcs (l : List Rp) : List Rc := l.map Rp.rc
theorem rcs_len (l : List Rp) : (rcs l).length = l.length := by simp [rcs]
theorem rcs_get (l : List Rp) (i : Nat) : (rcs l)[i]? = l[i]?.map Rp.rc := by simp [rcs]
theorem rc_id (x : Rp) : x.rc.id = lst x.r.id := rfl
/-- A record whose parts lie in memory. -/
structure RpOk (w : World) (x : Rp) : Prop where
  ok : x.r.ok
  pl : PL w x.r.pv x.ps
  nil : ∀ n c, x.r.pv = .slice none n c → c = 0
theorem RpOk.keep {w w' : World} {x : Rp} (h : RpOk w x) (hk : ∀ a, w.cell? a ≠ none → w'.cell? a = w.cell? a) : RpOk w' x := ⟨h.ok, h.pl.keep hk, h.nil⟩
theorem sizeR42 {x : Rp} (h : x.r.ok) : x.r.cs.toList.length = 42 := by rw [Array.length_toList, h.size]

/-- The cells of the records lie there, one behind the other. -/
def RCells (w : World) (b o : Nat) (l : List Rp) : Prop := ∀ i x, l[i]? = some x → ∀ j v, x.r.cs[j]? = some v → w.cell? ⟨b, o + i * 42 + j, none⟩ = some v
theorem RCells.range {w : World} {b o : Nat} {l : List Rp} (h : RCells w b o l) {i : Nat} {x : Rp} (e : l[i]? = some x) : w.rangeAt b (o + i * 42) x.r.cs.toList := fun j v hv => h i x e j v (by simpa using hv)
theorem RCells.keep {w w' : World} {b o : Nat} {l : List Rp} (h : RCells w b o l) (hk : ∀ a, w.cell? a ≠ none → w'.cell? a = w.cell? a) : RCells w' b o l := fun i x e j v hv => by
  have := h i x e j v hv
  rw [hk _ (by rw [this]; simp)]; exact this
/-- The slice v leads to the records l. -/
def RL (w : World) (v : Value) (l : List Rp) : Prop := ∃ po c, v = .slice po l.length c ∧ l.length ≤ c ∧ l.length ≤ 9223372036854775807 ∧ (po = none → c = 0) ∧ (l = [] ∨ ∃ b o, po = some ⟨b, o, none⟩ ∧ RCells w b o l) ∧ ∀ x ∈ l, RpOk w x
theorem RL.keep {w w' : World} {v : Value} {l : List Rp} (h : RL w v l) (hk : ∀ a, w.cell? a ≠ none → w'.cell? a = w.cell? a) : RL w' v l := by
  obtain ⟨po, c, h1, h2, h3, h4, h5, h6⟩ := h
  refine ⟨po, c, h1, h2, h3, h4, ?_, fun x hx => (h6 x hx).keep hk⟩
  rcases h5 with h5 | ⟨b, o, e, h5⟩
  · exact Or.inl h5
  · exact Or.inr ⟨b, o, e, h5.keep hk⟩
theorem RL.below {w w' : World} {v : Value} {l : List Rp} (h : RL w v l) (hb : Below w.heap.size w w') : RL w' v l :=
  h.keep fun a ha => World.cell?_of_block (hb.block a.block (cell_lt' ha))
open Go Go.RowKit Go.Shelf

/-- A record is read at its place. -/
theorem wpList_loadM {ops : Array Oper} {rest : List Oper} {op : Oper} {a : Act} {w : World} {Q : Exit → Act → World → Prop} (hgd : op.guard = none) (x : Operand) (ho : op.op = .load 60 x)
    (b o : Nat) (hx : a.eval x = .pointer (some ⟨b, o, none⟩)) (r : Rv) (hr : r.ok) (hc : w.rangeAt b o r.cs.toList) (h : wpList Tryd.prog ops Q rest (a.put op.dst (.agg r.cs)) w) : wpList Tryd.prog ops Q (op :: rest) a w :=
  wpList_load_mid hgd 60 x ho b o hx r.cs.toList (.struct (Tryd.prog.fieldsOf 60)) hc underRec rfl (by rw [sizeR42 (x := ⟨r, []⟩) hr]; exact sizeR) h
/-- has(id): a function of one captured text. -/
def HasF (w : World) (v : Value) (s : ByteArray) : Prop := ∃ g, v = .func (.func 75) #[] #[ptr g] ∧ CAt w g #[.string s] 9
theorem has_any (s : ByteArray) (w : World) : Calls Tryd.prog 60 #[.string s] w fun e w' => ∃ v, e = .returned v ∧ HasF w' v s ∧ Below w.heap.size w w' := by
  go_enter Tryd.func60, Tryd.ntmps60
  go_wp2
  go_ret
  exact ⟨_, rfl, ⟨_, rfl, CAt.made w _ _⟩, below_al w _⟩
theorem hasF_any (r : Rv) (hr : r.ok) (s : ByteArray) (g : Nat) (w : World) (h : CAt w g #[.string s] 9) : Calls Tryd.prog 75 #[.agg r.cs, ptr g] w fun e w' => e = .returned (.bool (decide (lst r.id = lst s))) ∧ Below w.heap.size w w' := by
  have HG := hid h
  clear h
  go_enter Tryd.func75, Tryd.ntmps75
  go_wp2_with ((with_reducible refine wpList_boxR rfl _ rfl r.cs ?_ ?_); exact rfl; intro w1 g1 hc1 hb1 hg1; have hbx := RBox.mk' hr hc1; have c0 := hbx.c0; have d0 := (HG.out.below hb1).cell 0; have HB := hid hb1; clear hbx hb1 hc1)
  go_ret
  refine ⟨?_, HB.out⟩
  rw [← lst_beq]; rfl
def plI (o : Option Nat) : Int := match o with | none => -1 | some i => (i : Int)
theorem atI_snoc_none {l : List Rc} {id : List Nat} {k : Nat} (h : ∀ j x, l[j]? = some x → j < k → x.id ≠ id) (hk : l.length ≤ k) : atI l id = none := by
  rw [atI_none]
  intro hm
  obtain ⟨x, hx, e⟩ := List.mem_map.1 hm
  obtain ⟨j, hj, e2⟩ := List.getElem_of_mem hx
  exact h j x (by rw [List.getElem?_eq_getElem hj, e2]) (by omega) e
theorem atI_hit : ∀ {l : List Rc} {id : List Nat} {k : Nat} {x : Rc}, (∀ j y, l[j]? = some y → j < k → y.id ≠ id) → l[k]? = some x → x.id = id → atI l id = some k
  | [], _, _, _, _, h, _ => by simp at h
  | r :: l, id, 0, x, _, h, e => by simp at h; subst h; simp [atI, e]
  | r :: l, id, k + 1, x, h0, h, e => by
    have h1 : r.id ≠ id := h0 0 r (by simp) (by omega)
    rw [atI, if_neg h1, atI_hit (l := l) (k := k) (x := x) (fun j y hy hj => h0 (j + 1) y (by simpa using hy) (by omega)) (by simpa using h) e]
    rfl
set_option maxRecDepth 100000 in
set_option maxHeartbeats 1000000 in
theorem index_any (v f : Value) (l : List Rp) (s : ByteArray) (w : World) (hl : RL w v l) (hf : HasF w f s) : Calls Tryd.prog 59 #[v, f] w fun e w' => e = .returned (i64 (plI (atI (rcs l) (lst s)))) ∧ Below w.heap.size w w' := by
  obtain ⟨gf, rfl, hgf⟩ := hf
  obtain ⟨po, c, rfl, hc1, hn, hz, hcell, heach⟩ := hl
  have HF := hid hgf
  have HE := hid heach
  have HC := hid hcell
  clear hgf heach hcell
  go_enter Tryd.func59, Tryd.ntmps59
  go_wp2
  go_loopg [5, 8] l.length (fun gg _ s8 wr => ∃ kk : Nat, kk ≤ l.length ∧ l.length - kk ≤ gg ∧ s8 = i64 kk ∧ Hid (Below w.heap.size w wr) ∧ Hid (∀ j x, l[j]? = some x → j < kk → lst x.r.id ≠ lst s))
  case atStart => exact ⟨0, Nat.zero_le _, by omega, rfl, Below.refl _ w, fun j x _ hj => absurd hj (Nat.not_lt_zero _)⟩
  case round =>
    obtain ⟨kk, hkk, hg, rfl, BW, A⟩ := hrel
    by_cases hlt : kk < l.length
    · have hltz : (kk : Int) < (l.length : Int) := by omega
      obtain ⟨x, hx⟩ : ∃ x, l[kk]? = some x := ⟨_, List.getElem?_eq_getElem hlt⟩
      have hxm := List.mem_of_getElem? hx
      obtain ⟨b, o, hpo, hcells⟩ : ∃ b o, po = some ⟨b, o, none⟩ ∧ RCells w b o l := by
        rcases HC.out with h | h
        · rw [h] at hlt; simp at hlt
        · exact h
      subst hpo
      have hcw : RCells wr b o l := hcells.keep fun a ha => World.cell?_of_block (BW.out.block a.block (cell_lt' ha))
      have HR := hid (hcw.range hx)
      have hok := (HE.out x hxm).ok
      have HX := hid hx
      have hcall := hasF_any x.r hok s gf wr (HF.out.below BW.out)
      have HCALL := hid hcall
      clear hcells hcw hx hxm hcall
      by_cases hq : lst x.r.id = lst s
      · rw [decide_eq_true hq] at HCALL
        go_wp2_with (first
          | ((with_reducible refine wpList_loadM rfl _ rfl b (o + kk * 42) ?_ x.r hok HR.out ?_); exact rfl)
          | (go_at_call 75; refine HCALL.out.mono ?_; rintro e w' ⟨rfl, hb'⟩))
        go_ret
        refine ⟨?_, below_on BW.out hb'⟩
        rw [atI_hit (k := kk) (x := x.rc) (fun j y hy hj => ?_) (by rw [rcs_get, HX.out]; rfl) hq]
        · rfl
        · rw [rcs_get] at hy
          obtain ⟨z, hz1, rfl⟩ := Option.map_eq_some_iff.1 hy
          exact A.out j z hz1 hj
      · rw [decide_eq_false hq] at HCALL
        go_wp2_with (first
          | ((with_reducible refine wpList_loadM rfl _ rfl b (o + kk * 42) ?_ x.r hok HR.out ?_); exact rfl)
          | (go_at_call 75; refine HCALL.out.mono ?_; rintro e w' ⟨rfl, hb'⟩))
        go_roundg (l.length - (kk + 1))
        case measure => omega
        case rel =>
          refine ⟨kk + 1, by omega, by omega, by go_num, below_on BW.out hb', (show Hid _ from fun j y hy hj => ?_)⟩
          by_cases e : j = kk
          · subst e
            rw [HX.out] at hy; cases hy; exact hq
          · exact A.out j y hy (by omega)
    · have hltz : ¬ (kk : Int) < (l.length : Int) := by omega
      go_wp2
      go_ret
      refine ⟨?_, BW.out⟩
      rw [atI_snoc_none (k := kk) (fun j y hy hj => ?_) (by rw [rcs_len]; omega)]
      · rfl
      · rw [rcs_get] at hy
        obtain ⟨z, hz1, rfl⟩ := Option.map_eq_some_iff.1 hy
        exact A.out j z hz1 hj
theorem place_any (v : Value) (l : List Rp) (s : ByteArray) (w : World) (hl : RL w v l) : Calls Tryd.prog 35 #[v, .string s] w fun e w' => e = .returned (i64 (plI (atI (rcs l) (lst s)))) ∧ Below w.heap.size w w' := by
  have HL := hid hl
  obtain ⟨po, c, rfl, _⟩ := hl
  go_enter Tryd.func35, Tryd.ntmps35
  go_wp2_with (first
    | (go_at_call 60; refine (has_any s w).mono ?_; rintro e w1 ⟨f, rfl, hf, hb1⟩; have HF := hid hf; have HB1 := hid hb1; obtain ⟨gf, hf2, _⟩ := hf; subst hf2; clear hb1)
    | (go_at_call 59; refine (index_any _ _ l s _ (HL.out.below HB1.out) HF.out).mono ?_; rintro e w2 ⟨rfl, hb2⟩))
  go_ret
  exact ⟨rfl, below_on HB1.out hb2⟩
open Go Go.RowKit

theorem wpList_boxT (t : TypeId) {ops : Array Oper} {rest : List Oper} {o : Oper} {a : Act} {w : World} {Q : Exit → Act → World → Prop} (hg : o.guard = none) (x : Operand) (ho : o.op = .box t x) (cs : Array Value) (hx : a.eval x = .agg cs)
    (h : ∀ w1 g, CAt w1 g cs t → Below w.heap.size w w1 → w.heap.size ≤ g → wpList Tryd.prog ops Q rest (a.put o.dst (ptr g)) w1) : wpList Tryd.prog ops Q (o :: rest) a w := by
  refine wpList_plain hg fun K hK => ?_
  unfold Oper.wp execOp
  simp only [ho, Instr.box, newVar, newRow, hx, Value.cells, Sem.run_bind]
  simp
  exact hK _ _ (h _ _ (CAt.made _ _ _) (below_al _ _) (Nat.le_refl _))
theorem okJ_of {s : Int} {l : List Rc} (h1 : 1 ≤ s) (h2 : s ≤ 1099511627776) (h3 : l.length ≤ 64) (h : ∀ j x, l[j]? = some x → okRc x = true ∧ atI l x.id = some j) : okJ ⟨s, l⟩ = true :=
  okJ_mk h1 h2 h3 (List.all_eq_true.2 fun x hx => by obtain ⟨j, hj, e⟩ := List.getElem_of_mem hx; exact (h j x (by rw [List.getElem?_eq_getElem hj, e])).1) (nodup_of_at fun i hi => (h i l[i] (List.getElem?_eq_getElem hi)).2)
theorem okJ_not {s : Int} {l : List Rc} {j : Nat} {x : Rc} (hx : l[j]? = some x) (h : okRc x = false ∨ atI l x.id ≠ some j) : okJ ⟨s, l⟩ = false := by
  cases e : okJ ⟨s, l⟩ with
  | false => rfl
  | true =>
    obtain ⟨_, _, _, h4, h5⟩ := okJ_parts e
    rcases h with h | h
    · have := List.all_eq_true.1 h4 x (List.mem_of_getElem? hx)
      rw [h] at this; cases this
    · obtain ⟨hj, e2⟩ := List.getElem?_eq_some_iff.1 hx
      subst e2
      exact absurd (atI_at h5 j hj) h
theorem okJ_out {s : Int} {l : List Rc} (h : s < 1 ∨ 1099511627776 < s ∨ 64 < l.length) : okJ ⟨s, l⟩ = false := by
  cases e : okJ ⟨s, l⟩ with
  | false => rfl
  | true => obtain ⟨h1, h2, h3, _⟩ := okJ_parts e; simp at h1 h2 h3; omega
set_option maxRecDepth 100000 in
set_option maxHeartbeats 1000000 in
theorem jcheck_out (s : Int) (v : Value) (l : List Rp) (w : World) (hl : RL w v l) (h : s < 1 ∨ 1099511627776 < s ∨ 64 < l.length) : Calls Tryd.prog 20 #[.agg (jC s v)] w fun e w' => e = .returned (i64 2) ∧ Below w.heap.size w w' := by
  obtain ⟨po, c, rfl, _⟩ := hl
  by_cases h1 : s < 1
  · go_enter Tryd.func20, Tryd.ntmps20
    go_wp2_with ((with_reducible refine wpList_boxT 24 rfl _ rfl (jC s (.slice po l.length c)) ?_ ?_); exact rfl; intro w1 g1 hc1 hb1 hg1; have c0 := hc1.j0; have c1 := hc1.j1; have HB := hid hb1; clear hb1 hc1)
    go_ret
    exact ⟨rfl, HB.out⟩
  · by_cases h2 : 1099511627776 < s
    · go_enter Tryd.func20, Tryd.ntmps20
      go_wp2_with ((with_reducible refine wpList_boxT 24 rfl _ rfl (jC s (.slice po l.length c)) ?_ ?_); exact rfl; intro w1 g1 hc1 hb1 hg1; have c0 := hc1.j0; have c1 := hc1.j1; have HB := hid hb1; clear hb1 hc1)
      go_ret
      exact ⟨rfl, HB.out⟩
    · have h3 : (64 : Int) < (l.length : Int) := by omega
      go_enter Tryd.func20, Tryd.ntmps20
      go_wp2_with ((with_reducible refine wpList_boxT 24 rfl _ rfl (jC s (.slice po l.length c)) ?_ ?_); exact rfl; intro w1 g1 hc1 hb1 hg1; have c0 := hc1.j0; have c1 := hc1.j1; have HB := hid hb1; clear hb1 hc1)
      go_ret
      exact ⟨rfl, HB.out⟩
/-- A record's own block, behind what was there. -/
structure Own1 (w : World) (g : Nat) (r : Rv) (W : World) : Prop where
  below : Below w.heap.size w W
  box : RBox W g r
theorem Own1.mk1 {w w1 w2 : World} {g : Nat} {r : Rv} (hb : Below w.heap.size w w1) (hg : w.heap.size = g) (h : RBox w2 g r) (ho : Only (fun b => b = g) w1 w2) : Own1 w g r w2 :=
  ⟨below_tr hb (ho.below hb.size (fun i e => by omega)), h⟩
theorem Own1.on {w W W' : World} {g : Nat} {r : Rv} (h : Own1 w g r W) (hr : r.ok) (hb : Below W.heap.size W W') : Own1 w g r W' := ⟨below_on h.below hb, h.box.below hr hb⟩
set_option maxRecDepth 100000 in
set_option maxHeartbeats 2000000 in
theorem jcheck_in (s : Int) (v : Value) (l : List Rp) (w : World) (hl : RL w v l) (h1 : 1 ≤ s) (h2 : s ≤ 1099511627776) (h3 : l.length ≤ 64) : Calls Tryd.prog 20 #[.agg (jC s v)] w fun e w' => e = .returned (i64 (if okJ ⟨s, rcs l⟩ = true then 0 else 2)) ∧ Below w.heap.size w w' := by
  have HL := hid hl
  obtain ⟨R, hR⟩ : ∃ R : Int, (if okJ ⟨s, rcs l⟩ = true then (0 : Int) else 2) = R := ⟨_, rfl⟩
  rw [hR]
  have HRR := hid hR
  clear hR
  obtain ⟨po, c, rfl, hc1, hn, hz, hcell, heach⟩ := hl
  have HE := hid heach
  have HC := hid hcell
  clear heach hcell
  have h3' : (l.length : Int) ≤ 64 := by omega
  go_enter Tryd.func20, Tryd.ntmps20
  go_wp2_with ((with_reducible refine wpList_boxT 24 rfl _ rfl (jC s (.slice po l.length c)) ?_ ?_); exact rfl; intro w1 g1 hc1 hb1 hg1; have c0 := hc1.j0; have c1 := hc1.j1; have HJ := hid hc1; have HB := hid hb1; clear hb1 hc1)
  go_loopg [3, 4, 22] l.length (fun gg _ _ s8 wr => ∃ kk : Nat, kk ≤ l.length ∧ l.length - kk ≤ gg ∧ s8 = i64 kk ∧ Hid (Below w1.heap.size w1 wr) ∧ Hid (∀ j x, (rcs l)[j]? = some x → j < kk → okRc x = true ∧ atI (rcs l) x.id = some j))
  case atStart => exact ⟨0, Nat.zero_le _, by omega, rfl, Below.refl _ _, fun j x _ hj => absurd hj (Nat.not_lt_zero _)⟩
  case round =>
    obtain ⟨kk, hkk, hg, rfl, BW, A⟩ := hrel
    clear c0 c1
    by_cases hlt : kk < l.length
    · have hltz : (kk : Int) < (l.length : Int) := by omega
      obtain ⟨x, hx⟩ : ∃ x, l[kk]? = some x := ⟨_, List.getElem?_eq_getElem hlt⟩
      have hxm := List.mem_of_getElem? hx
      obtain ⟨b, o, hpo, hcells⟩ : ∃ b o, po = some ⟨b, o, none⟩ ∧ RCells w b o l := by
        rcases HC.out with h | h
        · rw [h] at hlt; simp at hlt
        · exact h
      subst hpo
      have BW0 := hid (below_on HB.out BW.out)
      have hcw : RCells wr b o l := hcells.keep fun a ha => World.cell?_of_block (BW0.out.block a.block (cell_lt' ha))
      have HR := hid (hcw.range hx)
      have hok := (HE.out x hxm).ok
      have HX := hid hx
      have HP := hid ((HE.out x hxm).pl)
      have hone : x.r.pv.oneCell' = true := by obtain ⟨p0, c0, e0, _⟩ := HP.out; rw [e0]; rfl
      clear hcells hcw hx hxm
      have hxr : (rcs l)[kk]? = some x.rc := by rw [rcs_get, HX.out]; rfl
      have HXR := hid hxr
      clear hxr
      have HCK : Hid (∀ W, Below w.heap.size w W → Calls Tryd.prog 34 #[.agg x.r.cs] W fun e w' => e = .returned (i64 (if okRc x.rc = true then 0 else 2)) ∧ Below W.heap.size W w') := hid fun W hW => check_any x.r hok x.ps W (HP.out.below hW)
      cases hq : okRc x.rc with
      | false =>
        rw [hq] at HCK
        simp only [Bool.false_eq_true, if_false] at HCK
        go_wp2_with (first
          | ((with_reducible refine wpList_loadM rfl _ rfl b (o + kk * 42) ?_ x.r hok HR.out ?_); exact rfl)
          | ((with_reducible refine wpList_allocR rfl rfl ?_); intro w2 g2 hz2 hb2 hg2; have HZ := hid hz2; have HB2 := hid hb2; have HG2 := hid hg2; clear hz2 hb2 hg2)
          | ((with_reducible refine wpList_storeR rfl rfl _ _ rfl g2 ?_ (r := x.r) ?_ zR_ok hok hone HZ.out ?_); exact rfl; exact rfl; intro w3 h3 o3; have HO := hid (Own1.mk1 HB2.out HG2.out h3 o3); have HW3 := hid (below_on BW0.out HO.out.below); clear h3 o3)
          | ((with_reducible refine wpList_load_at 60 _ rfl ?_ g2 0 ?_ x.r.cs (.struct (Tryd.prog.fieldsOf 60)) ?_ underRec rfl ?_ ?_); exact rfl; exact rfl; exact HO.out.box.whole; (rw [hok.size]; exact sizeR))
          | (go_at_call 34; refine (HCK.out _ HW3.out).mono ?_; rintro e w4 ⟨rfl, hb4⟩; have HO4 := hid (HO.out.on hok hb4); have HW4 := hid (below_on HW3.out hb4); have j1 := (HJ.out.below (below_on BW.out (below_on HO.out.below hb4))).j1; have x0 := HO4.out.box.c0; clear hb4))
        go_ret
        refine ⟨?_, HW4.out⟩
        rw [← HRR.out, okJ_not HXR.out (Or.inl hq)]
        rfl
      | true =>
        rw [hq] at HCK
        simp only [if_true] at HCK
        have hpl := place_any (.slice (some ⟨b, o, none⟩) l.length c) l x.r.id
        obtain ⟨q, hQ⟩ : ∃ q, plI (atI (rcs l) (lst x.r.id)) = q := ⟨_, rfl⟩
        rw [hQ] at hpl
        have HPL := hid hpl
        have HQ := hid hQ
        clear hpl hQ
        by_cases he : q = (kk : Int)
        · subst he
          go_wp2_with (first
            | ((with_reducible refine wpList_loadM rfl _ rfl b (o + kk * 42) ?_ x.r hok HR.out ?_); exact rfl)
            | ((with_reducible refine wpList_allocR rfl rfl ?_); intro w2 g2 hz2 hb2 hg2; have HZ := hid hz2; have HB2 := hid hb2; have HG2 := hid hg2; clear hz2 hb2 hg2)
            | ((with_reducible refine wpList_storeR rfl rfl _ _ rfl g2 ?_ (r := x.r) ?_ zR_ok hok hone HZ.out ?_); exact rfl; exact rfl; intro w3 h3 o3; have HO := hid (Own1.mk1 HB2.out HG2.out h3 o3); have HW3 := hid (below_on BW0.out HO.out.below); clear h3 o3)
            | ((with_reducible refine wpList_load_at 60 _ rfl ?_ g2 0 ?_ x.r.cs (.struct (Tryd.prog.fieldsOf 60)) ?_ underRec rfl ?_ ?_); exact rfl; exact rfl; exact HO.out.box.whole; (rw [hok.size]; exact sizeR))
            | (go_at_call 34; refine (HCK.out _ HW3.out).mono ?_; rintro e w4 ⟨rfl, hb4⟩; have HO4 := hid (HO.out.on hok hb4); have HW4 := hid (below_on HW3.out hb4); have j1 := (HJ.out.below (below_on BW.out (below_on HO.out.below hb4))).j1; have x0 := HO4.out.box.c0; clear hb4)
            | (go_at_call 35; refine (HPL.out _ (HL.out.below HW4.out)).mono ?_; rintro e w5 ⟨rfl, hb5⟩; have HW5 := hid (below_on HW4.out hb5); have HB5 := hid hb5; clear hb5))
          go_roundg (l.length - (kk + 1))
          case measure => omega
          case rel =>
            refine ⟨kk + 1, by omega, by omega, by go_num, ?_, (show Hid _ from fun j y hy hj => ?_)⟩
            · exact below_on (below_on BW.out HO4.out.below) HB5.out
            · by_cases e : j = kk
              · subst e
                rw [HXR.out] at hy; cases hy
                refine ⟨hq, ?_⟩
                have := HQ.out
                rw [rc_id]
                cases ha : atI (rcs l) (lst x.r.id) with
                | none => rw [ha] at this; exact absurd this (by show ¬ ((-1 : Int) = _); omega)
                | some i => rw [ha] at this; have h9 : ((i : Nat) : Int) = (j : Int) := this; rw [show i = j by omega]
              · exact A.out j y hy (by omega)
        · go_wp2_with (first
            | ((with_reducible refine wpList_loadM rfl _ rfl b (o + kk * 42) ?_ x.r hok HR.out ?_); exact rfl)
            | ((with_reducible refine wpList_allocR rfl rfl ?_); intro w2 g2 hz2 hb2 hg2; have HZ := hid hz2; have HB2 := hid hb2; have HG2 := hid hg2; clear hz2 hb2 hg2)
            | ((with_reducible refine wpList_storeR rfl rfl _ _ rfl g2 ?_ (r := x.r) ?_ zR_ok hok hone HZ.out ?_); exact rfl; exact rfl; intro w3 h3 o3; have HO := hid (Own1.mk1 HB2.out HG2.out h3 o3); have HW3 := hid (below_on BW0.out HO.out.below); clear h3 o3)
            | ((with_reducible refine wpList_load_at 60 _ rfl ?_ g2 0 ?_ x.r.cs (.struct (Tryd.prog.fieldsOf 60)) ?_ underRec rfl ?_ ?_); exact rfl; exact rfl; exact HO.out.box.whole; (rw [hok.size]; exact sizeR))
            | (go_at_call 34; refine (HCK.out _ HW3.out).mono ?_; rintro e w4 ⟨rfl, hb4⟩; have HO4 := hid (HO.out.on hok hb4); have HW4 := hid (below_on HW3.out hb4); have j1 := (HJ.out.below (below_on BW.out (below_on HO.out.below hb4))).j1; have x0 := HO4.out.box.c0; clear hb4)
            | (go_at_call 35; refine (HPL.out _ (HL.out.below HW4.out)).mono ?_; rintro e w5 ⟨rfl, hb5⟩; have HW5 := hid (below_on HW4.out hb5); have HB5 := hid hb5; clear hb5))
          go_ret
          refine ⟨?_, HW5.out⟩
          rw [← HRR.out, okJ_not HXR.out (Or.inr fun e => he (by rw [← HQ.out, ← rc_id, e]; rfl))]
          rfl
    · have hltz : ¬ (kk : Int) < (l.length : Int) := by omega
      go_wp2
      go_ret
      refine ⟨?_, below_on HB.out BW.out⟩
      rw [← HRR.out, okJ_of h1 h2 (by rw [rcs_len]; exact h3) (fun j x hx => A.out j x hx (by have := (List.getElem?_eq_some_iff.1 hx).1; rw [rcs_len] at this; omega))]
      rfl
theorem jcheck_any (s : Int) (v : Value) (l : List Rp) (w : World) (hl : RL w v l) : Calls Tryd.prog 20 #[.agg (jC s v)] w fun e w' => e = .returned (i64 (if okJ ⟨s, rcs l⟩ = true then 0 else 2)) ∧ Below w.heap.size w w' := by
  by_cases h : s < 1 ∨ 1099511627776 < s ∨ 64 < l.length
  · rw [okJ_out (by rw [rcs_len]; exact h)]
    exact jcheck_out s v l w hl h
  · exact jcheck_in s v l w hl (by omega) (by omega) (by omega)
end Go.Proofs.YtelkijiphhoacaaDoor.G
