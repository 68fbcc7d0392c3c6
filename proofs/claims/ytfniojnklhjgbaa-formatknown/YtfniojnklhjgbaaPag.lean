/- Texts laid into one, cut to what is needed: the remark ahead of each part says what is proved there. -/
import Derived.Test.YtfniojnklhjgbaaPaf
import Derived.ChangeArms
import Derived.ChangeSlices
import Derived.OpenShut
import Derived.Lib.SlBytesConst
import Derived.Deep.Cut
import Derived.Laws.OwnMore
import Derived.Deep.MidRow
import Derived.Deep.LoopGhost
import Derived.Shelf.Abstract
import Derived.Lib.SliceRun
import Derived.Laws.IdiomCopy
import Derived.Lib.AppendZerosOnto
import Derived.Lib.Overlaps
import Derived.Shelf.RegionOpenPlain
import Derived.Great.BuildSlice
import Derived.Test.YtfniojnklhjgbaaPae
import Derived.Test.YtfniojnklhjgbaaPab
import Derived.LaidEql
import Derived.Stop.Asserts
import Derived.RowKitTokens
import Derived.Laws.Externs
import Derived.Deep.QuietTactic
import Derived.BigQuiet
/- Bytes that came in. -/
namespace Go.Proofs.Ytfniojnklhjgbaa
open Go Go.RowKit

theorem plain_at (a : Addr) (w : World) (h : w.cell? a ≠ none) : ∃ b o, a = ⟨b, o, none⟩ := by
  obtain ⟨b, o, sp⟩ := a
  cases sp with
  | none => exact ⟨b, o, rfl⟩
  | some s =>
    exfalso; apply h
    unfold World.cell?
    split <;> simp
theorem bounds8 {k : Int} (h : (Lit.int .u8 k).wf = true) : 0 ≤ k ∧ k ≤ 255 := by
  simp [Lit.wf, IntKind.min, IntKind.max, IntKind.signed, IntKind.bits] at h; omega
theorem wf64 {k : Int} (h : (Lit.int .i64 k).wf = true) : -9223372036854775808 ≤ k ∧ k ≤ 9223372036854775807 := by
  simp [Lit.wf, IntKind.min, IntKind.max, IntKind.signed, IntKind.bits] at h; omega
/-- What is told of bytes that came in. -/
def IsB (w : World) (a : Option Addr) (len cap : Nat) : Prop := ∃ bs : List Nat, bs.length = len ∧ len ≤ cap ∧ BL w a bs ∧ (∀ x ∈ bs, x < 256) ∧ (a = none → cap = 0)
theorem bytes_open {H : Type} {enc : TypeId × Value → H} {w : World} {held : Bool} {fuel : Nat} {a : Option Addr} {len cap : Nat} {x : DataW H × List MemPlace}
    (h : DataW.trod enc Try.prog w 0 (fun _ => true) held fuel 24 (Value.slice a len cap).cells.toList = some x) : IsB w a len cap := by
  rcases Go.ChangeShapes.open_ints Try.underlying24 Try.underlying5 (by kernel_rfl) h with ⟨hcs, _⟩ | ⟨ad, l, c, zs, hcs, _, hl, hm, hz, _, hcell, hwz⟩
  · simp [Value.cells] at hcs
    obtain ⟨rfl, rfl, rfl⟩ := hcs
    exact ⟨[], rfl, Nat.le_refl _, Or.inl rfl, by simp, fun _ => rfl⟩
  · simp [Value.cells] at hcs
    obtain ⟨rfl, rfl, rfl⟩ := hcs
    have hz' : zs.length = cap := by simpa using hz
    have hbd : ∀ i, i < len → 0 ≤ zs.getD i 0 ∧ zs.getD i 0 ≤ 255 := fun i hi => by
      have hlt : i < zs.length := by omega
      have e : zs.getD i 0 = zs[i] := by simp [List.getD, hlt]
      rw [e]; exact bounds8 (hwz _ (List.getElem_mem hlt))
    refine ⟨(List.range len).map fun i => (zs.getD i 0).toNat, by simp, hl, ?_, fun y hy => ?_, fun e => by cases e⟩
    · by_cases h0 : len = 0
      · subst h0; exact Or.inl rfl
      · obtain ⟨b, o, rfl⟩ := plain_at ad w (by have := hcell 0 (by omega); rw [add_zero'] at this; rw [this]; simp)
        refine Or.inr ⟨b, o, rfl, fun i hi => ?_⟩
        have hi' : i < len := by simpa using hi
        have hc := hcell i (by omega)
        rw [add_none] at hc
        rw [hc]
        have e1 : ((List.range len).map fun i => (zs.getD i 0).toNat).getD i 0 = (zs.getD i 0).toNat := by simp [List.getD, hi']
        rw [e1]; unfold u8; rw [Int.toNat_of_nonneg (hbd i hi').1]
    · obtain ⟨i, hi, rfl⟩ := List.mem_map.1 hy
      have := hbd i (by simpa using hi)
      omega
end Go.Proofs.Ytfniojnklhjgbaa

/- Contract of awake, the examples. -/
namespace Go.Proofs.Ytfniojnklhjgbaa
open Go Go.RowKit

abbrev c7 : Array Value := #[.int .u8 4, .int .u8 110, .int .u8 117, .int .u8 108, .int .u8 108, .int .u8 5, .int .u8 1]
end Go.Proofs.Ytfniojnklhjgbaa

/- RecordBack: the walks. -/
namespace Go.Proofs.Ytfniojnklhjgbaa
open Go Go.RowKit

theorem CAt.whole {w : World} {g : Nat} {cs : Array Value} {t : TypeId} (h : CAt w g cs t) : ∀ j v, cs[j]? = some v → w.cell? ⟨g, 0 + j, none⟩ = some v := fun j v hv => by rw [Nat.zero_add, h.cell, hv]
end Go.Proofs.Ytfniojnklhjgbaa

/- Lists of records in memory. -/
namespace Go.Proofs.Ytfniojnklhjgbaa
open Go Go.RowKit

/-- A record as a value, and its parts. -/
structure Rp where
  r : Rv
  ps : Ps
/-- A record whose parts lie in memory. -/
structure RpOk (w : World) (x : Rp) : Prop where
  ok : x.r.ok
  pl : PL w x.r.pv x.ps
  nil : ∀ n c, x.r.pv = .slice none n c → c = 0
theorem RpOk.keep {w w' : World} {x : Rp} (h : RpOk w x) (hk : ∀ a, w.cell? a ≠ none → w'.cell? a = w.cell? a) : RpOk w' x := ⟨h.ok, h.pl.keep hk, h.nil⟩
theorem RpOk.below {w w' : World} {x : Rp} (h : RpOk w x) (hb : Below w.heap.size w w') : RpOk w' x := ⟨h.ok, h.pl.below hb, h.nil⟩
theorem RpOk.form {w : World} {x : Rp} (h : RpOk w x) : ∃ po c, x.r.pv = .slice po x.ps.length c ∧ (po = none → c = 0) ∧ x.ps.length ≤ c ∧ x.ps.length ≤ 100000 := by
  obtain ⟨po, c, h1, h2, h3, _⟩ := h.pl
  exact ⟨po, c, h1, fun e => h.nil _ c (by rw [h1, e]), h2, h3⟩
theorem Rv.cs_one (r : Rv) (hp : r.pv.oneCell' = true) : ∀ v ∈ r.cs.toList, v.oneCell' = true := by
  intro v hv
  rw [Rv.toL] at hv
  simp only [List.mem_append, List.mem_cons, List.not_mem_nil, or_false, List.mem_map] at hv
  rcases hv with (rfl | rfl | rfl | rfl | rfl | rfl | rfl | rfl) | ⟨_, _, rfl⟩ | rfl | rfl <;> first | rfl | exact hp
theorem RpOk.one {w : World} {x : Rp} (h : RpOk w x) : ∀ v ∈ x.r.cs.toList, v.oneCell' = true := by
  obtain ⟨po, c, e, _⟩ := h.form
  exact x.r.cs_one (by rw [e]; rfl)
/-- The cells of the records lie there, one behind the other. -/
def RCells (w : World) (b o : Nat) (l : List Rp) : Prop := ∀ i x, l[i]? = some x → ∀ j v, x.r.cs[j]? = some v → w.cell? ⟨b, o + i * 42 + j, none⟩ = some v
theorem RCells.range {w : World} {b o : Nat} {l : List Rp} (h : RCells w b o l) {i : Nat} {x : Rp} (e : l[i]? = some x) : w.rangeAt b (o + i * 42) x.r.cs.toList := fun j v hv => h i x e j v (by simpa using hv)
theorem RCells.keep {w w' : World} {b o : Nat} {l : List Rp} (h : RCells w b o l) (hk : ∀ a, w.cell? a ≠ none → w'.cell? a = w.cell? a) : RCells w' b o l := fun i x e j v hv => by
  have := h i x e j v hv
  rw [hk _ (by rw [this]; simp)]; exact this
/-- The slice v leads to the records l. -/
def RL (w : World) (v : Value) (l : List Rp) : Prop := ∃ po c, v = .slice po l.length c ∧ l.length ≤ c ∧ l.length ≤ 100000 ∧ (po = none → c = 0) ∧ (l = [] ∨ ∃ b o, po = some ⟨b, o, none⟩ ∧ RCells w b o l) ∧ ∀ x ∈ l, RpOk w x
theorem RL.each {w : World} {v : Value} {l : List Rp} (h : RL w v l) : ∀ x ∈ l, RpOk w x := by obtain ⟨_, _, _, _, _, _, _, h⟩ := h; exact h
theorem RL.ok {w : World} {v : Value} {l : List Rp} (h : RL w v l) : ∀ x ∈ l, x.r.ok := fun x hx => (h.each x hx).ok
theorem RL.keep {w w' : World} {v : Value} {l : List Rp} (h : RL w v l) (hk : ∀ a, w.cell? a ≠ none → w'.cell? a = w.cell? a) : RL w' v l := by
  obtain ⟨po, c, h1, h2, h3, h4, h5, h6⟩ := h
  refine ⟨po, c, h1, h2, h3, h4, ?_, fun x hx => (h6 x hx).keep hk⟩
  rcases h5 with h5 | ⟨b, o, e, h5⟩
  · exact Or.inl h5
  · exact Or.inr ⟨b, o, e, h5.keep hk⟩
theorem RL.below {w w' : World} {v : Value} {l : List Rp} (h : RL w v l) (hb : Below w.heap.size w w') : RL w' v l :=
  h.keep fun a ha => World.cell?_of_block (hb.block a.block (cell_lt' ha))
theorem RL.nil (w : World) : RL w (.slice none 0 0) [] := ⟨none, 0, rfl, Nat.le_refl _, by simp, fun _ => rfl, Or.inl rfl, fun x hx => by cases hx⟩
theorem RL.len {w : World} {v : Value} {l : List Rp} (h : RL w v l) : l.length ≤ 100000 := by obtain ⟨_, _, _, _, h, _⟩ := h; exact h
theorem setAll_splice {cs vs : List Value} {o : Nat} (h : o + vs.length ≤ cs.length) : setAll cs o vs = cs.take o ++ (vs ++ cs.drop (o + vs.length)) := by
  have e : cs = cs.take o ++ ((cs.drop o).take vs.length ++ cs.drop (o + vs.length)) := by
    rw [← List.drop_drop, List.take_append_drop, List.take_append_drop]
  have hl : (cs.take o).length = o := by rw [List.length_take]; omega
  have := setAll_app (cs.take o) vs ((cs.drop o).take vs.length) (cs.drop (o + vs.length)) (by rw [List.length_take, List.length_drop]; omega)
  rw [hl, ← e] at this
  exact this
end Go.Proofs.Ytfniojnklhjgbaa

/- journal.Check. -/
namespace Go.Proofs.Ytfniojnklhjgbaa
open Go Go.RowKit

theorem wpList_boxT (t : TypeId) {ops : Array Oper} {rest : List Oper} {o : Oper} {a : Act} {w : World} {Q : Exit → Act → World → Prop} (hg : o.guard = none) (x : Operand) (ho : o.op = .box t x) (cs : Array Value) (hx : a.eval x = .agg cs)
    (h : ∀ w1 g, CAt w1 g cs t → Below w.heap.size w w1 → w.heap.size ≤ g → wpList Try.prog ops Q rest (a.put o.dst (ptr g)) w1) : wpList Try.prog ops Q (o :: rest) a w := by
  refine wpList_plain hg fun K hK => ?_
  unfold Oper.wp execOp
  simp only [ho, Instr.box, newVar, newRow, hx, Value.cells, Sem.run_bind]
  simp
  exact hK _ _ (h _ _ (CAt.made _ _ _) (below_al _ _) (Nat.le_refl _))
/-- A journal's cells. -/
def jC (s : Int) (v : Value) : Array Value := #[i64 s, v]
theorem CAt.j0 {w : World} {g : Nat} {s : Int} {v : Value} {t : TypeId} (h : CAt w g (jC s v) t) : w.cell? ⟨g, 0, none⟩ = some (i64 s) := by rw [h.cell]; rfl
end Go.Proofs.Ytfniojnklhjgbaa

/- journal.Same, by slices.EqualFunc and record.Same. -/
namespace Go.Proofs.Ytfniojnklhjgbaa
open Go Go.RowKit

/-- What the range's variable needs of a list's record. -/
theorem RL.at {w W : World} {po : Option Addr} {c : Nat} {l : List Rp} (h : RL w (.slice po l.length c) l) (hb : Below w.heap.size w W) {k : Nat} (hk : k < l.length) :
    ∃ b o x, po = some ⟨b, o, none⟩ ∧ l[k]? = some x ∧ W.rangeAt b (o + k * 42) x.r.cs.toList ∧ RpOk W x ∧ x.r.pv.oneCell' = true := by
  obtain ⟨x, hx⟩ : ∃ x, l[k]? = some x := ⟨_, List.getElem?_eq_getElem hk⟩
  obtain ⟨po', c', e, _, _, _, hcell, heach⟩ := h.below hb
  cases e
  rcases hcell with h | ⟨b, o, e, hc⟩
  · rw [h] at hk; cases hk
  · have hr := heach x (List.mem_of_getElem? hx)
    refine ⟨b, o, x, e, hx, hc.range hx, hr, ?_⟩
    obtain ⟨p0, c0, e0, _⟩ := hr.pl
    rw [e0]; rfl
end Go.Proofs.Ytfniojnklhjgbaa

/- journal.clone. -/
namespace Go.Proofs.Ytfniojnklhjgbaa
open Go Go.RowKit

theorem CAt.apart {w : World} {g h : Nat} {cs ds : Array Value} {t u : TypeId} (a : CAt w g cs t) (b : CAt w h ds u) (hne : t ≠ u) : g ≠ h := fun e => by
  subst e
  have := a.symm.trans b
  simp at this
  exact hne this.2
end Go.Proofs.Ytfniojnklhjgbaa

/- A slice literal of one record. -/
namespace Go.Proofs.Ytfniojnklhjgbaa
open Go Go.RowKit

theorem fold_zip : ∀ (V : List Value) (k : Nat) (C : Array Value), ((V.zipIdx k).foldl (fun cs (p : Value × Nat) => cs.setIfInBounds p.2 p.1) C).toList = setAll C.toList k V
  | [], k, C => rfl
  | v :: r, k, C => by
    rw [List.zipIdx_cons, List.foldl_cons, fold_zip r (k + 1), setAll, Array.toList_setIfInBounds]
theorem step_run_val {P : Program} {w : World} {ops : Array Oper} {o : Oper} {a : Act} {K : Act → World → Prop} {Q : Exit → Act → World → Prop} {E : Prop} (hgd : o.guard = none) (v : Value) (w' : World)
    (hr : (execOp a.eval o).run P w = .ok (.value v) w') (h : K (a.put o.dst v) w') : if Region.wanted o (yielded ops a.tmps) = true then Oper.wp P o a w K Q else E := by
  rw [if_pos (by simp [Region.wanted, hgd])]
  unfold Oper.wp
  rw [hr]
  exact h

end Go.Proofs.Ytfniojnklhjgbaa

/- journal.Bytes. -/
namespace Go.Proofs.Ytfniojnklhjgbaa
open Go Go.RowKit

theorem under5' : Try.prog.underlying 5 = some (.int .u8) := by kernel_rfl
theorem zeroDg : (Try.prog.info? 61).map (·.zero) = some (some (.agg (sumC zeroD))) := by kernel_rfl
theorem wpList_allocD {ops : Array Oper} {rest : List Oper} {o : Oper} {a : Act} {w : World} {Q : Exit → Act → World → Prop} (hg : o.guard = none) (ho : o.op = .alloc 61)
    (h : ∀ w1 g, CAt w1 g (sumC zeroD) 61 → Below w.heap.size w w1 → w.heap.size = g → wpList Try.prog ops Q rest (a.put o.dst (ptr g)) w1) : wpList Try.prog ops Q (o :: rest) a w := by
  refine wpList_plain hg fun _ hK => ?_
  obtain ⟨i, hq, hz'⟩ := Option.map_eq_some_iff.1 zeroDg
  unfold Oper.wp execOp
  simp only [ho, Instr.alloc, zeroValue, typeInfo, Sem.run_bind, newVar, newRow]
  generalize sumC zeroD = C at h hz'
  simp [hq, hz', Value.cells]
  exact hK _ _ (h _ _ (CAt.made _ _ _) (below_al _ _) rfl)
theorem run_storeD {w : World} {g : Nat} {x y : List Nat} (hx : x.length = 32) (hy : y.length = 32) (hb : CAt w g (sumC x) 61) : (Instr.storeAt 61 (.pointer (some ⟨g, 0, none⟩)) (.agg (sumC y))).run Try.prog w = .ok () (w.setRow g (sumC y)) ∧ CAt (w.setRow g (sumC y)) g (sumC y) 61 := by
  have e := run_storeVar_row (P := Try.prog) w g 61 61 (sumC x) (sumC y) hb (by rw [sumC_size, hy]; exact sizeD) (by rw [sumC_size, sumC_size, hx, hy]) (by rw [Array.all_eq_true_iff_forall_mem]; intro v hv; unfold sumC at hv; simp only [List.mem_toArray, List.mem_map] at hv; obtain ⟨k, _, rfl⟩ := hv; rfl)
  refine ⟨?_, setRow_heap w g (sumC x) (sumC y) _ _ hb⟩
  simp only [Instr.storeAt, Instr.sureAddr, Sem.run_bind, Sem.run_pure, Result.andThen_ok, e]
theorem wpList_storeD {ops : Array Oper} {rest : List Oper} {o : Oper} {a : Act} {w : World} {Q : Exit → Act → World → Prop} (hg : o.guard = none) (hdst : o.dst = none) (x y : Operand) (ho : o.op = .store 61 x y) (g : Nat) (hx : a.eval x = ptr g) {m n : List Nat} (hy : a.eval y = .agg (sumC n)) (hm : m.length = 32) (hn : n.length = 32) (hb : CAt w g (sumC m) 61)
    (h : ∀ w1, CAt w1 g (sumC n) 61 → Only (fun b => b = g) w w1 → wpList Try.prog ops Q rest a w1) : wpList Try.prog ops Q (o :: rest) a w := by
  refine wpList_plain hg fun _ hK => ?_
  obtain ⟨e1, e2⟩ := run_storeD hm hn hb
  unfold Oper.wp execOp
  simp only [ho, hx, hy, ptr, Sem.run_bind, e1, Result.andThen_ok, Sem.run_pure]
  refine hK (a.put o.dst undef) _ ?_
  rw [hdst]
  exact h _ e2 (only_setRow _ _ _ rfl)
theorem run_dig (g : Nat) (w : World) : (Instr.sliceAt 61 (.pointer (some ⟨g, 0, none⟩)) none none none).run Try.prog w = .ok (.slice (some ⟨g, 0, none⟩) 32 32) w := by kernel_rfl
theorem CAt.bl {w : World} {g : Nat} {x : List Nat} {t : TypeId} (h : CAt w g (sumC x) t) : BL w (some ⟨g, 0, none⟩) x := Or.inr ⟨g, 0, rfl, fun i hi => by rw [Nat.zero_add, h.cell, sumC_get hi]⟩
abbrev c3 : Array Value := #[.int .u8 83, .int .u8 74, .int .u8 49]
end Go.Proofs.Ytfniojnklhjgbaa

/- bytes.Equal, HasPrefix; what looks at a journal's sign and digest. -/
namespace Go.Proofs.Ytfniojnklhjgbaa
open Go Go.RowKit

theorem lst_eq_ba {A B : List Nat} (hA : ∀ z ∈ A, z < 256) (hB : ∀ z ∈ B, z < 256) : ((ba A).toList == (ba B).toList) = decide (A = B) := by
  rw [lst_beq, lst_ba hA, lst_ba hB]
theorem equalB_any (po qo : Option Addr) (c d : Nat) (A B : List Nat) (w : World) (hA : BL w po A) (hB : BL w qo B) (a8 : ∀ z ∈ A, z < 256) (b8 : ∀ z ∈ B, z < 256) : Calls Try.prog 33 #[.slice po A.length c, .slice qo B.length d] w fun e w' => e = .returned (.bool (decide (A = B))) ∧ w' = w := by
  have h1 := hA.conv c
  have h2 := hB.conv d
  have HE := hid (lst_eq_ba a8 b8)
  generalize ba A = SA at h1 HE
  generalize ba B = SB at h2 HE
  clear hA hB a8 b8
  go_enter Try.func33, Try.ntmps33
  go_wp2
  go_ret
  exact ⟨by rw [← HE.out]; rfl, rfl⟩
theorem run_head8n (po : Option Addr) (n c h : Nat) (hh : h ≤ c) (w : World) : (Instr.slice 24 (.slice po n c) none (some (.int .i64 (h : Int))) none).run Try.prog w = .ok (.slice po h c) w := by
  rw [run_slice_h (P := Try.prog) w 24 po n c underE8 .i64 (h : Int) (by omega) (by omega), elem8]
  cases po with
  | none => simp [Result.andThen, sliced]
  | some a =>
    by_cases h0 : c = 0
    · simp [Result.andThen, sliced, h0]
    · simp [Result.andThen, sliced, h0, add_zero']
theorem len_take {L : List Nat} {k : Nat} (h : k ≤ L.length) : (L.take k).length = k := by rw [List.length_take]; omega
theorem prefix_any (po qo : Option Addr) (c d : Nat) (A B : List Nat) (w : World) (hA : BL w po A) (hB : BL w qo B) (a8 : ∀ z ∈ A, z < 256) (b8 : ∀ z ∈ B, z < 256) (hl : B.length ≤ A.length) (hc : A.length ≤ c) : Calls Try.prog 32 #[.slice po A.length c, .slice qo B.length d] w fun e w' => e = .returned (.bool (decide (A.take B.length = B))) ∧ w' = w := by
  have hs := run_head8n po A.length c B.length (by omega)
  have hE := equalB_any po qo c d (A.take B.length) B w (hA.take B.length) hB (fun z hz => a8 z (List.mem_of_mem_take hz)) b8
  rw [len_take hl] at hE
  generalize decide (A.take B.length = B) = Q at hE
  have HE := hid hE
  have hl' : (B.length : Int) ≤ (A.length : Int) := by omega
  clear hE hA hB a8 b8
  go_enter Try.func32, Try.ntmps32
  go_wp2_with (go_at_call 33; refine HE.out.mono ?_; rintro e w1 ⟨rfl, hw1⟩; have hw2 := hw1.symm; subst hw2)
  go_ret
  exact ⟨rfl, rfl⟩
section


end
end Go.Proofs.Ytfniojnklhjgbaa

/- lookAtDigest; readNumber, readSeq, readCount. -/
namespace Go.Proofs.Ytfniojnklhjgbaa
open Go Go.RowKit

theorem run_from8s (b o n c l : Nat) (hl : l ≤ n) (hlt : l < c) (w : World) : (Instr.slice 24 (.slice (some ⟨b, o, none⟩) n c) (some (.int .i64 (l : Int))) none none).run Try.prog w = .ok (.slice (some ⟨b, o + l, none⟩) (n - l) (c - l)) w := by
  rw [run_slice_l (P := Try.prog) w 24 _ n c underE8 .i64 (l : Int) (by omega) (by omega), elem8]
  have e : ¬ c = l := by omega
  simp [Result.andThen, sliced, e, add_none]
end Go.Proofs.Ytfniojnklhjgbaa

/- lookAtEnd; what Read needs. -/
namespace Go.Proofs.Ytfniojnklhjgbaa
open Go Go.RowKit

theorem wpList_allocX (t : TypeId) (C : Array Value) (hz : (Try.prog.info? t).map (·.zero) = some (some (.agg C))) {ops : Array Oper} {rest : List Oper} {o : Oper} {a : Act} {w : World} {Q : Exit → Act → World → Prop} (hg : o.guard = none) (ho : o.op = .alloc t)
    (h : ∀ w1 g, CAt w1 g C t → Below w.heap.size w w1 → w.heap.size = g → wpList Try.prog ops Q rest (a.put o.dst (ptr g)) w1) : wpList Try.prog ops Q (o :: rest) a w := by
  refine wpList_plain hg fun _ hK => ?_
  obtain ⟨i, hq, hz'⟩ := Option.map_eq_some_iff.1 hz
  unfold Oper.wp execOp
  simp only [ho, Instr.alloc, zeroValue, typeInfo, Sem.run_bind, newVar, newRow]
  simp [hq, hz', Value.cells]
  exact hK _ _ (h _ _ (CAt.made _ _ _) (below_al _ _) rfl)
theorem wpList_storeX (t : TypeId) (k : Nat) (hs : (Try.prog.info? t).map (·.size) = some k) {ops : Array Oper} {rest : List Oper} {o : Oper} {a : Act} {w : World} {Q : Exit → Act → World → Prop} (hg : o.guard = none) (hdst : o.dst = none) (x y : Operand) (ho : o.op = .store t x y) (g : Nat) (hx : a.eval x = ptr g) {C D : Array Value} (hy : a.eval y = .agg D) (hC : C.size = k) (hD : D.size = k) (h1 : D.all (·.oneCell') = true) (hb : CAt w g C t)
    (h : ∀ w1, CAt w1 g D t → Only (fun b => b = g) w w1 → wpList Try.prog ops Q rest a w1) : wpList Try.prog ops Q (o :: rest) a w := by
  refine wpList_plain hg fun _ hK => ?_
  have e := run_storeVar_row (P := Try.prog) w g t t C D hb (by rw [hD]; exact hs) (by rw [hC, hD]) h1
  have e1 : (Instr.storeAt t (.pointer (some ⟨g, 0, none⟩)) (.agg D)).run Try.prog w = .ok () (w.setRow g D) := by simp only [Instr.storeAt, Instr.sureAddr, Sem.run_bind, Sem.run_pure, Result.andThen_ok, e]
  unfold Oper.wp execOp
  simp only [ho, hx, hy, ptr, Sem.run_bind, e1, Result.andThen_ok, Sem.run_pure]
  refine hK (a.put o.dst undef) _ ?_
  rw [hdst]
  exact h _ (setRow_heap w g C D _ _ hb) (only_setRow _ _ _ rfl)

end Go.Proofs.Ytfniojnklhjgbaa

/- Copies (what drives answer) and lists of them in memory; bools in memory. -/
namespace Go.Proofs.Ytfniojnklhjgbaa
open Go Go.RowKit

/-- A copy as a value, and its bytes. -/
structure Cv where
  err : Int
  v : Value
  bs : List Nat
def Cv.cp (x : Cv) : Cp := ⟨x.err, x.bs⟩
/-- Bytes of a copy: where they lie. -/
structure CvOk (w : World) (x : Cv) : Prop where
  sl : ∃ po c, x.v = .slice po x.bs.length c ∧ BL w po x.bs ∧ x.bs.length ≤ c ∧ (po = none → c = 0)
  small : x.bs.length ≤ 100000
  byte : ∀ z ∈ x.bs, z < 256
theorem CvOk.keep {w w' : World} {x : Cv} (h : CvOk w x) (hk : ∀ a, w.cell? a ≠ none → w'.cell? a = w.cell? a) : CvOk w' x := by
  obtain ⟨⟨po, c, h1, h2, h3, h4⟩, h5, h6⟩ := h
  exact ⟨⟨po, c, h1, h2.keep hk, h3, h4⟩, h5, h6⟩
theorem CvOk.below {w w' : World} {x : Cv} (h : CvOk w x) (hb : Below w.heap.size w w') : CvOk w' x := h.keep fun a ha => World.cell?_of_block (hb.block a.block (cell_lt' ha))
/-- The copies lie there, one behind the other. -/
def CCells (w : World) (b o : Nat) (l : List Cv) : Prop := ∀ i x, l[i]? = some x → w.cell? ⟨b, o + i * 2, none⟩ = some (i64 x.err) ∧ w.cell? ⟨b, o + i * 2 + 1, none⟩ = some x.v
theorem CCells.keep {w w' : World} {b o : Nat} {l : List Cv} (h : CCells w b o l) (hk : ∀ a, w.cell? a ≠ none → w'.cell? a = w.cell? a) : CCells w' b o l := fun i x e => by
  have := h i x e
  exact ⟨(hk _ (by rw [this.1]; simp)).trans this.1, (hk _ (by rw [this.2]; simp)).trans this.2⟩
/-- The slice v leads to the copies l. -/
def CL (w : World) (v : Value) (l : List Cv) : Prop := ∃ po c, v = .slice po l.length c ∧ l.length ≤ c ∧ l.length ≤ 1000 ∧ (po = none → c = 0) ∧ (l = [] ∨ ∃ b o, po = some ⟨b, o, none⟩ ∧ CCells w b o l) ∧ ∀ x ∈ l, CvOk w x
theorem CL.each {w : World} {v : Value} {l : List Cv} (h : CL w v l) : ∀ x ∈ l, CvOk w x := by obtain ⟨_, _, _, _, _, _, _, h⟩ := h; exact h
theorem CL.keep {w w' : World} {v : Value} {l : List Cv} (h : CL w v l) (hk : ∀ a, w.cell? a ≠ none → w'.cell? a = w.cell? a) : CL w' v l := by
  obtain ⟨po, c, h1, h2, h3, h4, h5, h6⟩ := h
  refine ⟨po, c, h1, h2, h3, h4, ?_, fun x hx => (h6 x hx).keep hk⟩
  rcases h5 with h5 | ⟨b, o, e, h5⟩
  · exact Or.inl h5
  · exact Or.inr ⟨b, o, e, h5.keep hk⟩
theorem CL.below {w w' : World} {v : Value} {l : List Cv} (h : CL w v l) (hb : Below w.heap.size w w') : CL w' v l := h.keep fun a ha => World.cell?_of_block (hb.block a.block (cell_lt' ha))
theorem CL.nil (w : World) : CL w (.slice none 0 0) [] := ⟨none, 0, rfl, Nat.le_refl _, by simp, fun _ => rfl, Or.inl rfl, fun x hx => by cases hx⟩
/-- One of them, by its place. -/
theorem CL.where {w : World} {v : Value} {l : List Cv} (h : CL w v l) {i : Nat} {x : Cv} (hx : l[i]? = some x) : ∃ b o c, v = .slice (some ⟨b, o, none⟩) l.length c ∧ l.length ≤ c ∧ CCells w b o l ∧ CvOk w x := by
  obtain ⟨po, c, h1, h2, h3, h4, h5, h6⟩ := h
  rcases h5 with rfl | ⟨b, o, rfl, h5⟩
  · simp at hx
  · exact ⟨b, o, c, h1, h2, h5, h6 x (List.mem_of_getElem? hx)⟩
/-- A copy's two cells, in the world at hand, and its bytes. -/
theorem CL.at {w w' : World} {b o n c : Nat} {l : List Cv} (h : CL w (.slice (some ⟨b, o, none⟩) n c) l) (hb : Below w.heap.size w w') {i : Nat} {x : Cv} (hx : l[i]? = some x) : w'.cell? ⟨b, o + i * 2, none⟩ = some (i64 x.err) ∧ w'.cell? ⟨b, o + i * 2 + 1, none⟩ = some x.v ∧ CvOk w' x := by
  obtain ⟨b', o', c', e, _, h1, h2⟩ := (h.below hb).where hx
  cases e
  exact ⟨(h1 i x hx).1, (h1 i x hx).2, h2⟩
/-- A slice of bools. -/
def BoL (w : World) (v : Value) (hs : List Bool) : Prop := ∃ po c, v = .slice po hs.length c ∧ hs.length ≤ c ∧ (hs = [] ∨ ∃ b o, po = some ⟨b, o, none⟩ ∧ ∀ i x, hs[i]? = some x → w.cell? ⟨b, o + i, none⟩ = some (.bool x))
theorem BoL.keep {w w' : World} {v : Value} {hs : List Bool} (h : BoL w v hs) (hk : ∀ a, w.cell? a ≠ none → w'.cell? a = w.cell? a) : BoL w' v hs := by
  obtain ⟨po, c, h1, h2, h3⟩ := h
  refine ⟨po, c, h1, h2, ?_⟩
  rcases h3 with h3 | ⟨b, o, e, h3⟩
  · exact Or.inl h3
  · exact Or.inr ⟨b, o, e, fun i x hx => by have := h3 i x hx; exact (hk _ (by rw [this]; simp)).trans this⟩
theorem BoL.below {w w' : World} {v : Value} {hs : List Bool} (h : BoL w v hs) (hb : Below w.heap.size w w') : BoL w' v hs := h.keep fun a ha => World.cell?_of_block (hb.block a.block (cell_lt' ha))
theorem BoL.nil (w : World) : BoL w (.slice none 0 0) [] := ⟨none, 0, rfl, Nat.le_refl _, Or.inl rfl⟩
theorem BoL.form {w : World} {v : Value} {hs : List Bool} (h : BoL w v hs) : ∃ po n c, v = .slice po n c ∧ n = hs.length := by obtain ⟨po, c, h1, _⟩ := h; exact ⟨po, _, c, h1, rfl⟩
theorem BoL.at {w w' : World} {b o n c : Nat} {hs : List Bool} (h : BoL w (.slice (some ⟨b, o, none⟩) n c) hs) (hb : Below w.heap.size w w') {i : Nat} {x : Bool} (hx : hs[i]? = some x) : w'.cell? ⟨b, o + i, none⟩ = some (.bool x) := by
  obtain ⟨po, c', h1, _, h3⟩ := h.below hb
  rcases h3 with rfl | ⟨b', o', e, h3⟩
  · simp at hx
  · cases h1; cases e; exact h3 i x hx
theorem BoL.some {w : World} {v : Value} {hs : List Bool} (h : BoL w v hs) (hne : 0 < hs.length) : ∃ b o c, v = .slice (some ⟨b, o, none⟩) hs.length c := by
  obtain ⟨po, c, h1, _, h3⟩ := h
  rcases h3 with rfl | ⟨b, o, rfl, h3⟩
  · simp at hne
  · exact ⟨b, o, c, h1⟩
end Go.Proofs.Ytfniojnklhjgbaa

/- Formats: the mathematics: which may be, their bytes, which format any bytes are, all formats of k, m and so many sets, how each copy is judged. -/
namespace Go.Proofs.Ytfniojnklhjgbaa
open Go Go.RowKit

/-- A format: K, M, Sets, Set, Drive. -/
structure FmV where
  k : Int
  m : Int
  s : Int
  t : Int
  d : Int
deriving DecidableEq
instance : Inhabited FmV := ⟨⟨0, 0, 0, 0, 0⟩⟩
def FmV.cs (f : FmV) : Array Value := #[.int .i64 f.k, .int .i64 f.m, .int .i64 f.s, .int .i64 f.t, .int .i64 f.d]
def okFm (f : FmV) : Bool := decide (1 ≤ f.k ∧ 1 ≤ f.m ∧ f.k + f.m ≤ 16 ∧ 1 ≤ f.s ∧ f.s ≤ 4 ∧ 0 ≤ f.t ∧ f.t < f.s ∧ 0 ≤ f.d ∧ f.d < f.k + f.m)
def erFm (f : FmV) : Nat := if okFm f = true then 0 else 2
theorem okFm_of {f : FmV} (h : okFm f = true) : 1 ≤ f.k ∧ f.k ≤ 15 ∧ 1 ≤ f.m ∧ f.m ≤ 15 ∧ f.k + f.m ≤ 16 ∧ 1 ≤ f.s ∧ f.s ≤ 4 ∧ 0 ≤ f.t ∧ f.t < f.s ∧ 0 ≤ f.d ∧ f.d < f.k + f.m := by
  unfold okFm at h
  simp only [decide_eq_true_eq] at h
  omega
/-- The eight bytes ahead of the digest; all forty. -/
def fmH (f : FmV) : List Nat := [83, 70, 49, f.k.toNat, f.m.toNat, f.s.toNat, f.t.toNat, f.d.toNat]
def fmB (f : FmV) : List Nat := fmH f ++ dig (fmH f)
theorem fmH_len (f : FmV) : (fmH f).length = 8 := rfl
theorem fmB_len (f : FmV) : (fmB f).length = 40 := by unfold fmB; rw [List.length_append, dig_len]; rfl
theorem fmH_lt {f : FmV} (h : okFm f = true) : ∀ z ∈ fmH f, z < 256 := fun z hz => by
  have := okFm_of h
  unfold fmH at hz
  simp only [List.mem_cons, List.not_mem_nil, or_false] at hz
  omega
theorem fmB_lt {f : FmV} (h : okFm f = true) : ∀ z ∈ fmB f, z < 256 := fun z hz => by
  unfold fmB at hz
  rcases List.mem_append.1 hz with hz | hz
  · exact fmH_lt h z hz
  · exact dig_lt _ z hz
/-- Which format bytes are, and the error. -/
def fmG (L : List Nat) : FmV := ⟨(L.getD 3 0 : Nat), (L.getD 4 0 : Nat), (L.getD 5 0 : Nat), (L.getD 6 0 : Nat), (L.getD 7 0 : Nat)⟩
def rdFe (L : List Nat) : Nat := if L.length ≠ 40 ∨ L.take 3 ≠ [83, 70, 49] then 4 else if dig (L.take 8) ≠ L.drop 8 then 14 else if okFm (fmG L) = true then 0 else 4
def rdFv (L : List Nat) : FmV := if rdFe L = 0 then fmG L else ⟨0, 0, 0, 0, 0⟩
theorem getD_toNat {f : Int} (h : 0 ≤ f) : ((f.toNat : Nat) : Int) = f := Int.toNat_of_nonneg h
theorem fmG_fmB {f : FmV} (h : okFm f = true) : fmG (fmB f) = f := by
  have := okFm_of h
  have e : ∀ i, i < 8 → (fmB f).getD i 0 = (fmH f).getD i 0 := fun i hi => by
    unfold fmB
    simp only [List.getD_eq_getElem?_getD]
    rw [List.getElem?_append_left (by rw [fmH_len]; exact hi)]
  unfold fmG
  rw [e 3 (by omega), e 4 (by omega), e 5 (by omega), e 6 (by omega), e 7 (by omega)]
  obtain ⟨k, m, s, t, d⟩ := f
  simp only [fmH, List.getD_cons_succ, List.getD_cons_zero] at *
  simp only [FmV.mk.injEq]
  omega
theorem rd_fmB {f : FmV} (h : okFm f = true) : rdFe (fmB f) = 0 ∧ rdFv (fmB f) = f := by
  have e0 : rdFe (fmB f) = 0 := by
    unfold rdFe
    have t3 : (fmB f).take 3 = [83, 70, 49] := rfl
    have t8 : (fmB f).take 8 = fmH f := by unfold fmB; rw [List.take_append_of_le_length (by rw [fmH_len]; omega)]; rfl
    have d8 : (fmB f).drop 8 = dig (fmH f) := by unfold fmB; rw [List.drop_append_of_le_length (by rw [fmH_len]; omega)]; rfl
    rw [if_neg (by rw [fmB_len, t3]; simp), t8, d8, if_neg (by simp), fmG_fmB h, if_pos h]
  exact ⟨e0, by unfold rdFv; rw [if_pos e0, fmG_fmB h]⟩
theorem rd_len {L : List Nat} (h : L.length ≠ 40) : rdFe L = 4 := by unfold rdFe; rw [if_pos (.inl h)]
/-- All formats of k, m and so many sets. -/
def okAl (k m s : Int) : Bool := okFm ⟨k, m, s, 0, 0⟩
def alN (k m s : Int) : Nat := (k + m).toNat * s.toNat
def alG (k m s : Int) (i : Nat) : FmV := ⟨k, m, s, (i / (k + m).toNat : Nat), (i % (k + m).toNat : Nat)⟩
def alL (k m s : Int) : List FmV := (List.range (alN k m s)).map (alG k m s)
theorem alL_len (k m s : Int) : (alL k m s).length = alN k m s := by simp [alL]
theorem alN_le {k m s : Int} (h : okAl k m s = true) : 2 ≤ alN k m s ∧ alN k m s ≤ 64 := by
  have := okFm_of (f := ⟨k, m, s, 0, 0⟩) h
  simp only at this
  unfold alN
  have h1 : 2 ≤ (k + m).toNat ∧ (k + m).toNat ≤ 16 := by omega
  have h2 : 1 ≤ s.toNat ∧ s.toNat ≤ 4 := by omega
  constructor
  · exact Nat.le_trans (by omega) (Nat.mul_le_mul h1.1 h2.1)
  · exact Nat.le_trans (Nat.mul_le_mul h1.2 h2.2) (by omega)
/-- How a copy is judged. -/
def jdg (x : Cv) (f : FmV) : Nat := if x.err = 6 then 1 else if x.err = 0 then (if rdFe x.bs ≠ 0 then 1 else if rdFv x.bs = f then 2 else 3) else 4
def jdE (l : List Cv) (k m s : Int) : Nat := if okAl k m s = true ∧ l.length = alN k m s then 0 else 2
def jdL (l : List Cv) (k m s : Int) : List Nat := if jdE l k m s = 0 then (List.range l.length).map (fun i => jdg (l.getD i ⟨0, .slice none 0 0, []⟩) (alG k m s i)) else []
end Go.Proofs.Ytfniojnklhjgbaa

/- The document's Check of a format. (Written by tools/gen_Fb14.py.) -/
namespace Go.Proofs.Ytfniojnklhjgbaa
open Go Go.RowKit

set_option maxRecDepth 100000 in
set_option maxHeartbeats 4000000 in
theorem rcheck14_any (f : FmV) (w : World) : Calls Try.prog 13 #[.agg f.cs] w fun e w' => e = .returned (.int .i64 (erFm f : Int)) ∧ Below w.heap.size w w' := by
  obtain ⟨k, m, s, t, d⟩ := f
  have HB : Hid (∀ o, Below w.heap.size w (w.alloc o)) := hid (fun o => (Below.refl _ _).alloc (Nat.le_refl _) o)
  unfold FmV.cs
  dsimp only
  by_cases c0 : k < 1
  · rw [show erFm ⟨k, m, s, t, d⟩ = 2 by unfold erFm okFm; rw [if_neg (by simp only [decide_eq_true_eq]; omega)]]
    go_enter Try.func13, Try.ntmps13
    go_wp2
    go_ret
    exact ⟨rfl, HB.out _⟩
  · have d0 : 1 ≤ k := by omega
    by_cases c1 : m < 1
    · rw [show erFm ⟨k, m, s, t, d⟩ = 2 by unfold erFm okFm; rw [if_neg (by simp only [decide_eq_true_eq]; omega)]]
      go_enter Try.func13, Try.ntmps13
      go_wp2
      go_ret
      exact ⟨rfl, HB.out _⟩
    · have d1 : 1 ≤ m := by omega
      by_cases c2 : 15 < k
      · rw [show erFm ⟨k, m, s, t, d⟩ = 2 by unfold erFm okFm; rw [if_neg (by simp only [decide_eq_true_eq]; omega)]]
        go_enter Try.func13, Try.ntmps13
        go_wp2
        go_ret
        exact ⟨rfl, HB.out _⟩
      · have d2 : k ≤ 15 := by omega
        by_cases c3 : 15 < m
        · rw [show erFm ⟨k, m, s, t, d⟩ = 2 by unfold erFm okFm; rw [if_neg (by simp only [decide_eq_true_eq]; omega)]]
          go_enter Try.func13, Try.ntmps13
          go_wp2
          go_ret
          exact ⟨rfl, HB.out _⟩
        · have d3 : m ≤ 15 := by omega
          by_cases c4 : 16 < k + m
          · rw [show erFm ⟨k, m, s, t, d⟩ = 2 by unfold erFm okFm; rw [if_neg (by simp only [decide_eq_true_eq]; omega)]]
            go_enter Try.func13, Try.ntmps13
            go_wp2
            go_ret
            exact ⟨rfl, HB.out _⟩
          · have d4 : k + m ≤ 16 := by omega
            by_cases c5 : s < 1
            · rw [show erFm ⟨k, m, s, t, d⟩ = 2 by unfold erFm okFm; rw [if_neg (by simp only [decide_eq_true_eq]; omega)]]
              go_enter Try.func13, Try.ntmps13
              go_wp2
              go_ret
              exact ⟨rfl, HB.out _⟩
            · have d5 : 1 ≤ s := by omega
              by_cases c6 : 4 < s
              · rw [show erFm ⟨k, m, s, t, d⟩ = 2 by unfold erFm okFm; rw [if_neg (by simp only [decide_eq_true_eq]; omega)]]
                go_enter Try.func13, Try.ntmps13
                go_wp2
                go_ret
                exact ⟨rfl, HB.out _⟩
              · have d6 : s ≤ 4 := by omega
                by_cases c7 : t < 0
                · rw [show erFm ⟨k, m, s, t, d⟩ = 2 by unfold erFm okFm; rw [if_neg (by simp only [decide_eq_true_eq]; omega)]]
                  go_enter Try.func13, Try.ntmps13
                  go_wp2
                  go_ret
                  exact ⟨rfl, HB.out _⟩
                · have d7 : 0 ≤ t := by omega
                  by_cases c8 : s ≤ t
                  · rw [show erFm ⟨k, m, s, t, d⟩ = 2 by unfold erFm okFm; rw [if_neg (by simp only [decide_eq_true_eq]; omega)]]
                    go_enter Try.func13, Try.ntmps13
                    go_wp2
                    go_ret
                    exact ⟨rfl, HB.out _⟩
                  · have d8 : t < s := by omega
                    by_cases c9 : d < 0
                    · rw [show erFm ⟨k, m, s, t, d⟩ = 2 by unfold erFm okFm; rw [if_neg (by simp only [decide_eq_true_eq]; omega)]]
                      go_enter Try.func13, Try.ntmps13
                      go_wp2
                      go_ret
                      exact ⟨rfl, HB.out _⟩
                    · have d9 : 0 ≤ d := by omega
                      by_cases c10 : k + m ≤ d
                      · rw [show erFm ⟨k, m, s, t, d⟩ = 2 by unfold erFm okFm; rw [if_neg (by simp only [decide_eq_true_eq]; omega)]]
                        go_enter Try.func13, Try.ntmps13
                        go_wp2
                        go_ret
                        exact ⟨rfl, HB.out _⟩
                      · have d10 : d < k + m := by omega
                        rw [show erFm ⟨k, m, s, t, d⟩ = 0 by unfold erFm okFm; rw [if_pos (by simp only [decide_eq_true_eq]; omega)]]
                        go_enter Try.func13, Try.ntmps13
                        go_wp2
                        go_ret
                        exact ⟨rfl, HB.out _⟩
end Go.Proofs.Ytfniojnklhjgbaa

/- The document's Bytes of a format. -/
namespace Go.Proofs.Ytfniojnklhjgbaa
open Go Go.RowKit

theorem u8_of (k : Int) (h : 0 ≤ k) (h2 : k < 256) : IntKind.u8.wrap k = k := by
  simp [IntKind.wrap, IntKind.bits, IntKind.signed]; omega
theorem hd8 (w : World) {k m s t d : Int} (h : okFm ⟨k, m, s, t, d⟩ = true) : Buf w.heap.size (w.alloc (.cells #[.int .u8 83, .int .u8 70, .int .u8 49, .int .u8 k, .int .u8 m, .int .u8 s, .int .u8 t, .int .u8 d] 5)) (.slice (some ⟨w.heap.size, 0, none⟩) 8 8) (fmH ⟨k, m, s, t, d⟩) := by
  have ho := okFm_of h
  simp only at ho
  refine ⟨by simp [fmH], .inr ⟨w.heap.size, 8, _, rfl, Nat.le_refl _, CAt.made w _ 5, by rw [fmH_len]; omega, by unfold maxLen; omega, rfl, ?_⟩⟩
  simp only [fmH, List.map_cons, List.map_nil, u8, List.length_cons, List.length_nil]
  rw [getD_toNat (show 0 ≤ k by omega), getD_toNat (show 0 ≤ m by omega), getD_toNat (show 0 ≤ s by omega), getD_toNat (show 0 ≤ t by omega), getD_toNat (show 0 ≤ d by omega)]
  rfl
theorem Buf.only_ne {B g : Nat} {w w' : World} {v : Value} {L : List Nat} (h : Buf B w v L) (ho : Only (fun b => b = g) w w') (hg : v.ownBlock ≠ some g) : Buf B w' v L :=
  ownsRow_keep h fun b hb => ho.block b (own_ge h b hb).2 (fun e => hg (by rw [hb]; exact congrArg some e))
/-- The document's Bytes tells fmB. -/
def BfS (w : World) (L : List Nat) (e : Ending) (w' : World) : Prop := ∃ po c, e = .returned (.slice po L.length c) ∧ Buf w.heap.size w' (.slice po L.length c) L ∧ Below w.heap.size w w'
set_option maxRecDepth 100000 in
set_option maxHeartbeats 4000000 in
theorem rbytes14_any (f : FmV) (h : okFm f = true) (w : World) : Calls Try.prog 15 #[.agg f.cs] w (BfS w (fmB f)) := by
  have ho := okFm_of h
  have HO := hid h
  obtain ⟨k, m, s, t, d⟩ := f
  dsimp only at ho
  obtain ⟨h1, h2, h3, h4, h5, h6, h7, h8, h9, h10, h11⟩ := ho
  have e1 := u8_of k (by omega) (by omega)
  have e2 := u8_of m (by omega) (by omega)
  have e3 := u8_of s (by omega) (by omega)
  have e4 := u8_of t (by omega) (by omega)
  have e5 := u8_of d (by omega) (by omega)
  unfold FmV.cs
  dsimp only
  have HB0 : Hid (∀ o1 o2, Below w.heap.size w ((w.alloc o1).alloc o2)) := hid (fun o1 o2 => ((Below.refl w.heap.size w).alloc (Nat.le_refl _) o1).alloc (by simp only [size_al]; omega) o2)
  have HBF : Hid (∀ o1, Buf (w.alloc o1).heap.size ((w.alloc o1).alloc (.cells #[.int .u8 83, .int .u8 70, .int .u8 49, .int .u8 k, .int .u8 m, .int .u8 s, .int .u8 t, .int .u8 d] 5)) (.slice (some ⟨(w.alloc o1).heap.size, 0, none⟩) 8 8) (fmH ⟨k, m, s, t, d⟩)) := hid (fun o1 => hd8 (w.alloc o1) HO.out)
  have HL8 := fmH_lt HO.out
  have HBG : Hid (∀ o1, Buf (w.heap.size + 1) ((w.alloc o1).alloc (.cells #[.int .u8 83, .int .u8 70, .int .u8 49, .int .u8 k, .int .u8 m, .int .u8 s, .int .u8 t, .int .u8 d] 5)) (.slice (some ⟨w.heap.size + 1, 0, none⟩) 8 8) (fmH ⟨k, m, s, t, d⟩)) := hid (fun o1 => by have := HBF.out o1; rw [size_al] at this; exact this)
  obtain ⟨X, hX⟩ : ∃ X, fmH ⟨k, m, s, t, d⟩ = X := ⟨_, rfl⟩
  have hX8 : X.length = 8 := by rw [← hX]; rfl
  rw [hX] at HBF HL8 HBG
  have HFB : Hid (fmB ⟨k, m, s, t, d⟩ = X ++ dig X) := hid (by unfold fmB; rw [hX])
  have HSUM : Hid (∀ o1, Calls Try.prog 34 #[.slice (some ⟨w.heap.size + 1, 0, none⟩) 8 8] ((w.alloc o1).alloc (.cells #[.int .u8 83, .int .u8 70, .int .u8 49, .int .u8 k, .int .u8 m, .int .u8 s, .int .u8 t, .int .u8 d] 5)) fun e w' => e = .returned (.agg (sumC (dig X))) ∧ Below ((w.alloc o1).alloc (.cells #[.int .u8 83, .int .u8 70, .int .u8 49, .int .u8 k, .int .u8 m, .int .u8 s, .int .u8 t, .int .u8 d] 5)).heap.size ((w.alloc o1).alloc (.cells #[.int .u8 83, .int .u8 70, .int .u8 49, .int .u8 k, .int .u8 m, .int .u8 s, .int .u8 t, .int .u8 d] 5)) w') := hid (fun o1 => by
    have := rdsum_any (some ⟨(w.alloc o1).heap.size, 0, none⟩) 8 X _ (by omega) (fun e => by cases e) (HBF.out o1).bl HL8
    rw [hX8, size_al] at this; exact this)
  have hdl := dig_len X
  generalize hD : dig X = D at *
  have HX := hid hX
  have HDD := hid hD
  have hsl := run_dig
  clear h1 h2 h3 h4 h5 h6 h7 h8 h9 h10 h11 h hX hD HL8
  go_enter Try.func15, Try.ntmps15
  go_wp2_with (first
    | (go_at_call 34; refine (HSUM.out _).mono ?_; rintro e wd ⟨rfl, hbd⟩; have HBD := hid (below_on (HB0.out _ _) hbd); have HBFD := hid ((HBG.out _).below hbd); have HSD := hid (show w.heap.size + 2 ≤ wd.heap.size by have := hbd.size; simp only [size_al] at this; exact this); clear hbd)
    | ((with_reducible refine wpList_allocD rfl rfl ?_); intro wa ga hza hba hga; have HZA := hid hza; have HBA := hid (below_on HBD.out hba); have HBFA := hid (HBFD.out.below hba); have HGA := hid hga; clear hza hba hga)
    | ((with_reducible refine wpList_storeD rfl rfl _ _ rfl ga ?_ (m := zeroD) (n := D) ?_ ?_ hdl HZA.out ?_); exact rfl; exact rfl; exact rfl; intro wb hb9 ob9; have HBB := hid (below_tr HBA.out (ob9.below HBA.out.size (fun i e => by have := HGA.out; have := HSD.out; omega))); have HBFB := hid (HBFA.out.only_ne ob9 (fun e => by have e2 : w.heap.size + 1 = ga := Option.some.inj e; have := HGA.out; have := HSD.out; omega)); have hblD := hb9.bl; obtain ⟨ve, we, hre, hbe, hge⟩ := HBFB.out.app (some ⟨ga, 0, none⟩) 32 D hblD (fun e => by cases e) (by omega) (Nat.le_of_lt (show w.heap.size + 1 < wb.heap.size from (own_ge HBFB.out _ rfl).2)); rw [hdl] at hre; obtain ⟨pe, ce, hve⟩ := hbe.form; subst hve; have HRUN := hid hre; have HBE := hid hbe; have HGE := hid hge; clear hb9 ob9 HZA hblD hre hbe hge)
    | (at_builtin; refine wpList_append_run _ _ 24 24 rfl rfl _ _ _ rfl rfl HRUN.out ?_))
  go_ret
  rw [HFB.out]
  refine ⟨pe, ce, by rw [List.length_append, hX8, hdl]; rfl, own_base HBE.out (by omega), below_grown HBB.out HGE.out (Nat.le_refl _) (fun b e => ?_)⟩
  have := (own_ge HBFB.out b e).1
  omega
end Go.Proofs.Ytfniojnklhjgbaa
