/- Records in memory. -/
import Derived.Test.YtepkpkbgmchioaaVl
namespace Go.Proofs.Ytepkpkbgmchioaa
open Go Go.RowKit

/-- A record as a value: texts, numbers, and the slice that leads to its parts. -/
structure Rv where
  id : ByteArray
  time : Int
  mark : Bool
  size : Int
  etag : ByteArray
  k : Int
  m : Int
  data : ByteArray
  sum : List Nat
  pv : Value
  up : ByteArray
def sumC (x : List Nat) : Array Value := (x.map u8).toArray
def Rv.cs (r : Rv) : Array Value := #[.string r.id, i64 r.time, .bool r.mark, i64 r.size, .string r.etag, i64 r.k, i64 r.m, .string r.data] ++ (sumC r.sum ++ #[r.pv, .string r.up])
def Rv.rc (r : Rv) (ps : Ps) : Rc := ⟨lst r.id, r.time, r.mark, r.size, lst r.etag, r.k, r.m, lst r.data, r.sum, ps, lst r.up⟩
structure Rv.ok (r : Rv) : Prop where
  sl : r.sum.length = 32
  s8 : ∀ x ∈ r.sum, x < 256
  i : r.id.size ≤ 100000
  e : r.etag.size ≤ 100000
  d : r.data.size ≤ 100000
  u : r.up.size ≤ 100000
theorem sumC_size (x : List Nat) : (sumC x).size = x.length := by simp [sumC]
theorem sumC_get {x : List Nat} {j : Nat} (h : j < x.length) : (sumC x)[j]? = some (u8 (x.getD j 0)) := by simp [sumC, h, List.getD]
section
variable {r : Rv} (h : r.ok)
include h
theorem Rv.ok.size : r.cs.size = 42 := by simp [Rv.cs, sumC_size, h.sl]
theorem Rv.ok.sum {j : Nat} (hj : j < 32) : r.cs[8 + j]? = some (u8 (r.sum.getD j 0)) := by
  unfold Rv.cs
  rw [Array.getElem?_append_right (by simp), Array.getElem?_append_left (by rw [sumC_size, h.sl]; simp; omega)]
  rw [show 8 + j - #[Value.string r.id, i64 r.time, .bool r.mark, i64 r.size, .string r.etag, i64 r.k, i64 r.m, .string r.data].size = j by simp]
  exact sumC_get (by rw [h.sl]; exact hj)
theorem Rv.ok.pv : r.cs[40]? = some r.pv := by
  unfold Rv.cs
  rw [Array.getElem?_append_right (by simp), Array.getElem?_append_right (by rw [sumC_size, h.sl]; simp), sumC_size, h.sl]
  rfl
theorem Rv.ok.up : r.cs[41]? = some (.string r.up) := by
  unfold Rv.cs
  rw [Array.getElem?_append_right (by simp), Array.getElem?_append_right (by rw [sumC_size, h.sl]; simp), sumC_size, h.sl]
  rfl
end
theorem Rv.get8 (r : Rv) (j : Nat) (hj : j < 8) : r.cs[j]? = #[Value.string r.id, i64 r.time, .bool r.mark, i64 r.size, .string r.etag, i64 r.k, i64 r.m, .string r.data][j]? := by
  unfold Rv.cs; rw [Array.getElem?_append_left (by simpa using hj)]
/-- What the cells of a record's block are. -/
structure RBox (w : World) (g : Nat) (r : Rv) : Prop where
  at_ : CAt w g r.cs 45
  c0 : w.cell? ⟨g, 0, none⟩ = some (.string r.id)
  c1 : w.cell? ⟨g, 1, none⟩ = some (i64 r.time)
  c2 : w.cell? ⟨g, 2, none⟩ = some (.bool r.mark)
  c3 : w.cell? ⟨g, 3, none⟩ = some (i64 r.size)
  c4 : w.cell? ⟨g, 4, none⟩ = some (.string r.etag)
  c5 : w.cell? ⟨g, 5, none⟩ = some (i64 r.k)
  c6 : w.cell? ⟨g, 6, none⟩ = some (i64 r.m)
  c7 : w.cell? ⟨g, 7, none⟩ = some (.string r.data)
  cs : ∀ j v, (sumC r.sum)[j]? = some v → w.cell? ⟨g, 8 + j, none⟩ = some v
  c40 : w.cell? ⟨g, 40, none⟩ = some r.pv
  c41 : w.cell? ⟨g, 41, none⟩ = some (.string r.up)
  free : ∀ i, w.frozen? ⟨g, i, none⟩ = false
theorem RBox.mk' {w : World} {g : Nat} {r : Rv} (h : r.ok) (hc : CAt w g r.cs 45) : RBox w g r where
  at_ := hc
  c0 := by rw [hc.cell, r.get8 0 (by omega)]; rfl
  c1 := by rw [hc.cell, r.get8 1 (by omega)]; rfl
  c2 := by rw [hc.cell, r.get8 2 (by omega)]; rfl
  c3 := by rw [hc.cell, r.get8 3 (by omega)]; rfl
  c4 := by rw [hc.cell, r.get8 4 (by omega)]; rfl
  c5 := by rw [hc.cell, r.get8 5 (by omega)]; rfl
  c6 := by rw [hc.cell, r.get8 6 (by omega)]; rfl
  c7 := by rw [hc.cell, r.get8 7 (by omega)]; rfl
  cs := fun j v hv => by
    have hj : j < 32 := by
      rcases Nat.lt_or_ge j 32 with q | q
      · exact q
      · rw [Array.getElem?_eq_none (by rw [sumC_size, h.sl]; exact q)] at hv; cases hv
    rw [hc.cell, h.sum hj, ← hv, sumC_get (by rw [h.sl]; exact hj)]
  c40 := by rw [hc.cell, h.pv]
  c41 := by rw [hc.cell, h.up]
  free := fun i => hc.free i
theorem RBox.below {w w' : World} {g : Nat} {r : Rv} (h : RBox w g r) (ho : r.ok) (hb : Below w.heap.size w w') : RBox w' g r := RBox.mk' ho (h.at_.below hb)
theorem underR : Try.prog.underlying 45 = Try.prog.underlying 45 := rfl
theorem sizeR : (Try.prog.info? 45).map (·.size) = some 42 := by kernel_rfl
theorem sizeD : (Try.prog.info? 42).map (·.size) = some 32 := by kernel_rfl
theorem wpList_boxR {ops : Array Oper} {rest : List Oper} {o : Oper} {a : Act} {w : World} {Q : Exit → Act → World → Prop} (hg : o.guard = none) (x : Operand) (ho : o.op = .box 45 x) (cs : Array Value) (hx : a.eval x = .agg cs)
    (h : ∀ w1 g, CAt w1 g cs 45 → Below w.heap.size w w1 → w.heap.size ≤ g → wpList Try.prog ops Q rest (a.put o.dst (ptr g)) w1) : wpList Try.prog ops Q (o :: rest) a w := by
  refine wpList_plain hg fun K hK => ?_
  unfold Oper.wp execOp
  simp only [ho, Instr.box, newVar, newRow, hx, Value.cells, Sem.run_bind]
  simp
  exact hK _ _ (h _ _ (CAt.made _ _ _) (below_al _ _) (Nat.le_refl _))
/-- Digests are the same, if their bytes are. -/
theorem part5 {x : List Nat} {i : Nat} (hi : i < x.length) (w : World) : (part 5 (sumC x) (i * 1)).run Try.prog w = .ok (u8 (x.getD i 0)) w := by
  have h5 : (isAgg 5).run Try.prog w = .ok false w := by kernel_rfl
  unfold part
  rw [Sem.run_bind, h5]
  simp only [Result.andThen_ok, Bool.false_eq_true, if_false, Nat.mul_one, sumC_get hi]
  rfl
theorem eqSum_in {x y : List Nat} (hx : x.length = 32) (hy : y.length = 32) (d : Nat) (he : ∀ (a b : Nat) (w : World), (Op.equalIn d 5 (u8 a) (u8 b)).run Try.prog w = .ok (a == b) w) (w : World) :
    (Op.equalIn (d + 1) 42 (.agg (sumC x)) (.agg (sumC y))).run Try.prog w = .ok (decide (x = y)) w := by
  have hu : Try.prog.underlying 42 = some (.array 32 5) := by kernel_rfl
  have hs : (sizeOf 5).run Try.prog w = .ok 1 w := by kernel_rfl
  simp only [Op.equalIn, Sem.run_bind, run_underlying hu, Result.andThen_ok, hs]
  rw [Std.Legacy.Range.forIn_eq_forIn_range']
  have hloop : ∀ (n s : Nat), s + n ≤ 32 → (forIn (m := Sem) (List.range' s n) ((none : Option Bool), ()) fun i (_ : Option Bool × Unit) => do
        let a ← part 5 (sumC x) (i * 1)
        let b ← part 5 (sumC y) (i * 1)
        let r ← Op.equalIn d 5 a b
        if (!r) = true then pure (ForInStep.done (some false, ())) else pure (ForInStep.yield (none, ()))).run Try.prog w =
      .ok (if (List.range' s n).all (fun i => x.getD i 0 == y.getD i 0) = true then (none, ()) else (some false, ())) w := fun n => by
    induction n with
    | zero => intro s _; simp
    | succ n ih =>
      intro s hs
      rw [List.range'_succ, List.forIn_cons, List.all_cons]
      simp only [Sem.run_bind, part5 (x := x) (i := s) (by omega), part5 (x := y) (i := s) (by omega), Result.andThen_ok, he]
      cases e : (x.getD s 0 == y.getD s 0)
      · simp only [Bool.not_false, if_true, Sem.run_pure, Result.andThen_ok, Bool.false_and, Bool.false_eq_true, if_false]
      · simp only [Bool.not_true, Bool.false_eq_true, if_false, Sem.run_pure, Result.andThen_ok, Bool.true_and]
        exact ih (s + 1) (by omega)
  have h32 := hloop 32 0 (by omega)
  simp only [Std.Legacy.Range.size, Nat.sub_zero, Nat.add_one_sub_one, Nat.div_one]
  rw [h32]
  have hall : (List.range' 0 32).all (fun i => x.getD i 0 == y.getD i 0) = decide (x = y) := by
    rw [Bool.eq_iff_iff, List.all_eq_true, decide_eq_true_eq]
    constructor
    · intro h
      refine List.ext_getElem (by omega) fun i h1 h2 => ?_
      have := h i (by simp; omega)
      simpa [List.getD, h1, h2] using this
    · intro h i _; rw [h]; simp
  rw [hall]
  cases decide (x = y) <;> simp
theorem eqSum {x y : List Nat} (hx : x.length = 32) (hy : y.length = 32) (w : World) : (binOp .eql 42 (.agg (sumC x)) (.agg (sumC y))).run Try.prog w = .ok (.bool (decide (x = y))) w := by
  rw [run_eql_struct, eqSum_in hx hy 9999 (fun a b w => by
    have := run_equalIn_int (P := Try.prog) w 9998 5 .u8 .u8 (a : Int) (b : Int) Try.underlying5
    unfold u8
    rw [this]
    congr 1
    rw [Bool.eq_iff_iff]; simp; omega) w]
  rfl
#print axioms eqSum
end Go.Proofs.Ytepkpkbgmchioaa
