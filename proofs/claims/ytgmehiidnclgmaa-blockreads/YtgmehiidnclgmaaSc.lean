/- Arrays of words and of bytes as the model has them. -/
import Derived.Test.YtgmehiidnclgmaaSb
import Derived.Laws.Rows
import Derived.Laws.CopyOwn
namespace Go.Proofs.Ytgmehiidnclgmaa
open Go.RowKit

def aW (n : Nat) (f : Nat → BitVec 32) : Array Value := Array.ofFn fun i : Fin n => Value.int .u32 (wv (f i.val))
def aB (n : Nat) (x : Nat → Nat) : Array Value := Array.ofFn fun i : Fin n => Value.int .u8 ((x i.val : Nat) : Int)
def zW : Nat → BitVec 32 := fun _ => 0
def zB : Nat → Nat := fun _ => 0
theorem wmod (x : BitVec 32) : wv x % 4294967296 = wv x := by have := wv_nonneg x; have := wv_lt x; omega
theorem wmodW (x : BitVec 32) : IntKind.u32.wrap (wv x) = wv x := by rw [IntKind.wrap_u32, wmod]
theorem aW_size (n : Nat) (f : Nat → BitVec 32) : (aW n f).size = n := by simp [aW]
theorem aB_size (n : Nat) (x : Nat → Nat) : (aB n x).size = n := by simp [aB]
theorem aW_get (n : Nat) (f : Nat → BitVec 32) (i : Nat) (h : i < n) : (aW n f)[i]? = some (.int .u32 (wv (f i))) := by simp [aW, h]
theorem aB_get (n : Nat) (x : Nat → Nat) (i : Nat) (h : i < n) : (aB n x)[i]? = some (.int .u8 ((x i : Nat) : Int)) := by simp [aB, h]
theorem aW_congr (n : Nat) {f g : Nat → BitVec 32} (h : ∀ i, i < n → f i = g i) : aW n f = aW n g := by
  unfold aW; congr 1; funext i; rw [h i.val i.isLt]
theorem aB_congr (n : Nat) {x y : Nat → Nat} (h : ∀ i, i < n → x i = y i) : aB n x = aB n y := by
  unfold aB; congr 1; funext i; rw [h i.val i.isLt]
def upW (f : Nat → BitVec 32) (k : Nat) (v : BitVec 32) (i : Nat) : BitVec 32 := if i = k then v else f i
def upB (x : Nat → Nat) (k : Nat) (v : Nat) (i : Nat) : Nat := if i = k then v else x i
theorem aW_elem (n : Nat) (f : Nat → BitVec 32) (i : Nat) (h : i < (aW n f).size) : (aW n f)[i] = .int .u32 (wv (f i)) := by simp [aW]
theorem aB_elem (n : Nat) (x : Nat → Nat) (i : Nat) (h : i < (aB n x).size) : (aB n x)[i] = .int .u8 ((x i : Nat) : Int) := by simp [aB]
theorem aW_set (n : Nat) (f : Nat → BitVec 32) (k : Nat) (v : BitVec 32) : (aW n f).setIfInBounds k (.int .u32 (wv v)) = aW n (upW f k v) := by
  apply Array.ext
  · simp [aW]
  · intro i h1 h2
    have hi : i < n := by simpa [aW] using h2
    rw [Array.getElem_setIfInBounds (by rw [aW_size]; omega)]
    rw [aW_elem, aW_elem]
    unfold upW
    by_cases e : i = k
    · rw [if_pos e.symm, if_pos e]
    · rw [if_neg (Ne.symm e), if_neg e]
theorem aB_set (n : Nat) (x : Nat → Nat) (k : Nat) (v : Nat) : (aB n x).setIfInBounds k (.int .u8 ((v : Nat) : Int)) = aB n (upB x k v) := by
  apply Array.ext
  · simp [aB]
  · intro i h1 h2
    have hi : i < n := by simpa [aB] using h2
    rw [Array.getElem_setIfInBounds (by rw [aB_size]; omega)]
    rw [aB_elem, aB_elem]
    unfold upB
    by_cases e : i = k
    · rw [if_pos e.symm, if_pos e]
    · rw [if_neg (Ne.symm e), if_neg e]
theorem aW_st (s : St) : aW 8 s.get = #[.int .u32 (wv s.a), .int .u32 (wv s.b), .int .u32 (wv s.c), .int .u32 (wv s.d), .int .u32 (wv s.e), .int .u32 (wv s.f), .int .u32 (wv s.g), .int .u32 (wv s.h)] := by
  apply Array.ext
  · simp [aW]
  · intro i h1 h2
    have hi : i < 8 := by simpa [aW] using h1
    simp only [aW, Array.getElem_ofFn]
    match i, hi with
    | 0, _ | 1, _ | 2, _ | 3, _ | 4, _ | 5, _ | 6, _ | 7, _ => rfl

theorem ret_row {P : Program} {fn : Func} {p : Tmp} {ty : TypeId} (h : fn.results = #[.cell p ty]) {R : Ending → World → Prop} {a : Act} {w : World} (g : Nat) (t : TypeId) (cs : Array Value) (fr : Nat × Nat) (d : TypeDesc)
    (hd0 : a.defers = []) (hp : a.tmps.getD p undef = .pointer (some ⟨g, 0, none⟩)) (hg : w.heap[g]? = some (.cells cs t fr)) (hu : P.underlying ty = some d)
    (hd : (match d with | .struct _ | .array _ _ => true | _ => false) = true) (hi : (P.info? ty).map (·.size) = some cs.size) (hR : R (.returned (.agg cs)) w) : bodyPost P fn R .ret a w :=
  ⟨hd0, _, results_cell_row h _ _ g t cs fr d hp hg hu hd hi, hR⟩

theorem wpList_alloc_row {P : Program} {ops : Array Oper} {rest : List Oper} {o : Oper} {a : Act} {w : World} {Q : Exit → Act → World → Prop} (hg : o.guard = none) (t : TypeId) (ho : o.op = .alloc t) (cs : Array Value)
    (hz : (P.info? t).map (·.zero) = some (some (.agg cs))) (h : wpList P ops Q rest (a.put o.dst (.pointer (some ⟨w.heap.size, 0, none⟩))) (w.alloc (.cells cs t))) : wpList P ops Q (o :: rest) a w := by
  refine wpList_plain hg fun _ hK => ?_
  cases hq : P.info? t with
  | none => simp [hq] at hz
  | some i =>
    have hz' : i.zero = some (.agg cs) := by simpa [hq] using hz
    unfold Oper.wp execOp
    simp only [ho, Instr.alloc, zeroValue, typeInfo, Sem.run_bind, newVar, newRow]
    simp [hq, hz', Value.cells]
    exact hK _ _ h
theorem wpList_build_to {P : Program} {ops : Array Oper} {rest : List Oper} {o : Oper} {a : Act} {w : World} {Q : Exit → Act → World → Prop} (hg : o.guard = none) (t : TypeId) (parts : Array (Nat × Operand)) (ho : o.op = .build t parts) (cs : Array Value)
    (hf : P.built t (parts.map fun (i, x) => (i, a.eval x)).toList = some cs) (h : wpList P ops Q rest (a.put o.dst (.agg cs)) w) : wpList P ops Q (o :: rest) a w :=
  wpList_build hg t parts ho (by rw [hf]; rfl) (by rw [hf]; exact h)

theorem firstWords_any (w : World) : Calls Try.prog 49 #[] w fun e w' => e = .returned (.agg (aW 8 st0.get)) ∧ Below w.heap.size w w' := by
  go_enter Try.func49, Try.ntmps49
  go_wp2
  refine ret_row rfl _ _ _ _ _ rfl rfl (heap_alloc_new _ _) Try.underlying75 rfl (by kernel_rfl) ⟨?_, (Below.refl _ _).alloc (by omega) _⟩
  rw [aW_st]; rfl
theorem begin_any (w : World) : Calls Try.prog 54 #[] w fun e w' => e = .returned (.agg (aW 8 st0.get)) ∧ Below w.heap.size w w' := by
  go_enter Try.func54, Try.ntmps54
  go_wp2
  refine ret_row rfl _ _ _ _ _ rfl rfl (heap_alloc_new _ _) Try.underlying74 rfl (by kernel_rfl) ⟨?_, (Below.refl _ _).alloc (by omega) _⟩
  rw [aW_st]; rfl
theorem aW_one (n : Nat) (f : Nat → BitVec 32) : (aW n f).all (·.oneCell') = true := by
  rw [Array.all_eq_true]; intro i h; rw [aW_elem]; rfl
theorem aB_one (n : Nat) (x : Nat → Nat) : (aB n x).all (·.oneCell') = true := by
  rw [Array.all_eq_true]; intro i h; rw [aB_elem]; rfl
theorem zero64 : (Try.prog.info? 85).map (·.zero) = some (some (.agg (aW 64 zW))) := by kernel_rfl
theorem size64 (f : Nat → BitVec 32) : (Try.prog.info? 85).map (·.size) = some (aW 64 f).size := by rw [aW_size]; kernel_rfl
theorem constants_any (w : World) : Calls Try.prog 64 #[] w fun e w' => e = .returned (.agg (aW 64 kk)) ∧ Below w.heap.size w w' := by
  go_enter Try.func64, Try.ntmps64
  go_wp2_with (first
    | refine wpList_alloc_row rfl 85 rfl _ zero64 ?_
    | refine wpList_build_to rfl 85 _ rfl (aW 64 kk) (by kernel_rfl) ?_
    | refine wpList_store_row rfl 85 _ _ rfl _ _ rfl rfl _ _ (heap_alloc_new _ _) (size64 _) (by rw [aW_size, aW_size]) (aW_one _ _) ?_)
  refine ret_row rfl _ _ _ _ _ rfl rfl (setRow_heap _ _ _ _ _ _ (heap_alloc_new _ _)) Try.underlying85 rfl (size64 _) ⟨rfl, below_setRow ((Below.refl _ _).alloc (by omega) _) (by omega) _⟩
theorem table_any (w : World) : Calls Try.prog 55 #[] w fun e w' => e = .returned (.agg (aW 64 kk)) ∧ Below w.heap.size w w' := by
  go_enter Try.func55, Try.ntmps55
  go_wp2_with (first
    | refine wpList_alloc_row rfl 85 rfl _ zero64 ?_
    | refine wpList_build_to rfl 85 _ rfl (aW 64 kk) (by kernel_rfl) ?_
    | refine wpList_store_row rfl 85 _ _ rfl _ _ rfl rfl _ _ (heap_alloc_new _ _) (size64 _) (by rw [aW_size, aW_size]) (aW_one _ _) ?_)
  refine ret_row rfl _ _ _ _ _ rfl rfl (setRow_heap _ _ _ _ _ _ (heap_alloc_new _ _)) Try.underlying85 rfl (size64 _) ⟨rfl, below_setRow ((Below.refl _ _).alloc (by omega) _) (by omega) _⟩

/-- A block holds just these cells, and may be written. -/
def CAt (w : World) (g : Nat) (cs : Array Value) (t : TypeId) : Prop := w.heap[g]? = some (.cells cs t (0, 0))
theorem CAt.lt {w : World} {g : Nat} {cs : Array Value} {t : TypeId} (h : CAt w g cs t) : g < w.heap.size := by
  rcases Nat.lt_or_ge g w.heap.size with h1 | h1
  · exact h1
  · unfold CAt at h; rw [Array.getElem?_eq_none h1] at h; cases h
theorem CAt.cellW {w : World} {g n : Nat} {t : TypeId} {f : Nat → BitVec 32} (h : CAt w g (aW n f) t) (i : Nat) (hi : i < n) : w.cell? ⟨g, i, none⟩ = some (.int .u32 (wv (f i))) := by
  rw [cell_of_row w g i _ _ _ h, aW_get n f i hi]
theorem CAt.cellB {w : World} {g n : Nat} {t : TypeId} {x : Nat → Nat} (h : CAt w g (aB n x) t) (i : Nat) (hi : i < n) : w.cell? ⟨g, i, none⟩ = some (.int .u8 ((x i : Nat) : Int)) := by
  rw [cell_of_row w g i _ _ _ h, aB_get n x i hi]
theorem CAt.free {w : World} {g : Nat} {cs : Array Value} {t : TypeId} (h : CAt w g cs t) (i : Nat) : w.frozen? ⟨g, i, none⟩ = false := by
  simp [World.frozen?, show w.heap[g]? = _ from h]
theorem CAt.setW {w : World} {g n : Nat} {t : TypeId} {f : Nat → BitVec 32} (h : CAt w g (aW n f) t) (i : Nat) (v : BitVec 32) : CAt (w.setCell ⟨g, i, none⟩ (.int .u32 (wv v))) g (aW n (upW f i v)) t := by
  have := heap_setCell_same w g i _ t (.int .u32 (wv v)) h
  rwa [aW_set] at this
theorem CAt.setB {w : World} {g n : Nat} {t : TypeId} {x : Nat → Nat} (h : CAt w g (aB n x) t) (i : Nat) (v : Nat) : CAt (w.setCell ⟨g, i, none⟩ (.int .u8 ((v : Nat) : Int))) g (aB n (upB x i v)) t := by
  have := heap_setCell_same w g i _ t (.int .u8 ((v : Nat) : Int)) h
  rwa [aB_set] at this
theorem CAt.other {w : World} {g : Nat} {cs : Array Value} {t : TypeId} (h : CAt w g cs t) (a : Addr) (v : Value) (hne : g ≠ a.block) : CAt (w.setCell a v) g cs t :=
  (heap_setCell_other w a g v hne).trans h
theorem CAt.alloc {w : World} {g : Nat} {cs : Array Value} {t : TypeId} (h : CAt w g cs t) (o : Obj) : CAt (w.alloc o) g cs t :=
  (Below.heap_alloc w o g h.lt).trans h
theorem CAt.new (w : World) (cs : Array Value) (t : TypeId) : CAt (w.alloc (.cells cs t)) w.heap.size cs t := heap_alloc_new _ _
theorem CAt.new' (w : World) (cs : Array Value) (t : TypeId) (H : Nat) (h : w.heap.size = H) : CAt (w.alloc (.cells cs t)) H cs t := h ▸ heap_alloc_new _ _
theorem CAt.row {w : World} {g : Nat} {old : Array Value} {t : TypeId} (h : CAt w g old t) (cs : Array Value) : CAt (w.setRow g cs) g cs t := setRow_heap w g old cs t _ h
theorem CAt.rowOther {w : World} {g k : Nat} {cs : Array Value} {t : TypeId} (h : CAt w g cs t) (c : Array Value) (hne : g ≠ k) : CAt (w.setRow k c) g cs t := (setRow_other w k g c hne).trans h
theorem CAt.below {B : Nat} {w w' : World} {g : Nat} {cs : Array Value} {t : TypeId} (h : CAt w g cs t) (hb : Below B w w') (hg : g < B) : CAt w' g cs t := (hb.block g hg).trans h
theorem CAt.drew {w : World} {g : Nat} {cs : Array Value} {t : TypeId} (h : CAt w g cs t) : CAt w.drew g cs t := h
theorem drewN_heap (w : World) : ∀ m, (w.drewN m).heap = w.heap
  | m => by simp
theorem CAt.drewN {w : World} {g : Nat} {cs : Array Value} {t : TypeId} (h : CAt w g cs t) (m : Nat) : CAt (w.drewN m) g cs t := by unfold CAt; rw [drewN_heap]; exact h
theorem CAt.congr {w : World} {g : Nat} {cs cs' : Array Value} {t : TypeId} (h : CAt w g cs t) (e : cs = cs') : CAt w g cs' t := e ▸ h
theorem Below.drewN' {B : Nat} {a w : World} (h : Below B a w) (m : Nat) : Below B a (w.drewN m) := by
  refine h.trans ⟨rfl, rfl, rfl, ?_, ?_⟩
  · rw [drewN_heap]; exact Nat.le_refl _
  · intro k _; rw [drewN_heap]
theorem run_index_row {P : Program} (t e : TypeId) (n : Nat) (cs : Array Value) (i : Nat) (v : Value) (hu : P.underlying t = some (.array n e)) (hi : i < n) (hv : cs[i]? = some v)
    (he : (P.info? e).map (·.size) = some 1) (ha : ∀ w, (isAgg e).run P w = .ok false w) (w : World) : (Instr.index t (.agg cs) (.int .i64 (i : Int))).run P w = .ok v w := by
  cases hq : P.info? e with
  | none => simp [hq] at he
  | some j =>
    have hs : j.size = 1 := by simpa [hq] using he
    have h1 : (0 : Int) ≤ (i : Int) ∧ (i : Int) < (n : Int) := by omega
    simp [Instr.index, run_underlying hu, asIntOf, h1, sizeOf, typeInfo, hq, hs, part, Sem.run_bind, ha, hv]
    intro hbad; omega
end Go.Proofs.Ytgmehiidnclgmaa
