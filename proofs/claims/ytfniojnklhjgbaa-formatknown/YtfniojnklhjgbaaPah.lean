/- Texts laid into one, cut to what is needed: the remark ahead of each part says what is proved there. -/
import Derived.Test.YtfniojnklhjgbaaPag
import Derived.Deep.Cut
import Derived.Test.YtfniojnklhjgbaaPaf
import Derived.Test.YtfniojnklhjgbaaPae
/- The document's numbers: rows of ints, and what is read. -/
namespace Go.Proofs.Ytfniojnklhjgbaa
open Go Go.RowKit

/-- So many numbers from the front. -/
def rdN : Nat → List Nat → Option (List Nat × List Nat)
  | 0, b => some ([], b)
  | n + 1, b => (rdU b).bind fun q => (rdN n q.2).map fun r => (q.1 :: r.1, r.2)
def pairs : List Nat → Ps
  | a :: b :: r => ((a : Int), (b : Int)) :: pairs r
  | _ => []
/-- What is read so far, and what then. -/
def NAcc (n : Nat) (c : List Nat) (k : Nat) (xs : List Nat) (d : List Nat) : Prop := xs.length = k ∧ rdN n c = (rdN (n - k) d).map fun q => (xs ++ q.1, q.2)
theorem NAcc.start (n : Nat) (c : List Nat) : NAcc n c 0 [] c := ⟨rfl, by simp⟩
theorem NAcc.last {n : Nat} {c d xs : List Nat} (h : NAcc n c n xs d) : rdN n c = some (xs, d) := by
  have h2 := h.2
  rw [Nat.sub_self] at h2
  rw [h2]; simp [rdN]
/-- Ints in a row of their own. -/
def IBuf (B : Nat) (w : World) (v : Value) (xs : List Nat) : Prop := w.ownsRow B 3 1 v xs.length (xs.map fun n : Nat => i64 n)
theorem Try.infoI : (Try.prog.info? 3).map (fun i => (i.zero, i.size, i.bytes)) = some (some (.int .i64 0), 1, 8) := by kernel_rfl
theorem IBuf.nil (B : Nat) (w : World) : IBuf B w (.slice none 0 0) [] := World.ownsRow_nil w B 3 1
theorem IBuf.keep {B : Nat} {w w' : World} {v : Value} {xs : List Nat} (h : IBuf B w v xs) (hk : ∀ b, v.ownBlock = some b → w'.heap[b]? = w.heap[b]?) : IBuf B w' v xs := ownsRow_keep h hk
theorem IBuf.below {B : Nat} {w w' : World} {v : Value} {xs : List Nat} (h : IBuf B w v xs) (hb : Below w.heap.size w w') : IBuf B w' v xs := h.keep fun b e => hb.block b (own_ge h b e).2
theorem IBuf.push {B : Nat} {w : World} {v : Value} {xs : List Nat} (h : IBuf B w v xs) (x : Nat) (hn : xs.length ≤ 1000000) (hB : B ≤ w.heap.size) :
    ∃ v' w', (Builtin.append_ #[43, 43] 43 #[v, .slice (some ⟨w.heap.size, 0, none⟩) 1 1]).run Try.prog (w.alloc (.cells #[i64 x] 3)) = .ok v' w' ∧ IBuf B w' v' (xs ++ [x]) ∧ (w.alloc (.cells #[i64 x] 3)).grownBy w' v.ownBlock := by
  obtain ⟨i0, hi0, hz0, hz1, hz2⟩ := info_parts Try.infoI
  have h2 : (w.alloc (.cells #[i64 x] 3)).ownsRow B 3 1 v xs.length (xs.map fun n : Nat => i64 n) := h.alloc _
  have hc : CAt (w.alloc (.cells #[i64 x] 3)) w.heap.size #[i64 x] 3 := CAt.made w _ _
  obtain ⟨v', w', hr, h3, h4, _, _⟩ := run_append_own_at (P := Try.prog) (w.alloc (.cells #[i64 x] 3)) B 43 43 3 i0 _ 1 8 Try.underlying43 hi0 hz0 hz1 hz2 rfl (by decide) v xs.length _ h2 ⟨w.heap.size, 0, none⟩ 1 1 [i64 x] rfl (fun j u hj => by
      rw [add_none, Nat.zero_add, hc.cell]
      rcases j with _ | j
      · simpa using hj
      · simp at hj) (by intro u hu; simp at hu; rw [hu]; rfl) (by unfold maxLen; omega) (by omega) (by rw [size_al]; omega)
  refine ⟨v', w', hr, ?_, h4⟩
  unfold IBuf
  rw [show (xs ++ [x]).map (fun n : Nat => i64 n) = xs.map (fun n : Nat => i64 n) ++ [i64 x] by simp]
  simpa using h3
end Go.Proofs.Ytfniojnklhjgbaa

/- The document's ReadUint, and where the rest lies. -/
namespace Go.Proofs.Ytfniojnklhjgbaa
open Go Go.RowKit

/-- Bytes in the block that p leads to. -/
def SLn (p : Option Addr) (w : World) (v : Value) (r : List Nat) : Prop := SL w v r ∧ ∀ a n c, v = .slice (some a) n c → ∃ a', p = some a' ∧ a.block = a'.block
theorem SLn.below {p : Option Addr} {w w' : World} {v : Value} {r : List Nat} (h : SLn p w v r) (hb : Below w.heap.size w w') : SLn p w' v r := ⟨h.1.below hb, h.2⟩
/- behind rReadUint_near -/
end Go.Proofs.Ytfniojnklhjgbaa

/- The document's numbers. -/
namespace Go.Proofs.Ytfniojnklhjgbaa
open Go Go.RowKit

theorem SLn.far {po : Option Addr} {w w' : World} {v : Value} {d : List Nat} {S : Nat → Prop} {B : Nat} (h : SLn po w v d) (hP : d ≠ [] → ∀ a, po = some a → a.block < B) (ho : Only S w w') (hS : ∀ i, S i → B ≤ i) : SLn po w' v d := by
  obtain ⟨⟨p, c, rfl, hb, hc⟩, hn⟩ := h
  refine ⟨⟨p, c, rfl, hb.onlyAt ho (fun hne a ha e => ?_), hc⟩, hn⟩
  obtain ⟨a', h1, h2⟩ := hn a _ _ (by rw [ha])
  have := hP hne a' h1
  have := hS _ e
  omega
end Go.Proofs.Ytfniojnklhjgbaa

/- records: two lists of records. -/
namespace Go.Proofs.Ytfniojnklhjgbaa
open Go Go.RowKit

theorem RL.where {w : World} {v : Value} {l : List Rp} (h : RL w v l) {i : Nat} {x : Rp} (hx : l[i]? = some x) : ∃ b o c, v = .slice (some ⟨b, o, none⟩) l.length c ∧ l.length ≤ c ∧ RCells w b o l := by
  obtain ⟨po, c, h1, h2, _, _, h3, _⟩ := h
  rcases h3 with h3 | ⟨b, o, rfl, h3⟩
  · rw [h3] at hx; cases hx
  · exact ⟨b, o, c, h1, h2, h3⟩
theorem RCells.below {w w' : World} {b o : Nat} {l : List Rp} (h : RCells w b o l) (hb : Below w.heap.size w w') : RCells w' b o l := h.keep fun a ha => World.cell?_of_block (hb.block a.block (cell_lt' ha))

end Go.Proofs.Ytfniojnklhjgbaa

/- Journals that came in. -/
namespace Go.Proofs.Ytfniojnklhjgbaa
open Go Go.RowKit

/-- What is told of a record that came in. -/
structure IsP (w : World) (x : Rp) : Prop where
  sl : x.r.sum.length = 32
  s8 : ∀ z ∈ x.r.sum, z < 256
  parts : ∃ (po : Option Addr) (c : Nat), x.r.pv = .slice po x.ps.length c ∧ x.ps.length ≤ c ∧ (po = none → c = 0) ∧ (x.ps = [] ∨ ∃ b o, po = some ⟨b, o, none⟩ ∧ PCells w b o x.ps)
/-- The slice v, which came in, leads to the records l. -/
def IsJ (w : World) (v : Value) (l : List Rp) : Prop := ∃ po c, v = .slice po l.length c ∧ l.length ≤ c ∧ c ≤ maxLen ∧ (po = none → c = 0) ∧ (l = [] ∨ ∃ b o, po = some ⟨b, o, none⟩ ∧ RCells w b o l) ∧ ∀ x ∈ l, IsP w x
theorem IsP.keep {w w' : World} {x : Rp} (h : IsP w x) (hk : ∀ a, w.cell? a ≠ none → w'.cell? a = w.cell? a) : IsP w' x := by
  refine ⟨h.sl, h.s8, ?_⟩
  obtain ⟨po, c, h1, h2, h3, h⟩ := h.parts
  refine ⟨po, c, h1, h2, h3, ?_⟩
  rcases h with h | ⟨b, o, hp, h⟩
  · exact Or.inl h
  · exact Or.inr ⟨b, o, hp, fun i hi => ⟨(hk _ (by rw [(h i hi).1]; simp)).trans (h i hi).1, (hk _ (by rw [(h i hi).2]; simp)).trans (h i hi).2⟩⟩
theorem IsJ.keep {w w' : World} {v : Value} {l : List Rp} (h : IsJ w v l) (hk : ∀ a, w.cell? a ≠ none → w'.cell? a = w.cell? a) : IsJ w' v l := by
  obtain ⟨po, c, h1, h2, h3, h4, h5, h6⟩ := h
  refine ⟨po, c, h1, h2, h3, h4, ?_, fun x hx => (h6 x hx).keep hk⟩
  rcases h5 with h | ⟨b, o, hp, h⟩
  · exact Or.inl h
  · exact Or.inr ⟨b, o, hp, h.keep hk⟩
theorem IsJ.below {w w' : World} {v : Value} {l : List Rp} (h : IsJ w v l) (hb : Below w.heap.size w w') : IsJ w' v l :=
  h.keep fun a ha => World.cell?_of_block (hb.block a.block (cell_lt' ha))
/-- Is a record more than is gone through? -/
def bigP (x : Rp) : Bool := decide (100 < x.ps.length) || decide (1000 < x.r.id.size) || decide (1000 < x.r.etag.size) || decide (1000 < x.r.data.size) || decide (1000 < x.r.up.size)
theorem IsP.ok {w : World} {x : Rp} (h : IsP w x) (hb : bigP x = false) : RpOk w x := by
  simp only [bigP, Bool.or_eq_false_iff, decide_eq_false_iff_not] at hb
  obtain ⟨⟨⟨⟨b1, b2⟩, b3⟩, b4⟩, b5⟩ := hb
  obtain ⟨po, c, h1, h2, h3, h4⟩ := h.parts
  exact ⟨⟨h.sl, h.s8, by omega, by omega, by omega, by omega⟩, ⟨po, c, h1, h2, by omega, h4⟩, fun n k e => by rw [h1] at e; cases e; exact h3 rfl⟩
section
variable {H : Type} {enc : TypeId × Value → H} {w : World} {held : Bool} {fuel : Nat}
end

end Go.Proofs.Ytfniojnklhjgbaa

/- The chapter's journal, reckoned. -/
namespace Go.Proofs.Ytfniojnklhjgbaa
open Go

/-- The mark null at a moment. -/
def mkN (t : Int) : Rc := ⟨[110, 117, 108, 108], t, true, 0, [], 0, 0, [], zeroD, [], []⟩
theorem zero_add : addJ ⟨0, []⟩ (mkN 1) = (0, some ⟨1, [mkN 1]⟩) := by decide +kernel
end Go.Proofs.Ytfniojnklhjgbaa

/- JournalKnown. -/
namespace Go.Proofs.Ytfniojnklhjgbaa
open Go Go.RowKit

theorem Buf.set {B : Nat} {w : World} {po : Option Addr} {n c : Nat} {L : List Nat} (h : Buf B w (.slice po n c) L) {i : Nat} (hi : i < L.length) (k : Nat) : ∃ g, po = some ⟨g, 0, none⟩ ∧ B ≤ g ∧ w.cell? ⟨g, i, none⟩ = some (u8 (L.getD i 0)) ∧ w.frozen? ⟨g, i, none⟩ = false ∧ Buf B (w.setCell ⟨g, i, none⟩ (u8 k)) (.slice po n c) (L.set i k) := by
  rcases h.2 with ⟨e, h0⟩ | ⟨g, cap, cur, e, hB, hg, h1, hm, h3, h4⟩
  · omega
  cases e
  have hc : CAt w g cur 5 := hg
  refine ⟨g, rfl, hB, ?_, hc.free _, by simp, Or.inr ⟨g, c, _, by rw [List.length_set], hB, hc.set i (u8 k), by rw [List.length_set]; exact h1, hm, by simp; omega, ?_⟩⟩
  · have := congrArg (·[i]?) h4
    simp [hi] at this
    rw [hc.cell, this]
    simp [u8, List.getD, List.getElem?_eq_getElem hi]
  · rw [Array.toList_setIfInBounds, List.length_set, List.take_set, h4, List.map_set]
end Go.Proofs.Ytfniojnklhjgbaa

/- JournalBack: what is carried; early ends. -/
namespace Go.Proofs.Ytfniojnklhjgbaa
open Go Go.RowKit

theorem Buf.room {B : Nat} {w : World} {n c : Nat} {L : List Nat} (h : Buf B w (.slice none n c) L) : c = 0 := by
  rcases h.2 with ⟨e, h0⟩ | ⟨g, cap, cur, e, _⟩
  · cases e; rfl
  · cases e
theorem IsJ.form {w : World} {v : Value} {l : List Rp} (h : IsJ w v l) : ∃ p n c, v = .slice p n c := by obtain ⟨p, c, e, _⟩ := h; exact ⟨p, _, c, e⟩

end Go.Proofs.Ytfniojnklhjgbaa

/- Formats in memory: made, stored, loaded, answered. -/
namespace Go.Proofs.Ytfniojnklhjgbaa
open Go Go.RowKit

abbrev zF : FmV := ⟨0, 0, 0, 0, 0⟩
theorem sizeF : (Try.prog.info? 23).map (·.size) = some 5 := by kernel_rfl
theorem zeroF : (Try.prog.info? 23).map (·.zero) = some (some (.agg zF.cs)) := by kernel_rfl
theorem underF : Try.prog.underlying 23 = some (.struct (Try.prog.fieldsOf 23)) := by kernel_rfl
theorem builtZF : Try.prog.built 23 [] = some zF.cs := by kernel_rfl
theorem fm_size (f : FmV) : f.cs.size = 5 := rfl
theorem wpList_allocF {ops : Array Oper} {rest : List Oper} {o : Oper} {a : Act} {w : World} {Q : Exit → Act → World → Prop} (hg : o.guard = none) (ho : o.op = .alloc 23)
    (h : ∀ w1 g, CAt w1 g zF.cs 23 → Below w.heap.size w w1 → w.heap.size = g → wpList Try.prog ops Q rest (a.put o.dst (ptr g)) w1) : wpList Try.prog ops Q (o :: rest) a w := by
  refine wpList_plain hg fun _ hK => ?_
  obtain ⟨i, hq, hz'⟩ := Option.map_eq_some_iff.1 zeroF
  unfold Oper.wp execOp
  simp only [ho, Instr.alloc, zeroValue, typeInfo, Sem.run_bind, newVar, newRow]
  generalize FmV.cs zF = C at h hz'
  simp [hq, hz', Value.cells]
  exact hK _ _ (h _ _ (CAt.made _ _ _) (below_al _ _) rfl)
theorem run_storeF {w : World} {g : Nat} {f0 f : FmV} (hb : CAt w g f0.cs 23) : (Instr.storeAt 23 (.pointer (some ⟨g, 0, none⟩)) (.agg f.cs)).run Try.prog w = .ok () (w.setRow g f.cs) ∧ CAt (w.setRow g f.cs) g f.cs 23 := by
  have e := run_storeVar_row (P := Try.prog) w g 23 23 f0.cs f.cs hb (by rw [fm_size]; exact sizeF) rfl (by simp [FmV.cs, Value.oneCell'])
  refine ⟨?_, setRow_heap w g f0.cs f.cs _ _ hb⟩
  simp only [Instr.storeAt, Instr.sureAddr, Sem.run_bind, Sem.run_pure, Result.andThen_ok, e]
theorem wpList_storeF {ops : Array Oper} {rest : List Oper} {o : Oper} {a : Act} {w : World} {Q : Exit → Act → World → Prop} (hg : o.guard = none) (hdst : o.dst = none) (x y : Operand) (ho : o.op = .store 23 x y) (g : Nat) (hx : a.eval x = ptr g) {f0 f : FmV} (hy : a.eval y = .agg f.cs) (hb : CAt w g f0.cs 23)
    (h : ∀ w1, CAt w1 g f.cs 23 → Only (fun b => b = g) w w1 → wpList Try.prog ops Q rest a w1) : wpList Try.prog ops Q (o :: rest) a w := by
  refine wpList_plain hg fun _ hK => ?_
  obtain ⟨e1, e2⟩ := run_storeF (f := f) hb
  unfold Oper.wp execOp
  simp only [ho, hx, hy, ptr, Sem.run_bind, e1, Result.andThen_ok, Sem.run_pure]
  refine hK (a.put o.dst undef) _ ?_
  rw [hdst]
  exact h _ e2 (only_setRow _ _ _ rfl)
theorem ret_rowF2 {fn : Func} {q u : Tmp} (h : fn.results = #[.cell q 23, .tmp u]) {R : Ending → World → Prop} {a : Act} {w : World} (g : Nat) {f : FmV} {x : Value}
    (hd0 : a.defers = []) (hp : a.tmps.getD q undef = .pointer (some ⟨g, 0, none⟩)) (hx : a.tmps.getD u undef = x) (hb : CAt w g f.cs 23) (hR : R (.returned (.tuple #[.agg f.cs, x])) w) : bodyPost Try.prog fn R .ret a w := by
  refine ⟨hd0, .tuple #[.agg f.cs, x], ?_, hR⟩
  have hl := run_loadVar_row (P := Try.prog) w g 23 23 f.cs (0, 0) _ hb underF rfl (by rw [fm_size]; exact sizeF)
  simp only [results, h]
  simp only [Array.getD_eq_getD_getElem?] at hp hx
  simp [Result.andThen, hp, hx, asAddr, hl]
theorem wpList_loadF {ops : Array Oper} {rest : List Oper} {o : Oper} {a : Act} {w : World} {Q : Exit → Act → World → Prop} (hg : o.guard = none) (x : Operand) (ho : o.op = .load 23 x) (g : Nat) (hx : a.eval x = ptr g) {f : FmV} (hb : CAt w g f.cs 23)
    (h : wpList Try.prog ops Q rest (a.put o.dst (.agg f.cs)) w) : wpList Try.prog ops Q (o :: rest) a w :=
  wpList_load_at 23 x ho (by simp [Region.wanted, hg]) g 0 hx f.cs _ (fun j v hj => by rw [Nat.zero_add, hb.cell]; exact hj) underF rfl (by rw [fm_size]; exact sizeF) h
theorem step_run_valF {P : Program} {w : World} {ops : Array Oper} {o : Oper} {a : Act} {K : Act → World → Prop} {Q : Exit → Act → World → Prop} {E : Prop} (hgd : o.guard = none) (v : Value) (w' : World)
    (hr : (execOp a.eval o).run P w = .ok (.value v) w') (h : K (a.put o.dst v) w') : if Region.wanted o (yielded ops a.tmps) = true then Oper.wp P o a w K Q else E := by
  rw [if_pos (by simp [Region.wanted, hgd])]
  unfold Oper.wp
  rw [hr]
  exact h
theorem exec_allocF {a : Act} {o : Oper} {W : World} (ho : o.op = .alloc 23) : (execOp a.eval o).run Try.prog W = .ok (.value (ptr W.heap.size)) (W.alloc (.cells zF.cs 23)) := by
  obtain ⟨i, hq, hz'⟩ := Option.map_eq_some_iff.1 zeroF
  unfold execOp
  simp only [ho, Instr.alloc, zeroValue, typeInfo, Sem.run_bind, newVar, newRow]
  generalize FmV.cs zF = C at hz'
  simp [hq, hz', Value.cells]
theorem step_storeFm {w : World} {ops : Array Oper} {o : Oper} {a : Act} {K : Act → World → Prop} {Q : Exit → Act → World → Prop} {E : Prop} (hgd : o.guard = none) (hdst : o.dst = none) (x y : Operand) (ho : o.op = .store 23 x y) (g : Nat) (hx : a.eval x = ptr g) {f0 f : FmV} (hy : a.eval y = .agg f.cs) (hb : CAt w g f0.cs 23)
    (h : ∀ w1, CAt w1 g f.cs 23 → Only (fun b => b = g) w w1 → K a w1) : if Region.wanted o (yielded ops a.tmps) = true then Oper.wp Try.prog o a w K Q else E := by
  obtain ⟨e1, e2⟩ := run_storeF (f := f) hb
  rw [if_pos (by simp [Region.wanted, hgd])]
  unfold Oper.wp execOp
  simp only [ho, hx, hy, ptr, Sem.run_bind, e1, Result.andThen_ok, Sem.run_pure]
  show K (a.put o.dst undef) _
  rw [hdst]
  exact h _ e2 (only_setRow _ _ _ rfl)
theorem BL.c8 {W : World} {b o i : Nat} {L : List Nat} (h : BL W (some ⟨b, o, none⟩) L) (hi : i < L.length) : W.cell? ⟨b, o + i, none⟩ = some (u8 (L.getD i 0)) := by
  rcases h with h | ⟨b', o', e, h⟩
  · rw [h] at hi; cases hi
  · cases e; exact h i hi
/-- Do they begin with SF1? -/
theorem sigF {L : List Nat} (h8 : ∀ z ∈ L, z < 256) : ((ba (L.take 3)).toList == ([83, 70, 49] : List UInt8)) = decide (L.take 3 = [83, 70, 49]) := by
  have e : (⟨#[83, 70, 49]⟩ : ByteArray) = ba [83, 70, 49] := by decide +kernel
  rw [show ([83, 70, 49] : List UInt8) = (⟨#[83, 70, 49]⟩ : ByteArray).toList by decide +kernel, e]
  exact lst_eq_ba (fun z hz => h8 z (List.mem_of_mem_take hz)) (by decide)
end Go.Proofs.Ytfniojnklhjgbaa
