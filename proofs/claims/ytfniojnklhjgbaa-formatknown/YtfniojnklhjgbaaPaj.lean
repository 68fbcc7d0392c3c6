/- Texts laid into one, cut to what is needed: the remark ahead of each part says what is proved there. -/
import Derived.Test.YtfniojnklhjgbaaPai
import Derived.Test.YtfniojnklhjgbaaPag
import Derived.Great.BuildSlice
import Derived.Test.YtfniojnklhjgbaaPah
import Derived.Test.YtfniojnklhjgbaaPab
import Derived.RangeFuncNested
import Derived.RangeFuncBound
import Derived.RangeFuncCalls
import Derived.RangeFuncLeaves
import Derived.OrdersIn
import Derived.TacticsIn
import Derived.Test.YtfniojnklhjgbaaPad
import Derived.Shelf.Abstract
import Derived.WalkKit
import Derived.OwnWalkIn
import Derived.TacticsInMore
import Derived.LoopNIn
import Derived.LoopIn
import Derived.Test.YtfniojnklhjgbaaProg
import Derived.Test.YtfniojnklhjgbaaPae
import Derived.Laws.OwnMore
import Derived.BigQuiet
import Derived.ChangeKeysEq
import Derived.Laws.StructEq
import Derived.Scope
/- The document's Read of a format, for all bytes. -/
namespace Go.Proofs.Ytfniojnklhjgbaa
open Go Go.RowKit

/-- What Read answers, the program's and the document's. -/
def RdFm (w : World) (L : List Nat) (e : Ending) (w' : World) : Prop := e = .returned (.tuple #[.agg (rdFv L).cs, .int .i64 (rdFe L : Int)]) ∧ Below w.heap.size w w'
theorem rread14_any (po : Option Addr) (c : Nat) (L : List Nat) (w : World) (h : BL w po L) (hc : L.length ≤ c) (hn : L.length ≤ 100000) (h8 : ∀ z ∈ L, z < 256) : Calls Try.prog 12 #[.slice po L.length c] w (RdFm w L) := by
  unfold RdFm
  by_cases h40 : L.length = 40
  · by_cases h3 : L.take 3 = [83, 70, 49]
    · by_cases hq : dig (L.take 8) = L.drop 8
      · cases hok : okFm (fmG L) with
        | false =>
          have e : rdFe L = 4 := by unfold rdFe; rw [if_neg (by rw [h40, h3]; simp), if_neg (by simp [hq]), hok, if_neg (by decide)]
          unfold rdFv
          rw [e, if_neg (by decide)]
          exact rread14_b po c L w h hc h8 h40 h3 hq hok
        | true =>
          have e : rdFe L = 0 := by unfold rdFe; rw [if_neg (by rw [h40, h3]; simp), if_neg (by simp [hq]), hok, if_pos rfl]
          unfold rdFv
          rw [e, if_pos rfl]
          exact rread14_k po c L w h hc h8 h40 h3 hq hok
      · have e : rdFe L = 14 := by unfold rdFe; rw [if_neg (by rw [h40, h3]; simp), if_pos hq]
        unfold rdFv
        rw [e, if_neg (by decide)]
        exact rread14_d po c L w h hc h8 h40 h3 hq
    · have e : rdFe L = 4 := by unfold rdFe; rw [if_pos (.inr h3)]
      unfold rdFv
      rw [e, if_neg (by decide)]
      exact rread14_s po c L w h hc h8 h40 h3
  · have e : rdFe L = 4 := rd_len h40
    unfold rdFv
    rw [e, if_neg (by decide)]
    exact rread14_n po L.length c w hn h40
end Go.Proofs.Ytfniojnklhjgbaa

/- Rows of small structs in memory of one's own: what is appended to them; literals of one struct. -/
namespace Go.Proofs.Ytfniojnklhjgbaa
open Go Go.RowKit

/-- Rows of k cells each, in a row of one's own. -/
def XB (t : TypeId) (k B : Nat) (w : World) (v : Value) (R : List (List Value)) : Prop := w.ownsRow B t k v R.length R.flatten
theorem XB.nil (t : TypeId) (k B : Nat) (w : World) : XB t k B w (.slice none 0 0) [] := World.ownsRow_nil w B t k
theorem XB.form {t : TypeId} {k B : Nat} {w : World} {v : Value} {R : List (List Value)} (h : XB t k B w v R) : ∃ po c, v = .slice po R.length c ∧ R.length ≤ c ∧ (po = none → c = 0) := by
  rcases h.2 with ⟨rfl, h0⟩ | ⟨g, cap, cur, rfl, _, _, h1, _⟩
  · exact ⟨none, 0, by rw [h0], by omega, fun _ => rfl⟩
  · exact ⟨_, cap, rfl, h1, fun e => by cases e⟩
theorem XB.keep {t : TypeId} {k B : Nat} {w w' : World} {v : Value} {R : List (List Value)} (h : XB t k B w v R) (hk : ∀ b, v.ownBlock = some b → w'.heap[b]? = w.heap[b]?) : XB t k B w' v R := ownsRow_keep h hk
theorem XB.below {t : TypeId} {k B : Nat} {w w' : World} {v : Value} {R : List (List Value)} (h : XB t k B w v R) (hb : Below w.heap.size w w') : XB t k B w' v R := h.keep fun b hv => hb.block b (own_ge h b hv).2
theorem XB.base {t : TypeId} {k B C : Nat} {w : World} {v : Value} {R : List (List Value)} (h : XB t k B w v R) (hC : C ≤ B) : XB t k C w v R := own_base h hC
theorem flat_get {k : Nat} : ∀ {R : List (List Value)}, (∀ r ∈ R, r.length = k) → ∀ {i : Nat} {r : List Value}, R[i]? = some r → ∀ {j : Nat}, j < k → R.flatten[i * k + j]? = r[j]?
  | [], _, i, r, e, j, _ => by simp at e
  | y :: l, h, 0, r, e, j, hj => by
    simp at e
    subst e
    rw [List.flatten_cons, Nat.zero_mul, Nat.zero_add, List.getElem?_append_left (by rw [h y (by simp)]; exact hj)]
  | y :: l, h, i + 1, r, e, j, hj => by
    rw [List.flatten_cons, List.getElem?_append_right (by rw [h y (by simp), Nat.add_mul]; omega), h y (by simp), show (i + 1) * k + j - k = i * k + j by rw [Nat.add_mul]; omega]
    exact flat_get (R := l) (fun z hz => h z (by simp [hz])) (by simpa using e) hj
theorem flat_len {k : Nat} : ∀ {R : List (List Value)}, (∀ r ∈ R, r.length = k) → R.flatten.length = R.length * k
  | [], _ => by simp
  | y :: l, h => by
    rw [List.flatten_cons, List.length_append, h y (by simp), flat_len (R := l) (fun z hz => h z (by simp [hz])), List.length_cons, Nat.add_mul]; omega
theorem XB.cells {t : TypeId} {k B : Nat} {w : World} {v : Value} {R : List (List Value)} (h : XB t k B w v R) (hR : ∀ r ∈ R, r.length = k) (hne : 0 < R.length) :
    ∃ g c, v = .slice (some ⟨g, 0, none⟩) R.length c ∧ R.length ≤ c ∧ B ≤ g ∧ g < w.heap.size ∧ ∀ i r, R[i]? = some r → ∀ j u, r[j]? = some u → w.cell? ⟨g, 0 + i * k + j, none⟩ = some u := by
  rcases h.2 with ⟨rfl, h0⟩ | ⟨g, cap, cur, rfl, hB, hg, h1, _, h3, h4⟩
  · omega
  have hc : CAt w g cur t := hg
  refine ⟨g, cap, rfl, h1, hB, hc.lt, fun i r hr j u hu => ?_⟩
  have hj : j < k := by
    rcases Nat.lt_or_ge j k with q | q
    · exact q
    · rw [List.getElem?_eq_none (by rw [hR r (List.mem_of_getElem? hr)]; exact q)] at hu; cases hu
  have e := flat_get hR hr hj
  rw [← h4, hu] at e
  rw [Nat.zero_add, hc.cell]
  have hi : i * k + j < R.length * k := by
    have h5 : i < R.length := (List.getElem?_eq_some_iff.1 hr).1
    calc i * k + j < i * k + k := by omega
      _ = (i + 1) * k := by rw [Nat.add_mul]; omega
      _ ≤ R.length * k := Nat.mul_le_mul_right k h5
  rw [List.getElem?_take, if_pos hi] at e
  simpa using e
theorem flat_one {R : List (List Value)} (h : ∀ r ∈ R, ∀ u ∈ r, u.oneCell' = true) : ∀ u ∈ R.flatten, u.oneCell' = true := fun u hu => by
  obtain ⟨r, hr, hu⟩ := List.mem_flatten.1 hu
  exact h r hr u hu
/-- append(v, s...), the rows anywhere. -/
theorem XB.app {t T ty : TypeId} {k B bytes : Nat} {z : Value} {w : World} {v : Value} {R : List (List Value)} (hv : XB t k B w v R) (hT : Try.prog.underlying T = some (.slice t)) (hi : (Try.prog.info? t).map (fun i => (i.zero, i.size, i.bytes)) = some (some z, k, bytes)) (hz : z.cells.size = k) (hk : 0 < k)
    (b o c : Nat) (S : List (List Value)) (hS : ∀ r ∈ S, r.length = k) (h1 : ∀ r ∈ S, ∀ u ∈ r, u.oneCell' = true) (hc : ∀ i r, S[i]? = some r → ∀ j u, r[j]? = some u → w.cell? ⟨b, o + i * k + j, none⟩ = some u) (hn : R.length + S.length ≤ 100000) (hby : bytes ≤ 1000) (hB : B ≤ w.heap.size) :
    ∃ v' w', (Builtin.append_ #[T, T] ty #[v, .slice (some ⟨b, o, none⟩) S.length c]).run Try.prog w = .ok v' w' ∧ XB t k B w' v' (R ++ S) ∧ w.grownBy w' v.ownBlock ∧ (v'.ownBlock = v.ownBlock ∨ v'.ownBlock = some w.heap.size) := by
  obtain ⟨i0, hi0, hz0, hz1, hz2⟩ := info_parts hi
  obtain ⟨v', w', hr, h3, h4, _, h5⟩ := run_append_own_at (P := Try.prog) w B T ty t i0 z k bytes hT hi0 hz0 hz1 hz2 hz hk v R.length R.flatten hv ⟨b, o, none⟩ S.length c S.flatten (flat_len hS) (fun j u hj => by
      rw [add_none]
      have hlt : j < S.length * k := by
        rcases Nat.lt_or_ge j (S.length * k) with q | q
        · exact q
        · rw [List.getElem?_eq_none (by rw [flat_len hS]; exact q)] at hj; cases hj
      have hik : j / k < S.length := (Nat.div_lt_iff_lt_mul hk).2 hlt
      have hjk : j % k < k := Nat.mod_lt _ hk
      have e := flat_get hS (List.getElem?_eq_getElem hik) hjk
      rw [show j / k * k + j % k = j by rw [Nat.mul_comm]; exact Nat.div_add_mod j k] at e
      rw [hj] at e
      have := hc (j / k) S[j / k] (List.getElem?_eq_getElem hik) (j % k) u e.symm
      rwa [show o + j / k * k + j % k = o + j by rw [Nat.add_assoc, show j / k * k + j % k = j by rw [Nat.mul_comm]; exact Nat.div_add_mod j k]] at this) (flat_one h1) (by unfold maxLen; omega)
      (Nat.le_trans (Nat.mul_le_mul hn hby) (by decide)) hB
  refine ⟨v', w', hr, ?_, h4, h5⟩
  unfold XB
  rw [List.length_append, List.flatten_append]
  exact h3
/-- A slice literal of one struct. -/
theorem fill_oneX (k : Nat) (C V : Array Value) (hC : C.size = k) (hV : V.size = k) : Instr.fill (fun i => some (i * k, k)) C [(0, .agg V)] = some V := by
  have h2 : ¬ (0 * k + V.size > C.size) := by omega
  simp only [Instr.fill, Value.cells, hV, ne_eq, not_true_eq_false, decide_false, Bool.false_or, decide_eq_true_eq]
  rw [if_neg (by omega)]
  congr 1
  apply Array.toList_inj.1
  rw [← Array.foldl_toList, Array.toList_zipIdx]
  have e := fold_zip V.toList 0 C
  simp only [Nat.zero_mul, Nat.zero_add]
  refine Eq.trans ?_ (e.trans ?_)
  · rfl
  · rw [setAll_splice (by simp [hC, hV]), List.take_zero, List.nil_append, Nat.zero_add, List.drop_of_length_le (by simp [hC, hV]), List.append_nil]
theorem run_buildX {t T : TypeId} {k bytes : Nat} {z : Value} (hT : Try.prog.underlying T = some (.slice t)) (hi : (Try.prog.info? t).map (fun i => (i.zero, i.size, i.bytes)) = some (some z, k, bytes)) (hk : 0 < k) (hk2 : k ≤ 1000) (w : World) (cs : Array Value) (hs : cs.size = k) : (Instr.buildSlice T 1 #[(0, .agg cs)]).run Try.prog w = .ok (.slice (some ⟨w.heap.size, 0, none⟩) 1 1) (w.alloc (.cells cs t)) := by
  obtain ⟨i0, hi0, hz0, hz1, hz2⟩ := info_parts hi
  refine run_buildSlice w T t 1 _ cs i0 z hT hi0 hz0 (by rw [hz1]; omega) (by rw [hz1]; omega) ?_
  rw [hz1]
  exact fill_oneX k _ _ (by simp) hs
theorem wpList_buildX {t T : TypeId} {k bytes : Nat} {z : Value} (hT : Try.prog.underlying T = some (.slice t)) (hi : (Try.prog.info? t).map (fun i => (i.zero, i.size, i.bytes)) = some (some z, k, bytes)) (hk : 0 < k) (hk2 : k ≤ 1000) {ops : Array Oper} {rest : List Oper} {o : Oper} {a : Act} {w : World} {Q : Exit → Act → World → Prop} (hg : o.guard = none) (x : Operand) (ho : o.op = .buildSlice T 1 #[(0, x)]) (cs : Array Value) (hs : cs.size = k) (hx : a.eval x = .agg cs)
    (h : ∀ w1 g, CAt w1 g cs t → Below w.heap.size w w1 → w.heap.size = g → wpList Try.prog ops Q rest (a.put o.dst (.slice (some ⟨g, 0, none⟩) 1 1)) w1) : wpList Try.prog ops Q (o :: rest) a w := by
  refine wpList_plain hg fun _ hK => ?_
  unfold Oper.wp execOp
  have := run_buildX hT hi hk hk2 w cs hs
  simp only [ho, List.map_toArray, List.map_cons, List.map_nil, hx, Sem.run_bind, this, Result.andThen_ok, Sem.run_pure]
  exact hK _ _ (h _ _ (CAt.made _ _ _) (below_al _ _) rfl)
theorem XB.mono {t : TypeId} {k B : Nat} {w w' : World} {v : Value} (hb : B ≤ w.heap.size) (hg : w.grownBy w' v.ownBlock) {R : List (List Value)} (h : XB t k B w v R) : Below B w w' := below_grown (Below.refl _ _) hg hb fun b hb => (own_ge h b hb).1
end Go.Proofs.Ytfniojnklhjgbaa

/- The document's All: lists of formats in memory. -/
namespace Go.Proofs.Ytfniojnklhjgbaa
open Go Go.RowKit

def flR (L : List FmV) : List (List Value) := L.map fun f => f.cs.toList
theorem flR_len (L : List FmV) : (flR L).length = L.length := by simp [flR]
theorem flR_five (L : List FmV) : ∀ r ∈ flR L, r.length = 5 := fun r hr => by obtain ⟨f, _, rfl⟩ := List.mem_map.1 hr; rfl
theorem infoFm : (Try.prog.info? 23).map (fun i => (i.zero, i.size, i.bytes)) = some (some (.agg zF.cs), 5, 40) := by kernel_rfl
/-- Formats in a row of their own. -/
def FmL (B : Nat) (w : World) (v : Value) (L : List FmV) : Prop := XB 23 5 B w v (flR L)
theorem FmL.nil (B : Nat) (w : World) : FmL B w (.slice none 0 0) [] := XB.nil _ _ _ _
theorem FmL.form {B : Nat} {w : World} {v : Value} {L : List FmV} (h : FmL B w v L) : ∃ po c, v = .slice po L.length c ∧ L.length ≤ c ∧ (po = none → c = 0) := by
  have := XB.form h
  rwa [flR_len] at this
theorem FmL.below {B : Nat} {w w' : World} {v : Value} {L : List FmV} (h : FmL B w v L) (hb : Below w.heap.size w w') : FmL B w' v L := XB.below h hb
/-- Format i's cells. -/
theorem FmL.at {B : Nat} {w : World} {v : Value} {L : List FmV} (h : FmL B w v L) {i : Nat} (hi : i < L.length) : ∃ g c, v = .slice (some ⟨g, 0, none⟩) L.length c ∧ ∀ j u, (L.getD i default).cs[j]? = some u → w.cell? ⟨g, i * 5 + j, none⟩ = some u := by
  obtain ⟨g, c, e, _, hc⟩ := XB.cells h (flR_five L) (by rw [flR_len]; omega)
  rw [flR_len] at e
  refine ⟨g, c, e, fun j u hj => ?_⟩
  have h1 : (flR L)[i]? = some (L.getD i default).cs.toList := by
    unfold flR
    rw [List.getElem?_map, List.getElem?_eq_getElem hi]
    simp [List.getD, hi]
  have := hc.2.2 i _ h1 j u (by simpa using hj)
  rwa [show 0 + i * 5 + j = i * 5 + j by omega] at this
theorem builtF5 (k m s t d : Int) : Try.prog.built 23 [(0, .int .i64 k), (1, .int .i64 m), (2, .int .i64 s), (3, .int .i64 t), (4, .int .i64 d)] = some (FmV.cs ⟨k, m, s, t, d⟩) := by kernel_rfl
/-- The first p formats. -/
def alP (k m s : Int) (p : Nat) : List FmV := (List.range p).map (alG k m s)
theorem alP_len (k m s : Int) (p : Nat) : (alP k m s p).length = p := by simp [alP]
theorem alP_step (k m s : Int) (p : Nat) : alP k m s (p + 1) = alP k m s p ++ [alG k m s p] := by unfold alP; rw [List.range_succ, List.map_append]; rfl
theorem alG_at {k m s : Int} {n i j : Nat} (hn : (k + m).toNat = n) (hj : j < n) : alG k m s (i * n + j) = ⟨k, m, s, (i : Int), (j : Int)⟩ := by
  unfold alG
  rw [hn, show (i * n + j) / n = i by rw [Nat.mul_comm, Nat.mul_add_div (by omega), Nat.div_eq_of_lt hj]; rfl, show (i * n + j) % n = j by rw [Nat.mul_comm, Nat.mul_add_mod, Nat.mod_eq_of_lt hj]]
/-- What All answers. -/
def AlR (w : World) (k m s : Int) (e : Ending) (w' : World) : Prop :=
  (okAl k m s = true ∧ ∃ po c, e = .returned (.tuple #[.slice po (alN k m s) c, .int .i64 0]) ∧ FmL w.heap.size w' (.slice po (alN k m s) c) (alL k m s) ∧ Below w.heap.size w w') ∨
  (okAl k m s = false ∧ e = .returned (.tuple #[.slice none 0 0, .int .i64 2]) ∧ Below w.heap.size w w')
end Go.Proofs.Ytfniojnklhjgbaa

/- Two formats compared. -/
namespace Go.Proofs.Ytfniojnklhjgbaa
open Go Go.RowKit
theorem stoodF : Try.prog.stoodInHeld 23 = false := by kernel_rfl
theorem fldF : ∃ f0 f1 f2 f3 f4 : Field, (Try.prog.fieldsOf 23).toList = [f0, f1, f2, f3, f4] ∧ (f0.name ≠ "_" ∧ f0.type = 3 ∧ f0.offset = 0) ∧ (f1.name ≠ "_" ∧ f1.type = 3 ∧ f1.offset = 1) ∧ (f2.name ≠ "_" ∧ f2.type = 3 ∧ f2.offset = 2) ∧ (f3.name ≠ "_" ∧ f3.type = 3 ∧ f3.offset = 3) ∧ (f4.name ≠ "_" ∧ f4.type = 3 ∧ f4.offset = 4) := by
  refine ⟨_, _, _, _, _, rfl, ?_, ?_, ?_, ?_, ?_⟩ <;> exact ⟨by decide, rfl, rfl⟩
theorem partF (f : FmV) (w : World) (i : Nat) (v : Value) (h : f.cs[i]? = some v) : (part 3 f.cs i).run Try.prog w = .ok v w := by
  obtain ⟨a1, a2, a3, a4, a5⟩ := f
  rcases i with _ | _ | _ | _ | _ | i
  all_goals (simp [FmV.cs] at h; try subst h)
  all_goals simp [FmV.cs, go_sem]
set_option maxRecDepth 100000 in
theorem eqlF (f g : FmV) (w : World) : (binOp .eql 23 (.agg f.cs) (.agg g.cs)).run Try.prog w = .ok (.bool (decide (f = g))) w := by
  have hi : ∀ (a b : Int) (w : World), (Op.equalIn 9999 3 (.int .i64 a) (.int .i64 b)).run Try.prog w = .ok (a == b) w := fun a b w => run_equalIn_int (P := Try.prog) w 9998 3 .i64 .i64 a b (by kernel_rfl)
  rw [run_eql_struct, run_equalIn_agg _ _ _ _ _ underF stoodF]
  obtain ⟨f0, f1, f2, f3, f4, hf, ⟨n0, t0, o0⟩, ⟨n1, t1, o1⟩, ⟨n2, t2, o2⟩, ⟨n3, t3, o3⟩, ⟨n4, t4, o4⟩⟩ := fldF
  rw [hf]
  simp only [Op.eqFields, if_pos n0, if_pos n1, if_pos n2, if_pos n3, if_pos n4, t0, t1, t2, t3, t4, o0, o1, o2, o3, o4, Sem.run_bind]
  rw [partF f w 0 (.int .i64 f.k) rfl]
  simp only [Result.andThen_ok]
  rw [partF g w 0 (.int .i64 g.k) rfl]
  simp only [Result.andThen_ok, hi]
  have ext : decide (f = g) = (f.k == g.k && (f.m == g.m && (f.s == g.s && (f.t == g.t && f.d == g.d)))) := by
    obtain ⟨a1, a2, a3, a4, a5⟩ := f
    obtain ⟨b1, b2, b3, b4, b5⟩ := g
    rw [Bool.eq_iff_iff]
    simp
  rw [ext]
  cases f.k == g.k
  · simp
  simp only [Bool.not_true, Bool.false_eq_true, if_false, Bool.true_and, Sem.run_bind]
  rw [partF f w 1 (.int .i64 f.m) rfl]
  simp only [Result.andThen_ok]
  rw [partF g w 1 (.int .i64 g.m) rfl]
  simp only [Result.andThen_ok, hi]
  cases f.m == g.m
  · simp
  simp only [Bool.not_true, Bool.false_eq_true, if_false, Bool.true_and, Sem.run_bind]
  rw [partF f w 2 (.int .i64 f.s) rfl]
  simp only [Result.andThen_ok]
  rw [partF g w 2 (.int .i64 g.s) rfl]
  simp only [Result.andThen_ok, hi]
  cases f.s == g.s
  · simp
  simp only [Bool.not_true, Bool.false_eq_true, if_false, Bool.true_and, Sem.run_bind]
  rw [partF f w 3 (.int .i64 f.t) rfl]
  simp only [Result.andThen_ok]
  rw [partF g w 3 (.int .i64 g.t) rfl]
  simp only [Result.andThen_ok, hi]
  cases f.t == g.t
  · simp
  simp only [Bool.not_true, Bool.false_eq_true, if_false, Bool.true_and, Sem.run_bind]
  rw [partF f w 4 (.int .i64 f.d) rfl]
  simp only [Result.andThen_ok]
  rw [partF g w 4 (.int .i64 g.d) rfl]
  simp only [Result.andThen_ok, hi]
  cases f.d == g.d
  · simp
  · simp
end Go.Proofs.Ytfniojnklhjgbaa

/- The document's Judge. (Written by tools/gen_Fi14.py.) -/
namespace Go.Proofs.Ytfniojnklhjgbaa
open Go Go.RowKit

theorem load_atF {W : World} {g off : Nat} {f : FmV} (hc : ∀ j u, f.cs[j]? = some u → W.cell? ⟨g, off + j, none⟩ = some u) : (Instr.loadAt 23 (.pointer (some ⟨g, off, none⟩))).run Try.prog W = .ok (.agg f.cs) W := by
  simp only [Instr.loadAt, Instr.sureAddr, Sem.run_bind, Sem.run_pure, Result.andThen_ok, run_loadVar_at W g off 23 f.cs _ hc underF rfl (by rw [fm_size]; exact sizeF)]
/-- What Judge answers. -/
def JdR (w : World) (l : List Cv) (k m s : Int) (e : Ending) (w' : World) : Prop :=
  (jdE l k m s = 0 ∧ ∃ po c, e = .returned (.tuple #[.slice po l.length c, .int .i64 0]) ∧ IBuf w.heap.size w' (.slice po l.length c) (jdL l k m s) ∧ Below w.heap.size w w') ∨
  (jdE l k m s ≠ 0 ∧ e = .returned (.tuple #[.slice none 0 0, .int .i64 2]) ∧ Below w.heap.size w w')
theorem exec_binF {a : Act} {o : Oper} {op : BinOp} {t t2 : TypeId} {x y : Operand} {u v r : Value} {W : World} (ho : o.op = .binOp op t x y t2) (hx : a.eval x = u) (hy : a.eval y = v) (hg : (eqGuard op t x y u v).run Try.prog W = .ok () W) (h : (binOp op t u v).run Try.prog W = .ok r W) : (execOp a.eval o).run Try.prog W = .ok (.value r) W := by
  unfold execOp
  simp only [ho, hx, hy, Sem.run_bind, hg, h, Result.andThen_ok, Sem.run_pure]
def jdN (l : List Cv) (k m s : Int) (p : Nat) : List Nat := (List.range p).map fun i => jdg (l.getD i ⟨0, .slice none 0 0, []⟩) (alG k m s i)
theorem jdN_len (l : List Cv) (k m s : Int) (p : Nat) : (jdN l k m s p).length = p := by simp [jdN]
theorem jdN_step (l : List Cv) (k m s : Int) (p : Nat) : jdN l k m s (p + 1) = jdN l k m s p ++ [jdg (l.getD p ⟨0, .slice none 0 0, []⟩) (alG k m s p)] := by unfold jdN; rw [List.range_succ, List.map_append]; rfl
structure JdI (w : World) (l : List Cv) (k m s : Int) (p : Nat) (v : Value) (W : World) : Prop where
  be : Below w.heap.size w W
  il : IBuf w.heap.size W v (jdN l k m s p)
theorem alL_at {k m s : Int} {i : Nat} (h : i < alN k m s) : (alL k m s).getD i default = alG k m s i := by
  unfold alL
  simp [List.getD, h]
end Go.Proofs.Ytfniojnklhjgbaa

/- A loop's body within a range over a function: its regions walked as everywhere (no fence, no round), and regions that draw their order of which the last operations write. -/
namespace Go.Proofs.Ytfniojnklhjgbaa.H
open Go Go.RowKit

section
variable {P : Program} {ops : Array Oper} {Q : Exit → Act → World → Prop} {md : Region.Mode} {l n : Nat}

abbrev rndF (l : Nat) : Fence := Fence.wide.inRound l
theorem calls_rnd {f : FuncId} {args : Array Value} {w : World} {R : Ending → World → Prop} (h : Calls P f args w R) : CallsIn (rndF l) n P f args w R := CallsIn.inRound l (callsIn_wide.2 h)
theorem rows_rnd {row : String} {args : Array Value} {w : World} {R : Value → World → Prop} (h : Rows P row args w R) : RowsIn (rndF l) n P row args w R :=
  fun c cs _ => let ⟨v, w', r, s⟩ := h c cs; ⟨v, w', r, stepsIn_wide.2 s⟩

def noDefer (ops : Array Oper) : Bool := ops.all fun o => match o.op with | .defer _ => false | _ => true
theorem noDefer_at {o : Oper} (h : noDefer ops = true) (ho : o ∈ ops) : ∀ c, o.op ≠ .defer c := by
  intro c e
  have := Array.all_eq_true_iff_forall_mem.1 h o ho
  simp [e] at this

theorem oper_rnd {o : Oper} {a : Act} {w : World} {K : Act → World → Prop} (hd : ∀ c, o.op ≠ .defer c) (h : o.wp P a w K Q) : o.wpIn (rndF l) n P a w K Q := by
  refine ⟨fun _ _ => trivial, ?_⟩
  rw [Oper.semAt_eq _ _ _ hd]
  unfold Oper.wp at h
  generalize (execOp a.eval o).run P w = r at *
  cases r with
  | ok x w' =>
    cases x <;> simp only [Oper.upon, Oper.uponIn] at h ⊢ <;>
      first
        | exact h
        | exact ⟨fun e => (by cases e), calls_rnd h⟩
        | exact ⟨fun e => (by cases e), rows_rnd h⟩
        | exact h.elim
  | halt x w' => cases x <;> simp only [Oper.upon, Oper.uponIn] at h ⊢ <;> exact h

theorem list_rnd (hQ : ¬ LetsOut Q) : ∀ (k : List Oper) (a : Act) (w : World), (∀ o ∈ k, ∀ c, o.op ≠ .defer c) → wpList P ops Q k a w → wpListIn (rndF l) n P ops Q k a w
  | [], _, _, _, h => h
  | o :: k, a, w, hd, h => by
    unfold wpList at h
    unfold wpListIn
    have ih := fun a w => list_rnd hQ k a w (fun o' ho' => hd o' (List.mem_cons_of_mem _ ho'))
    split
    · rename_i hw
      rw [if_pos hw] at h
      rcases h with h | h
      · exact Oper.wpIn_mono (fun a w h => ih a w h) (oper_rnd (hd o (List.mem_cons_self ..)) h)
      · exact absurd h.2 hQ
    · rename_i hw
      rw [if_neg hw] at h
      exact ⟨fun _ _ => trivial, ih _ _ h⟩

theorem op_rnd (hQ : ¬ LetsOut Q) (hd : noDefer ops = true) {i : Nat} {K : Act → World → Prop} {a : Act} {w : World} (h : wpOp P ops Q i K a w) : wpOpIn (rndF l) n P ops Q i K a w := by
  unfold wpOp at h
  unfold wpOpIn
  cases ho : ops[i]? with
  | none => simpa [ho] using h
  | some o =>
    simp only [ho] at h ⊢
    split
    · rename_i hw
      rw [if_pos hw] at h
      rcases h with h | h
      · exact oper_rnd (noDefer_at hd (Array.mem_of_getElem? ho)) h
      · exact absurd h.2 hQ
    · rename_i hw
      rw [if_neg hw] at h
      exact ⟨fun _ _ => trivial, h⟩

theorem any_rnd (hQ : ¬ LetsOut Q) (hd : noDefer ops = true) : ∀ (k : Nat) (listed : Array Bool) (a : Act) (w : World), wpAny P md ops Q k listed a w → wpAnyIn (rndF l) n P md ops Q k listed a w
  | 0, _, _, _, h => h
  | k + 1, _, _, _, h => ⟨h.1, fun i hi => wpOpIn_mono (fun a w h => any_rnd hQ hd k _ a w h) (op_rnd hQ hd (h.2 i hi))⟩

/-- A region in a round, walked plain. -/
theorem round_list {id : Nat} {k : List Oper} {a : Act} {w : World} (hQ : ∀ a w, Q .outgrown a w → False) (hd : noDefer k.toArray = true) (h : wpList P k.toArray Q k a w) : (Code.region id k.toArray false).wpIn (rndF l) n P Q a w :=
  wpIn_region_lit (list_rnd (fun ⟨a, w, q⟩ => hQ a w q) k a w (fun o ho => noDefer_at hd (by simpa using ho)) h)
theorem round_any {id : Nat} {a : Act} {w : World} (hm : P.follows .mixedOrders = true) (hQ : ∀ a w, Q .outgrown a w → False) (hd : noDefer ops = true)
    (h : wpAny P .any ops Q ops.size (Array.replicate ops.size false) a w.drew) : (Code.region id ops true).wpIn (rndF l) n P Q a w :=
  wpIn_region_any hm (any_rnd (fun ⟨a, w, q⟩ => hQ a w q) hd _ _ _ _ h)
end

section
variable {P : Program} {ops : Array Oper} {md : Region.Mode} {C : World → Prop}

/-- What is listed has all listed for which it waits. -/
def Cl (md : Region.Mode) (ops : Array Oper) (listed : Array Bool) : Prop := ∀ j o, ops[j]? = some o → listed.getD j false = true → ∀ e ∈ o.after, Region.binds md e = true → listed.getD e.on false = true
theorem Cl.set {listed : Array Bool} {i : Nat} (h : Cl md ops listed) (hi : i ∈ Region.ready md ops listed) : Cl md ops (listed.setIfInBounds i true) := by
  intro j o ho hj e he hb
  obtain ⟨hun, oi, hoi, hall⟩ := mem_ready.1 hi
  by_cases hji : j = i
  · subst hji
    rw [ho] at hoi; cases hoi
    exact getD_set_true (hall e he hb)
  · rw [getD_set_ne false (Ne.symm hji)] at hj
    exact getD_set_true (h j o ho hj e he hb)
theorem Cl.start (ops : Array Oper) (n : Nat) : Cl md ops (Array.replicate n false) := fun j o _ hj => by
  rcases Nat.lt_or_ge j n with h | h
  · simp [h] at hj
  · have : (Array.replicate n false)[j]? = none := Array.getElem?_eq_none (by simpa using h)
    simp [this] at hj

end
end Go.Proofs.Ytfniojnklhjgbaa.H

/- Blocks of bytes: how many there are, where each begins and ends; and the iterator over them. -/
namespace Go.Proofs.Ytfniojnklhjgbaa.H
open Go Go.RowKit Go.Shelf

def cnt (n : Nat) : Nat := (n + 255) / 256
def bend (n i : Nat) : Nat := min (256 * i + 256) n
/-- How many bytes a file has, and the error. -/
def szV (z : Int) : Int := if 0 ≤ z ∧ z ≤ 65536 then z + 32 * ((z + 255) / 256) else 0
end Go.Proofs.Ytfniojnklhjgbaa.H

/- Buffers of bytes as lists; parts of slices; the file of bytes as a list. -/
namespace Go.Proofs.Ytfniojnklhjgbaa.H
open Go Go.RowKit

def u8 (k : Nat) : Value := .int .u8 (k : Int)
/-- The value v owns just the bytes L. -/
def BufL (B : Nat) (w : World) (v : Value) (L : List Nat) : Prop := w.ownsRow B 5 1 v L.length (L.map u8)
theorem BufL.nil (B : Nat) (w : World) : BufL B w (.slice none 0 0) [] := World.ownsRow_nil w B 5 1
theorem BufL.buf {B : Nat} {w : World} {v : Value} {L : List Nat} (h : BufL B w v L) : Buf B w v L.length (fun i => L.getD i 0) := by
  unfold Buf BufL at *
  rwa [show valN L.length (fun i => L.getD i 0) = L.map u8 from by
    apply List.ext_getElem?
    intro i
    by_cases hi : i < L.length
    · rw [valN_get _ _ _ hi]; simp [hi, u8]
    · rw [List.getElem?_eq_none (by rw [valN_len]; omega), List.getElem?_eq_none (by simpa using hi)]]
theorem BufL.below {B : Nat} {w w' : World} {v : Value} {L : List Nat} (h : BufL B w v L) (hb : Below w.heap.size w w') : BufL B w' v L := by
  obtain ⟨hl, h | ⟨g, cap, cur, rfl, hB, hg, hc, hm, hs, ht⟩⟩ := h
  · exact ⟨hl, .inl h⟩
  · refine ⟨hl, .inr ⟨g, cap, cur, rfl, hB, ?_, hc, hm, hs, ht⟩⟩
    exact (hb.block g (CAt.lt hg)).trans hg
theorem BufL.cells {B : Nat} {w : World} {v : Value} {L : List Nat} (h : BufL B w v L) : ∀ (j : Nat) (o : Obj), v.ownBlock = some j → w.heap[j]? = some o → o.isCells = true := by
  intro j o hj ho
  obtain ⟨_, h | ⟨g, cap, cur, rfl, _, hg, _⟩⟩ := h
  · rw [h.1] at hj; cases hj
  · cases hj; rw [hg] at ho; cases ho; rfl
theorem BufL.ge {B : Nat} {w : World} {v : Value} {L : List Nat} (h : BufL B w v L) : ∀ j, v.ownBlock = some j → B ≤ j ∧ j < w.heap.size := fun j hj => World.ownsRow.lt h j hj
theorem BufL.made (w : World) (B c : Nat) (hB : B ≤ w.heap.size) (hc : c ≤ 100000) : BufL B (w.alloc (.cells (madeCells #[.int .u8 0] c) 5)) (.slice (some ⟨w.heap.size, 0, none⟩) 0 c) [] :=
  ⟨rfl, .inr ⟨_, _, _, rfl, hB, heap_alloc_new _ _, by simp, by unfold maxLen; omega, by simp [madeCells], by simp⟩⟩
/-- The block of bytes that begins at 256 i, behind its digest. -/
def blkL (n : Nat) (x : Nat → Nat) (i : Nat) : List Nat := (List.range 32).map (sha (bend n i - 256 * i) (fun j => x (256 * i + j))) ++ (List.range (bend n i - 256 * i)).map (fun j => x (256 * i + j))
theorem blkL_len (n : Nat) (x : Nat → Nat) (i : Nat) : (blkL n x i).length = 32 + (bend n i - 256 * i) := by simp [blkL]
theorem blkL_le (n : Nat) (x : Nat → Nat) (i : Nat) : (blkL n x i).length ≤ 288 := by rw [blkL_len]; unfold bend; omega
theorem BufL.form {B : Nat} {w : World} {v : Value} {L : List Nat} (h : BufL B w v L) : ∃ po cc, v = .slice po L.length cc := by
  obtain ⟨_, ⟨h1, h2⟩ | ⟨g, cap, cur, rfl, _⟩⟩ := h
  · exact ⟨none, 0, by rw [h1, h2]⟩
  · exact ⟨_, _, rfl⟩
/-- A row of bytes known whole. -/
def RowL (w : World) (g : Nat) (L : List Nat) : Prop := w.heap[g]? = some (.cells (L.map u8).toArray 5 (0, 0))
theorem RowL.lt {w : World} {g : Nat} {L : List Nat} (h : RowL w g L) : g < w.heap.size := (Array.getElem?_eq_some_iff.1 h).1
theorem RowL.below {B : Nat} {w w' : World} {g : Nat} {L : List Nat} (h : RowL w g L) (hb : Below B w w') (hg : g < B) : RowL w' g L := (hb.block g hg).trans h
end Go.Proofs.Ytfniojnklhjgbaa.H

/- Contract of Lay of package block: the file of bytes. -/
namespace Go.Proofs.Ytfniojnklhjgbaa.H
open Go Go.RowKit

/-- All that is known while the file is laid. -/
structure LayM (w W : World) (p : Option Addr) (n c : Nat) (v : Value) (L : List Nat) : Prop where
  bb : Boxed W w.heap.size 24 (.slice p n c)
  bf : Boxed W (w.heap.size + 1 + 1) 24 v
  bn : Boxed W (w.heap.size + 1 + 1 + 1) 3 (.int .i64 (n : Int))
  buf : BufL (w.heap.size + 1) W v L
  below : Below w.heap.size w W
  sz : w.heap.size + 4 ≤ W.heap.size
theorem LayM.on {w W W' : World} {p : Option Addr} {n c : Nat} {v : Value} {L : List Nat} (h : LayM w W p n c v L) (hb : Below W.heap.size W W') : LayM w W' p n c v L where
  bb := (hb.block _ h.bb.lt).trans h.bb
  bf := (hb.block _ h.bf.lt).trans h.bf
  bn := (hb.block _ h.bn.lt).trans h.bn
  buf := h.buf.below hb
  below := h.below.trans (hb.mono h.below.size)
  sz := Nat.le_trans h.sz hb.size
theorem LayM.drewN {w W : World} {p : Option Addr} {n c : Nat} {v : Value} {L : List Nat} (h : LayM w W p n c v L) (k : Nat) : LayM w (W.drewN k) p n c v L := h.on (Below.drewN' (Below.refl _ _) k)
end Go.Proofs.Ytfniojnklhjgbaa.H

/- Contracts of blocks, may, Size and Lay of the document's own answer. -/
namespace Go.Proofs.Ytfniojnklhjgbaa.H
open Go Go.RowKit

theorem flat_len (n : Nat) (x : Nat → Nat) : ∀ k, ((List.range k).flatMap (blkL n x)).length ≤ 288 * k
  | 0 => by simp
  | k + 1 => by
    have := flat_len n x k
    have h := blkL_le n x k
    rw [List.range_succ, List.flatMap_append, List.length_append]
    simp only [List.flatMap_cons, List.flatMap_nil, List.append_nil]
    omega
end Go.Proofs.Ytfniojnklhjgbaa.H

/- Digests held against one another. -/
namespace Go.Proofs.Ytfniojnklhjgbaa.H
open Go Go.RowKit
def eqD (n : Nat) (x y : Nat → Nat) : Bool := (List.range n).all fun i => decide (x i = y i)
end Go.Proofs.Ytfniojnklhjgbaa.H

/- Contracts of SameBytes and bytes.Equal, of sound of package block, and of stands of the document's own answer. -/
namespace Go.Proofs.Ytfniojnklhjgbaa.H
open Go Go.RowKit

/-- Where the bytes of a block end in a file of m bytes. -/
def sEnd (m n i : Nat) : Nat := if bend n i = n then m else 288 * i + 32 + (bend n i - 256 * i)
/-- Is the block sound? -/
def snd (y : Nat → Nat) (m n i : Nat) : Bool := decide (288 * i + 32 + (bend n i - 256 * i) ≤ m) && eqD 32 (sha (sEnd m n i - (288 * i + 32)) (fun j => y (288 * i + 32 + j))) (fun j => y (288 * i + j))
end Go.Proofs.Ytfniojnklhjgbaa.H

/- Contract of Bad of package block: which blocks are not sound. -/
namespace Go.Proofs.Ytfniojnklhjgbaa.H
open Go Go.RowKit

def i64v (k : Nat) : Value := .int .i64 (k : Int)
/-- The value v owns just the numbers L. -/
def BufI (B : Nat) (w : World) (v : Value) (L : List Nat) : Prop := w.ownsRow B 3 1 v L.length (L.map i64v)
theorem BufI.nil (B : Nat) (w : World) : BufI B w (.slice none 0 0) [] := World.ownsRow_nil w B 3 1
theorem BufI.below {B : Nat} {w w' : World} {v : Value} {L : List Nat} (h : BufI B w v L) (hb : Below w.heap.size w w') : BufI B w' v L := by
  obtain ⟨hl, h | ⟨g, cap, cur, rfl, hB, hg, hc, hm, hs, ht⟩⟩ := h
  · exact ⟨hl, .inl h⟩
  · refine ⟨hl, .inr ⟨g, cap, cur, rfl, hB, ?_, hc, hm, hs, ht⟩⟩
    exact (hb.block g (CAt.lt hg)).trans hg
theorem BufI.cells {B : Nat} {w : World} {v : Value} {L : List Nat} (h : BufI B w v L) : ∀ (j : Nat) (o : Obj), v.ownBlock = some j → w.heap[j]? = some o → o.isCells = true := by
  intro j o hj ho
  obtain ⟨_, h | ⟨g, cap, cur, rfl, _, hg, _⟩⟩ := h
  · rw [h.1] at hj; cases hj
  · cases hj; rw [hg] at ho; cases ho; rfl
theorem BufI.ge {B : Nat} {w : World} {v : Value} {L : List Nat} (h : BufI B w v L) : ∀ j, v.ownBlock = some j → B ≤ j ∧ j < w.heap.size := fun j hj => World.ownsRow.lt h j hj
theorem BufI.form {B : Nat} {w : World} {v : Value} {L : List Nat} (h : BufI B w v L) : ∃ po cc, v = .slice po L.length cc := by
  obtain ⟨_, ⟨h1, h2⟩ | ⟨g, cap, cur, rfl, _⟩⟩ := h
  · exact ⟨none, 0, by rw [h1, h2]⟩
  · exact ⟨_, _, rfl⟩
structure BadM (w W : World) (p : Option Addr) (m c n : Nat) (v : Value) (L : List Nat) : Prop where
  bb : Boxed W w.heap.size 24 (.slice p m c)
  bz : Boxed W (w.heap.size + 1) 3 (.int .i64 (n : Int))
  bf : Boxed W (w.heap.size + 1 + 1) 43 v
  bn : Boxed W (w.heap.size + 1 + 1 + 1) 3 (.int .i64 (n : Int))
  buf : BufI (w.heap.size + 4) W v L
  below : Below w.heap.size w W
  sz : w.heap.size + 4 ≤ W.heap.size
theorem BadM.on {w W W' : World} {p : Option Addr} {m c n : Nat} {v : Value} {L : List Nat} (h : BadM w W p m c n v L) (hb : Below W.heap.size W W') : BadM w W' p m c n v L where
  bb := (hb.block _ h.bb.lt).trans h.bb
  bz := (hb.block _ h.bz.lt).trans h.bz
  bf := (hb.block _ h.bf.lt).trans h.bf
  bn := (hb.block _ h.bn.lt).trans h.bn
  buf := h.buf.below hb
  below := h.below.trans (hb.mono h.below.size)
  sz := Nat.le_trans h.sz hb.size
theorem BufI.mono {B B' : Nat} {w : World} {v : Value} {L : List Nat} (h : BufI B w v L) (hB : B' ≤ B) : BufI B' w v L := by
  obtain ⟨hl, h | ⟨g, cap, cur, rfl, hb, h⟩⟩ := h
  · exact ⟨hl, .inl h⟩
  · exact ⟨hl, .inr ⟨g, cap, cur, rfl, by omega, h⟩⟩
end Go.Proofs.Ytfniojnklhjgbaa.H

/- Parts of a file's bytes, block by block, as lists. -/
namespace Go.Proofs.Ytfniojnklhjgbaa.H
open Go Go.RowKit

def plo (a i : Nat) : Nat := max (256 * i) a
def phi (n b i : Nat) : Nat := min (bend n i) b
def pcs (y : Nat → Nat) (n a b i : Nat) : List Nat := (List.range (phi n b i - plo a i)).map fun j => y (288 * i + 32 + (plo a i - 256 * i) + j)
def parL (y : Nat → Nat) (n a b : Nat) : List Nat := (List.range (cnt n)).flatMap (pcs y n a b)
def parOK (y : Nat → Nat) (m n a b : Nat) : Bool := (List.range (cnt n)).all fun i => decide (phi n b i ≤ plo a i) || snd y m n i
end Go.Proofs.Ytfniojnklhjgbaa.H

/- Contract of Part of package block: some bytes of a file. -/
namespace Go.Proofs.Ytfniojnklhjgbaa.H
open Go Go.RowKit

structure PartM (w W : World) (p : Option Addr) (m c n a b : Nat) (v : Value) (L : List Nat) : Prop where
  b0 : Boxed W (w.heap.size) 24 (.slice p m c)
  b1 : Boxed W (w.heap.size + 1) 3 (.int .i64 (n : Int))
  b2 : Boxed W (w.heap.size + 1 + 1) 3 (.int .i64 (a : Int))
  b3 : Boxed W (w.heap.size + 1 + 1 + 1) 3 (.int .i64 (b : Int))
  b4 : Boxed W (w.heap.size + 1 + 1 + 1 + 1) 24 (.slice none 0 0)
  b5 : Boxed W (w.heap.size + 1 + 1 + 1 + 1 + 1) 26 (.int .i64 0)
  b7 : Boxed W (w.heap.size + 1 + 1 + 1 + 1 + 1 + 1 + 1) 24 v
  b8 : Boxed W (w.heap.size + 1 + 1 + 1 + 1 + 1 + 1 + 1 + 1) 3 (.int .i64 (n : Int))
  buf : BufL (w.heap.size + 1 + 1 + 1 + 1 + 1 + 1) W v L
  below : Below w.heap.size w W
  sz : w.heap.size + 9 ≤ W.heap.size
theorem PartM.on {w W W' : World} {p : Option Addr} {m c n a b : Nat} {v : Value} {L : List Nat} (h : PartM w W p m c n a b v L) (hb : Below W.heap.size W W') : PartM w W' p m c n a b v L where
  b0 := (hb.block _ h.b0.lt).trans h.b0
  b1 := (hb.block _ h.b1.lt).trans h.b1
  b2 := (hb.block _ h.b2.lt).trans h.b2
  b3 := (hb.block _ h.b3.lt).trans h.b3
  b4 := (hb.block _ h.b4.lt).trans h.b4
  b5 := (hb.block _ h.b5.lt).trans h.b5
  b7 := (hb.block _ h.b7.lt).trans h.b7
  b8 := (hb.block _ h.b8.lt).trans h.b8
  buf := h.buf.below hb
  below := h.below.trans (hb.mono h.below.size)
  sz := Nat.le_trans h.sz hb.size
theorem PartM.drewN {w W : World} {p : Option Addr} {m c n a b : Nat} {v : Value} {L : List Nat} (h : PartM w W p m c n a b v L) (k : Nat) : PartM w (W.drewN k) p m c n a b v L := h.on (Below.drewN' (Below.refl _ _) k)
end Go.Proofs.Ytfniojnklhjgbaa.H

/- Part and Read of package block, of any numbers; Bad likewise. -/
namespace Go.Proofs.Ytfniojnklhjgbaa.H
open Go Go.RowKit

def rngB (z a b : Int) : Prop := 0 ≤ z ∧ z ≤ 65536 ∧ 0 ≤ a ∧ a ≤ b ∧ b ≤ z
instance (z a b : Int) : Decidable (rngB z a b) := by unfold rngB; infer_instance
def partL (y : Nat → Nat) (m : Nat) (z a b : Int) : List Nat := if rngB z a b ∧ (m : Int) = szV z ∧ parOK y m z.toNat a.toNat b.toNat = true then parL y z.toNat a.toNat b.toNat else []
def partE (y : Nat → Nat) (m : Nat) (z a b : Int) : Int := if rngB z a b then (if (m : Int) = szV z then (if parOK y m z.toNat a.toNat b.toNat = true then 0 else 14) else 4) else 5
end Go.Proofs.Ytfniojnklhjgbaa.H
