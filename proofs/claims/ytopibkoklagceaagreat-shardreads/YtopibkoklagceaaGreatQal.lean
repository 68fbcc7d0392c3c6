/- Texts laid into one, cut to what is needed: the remark ahead of each part says what is proved there. -/
import Derived.Test.YtopibkoklagceaaGreatQab
import Derived.Test.YtopibkoklagceaaGreatQak
import Derived.Test.YtopibkoklagceaaGreatQag
import Derived.BigQuiet
import Derived.Great.BuildSlice
import Derived.Lib.ConvBytes
import Derived.Test.YtopibkoklagceaaGreatQah
/- Copies (what drives answer) and lists of them in memory; bools in memory. -/
namespace Go.Proofs.YtopibkoklagceaaGreat
open Go Go.RowKit

/-- A copy as a value, and its bytes. -/
structure Cv where
 err : Int
 v : Value
 bs : List Nat
def Cv.cp (x : Cv) : Cp := ⟨x.err, x.bs⟩
def cps (l : List Cv) : List Cp := l.map Cv.cp
theorem cps_len (l : List Cv) : (cps l).length = l.length := by simp [cps]
theorem cps_get (l : List Cv) (i : Nat) : (cps l)[i]? = l[i]?.map Cv.cp := by simp [cps]
theorem take_next {α : Type} {l : List α} {k : Nat} {x : α} (h : l[k]? = some x) : l.take (k + 1) = l.take k ++ [x] := by
 obtain ⟨hk, rfl⟩ := List.getElem?_eq_some_iff.1 h
 rw [List.take_add_one, h]; rfl
theorem cps_next {l : List Cv} {k : Nat} {x : Cv} (h : l[k]? = some x) : cps (l.take (k + 1)) = cps (l.take k) ++ [x.cp] := by rw [take_next h]; simp [cps]
/-- Bytes of a copy: where they lie. -/
structure CvOk (w : World) (x : Cv) : Prop where
 sl : ∃ po c, x.v = .slice po x.bs.length c ∧ BL w po x.bs ∧ x.bs.length ≤ c ∧ (po = none → c = 0)
 small : x.bs.length ≤ 100000
 byte : ∀ z ∈ x.bs, z < 256
theorem CvOk.keep {w w' : World} {x : Cv} (h : CvOk w x) (hk : ∀ a, w.cell? a ≠ none → w'.cell? a = w.cell? a) : CvOk w' x := by
 obtain ⟨⟨po, c, h1, h2, h3, h4⟩, h5, h6⟩ := h
 exact ⟨⟨po, c, h1, h2.keep hk, h3, h4⟩, h5, h6⟩
theorem CvOk.below {w w' : World} {x : Cv} (h : CvOk w x) (hb : Below w.heap.size w w') : CvOk w' x := h.keep fun a ha => World.cell?_of_block (hb.block a.block (cell_lt' ha))
theorem CvOk.slv {w : World} {x : Cv} (h : CvOk w x) : SL w x.v x.bs := by
 obtain ⟨⟨po, c, h1, h2, h3, _⟩, _, _⟩ := h
 exact ⟨po, c, h1, h2, h3⟩
/-- The copies lie there, one behind the other. -/
def CCells (w : World) (b o : Nat) (l : List Cv) : Prop := ∀ i x, l[i]? = some x → w.cell? ⟨b, o + i * 2, none⟩ = some (i64 x.err) ∧ w.cell? ⟨b, o + i * 2 + 1, none⟩ = some x.v
theorem CCells.keep {w w' : World} {b o : Nat} {l : List Cv} (h : CCells w b o l) (hk : ∀ a, w.cell? a ≠ none → w'.cell? a = w.cell? a) : CCells w' b o l := fun i x e => by
 have := h i x e
 exact ⟨(hk _ (by rw [this.1]; simp)).trans this.1, (hk _ (by rw [this.2]; simp)).trans this.2⟩
/-- The slice v leads to the copies l. -/
def CL (w : World) (v : Value) (l : List Cv) : Prop := ∃ po c, v = .slice po l.length c ∧ l.length ≤ c ∧ l.length ≤ 1000 ∧ (po = none → c = 0) ∧ (l = [] ∨ ∃ b o, po = some ⟨b, o, none⟩ ∧ CCells w b o l) ∧ ∀ x ∈ l, CvOk w x
theorem CL.each {w : World} {v : Value} {l : List Cv} (h : CL w v l) : ∀ x ∈ l, CvOk w x := by obtain ⟨_, _, _, _, _, _, _, h⟩ := h; exact h
theorem CL.keep {w w' : World} {v : Value} {l : List Cv} (h : CL w v l) (hk : ∀ a, w.cell? a ≠ none → w'.cell? a = w.cell? a) : CL w' v l := by
 obtain ⟨po, c, h1, h2, h3, h4, h5, h6⟩ := h
 refine ⟨po, c, h1, h2, h3, h4, ?_, fun x hx => (h6 x hx).keep hk⟩
 rcases h5 with h5 | ⟨b, o, e, h5⟩
 ·exact Or.inl h5
 ·exact Or.inr ⟨b, o, e, h5.keep hk⟩
theorem CL.below {w w' : World} {v : Value} {l : List Cv} (h : CL w v l) (hb : Below w.heap.size w w') : CL w' v l := h.keep fun a ha => World.cell?_of_block (hb.block a.block (cell_lt' ha))
theorem CL.nil (w : World) : CL w (.slice none 0 0) [] := ⟨none, 0, rfl, Nat.le_refl _, by simp, fun _ => rfl, Or.inl rfl, fun x hx => by cases hx⟩
/-- One of them, by its place. -/
theorem CL.where {w : World} {v : Value} {l : List Cv} (h : CL w v l) {i : Nat} {x : Cv} (hx : l[i]? = some x) : ∃ b o c, v = .slice (some ⟨b, o, none⟩) l.length c ∧ l.length ≤ c ∧ CCells w b o l ∧ CvOk w x := by
 obtain ⟨po, c, h1, h2, h3, h4, h5, h6⟩ := h
 rcases h5 with rfl | ⟨b, o, rfl, h5⟩
 ·simp at hx
 ·exact ⟨b, o, c, h1, h2, h5, h6 x (List.mem_of_getElem? hx)⟩
/-- A copy's two cells, in the world at hand, and its bytes. -/
theorem CL.at {w w' : World} {b o n c : Nat} {l : List Cv} (h : CL w (.slice (some ⟨b, o, none⟩) n c) l) (hb : Below w.heap.size w w') {i : Nat} {x : Cv} (hx : l[i]? = some x) : w'.cell? ⟨b, o + i * 2, none⟩ = some (i64 x.err) ∧ w'.cell? ⟨b, o + i * 2 + 1, none⟩ = some x.v ∧ CvOk w' x := by
 obtain ⟨b', o', c', e, _, h1, h2⟩ := (h.below hb).where hx
 cases e
 exact ⟨(h1 i x hx).1, (h1 i x hx).2, h2⟩
/-- A slice of bools. -/
def BoL (w : World) (v : Value) (hs : List Bool) : Prop := ∃ po c, v = .slice po hs.length c ∧ hs.length ≤ c ∧ (hs = [] ∨ ∃ b o, po = some ⟨b, o, none⟩ ∧ ∀ i x, hs[i]? = some x → w.cell? ⟨b, o + i, none⟩ = some (.bool x))
theorem BoL.keep {w w' : World} {v : Value} {hs : List Bool} (h : BoL w v hs) (hk : ∀ a, w.cell? a ≠ none → w'.cell? a = w.cell? a) : BoL w' v hs := by
 obtain ⟨po, c, h1, h2, h3⟩ := h
 refine ⟨po, c, h1, h2, ?_⟩
 rcases h3 with h3 | ⟨b, o, e, h3⟩
 ·exact Or.inl h3
 ·exact Or.inr ⟨b, o, e, fun i x hx => by have := h3 i x hx; exact (hk _ (by rw [this]; simp)).trans this⟩
theorem BoL.below {w w' : World} {v : Value} {hs : List Bool} (h : BoL w v hs) (hb : Below w.heap.size w w') : BoL w' v hs := h.keep fun a ha => World.cell?_of_block (hb.block a.block (cell_lt' ha))
theorem BoL.nil (w : World) : BoL w (.slice none 0 0) [] := ⟨none, 0, rfl, Nat.le_refl _, Or.inl rfl⟩
theorem BoL.form {w : World} {v : Value} {hs : List Bool} (h : BoL w v hs) : ∃ po n c, v = .slice po n c ∧ n = hs.length := by obtain ⟨po, c, h1, _⟩ := h; exact ⟨po, _, c, h1, rfl⟩
theorem BoL.at {w w' : World} {b o n c : Nat} {hs : List Bool} (h : BoL w (.slice (some ⟨b, o, none⟩) n c) hs) (hb : Below w.heap.size w w') {i : Nat} {x : Bool} (hx : hs[i]? = some x) : w'.cell? ⟨b, o + i, none⟩ = some (.bool x) := by
 obtain ⟨po, c', h1, _, h3⟩ := h.below hb
 rcases h3 with rfl | ⟨b', o', e, h3⟩
 ·simp at hx
 ·cases h1; cases e; exact h3 i x hx
theorem BoL.some {w : World} {v : Value} {hs : List Bool} (h : BoL w v hs) (hne : 0 < hs.length) : ∃ b o c, v = .slice (some ⟨b, o, none⟩) hs.length c := by
 obtain ⟨po, c, h1, _, h3⟩ := h
 rcases h3 with rfl | ⟨b, o, rfl, h3⟩
 ·simp at hne
 ·exact ⟨b, o, c, h1⟩
end Go.Proofs.YtopibkoklagceaaGreat

/- tally: which drives answer, and how many; SameBools. -/
namespace Go.Proofs.YtopibkoklagceaaGreat
open Go Go.RowKit

/-- A copy's cells. -/
def cC (e : Int) (v : Value) : Array Value := #[i64 e, v]
theorem CAt.c0 {w : World} {g : Nat} {e : Int} {v : Value} (h : CAt w g (cC e v) 59) : w.cell? ⟨g, 0, none⟩ = some (i64 e) := h.cell 0
end Go.Proofs.YtopibkoklagceaaGreat

/- Rows of small structs in memory of one's own: what is appended to them; literals of one struct. -/
namespace Go.Proofs.YtopibkoklagceaaGreat
open Go Go.RowKit

/-- Rows of k cells each, in a row of one's own. -/
def XB (t : TypeId) (k B : Nat) (w : World) (v : Value) (R : List (List Value)) : Prop := w.ownsRow B t k v R.length R.flatten
theorem XB.nil (t : TypeId) (k B : Nat) (w : World) : XB t k B w (.slice none 0 0) [] := World.ownsRow_nil w B t k
theorem XB.form {t : TypeId} {k B : Nat} {w : World} {v : Value} {R : List (List Value)} (h : XB t k B w v R) : ∃ po c, v = .slice po R.length c ∧ R.length ≤ c ∧ (po = none → c = 0) := by
 rcases h.2 with ⟨rfl, h0⟩ | ⟨g, cap, cur, rfl, _, _, h1, _⟩
 ·exact ⟨none, 0, by rw [h0], by omega, fun _ => rfl⟩
 ·exact ⟨_, cap, rfl, h1, fun e => by cases e⟩
theorem XB.keep {t : TypeId} {k B : Nat} {w w' : World} {v : Value} {R : List (List Value)} (h : XB t k B w v R) (hk : ∀ b, v.ownBlock = some b → w'.heap[b]? = w.heap[b]?) : XB t k B w' v R := ownsRow_keep h hk
theorem XB.below {t : TypeId} {k B : Nat} {w w' : World} {v : Value} {R : List (List Value)} (h : XB t k B w v R) (hb : Below w.heap.size w w') : XB t k B w' v R := h.keep fun b hv => hb.block b (own_ge h b hv).2
theorem XB.base {t : TypeId} {k B C : Nat} {w : World} {v : Value} {R : List (List Value)} (h : XB t k B w v R) (hC : C ≤ B) : XB t k C w v R := own_base h hC
theorem flat_get {k : Nat} : ∀ {R : List (List Value)}, (∀ r ∈ R, r.length = k) → ∀ {i : Nat} {r : List Value}, R[i]? = some r → ∀ {j : Nat}, j < k → R.flatten[i * k + j]? = r[j]?
 | [], _, i, r, e, j, _ => by simp at e
 | y :: l, h, 0, r, e, j, hj => by
  simp at e
  subst e
  rw [List.flatten_cons, Nat.zero_mul, Nat.zero_add, List.getElem?_append_left (by rw [h y (by simp)]; exact hj)]
 | y :: l, h, i + 1, r, e, j, hj => by
  rw [List.flatten_cons, List.getElem?_append_right (by rw [h y (by simp), Nat.add_mul]; omega), h y (by simp), show (i + 1) * k + j - k = i * k + j by rw [Nat.add_mul]; omega]
  exact flat_get (R := l) (fun z hz => h z (by simp [hz])) (by simpa using e) hj
theorem flat_len {k : Nat} : ∀ {R : List (List Value)}, (∀ r ∈ R, r.length = k) → R.flatten.length = R.length * k
 | [], _ => by simp
 | y :: l, h => by
  rw [List.flatten_cons, List.length_append, h y (by simp), flat_len (R := l) (fun z hz => h z (by simp [hz])), List.length_cons, Nat.add_mul]; omega
theorem XB.cells {t : TypeId} {k B : Nat} {w : World} {v : Value} {R : List (List Value)} (h : XB t k B w v R) (hR : ∀ r ∈ R, r.length = k) (hne : 0 < R.length) :
  ∃ g c, v = .slice (some ⟨g, 0, none⟩) R.length c ∧ R.length ≤ c ∧ B ≤ g ∧ g < w.heap.size ∧ ∀ i r, R[i]? = some r → ∀ j u, r[j]? = some u → w.cell? ⟨g, 0 + i * k + j, none⟩ = some u := by
 rcases h.2 with ⟨rfl, h0⟩ | ⟨g, cap, cur, rfl, hB, hg, h1, _, h3, h4⟩
 ·omega
 have hc : CAt w g cur t := hg
 refine ⟨g, cap, rfl, h1, hB, hc.lt, fun i r hr j u hu => ?_⟩
 have hj : j < k := by
  rcases Nat.lt_or_ge j k with q | q
  ·exact q
  ·rw [List.getElem?_eq_none (by rw [hR r (List.mem_of_getElem? hr)]; exact q)] at hu; cases hu
 have e := flat_get hR hr hj
 rw [← h4, hu] at e
 rw [Nat.zero_add, hc.cell]
 have hi : i * k + j < R.length * k := by
  have h5 : i < R.length := (List.getElem?_eq_some_iff.1 hr).1
  calc i * k + j < i * k + k := by omega
   _ = (i + 1) * k := by rw [Nat.add_mul]; omega
   _ ≤ R.length * k := Nat.mul_le_mul_right k h5
 rw [List.getElem?_take, if_pos hi] at e
 simpa using e
theorem flat_one {R : List (List Value)} (h : ∀ r ∈ R, ∀ u ∈ r, u.oneCell' = true) : ∀ u ∈ R.flatten, u.oneCell' = true := fun u hu => by
 obtain ⟨r, hr, hu⟩ := List.mem_flatten.1 hu
 exact h r hr u hu
/-- append(v, s...), the rows anywhere. -/
theorem XB.app {t T ty : TypeId} {k B bytes : Nat} {z : Value} {w : World} {v : Value} {R : List (List Value)} (hv : XB t k B w v R) (hT : Tryz.prog.underlying T = some (.slice t)) (hi : (Tryz.prog.info? t).map (fun i => (i.zero, i.size, i.bytes)) = some (some z, k, bytes)) (hz : z.cells.size = k) (hk : 0 < k)
  (b o c : Nat) (S : List (List Value)) (hS : ∀ r ∈ S, r.length = k) (h1 : ∀ r ∈ S, ∀ u ∈ r, u.oneCell' = true) (hc : ∀ i r, S[i]? = some r → ∀ j u, r[j]? = some u → w.cell? ⟨b, o + i * k + j, none⟩ = some u) (hn : R.length + S.length ≤ 100000) (hby : bytes ≤ 1000) (hB : B ≤ w.heap.size) :
  ∃ v' w', (Builtin.append_ #[T, T] ty #[v, .slice (some ⟨b, o, none⟩) S.length c]).run Tryz.prog w = .ok v' w' ∧ XB t k B w' v' (R ++ S) ∧ w.grownBy w' v.ownBlock ∧ (v'.ownBlock = v.ownBlock ∨ v'.ownBlock = some w.heap.size) := by
 obtain ⟨i0, hi0, hz0, hz1, hz2⟩ := info_parts hi
 obtain ⟨v', w', hr, h3, h4, _, h5⟩ := run_append_own_at (P := Tryz.prog) w B T ty t i0 z k bytes hT hi0 hz0 hz1 hz2 hz hk v R.length R.flatten hv ⟨b, o, none⟩ S.length c S.flatten (flat_len hS) (fun j u hj => by
   rw [add_none]
   have hlt : j < S.length * k := by
    rcases Nat.lt_or_ge j (S.length * k) with q | q
    ·exact q
    ·rw [List.getElem?_eq_none (by rw [flat_len hS]; exact q)] at hj; cases hj
   have hik : j / k < S.length := (Nat.div_lt_iff_lt_mul hk).2 hlt
   have hjk : j % k < k := Nat.mod_lt _ hk
   have e := flat_get hS (List.getElem?_eq_getElem hik) hjk
   rw [show j / k * k + j % k = j by rw [Nat.mul_comm]; exact Nat.div_add_mod j k] at e
   rw [hj] at e
   have := hc (j / k) S[j / k] (List.getElem?_eq_getElem hik) (j % k) u e.symm
   rwa [show o + j / k * k + j % k = o + j by rw [Nat.add_assoc, show j / k * k + j % k = j by rw [Nat.mul_comm]; exact Nat.div_add_mod j k]] at this) (flat_one h1) (by unfold maxLen; omega)
   (Nat.le_trans (Nat.mul_le_mul hn hby) (by decide)) hB
 refine ⟨v', w', hr, ?_, h4, h5⟩
 unfold XB
 rw [List.length_append, List.flatten_append]
 exact h3
/-- A slice literal of one struct. -/
theorem fill_oneX (k : Nat) (C V : Array Value) (hC : C.size = k) (hV : V.size = k) : Instr.fill (fun i => some (i * k, k)) C [(0, .agg V)] = some V := by
 have h2 : ¬ (0 * k + V.size > C.size) := by omega
 simp only [Instr.fill, Value.cells, hV, ne_eq, not_true_eq_false, decide_false, Bool.false_or, decide_eq_true_eq]
 rw [if_neg (by omega)]
 congr 1
 apply Array.toList_inj.1
 rw [← Array.foldl_toList, Array.toList_zipIdx]
 have e := fold_zip V.toList 0 C
 simp only [Nat.zero_mul, Nat.zero_add]
 refine Eq.trans ?_ (e.trans ?_)
 ·rfl
 ·rw [setAll_splice (by simp [hC, hV]), List.take_zero, List.nil_append, Nat.zero_add, List.drop_of_length_le (by simp [hC, hV]), List.append_nil]
theorem run_buildX {t T : TypeId} {k bytes : Nat} {z : Value} (hT : Tryz.prog.underlying T = some (.slice t)) (hi : (Tryz.prog.info? t).map (fun i => (i.zero, i.size, i.bytes)) = some (some z, k, bytes)) (hk : 0 < k) (hk2 : k ≤ 1000) (w : World) (cs : Array Value) (hs : cs.size = k) : (Instr.buildSlice T 1 #[(0, .agg cs)]).run Tryz.prog w = .ok (.slice (some ⟨w.heap.size, 0, none⟩) 1 1) (w.alloc (.cells cs t)) := by
 obtain ⟨i0, hi0, hz0, hz1, hz2⟩ := info_parts hi
 refine run_buildSlice w T t 1 _ cs i0 z hT hi0 hz0 (by rw [hz1]; omega) (by rw [hz1]; omega) ?_
 rw [hz1]
 exact fill_oneX k _ _ (by simp) hs
theorem wpList_buildX {t T : TypeId} {k bytes : Nat} {z : Value} (hT : Tryz.prog.underlying T = some (.slice t)) (hi : (Tryz.prog.info? t).map (fun i => (i.zero, i.size, i.bytes)) = some (some z, k, bytes)) (hk : 0 < k) (hk2 : k ≤ 1000) {ops : Array Oper} {rest : List Oper} {o : Oper} {a : Act} {w : World} {Q : Exit → Act → World → Prop} (hg : o.guard = none) (x : Operand) (ho : o.op = .buildSlice T 1 #[(0, x)]) (cs : Array Value) (hs : cs.size = k) (hx : a.eval x = .agg cs)
  (h : ∀ w1 g, CAt w1 g cs t → Below w.heap.size w w1 → w.heap.size = g → wpList Tryz.prog ops Q rest (a.put o.dst (.slice (some ⟨g, 0, none⟩) 1 1)) w1) : wpList Tryz.prog ops Q (o :: rest) a w := by
 refine wpList_plain hg fun _ hK => ?_
 unfold Oper.wp execOp
 have := run_buildX hT hi hk hk2 w cs hs
 simp only [ho, List.map_toArray, List.map_cons, List.map_nil, hx, Sem.run_bind, this, Result.andThen_ok, Sem.run_pure]
 exact hK _ _ (h _ _ (CAt.made _ _ _) (below_al _ _) rfl)
theorem XB.mono {t : TypeId} {k B : Nat} {w w' : World} {v : Value} (hb : B ≤ w.heap.size) (hg : w.grownBy w' v.ownBlock) {R : List (List Value)} (h : XB t k B w v R) : Below B w w' := below_grown (Below.refl _ _) hg hb fun b hb => (own_ge h b hb).1
end Go.Proofs.YtopibkoklagceaaGreat

/- tally: the journals that drives have. -/
namespace Go.Proofs.YtopibkoklagceaaGreat
open Go Go.RowKit

/-- A journal that a drive has, as a value, and its text. -/
structure Hv where
 s : Int
 v : Value
 m : List Rp
 t : ByteArray
def hC (s : Int) (v : Value) (t : ByteArray) : Array Value := #[i64 s, v, .string t]
def Hv.row (x : Hv) : List Value := [i64 x.s, x.v, .string x.t]
structure HvOk (B : Nat) (w : World) (x : Hv) : Prop where
 rs : Rs B w x.v x.m
 small : x.m.length ≤ 100000
 txt : x.t.size ≤ 100000
theorem HvOk.below {B : Nat} {w w' : World} {x : Hv} (h : HvOk B w x) (hb : Below w.heap.size w w') : HvOk B w' x := ⟨h.rs.below hb, h.small, h.txt⟩
theorem HvOk.only {B : Nat} {w w' : World} {x : Hv} {S : Nat → Prop} (h : HvOk B w x) (hO : Only S w w') (hS : ∀ i, S i → i < B) : HvOk B w' x := ⟨h.rs.only hO hS, h.small, h.txt⟩
theorem Rs.one {B : Nat} {w : World} {v : Value} {l : List Rp} (h : Rs B w v l) : v.oneCell' = true := by obtain ⟨a, c, e, _⟩ := h.buf.form; rw [e]; rfl
theorem HvOk.one {B : Nat} {w : World} {x : Hv} (h : HvOk B w x) : ∀ u ∈ x.row, u.oneCell' = true := by
 intro u hu
 simp only [Hv.row, List.mem_cons, List.not_mem_nil, or_false] at hu
 rcases hu with rfl | rfl | rfl
 ·rfl
 ·exact h.rs.one
 ·rfl
theorem hC_one (s : Int) (v : Value) (t : ByteArray) (hv : v.oneCell' = true) : (hC s v t).all (·.oneCell') = true := by simp [hC, hv, show ∀ q : Int, (i64 q).oneCell' = true from fun _ => rfl, show ∀ q : ByteArray, (Value.string q).oneCell' = true from fun _ => rfl]
end Go.Proofs.YtopibkoklagceaaGreat

/- tally: votes in a map, the greatest one. -/
namespace Go.Proofs.YtopibkoklagceaaGreat
open Go Go.RowKit

/-- A map from texts to counts. -/
def CntM (w : World) (m n : Nat) (f : List Nat → Nat) : Prop := ∃ D : DataW Unit, w.ownsMap Tryz.prog 9 (plainElem Tryz.prog 3) m n D ∧ ∀ s : ByteArray, D.atKey (.string s.data.toList) (.lit (.int .i64 0)) = .lit (.int .i64 (f (lst s) : Nat))
theorem CntM.lt {w : World} {m n : Nat} {f : List Nat → Nat} (h : CntM w m n f) : m < w.heap.size := by obtain ⟨D, h, _⟩ := h; exact h.lt
theorem CntM.keep {w w' : World} {m n : Nat} {f : List Nat → Nat} (h : CntM w m n f) (hk : w'.heap[m]? = w.heap[m]?) : CntM w' m n f := by
 obtain ⟨D, ⟨es, clock, hb, F, hs, hD⟩, h2⟩ := h
 exact ⟨D, ⟨es, clock, hk.trans hb, F, hs, hD⟩, h2⟩
theorem CntM.below {w w' : World} {m n : Nat} {f : List Nat → Nat} (h : CntM w m n f) (hb : Below w.heap.size w w') : CntM w' m n f := h.keep (hb.block m h.lt)
theorem CntM.congr {w : World} {m n : Nat} {f f' : List Nat → Nat} (h : CntM w m n f) (e : ∀ b, f' b = f b) : CntM w m n f' := by rw [show f' = f from funext e]; exact h
theorem CntM.made (w : World) : CntM (w.alloc (.map #[] 0)) w.heap.size 0 (fun _ => 0) := ⟨.map [], World.ownsMap_made w _ _ _, fun _ => rfl⟩
end Go.Proofs.YtopibkoklagceaaGreat

/- slices.MaxFunc over the journals that drives have; greatest. -/
namespace Go.Proofs.YtopibkoklagceaaGreat
open Go Go.RowKit

def Hv.cs (x : Hv) : Array Value := hC x.s x.v x.t
theorem Hv.cs_one {B : Nat} {w : World} {x : Hv} (h : HvOk B w x) : x.cs.all (·.oneCell') = true := hC_one _ _ _ h.rs.one

end Go.Proofs.YtopibkoklagceaaGreat

/- Choices in memory; bools that are written one by one; what Elect tells. -/
namespace Go.Proofs.YtopibkoklagceaaGreat
open Go Go.RowKit

abbrev nilS : Value := .slice none 0 0
/-- A row of bools of one's own. -/
def BoF (w : World) (g n : Nat) (F : Nat → Bool) : Prop := CAt w g (((List.range n).map fun i => Value.bool (F i)).toArray) 4
theorem BoF.cell {w : World} {g n : Nat} {F : Nat → Bool} (h : BoF w g n F) {i : Nat} (hi : i < n) : w.cell? ⟨g, i, none⟩ = some (.bool (F i)) := by
 have h2 : CAt w g _ 4 := h
 rw [h2.cell]; simp [hi]
theorem BoF.free {w : World} {g n : Nat} {F : Nat → Bool} (h : BoF w g n F) (i : Nat) : w.frozen? ⟨g, i, none⟩ = false := CAt.free (h : CAt w g _ 4) i
theorem BoF.lt {w : World} {g n : Nat} {F : Nat → Bool} (h : BoF w g n F) : g < w.heap.size := CAt.lt (h : CAt w g _ 4)
theorem BoF.keep {w w' : World} {g n : Nat} {F : Nat → Bool} (h : BoF w g n F) (e : w'.heap[g]? = w.heap[g]?) : BoF w' g n F := e.trans h
theorem BoF.below {w w' : World} {g n : Nat} {F : Nat → Bool} (h : BoF w g n F) (hb : Below w.heap.size w w') : BoF w' g n F := h.keep (hb.block g h.lt)
theorem BoF.set {w : World} {g n : Nat} {F : Nat → Bool} (h : BoF w g n F) (k : Nat) (x : Bool) : BoF (w.setCell ⟨g, k, none⟩ (.bool x)) g n (fun i => if i = k then x else F i) := by
 have h2 := CAt.set (h : CAt w g _ 4) k (.bool x)
 unfold BoF
 have e : (((List.range n).map fun i => Value.bool (F i)).toArray).setIfInBounds k (.bool x) = ((List.range n).map fun i => Value.bool (if i = k then x else F i)).toArray := by
  apply Array.toList_inj.1
  rw [Array.toList_setIfInBounds, List.toList_toArray, List.toList_toArray]
  refine List.ext_getElem? fun i => ?_
  rw [List.getElem?_set]
  by_cases hi : i < n
  ·by_cases e : k = i
   ·subst e; simp [hi]
   ·simp [e, hi, Ne.symm e]
  ·have h0 : ((List.range n).map fun i => Value.bool (F i)).length ≤ i := by simp; omega
   have h1 : ((List.range n).map fun i => Value.bool (if i = k then x else F i)).length ≤ i := by simp; omega
   rw [List.getElem?_eq_none h0, List.getElem?_eq_none h1]
   split <;> simp
   simp at h0
   omega
 rw [← e]
 exact h2
theorem BoF.congr {w : World} {g n : Nat} {F G : Nat → Bool} (h : BoF w g n F) (e : ∀ i, i < n → F i = G i) : BoF w g n G := by
 unfold BoF at *
 rw [show ((List.range n).map fun i => Value.bool (G i)) = (List.range n).map fun i => Value.bool (F i) from List.map_congr_left fun i hi => by rw [e i (List.mem_range.1 hi)]]
 exact h
theorem BoF.made (w : World) (n : Nat) : BoF (w.alloc (.cells (madeCells #[.bool false] n) 4)) w.heap.size n (fun _ => false) := by
 unfold BoF
 have e : madeCells #[.bool false] n = ((List.range n).map fun _ => Value.bool false).toArray := by
  apply Array.toList_inj.1
  rw [List.toList_toArray]
  refine List.ext_getElem? fun i => ?_
  by_cases hi : i < n
  ·rw [Array.getElem?_toList, madeCells_get _ _ _ hi]; simp [hi]
  ·rw [List.getElem?_eq_none (by simp [madeCells]; omega), List.getElem?_eq_none (by simp; omega)]
 rw [← e]
 exact CAt.made w _ _
end Go.Proofs.YtopibkoklagceaaGreat

/- tally.Elect where a drive has a journal. -/
namespace Go.Proofs.YtopibkoklagceaaGreat
open Go Go.RowKit

theorem CntM.apart {w : World} {m n : Nat} {f : List Nat → Nat} (h : CntM w m n f) {g : Nat} {cs : Array Value} {t : TypeId} (hc : CAt w g cs t) : m ≠ g := fun e => by
 obtain ⟨D, ⟨es, clock, hb, _⟩, _⟩ := h
 subst e
 have := hb.symm.trans hc
 simp at this
theorem str_eq {bs : List Nat} (h8 : ∀ z ∈ bs, z < 256) (t : ByteArray) : ((ba bs).toList == t.toList) = decide (bs = lst t) := by rw [lst_beq, lst_ba h8]

end Go.Proofs.YtopibkoklagceaaGreat

/- The chapter's examples: mathematics; of; lists of three copies; awake. -/
namespace Go.Proofs.YtopibkoklagceaaGreat
open Go Go.RowKit

theorem Tryz.infoCp : (Tryz.prog.info? 59).map (fun i => (i.zero, i.size, i.bytes)) = some (some (.agg (cC 0 (.slice none 0 0))), 2, 32) := by kernel_rfl
theorem Buf.cv {B : Nat} {w : World} {p : Option Addr} {n c : Nat} {L : List Nat} (h : Buf B w (.slice p n c) L) (hn : n = L.length) (h1 : L.length ≤ 100000) (h8 : ∀ z ∈ L, z < 256) (e : Int) : CvOk w ⟨e, .slice p n c, L⟩ := by
 subst hn
 refine ⟨⟨p, c, rfl, h.bl, h.cap.2, fun e => ?_⟩, h1, h8⟩
 subst e
 rcases h.2 with ⟨e2, _⟩ | ⟨g, cap, cur, e2, _⟩
 ·simp at e2; exact e2.2
 ·simp at e2
end Go.Proofs.YtopibkoklagceaaGreat

/- Journals that came in. -/
namespace Go.Proofs.YtopibkoklagceaaGreat
open Go Go.RowKit

/-- What is told of a record that came in. -/
structure IsP (w : World) (x : Rp) : Prop where
 sl : x.r.sum.length = 32
 s8 : ∀ z ∈ x.r.sum, z < 256
 parts : ∃ (po : Option Addr) (c : Nat), x.r.pv = .slice po x.ps.length c ∧ x.ps.length ≤ c ∧ (po = none → c = 0) ∧ (x.ps = [] ∨ ∃ b o, po = some ⟨b, o, none⟩ ∧ PCells w b o x.ps)
/-- The slice v, which came in, leads to the records l. -/
def IsJ (w : World) (v : Value) (l : List Rp) : Prop := ∃ po c, v = .slice po l.length c ∧ l.length ≤ c ∧ c ≤ maxLen ∧ (po = none → c = 0) ∧ (l = [] ∨ ∃ b o, po = some ⟨b, o, none⟩ ∧ RCells w b o l) ∧ ∀ x ∈ l, IsP w x
theorem IsP.keep {w w' : World} {x : Rp} (h : IsP w x) (hk : ∀ a, w.cell? a ≠ none → w'.cell? a = w.cell? a) : IsP w' x := by
 refine ⟨h.sl, h.s8, ?_⟩
 obtain ⟨po, c, h1, h2, h3, h⟩ := h.parts
 refine ⟨po, c, h1, h2, h3, ?_⟩
 rcases h with h | ⟨b, o, hp, h⟩
 ·exact Or.inl h
 ·exact Or.inr ⟨b, o, hp, fun i hi => ⟨(hk _ (by rw [(h i hi).1]; simp)).trans (h i hi).1, (hk _ (by rw [(h i hi).2]; simp)).trans (h i hi).2⟩⟩
theorem IsJ.keep {w w' : World} {v : Value} {l : List Rp} (h : IsJ w v l) (hk : ∀ a, w.cell? a ≠ none → w'.cell? a = w.cell? a) : IsJ w' v l := by
 obtain ⟨po, c, h1, h2, h3, h4, h5, h6⟩ := h
 refine ⟨po, c, h1, h2, h3, h4, ?_, fun x hx => (h6 x hx).keep hk⟩
 rcases h5 with h | ⟨b, o, hp, h⟩
 ·exact Or.inl h
 ·exact Or.inr ⟨b, o, hp, h.keep hk⟩
theorem IsJ.below {w w' : World} {v : Value} {l : List Rp} (h : IsJ w v l) (hb : Below w.heap.size w w') : IsJ w' v l :=
 h.keep fun a ha => World.cell?_of_block (hb.block a.block (cell_lt' ha))
/-- Is a record more than is gone through? -/
def bigP (x : Rp) : Bool := decide (100 < x.ps.length) || decide (1000 < x.r.id.size) || decide (1000 < x.r.etag.size) || decide (1000 < x.r.data.size) || decide (1000 < x.r.up.size)
theorem IsP.ok {w : World} {x : Rp} (h : IsP w x) (hb : bigP x = false) : RpOk w x := by
 simp only [bigP, Bool.or_eq_false_iff, decide_eq_false_iff_not] at hb
 obtain ⟨⟨⟨⟨b1, b2⟩, b3⟩, b4⟩, b5⟩ := hb
 obtain ⟨po, c, h1, h2, h3, h4⟩ := h.parts
 exact ⟨⟨h.sl, h.s8, by omega, by omega, by omega, by omega⟩, ⟨po, c, h1, h2, by omega, h4⟩, fun n k e => by rw [h1] at e; cases e; exact h3 rfl⟩
section
variable {H : Type} {enc : TypeId × Value → H} {w : World} {held : Bool} {fuel : Nat}
end

end Go.Proofs.YtopibkoklagceaaGreat

/- Copies that came in; which are large; how many have just these bytes. -/
namespace Go.Proofs.YtopibkoklagceaaGreat
open Go Go.RowKit

/-- What is told of a copy that came in. -/
structure IsCp (w : World) (x : Cv) : Prop where
 sl : ∃ po c, x.v = .slice po x.bs.length c ∧ BL w po x.bs ∧ x.bs.length ≤ c ∧ (po = none → c = 0)
 byte : ∀ z ∈ x.bs, z < 256
def IsC (w : World) (v : Value) (l : List Cv) : Prop := ∃ po c, v = .slice po l.length c ∧ l.length ≤ c ∧ c ≤ maxLen ∧ (po = none → c = 0) ∧ (l = [] ∨ ∃ b o, po = some ⟨b, o, none⟩ ∧ CCells w b o l) ∧ ∀ x ∈ l, IsCp w x
section
variable {H : Type} {enc : TypeId × Value → H} {w : World} {held : Bool} {fuel : Nat}
set_option maxRecDepth 100000 in
theorem copy_read9 {cs : List Value} {x : DataW H × List MemPlace} (h : DataW.trod enc Tryz.prog w 0 (fun _ => true) held fuel 59 cs = some x) : ∃ y : Cv, IsCp w y ∧ cs = (cC y.err y.v).toList := by
 obtain ⟨xs, n, _, _, hcl, hxl, hf⟩ := DataW.trod_struct Tryz.underlying59 h
 have h2 : cs.length = 2 := by rw [hcl]; kernel_rfl
 have hx2 : xs.length = 2 := by rw [hxl]; rfl
 have k3 : Tryz.prog.cellsOf 25 = 1 := by kernel_rfl
 have kR : Tryz.prog.cellsOf 22 = 1 := by kernel_rfl
 match cs, h2, xs, hx2 with
 | [c0, c1], _, [y0, y1], _ =>
  have f0 : DataW.trod enc Tryz.prog w 0 (fun _ => true) held n 25 (([c0, c1].drop 0).take (Tryz.prog.cellsOf 25)) = some y0 := hf 0 _ rfl
  rw [k3] at f0
  have f1 : DataW.trod enc Tryz.prog w 0 (fun _ => true) held n 22 (([c0, c1].drop 1).take (Tryz.prog.cellsOf 22)) = some y1 := hf 1 _ rfl
  rw [kR] at f1
  obtain ⟨z0, e0, _, _⟩ := DataW.trod_int Tryz.underlying25 f0
  simp at e0
  subst e0
  have f2 : DataW.trod enc Tryz.prog w 0 (fun _ => true) held n 22 [c1] = some y1 := f1
  obtain ⟨po, l, c, rfl⟩ : ∃ po l c, c1 = .slice po l c := by
   rcases DataW.trod_slice Tryz.underlying22 f2 with ⟨hcs, _⟩ | ⟨ad, l, c, _, _, _, _, hcs, _⟩
   ·simp at hcs; exact ⟨none, 0, 0, hcs⟩
   ·simp at hcs; exact ⟨some ad, l, c, hcs⟩
  obtain ⟨bs, rfl, h1, h3, h4, h5⟩ := bytes_open (a := po) (len := l) (cap := c) f2
  exact ⟨⟨z0, .slice po bs.length c, bs⟩, ⟨⟨po, c, rfl, h3, h1, h5⟩, h4⟩, rfl⟩
set_option maxRecDepth 100000 in
theorem copies_read9 {cs : List Value} {x : DataW H × List MemPlace} (h : DataW.trod enc Tryz.prog w 0 (fun _ => true) held fuel 35 cs = some x) : ∃ v l, cs = [v] ∧ IsC w v l := by
 have k2 : Tryz.prog.cellsOf 59 = 2 := by kernel_rfl
 rcases DataW.trod_slice Tryz.underlying35 h with ⟨hcs, _⟩ | ⟨ad, l, c, elems, rest, n, _, hcs, _, _, hl, hc, hlen, hel, _, _⟩
 ·exact ⟨_, [], hcs, none, 0, rfl, Nat.le_refl _, Nat.zero_le _, fun _ => rfl, Or.inl rfl, fun x hx => by cases hx⟩
 ·rw [k2] at hel
  have each : ∀ i, i < l → ∃ y : Cv, IsCp w y ∧ w.cell? ((ad.add (i * 2)).add 0) = some (i64 y.err) ∧ w.cell? ((ad.add (i * 2)).add 1) = some y.v := fun i hi => by
   have h1 := hel i hi
   rw [List.getElem?_eq_getElem (by omega)] at h1
   obtain ⟨ds, hc1, hc2⟩ := Option.bind_eq_some_iff.1 h1
   obtain ⟨y, hy, rfl⟩ := copy_read9 hc2
   obtain ⟨_, _, hcell⟩ := World.cells?_some hc1
   exact ⟨y, hy, by rw [hcell 0 (by omega)]; rfl, by rw [hcell 1 (by omega)]; rfl⟩
  by_cases h0 : l = 0
  ·subst h0
   exact ⟨_, [], hcs, some ad, c, rfl, hl, hc, (fun h => by cases h), Or.inl rfl, fun x hx => by cases hx⟩
  obtain ⟨y0, hy0, h00, _⟩ := each 0 (by omega)
  obtain ⟨b, o, rfl⟩ : ∃ b o, ad = ⟨b, o, none⟩ := by
   rw [Nat.zero_mul, add_zero', add_zero'] at h00
   exact plain_at ad w (by rw [h00]; simp)
  have each2 : ∀ i, i < l → ∃ y : Cv, IsCp w y ∧ w.cell? ⟨b, o + i * 2, none⟩ = some (i64 y.err) ∧ w.cell? ⟨b, o + i * 2 + 1, none⟩ = some y.v := fun i hi => by
   obtain ⟨y, h1, h2, h3⟩ := each i hi
   rw [add_none, add_none, Nat.add_zero] at h2
   rw [add_none, add_none] at h3
   exact ⟨y, h1, h2, h3⟩
  refine ⟨_, (List.range l).map fun i => if h : i < l then (each2 i h).choose else y0, hcs, some ⟨b, o, none⟩, c, by simp, by simpa using hl, hc, (fun h => by cases h), Or.inr ⟨b, o, rfl, fun i x hx => ?_⟩, fun x hx => ?_⟩
  ·have hi : i < l := by
     rcases Nat.lt_or_ge i l with q | q
     ·exact q
     ·rw [List.getElem?_eq_none (by simpa using q)] at hx; cases hx
   simp [hi] at hx
   subst hx
   exact (each2 i hi).choose_spec.2
  ·obtain ⟨i, hi, rfl⟩ := List.mem_map.1 hx
   have hi' : i < l := by simpa using hi
   simp only [hi', dite_true]
   exact (each2 i hi').choose_spec.1
end
end Go.Proofs.YtopibkoklagceaaGreat

/- copies: copies in memory of their own. -/
namespace Go.Proofs.YtopibkoklagceaaGreat
open Go Go.RowKit

def Cv.row (x : Cv) : List Value := [i64 x.err, x.v]
theorem crow_len (L : List Cv) : ∀ r ∈ L.map Cv.row, r.length = 2 := fun r hr => by obtain ⟨x, _, rfl⟩ := List.mem_map.1 hr; rfl
/-- Copies in a row of their own, their bytes too. -/
structure CI (B : Nat) (w : World) (v : Value) (L : List Cv) : Prop where
 buf : XB 59 2 B w v (L.map Cv.row)
 each : ∀ x ∈ L, Buf B w x.v x.bs ∧ (∀ z ∈ x.bs, z < 256) ∧ x.bs.length ≤ 100000
theorem CI.nil (B : Nat) (w : World) : CI B w nilS [] := ⟨XB.nil _ _ B w, fun x hx => by cases hx⟩
theorem CI.on {B : Nat} {w w' : World} {v : Value} {L : List Cv} (h : CI B w v L) (hb : Below w.heap.size w w') : CI B w' v L := ⟨h.buf.below hb, fun x hx => ⟨(h.each x hx).1.below hb, (h.each x hx).2⟩⟩
theorem own_blk9 {B e sz n : Nat} {w : World} {v : Value} {xs : List Value} (h : w.ownsRow B e sz v n xs) {b : Nat} (hb : v.ownBlock = some b) : ∃ cur, CAt w b cur e := by
 rcases h.2 with ⟨e2, _⟩ | ⟨g', cap, cur, e2, _, hg', _⟩
 ·rw [e2] at hb; cases hb
 ·rw [e2] at hb
  cases hb
  exact ⟨cur, hg'⟩
theorem CI.cl {B : Nat} {w : World} {v : Value} {L : List Cv} (h : CI B w v L) (hn : L.length ≤ 1000) : CL w v L := by
 obtain ⟨po, c, e, h1, h2⟩ := h.buf.form
 rw [List.length_map] at e h1
 refine ⟨po, c, e, h1, hn, h2, ?_, fun x hx => ?_⟩
 ·by_cases h0 : 0 < L.length
  ·obtain ⟨g, c2, e2, _, _, _, h3⟩ := h.buf.cells (crow_len L) (by rw [List.length_map]; exact h0)
   rw [List.length_map] at e2
   rw [e] at e2
   cases e2
   refine Or.inr ⟨g, 0, rfl, fun i x hx => ?_⟩
   have h4 := h3 i x.row (by rw [List.getElem?_map, hx]; rfl)
   exact ⟨by have := h4 0 (i64 x.err) rfl; simpa using this, h4 1 x.v rfl⟩
  ·exact Or.inl (List.eq_nil_of_length_eq_zero (by omega))
 ·obtain ⟨h3, h4, h5⟩ := h.each x hx
  obtain ⟨p, c3, e3⟩ := h3.form
  have h6 := h3
  rw [e3] at h6
  have := h6.cv rfl h5 h4 x.err
  rw [← e3] at this
  exact this
theorem exec_app9 {a : Act} {o : Oper} {s x : Operand} {t t2 : TypeId} {v xv v' : Value} {W W' : World} (ho : o.op = .call { callee := .builtin .append, args := #[s, x], argTypes := #[t, t2] }) (hs : a.eval s = v) (hx : a.eval x = xv) (hr : (Builtin.append_ #[t, t2] o.type #[v, xv]).run Tryz.prog W = .ok v' W') : (execOp a.eval o).run Tryz.prog W = .ok (.value v') W' := by
 unfold execOp
 simp only [ho, resolve, invoke, builtin, Sem.run_bind, Sem.run_pure, Result.andThen_ok, List.map_toArray, List.map_cons, List.map_nil, hs, hx, hr]
theorem exec_bsC {a : Act} {o : Oper} {x : Operand} {e : Int} {v : Value} {W : World} (ho : o.op = .buildSlice 35 1 #[(0, x)]) (hx : a.eval x = .agg (cC e v)) : (execOp a.eval o).run Tryz.prog W = .ok (.value (.slice (some ⟨W.heap.size, 0, none⟩) 1 1)) (W.alloc (.cells (cC e v) 59)) := by
 have h := run_buildX (T := 35) Tryz.underlying35 Tryz.infoCp (by decide) (by decide) W (cC e v) rfl
 unfold execOp
 simp only [ho, List.map_toArray, List.map_cons, List.map_nil, hx, Sem.run_bind, h, Result.andThen_ok, Sem.run_pure]
/-- What copies tells. -/
def CpS (w : World) (l : List Cp) (e : Ending) (w' : World) : Prop := ∃ v' L, e = .returned v' ∧ CI w.heap.size w' v' L ∧ cps L = l ∧ Below w.heap.size w w'

end Go.Proofs.YtopibkoklagceaaGreat
