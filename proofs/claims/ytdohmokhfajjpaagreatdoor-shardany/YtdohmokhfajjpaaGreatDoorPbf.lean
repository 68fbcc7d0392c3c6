/- Texts laid into one, cut to what is needed: the remark ahead of each part says what is proved there. -/
import Derived.Test.YtdohmokhfajjpaaGreatDoorPbb
import Derived.Great.BuildSlice
import Derived.Test.YtdohmokhfajjpaaGreatDoorPbe
import Derived.Test.YtdohmokhfajjpaaGreatDoorPav
import Derived.Test.YtdohmokhfajjpaaGreatDoorPan
import Derived.Test.YtdohmokhfajjpaaGreatDoorPaw
import Derived.Test.YtdohmokhfajjpaaGreatDoorPay
/- Rows of small structs in memory of one's own: what is appended to them; literals of one struct. -/
namespace Go.Proofs.YtdohmokhfajjpaaGreatDoor
open Go Go.RowKit

/-- Rows of k cells each, in a row of one's own. -/
def XB (t : TypeId) (k B : Nat) (w : World) (v : Value) (R : List (List Value)) : Prop := w.ownsRow B t k v R.length R.flatten
theorem XB.nil (t : TypeId) (k B : Nat) (w : World) : XB t k B w (.slice none 0 0) [] := World.ownsRow_nil w B t k
theorem XB.form {t : TypeId} {k B : Nat} {w : World} {v : Value} {R : List (List Value)} (h : XB t k B w v R) : ∃ po c, v = .slice po R.length c ∧ R.length ≤ c ∧ (po = none → c = 0) := by
 rcases h.2 with ⟨rfl, h0⟩ | ⟨g, cap, cur, rfl, _, _, h1, _⟩
 ·exact ⟨none, 0, by rw [h0], by omega, fun _ => rfl⟩
 ·exact ⟨_, cap, rfl, h1, fun e => by cases e⟩
theorem XB.keep {t : TypeId} {k B : Nat} {w w' : World} {v : Value} {R : List (List Value)} (h : XB t k B w v R) (hk : ∀ b, v.ownBlock = some b → w'.heap[b]? = w.heap[b]?) : XB t k B w' v R := ownsRow_keep h hk
theorem XB.below {t : TypeId} {k B : Nat} {w w' : World} {v : Value} {R : List (List Value)} (h : XB t k B w v R) (hb : Below w.heap.size w w') : XB t k B w' v R := h.keep fun b hv => hb.block b (own_ge h b hv).2
theorem XB.base {t : TypeId} {k B C : Nat} {w : World} {v : Value} {R : List (List Value)} (h : XB t k B w v R) (hC : C ≤ B) : XB t k C w v R := own_base h hC
theorem flat_get {k : Nat} : ∀ {R : List (List Value)}, (∀ r ∈ R, r.length = k) → ∀ {i : Nat} {r : List Value}, R[i]? = some r → ∀ {j : Nat}, j < k → R.flatten[i * k + j]? = r[j]?
 | [], _, i, r, e, j, _ => by simp at e
 | y :: l, h, 0, r, e, j, hj => by
  simp at e
  subst e
  rw [List.flatten_cons, Nat.zero_mul, Nat.zero_add, List.getElem?_append_left (by rw [h y (by simp)]; exact hj)]
 | y :: l, h, i + 1, r, e, j, hj => by
  rw [List.flatten_cons, List.getElem?_append_right (by rw [h y (by simp), Nat.add_mul]; omega), h y (by simp), show (i + 1) * k + j - k = i * k + j by rw [Nat.add_mul]; omega]
  exact flat_get (R := l) (fun z hz => h z (by simp [hz])) (by simpa using e) hj
theorem flat_len {k : Nat} : ∀ {R : List (List Value)}, (∀ r ∈ R, r.length = k) → R.flatten.length = R.length * k
 | [], _ => by simp
 | y :: l, h => by
  rw [List.flatten_cons, List.length_append, h y (by simp), flat_len (R := l) (fun z hz => h z (by simp [hz])), List.length_cons, Nat.add_mul]; omega
theorem XB.cells {t : TypeId} {k B : Nat} {w : World} {v : Value} {R : List (List Value)} (h : XB t k B w v R) (hR : ∀ r ∈ R, r.length = k) (hne : 0 < R.length) :
  ∃ g c, v = .slice (some ⟨g, 0, none⟩) R.length c ∧ R.length ≤ c ∧ B ≤ g ∧ g < w.heap.size ∧ ∀ i r, R[i]? = some r → ∀ j u, r[j]? = some u → w.cell? ⟨g, 0 + i * k + j, none⟩ = some u := by
 rcases h.2 with ⟨rfl, h0⟩ | ⟨g, cap, cur, rfl, hB, hg, h1, _, h3, h4⟩
 ·omega
 have hc : CAt w g cur t := hg
 refine ⟨g, cap, rfl, h1, hB, hc.lt, fun i r hr j u hu => ?_⟩
 have hj : j < k := by
  rcases Nat.lt_or_ge j k with q | q
  ·exact q
  ·rw [List.getElem?_eq_none (by rw [hR r (List.mem_of_getElem? hr)]; exact q)] at hu; cases hu
 have e := flat_get hR hr hj
 rw [← h4, hu] at e
 rw [Nat.zero_add, hc.cell]
 have hi : i * k + j < R.length * k := by
  have h5 : i < R.length := (List.getElem?_eq_some_iff.1 hr).1
  calc i * k + j < i * k + k := by omega
   _ = (i + 1) * k := by rw [Nat.add_mul]; omega
   _ ≤ R.length * k := Nat.mul_le_mul_right k h5
 rw [List.getElem?_take, if_pos hi] at e
 simpa using e
theorem flat_one {R : List (List Value)} (h : ∀ r ∈ R, ∀ u ∈ r, u.oneCell' = true) : ∀ u ∈ R.flatten, u.oneCell' = true := fun u hu => by
 obtain ⟨r, hr, hu⟩ := List.mem_flatten.1 hu
 exact h r hr u hu
/-- append(v, s...), the rows anywhere. -/
theorem XB.app {t T ty : TypeId} {k B bytes : Nat} {z : Value} {w : World} {v : Value} {R : List (List Value)} (hv : XB t k B w v R) (hT : Tryz.prog.underlying T = some (.slice t)) (hi : (Tryz.prog.info? t).map (fun i => (i.zero, i.size, i.bytes)) = some (some z, k, bytes)) (hz : z.cells.size = k) (hk : 0 < k)
  (b o c : Nat) (S : List (List Value)) (hS : ∀ r ∈ S, r.length = k) (h1 : ∀ r ∈ S, ∀ u ∈ r, u.oneCell' = true) (hc : ∀ i r, S[i]? = some r → ∀ j u, r[j]? = some u → w.cell? ⟨b, o + i * k + j, none⟩ = some u) (hn : R.length + S.length ≤ 100000) (hby : bytes ≤ 1000) (hB : B ≤ w.heap.size) :
  ∃ v' w', (Builtin.append_ #[T, T] ty #[v, .slice (some ⟨b, o, none⟩) S.length c]).run Tryz.prog w = .ok v' w' ∧ XB t k B w' v' (R ++ S) ∧ w.grownBy w' v.ownBlock ∧ (v'.ownBlock = v.ownBlock ∨ v'.ownBlock = some w.heap.size) := by
 obtain ⟨i0, hi0, hz0, hz1, hz2⟩ := info_parts hi
 obtain ⟨v', w', hr, h3, h4, _, h5⟩ := run_append_own_at (P := Tryz.prog) w B T ty t i0 z k bytes hT hi0 hz0 hz1 hz2 hz hk v R.length R.flatten hv ⟨b, o, none⟩ S.length c S.flatten (flat_len hS) (fun j u hj => by
   rw [add_none]
   have hlt : j < S.length * k := by
    rcases Nat.lt_or_ge j (S.length * k) with q | q
    ·exact q
    ·rw [List.getElem?_eq_none (by rw [flat_len hS]; exact q)] at hj; cases hj
   have hik : j / k < S.length := (Nat.div_lt_iff_lt_mul hk).2 hlt
   have hjk : j % k < k := Nat.mod_lt _ hk
   have e := flat_get hS (List.getElem?_eq_getElem hik) hjk
   rw [show j / k * k + j % k = j by rw [Nat.mul_comm]; exact Nat.div_add_mod j k] at e
   rw [hj] at e
   have := hc (j / k) S[j / k] (List.getElem?_eq_getElem hik) (j % k) u e.symm
   rwa [show o + j / k * k + j % k = o + j by rw [Nat.add_assoc, show j / k * k + j % k = j by rw [Nat.mul_comm]; exact Nat.div_add_mod j k]] at this) (flat_one h1) (by unfold maxLen; omega)
   (Nat.le_trans (Nat.mul_le_mul hn hby) (by decide)) hB
 refine ⟨v', w', hr, ?_, h4, h5⟩
 unfold XB
 rw [List.length_append, List.flatten_append]
 exact h3
/-- A slice literal of one struct. -/
theorem fill_oneX (k : Nat) (C V : Array Value) (hC : C.size = k) (hV : V.size = k) : Instr.fill (fun i => some (i * k, k)) C [(0, .agg V)] = some V := by
 have h2 : ¬ (0 * k + V.size > C.size) := by omega
 simp only [Instr.fill, Value.cells, hV, ne_eq, not_true_eq_false, decide_false, Bool.false_or, decide_eq_true_eq]
 rw [if_neg (by omega)]
 congr 1
 apply Array.toList_inj.1
 rw [← Array.foldl_toList, Array.toList_zipIdx]
 have e := fold_zip V.toList 0 C
 simp only [Nat.zero_mul, Nat.zero_add]
 refine Eq.trans ?_ (e.trans ?_)
 ·rfl
 ·rw [setAll_splice (by simp [hC, hV]), List.take_zero, List.nil_append, Nat.zero_add, List.drop_of_length_le (by simp [hC, hV]), List.append_nil]
theorem run_buildX {t T : TypeId} {k bytes : Nat} {z : Value} (hT : Tryz.prog.underlying T = some (.slice t)) (hi : (Tryz.prog.info? t).map (fun i => (i.zero, i.size, i.bytes)) = some (some z, k, bytes)) (hk : 0 < k) (hk2 : k ≤ 1000) (w : World) (cs : Array Value) (hs : cs.size = k) : (Instr.buildSlice T 1 #[(0, .agg cs)]).run Tryz.prog w = .ok (.slice (some ⟨w.heap.size, 0, none⟩) 1 1) (w.alloc (.cells cs t)) := by
 obtain ⟨i0, hi0, hz0, hz1, hz2⟩ := info_parts hi
 refine run_buildSlice w T t 1 _ cs i0 z hT hi0 hz0 (by rw [hz1]; omega) (by rw [hz1]; omega) ?_
 rw [hz1]
 exact fill_oneX k _ _ (by simp) hs
theorem wpList_buildX {t T : TypeId} {k bytes : Nat} {z : Value} (hT : Tryz.prog.underlying T = some (.slice t)) (hi : (Tryz.prog.info? t).map (fun i => (i.zero, i.size, i.bytes)) = some (some z, k, bytes)) (hk : 0 < k) (hk2 : k ≤ 1000) {ops : Array Oper} {rest : List Oper} {o : Oper} {a : Act} {w : World} {Q : Exit → Act → World → Prop} (hg : o.guard = none) (x : Operand) (ho : o.op = .buildSlice T 1 #[(0, x)]) (cs : Array Value) (hs : cs.size = k) (hx : a.eval x = .agg cs)
  (h : ∀ w1 g, CAt w1 g cs t → Below w.heap.size w w1 → w.heap.size = g → wpList Tryz.prog ops Q rest (a.put o.dst (.slice (some ⟨g, 0, none⟩) 1 1)) w1) : wpList Tryz.prog ops Q (o :: rest) a w := by
 refine wpList_plain hg fun _ hK => ?_
 unfold Oper.wp execOp
 have := run_buildX hT hi hk hk2 w cs hs
 simp only [ho, List.map_toArray, List.map_cons, List.map_nil, hx, Sem.run_bind, this, Result.andThen_ok, Sem.run_pure]
 exact hK _ _ (h _ _ (CAt.made _ _ _) (below_al _ _) rfl)
theorem XB.mono {t : TypeId} {k B : Nat} {w w' : World} {v : Value} (hb : B ≤ w.heap.size) (hg : w.grownBy w' v.ownBlock) {R : List (List Value)} (h : XB t k B w v R) : Below B w w' := below_grown (Below.refl _ _) hg hb fun b hb => (own_ge h b hb).1
end Go.Proofs.YtdohmokhfajjpaaGreatDoor

/- Contracts of of and all of the statements on shard: the record of bytes; files as drives answer them, in new memory; what was there is as it was. -/
namespace Go.Proofs.YtdohmokhfajjpaaGreatDoor
open Go Go.RowKit

def dat0 : ByteArray := ⟨#[48, 49, 50, 51, 52, 53, 54, 55, 56, 57, 97, 98, 99, 100, 101, 102, 48, 49, 50, 51, 52, 53, 54, 55, 56, 57, 97, 98, 99, 100, 101, 102]⟩
/-- The record of bytes. -/
def ofR (n k m : Int) (d : List Nat) : Rv := ⟨⟨#[110, 117, 108, 108]⟩, 0, false, n, ⟨#[48]⟩, k, m, dat0, d, .slice none 0 0, ⟨#[]⟩⟩
theorem built_of (n k m : Int) (f : Nat → Nat) : Tryz.prog.built 44 [(0, .string ⟨#[110, 117, 108, 108]⟩), (3, .int .i64 n), (4, .string ⟨#[48]⟩), (5, .int .i64 k), (6, .int .i64 m), (7, .string dat0), (8, .agg (((List.range 32).map f).map u8).toArray)] = some (ofR n k m ((List.range 32).map f)).cs := by kernel_rfl
theorem ofR_ok {n k m : Int} {d : List Nat} (h : d.length = 32) (h8 : ∀ z ∈ d, z < 256) : (ofR n k m d).ok where
 sl := h
 s8 := h8
 i := by show (4 : Nat) ≤ _; omega
 e := by show (1 : Nat) ≤ _; omega
 d := by show (32 : Nat) ≤ _; omega
 u := by show (0 : Nat) ≤ _; omega
set_option maxRecDepth 100000 in
theorem of11_any (po : Option Addr) (c : Nat) (b : List Nat) (k m : Int) (w : World) (hb : BL w po b) (h8 : ∀ z ∈ b, z < 256) (hc : b.length ≤ c) (hn : b.length ≤ 1000000) :
  Calls Tryz.prog 9 #[.slice po b.length c, .int .i64 k, .int .i64 m] w fun e w' => e = .returned (.agg (ofR b.length k m (dig b)).cs) ∧ Below w.heap.size w w' := by
 have HDS := hid (fun (W : World) (h : Below w.heap.size w W) => dsum_any po c b W hn hc (hb.below h) h8)
 obtain ⟨Z, hZ⟩ : ∃ Z, ofR b.length k m (dig b) = Z := ⟨_, rfl⟩
 have zok : Z.ok := hZ ▸ ofR_ok (dig_len b) (dig_lt b)
 have hbt := built_of b.length k m (fun i => H.sha b.length (fun j => b.getD j 0) i)
 have hbt2 : Tryz.prog.built 44 [(0, .string ⟨#[110, 117, 108, 108]⟩), (3, .int .i64 b.length), (4, .string ⟨#[48]⟩), (5, .int .i64 k), (6, .int .i64 m), (7, .string dat0), (8, .agg ((dig b).map u8).toArray)] = some Z.cs := by rw [← hZ]; exact hbt
 have hone : Z.pv.oneCell' = true := hZ ▸ rfl
 rw [hZ]
 generalize ((dig b).map u8).toArray = D at hbt2 HDS
 have HB := hid hbt2
 clear hZ hbt hbt2 hb h8
 obtain ⟨n, hn2⟩ : ∃ n, b.length = n := ⟨_, rfl⟩
 rw [hn2] at HDS HB hc hn ⊢
 clear hn2 hc
 go_enter Tryz.func9, Tryz.ntmps9
 go_wp2_with (first
  | ((with_reducible refine wpList_allocR rfl rfl ?_); intro w1 g1 hz1 hb1 hg1; have HZ1 := hid hz1; have HB1 := hid hb1; clear hz1 hb1)
  | (go_at_call 22; refine (HDS.out _ HB1.out).mono ?_; rintro e w3 ⟨rfl, hb3⟩; replace HZ1 := hid (HZ1.out.below zR_ok hb3); have HB3 := hid (below_on HB1.out hb3); clear hb3)
  | ((with_reducible refine wpList_build_want 44 _ rfl ?_ Z.cs ?_ ?_); exact rfl; exact HB.out)
  | ((with_reducible refine wpList_storeR rfl rfl _ _ rfl g1 ?_ (r := Z) ?_ zR_ok zok hone HZ1.out ?_); exact rfl; exact rfl; intro w5 h5 o5; have H5 := hid h5; have O5 := hid o5; clear h5 o5))
 refine ret_rowR rfl g1 rfl rfl H5.out zok ⟨rfl, ?_⟩
 exact below_tr HB3.out (O5.out.below HB3.out.size (fun i e => by omega))
def Cv.row11 (x : Cv) : List Value := [i64 x.err, x.v]
theorem row11_len (L : List Cv) : ∀ r ∈ L.map Cv.row11, r.length = 2 := fun r hr => by obtain ⟨x, _, rfl⟩ := List.mem_map.1 hr; rfl
theorem XB.cl11 {B : Nat} {w : World} {v : Value} {L : List Cv} (h : XB 33 2 B w v (L.map Cv.row11)) (he : ∀ x ∈ L, CvOk w x) (hn : L.length ≤ 1000) : CL w v L := by
 obtain ⟨po, c, e, h1, h2⟩ := h.form
 rw [List.length_map] at e h1
 refine ⟨po, c, e, h1, hn, h2, ?_, he⟩
 by_cases h0 : 0 < L.length
 ·obtain ⟨g, c2, e2, _, _, _, h3⟩ := h.cells (row11_len L) (by rw [List.length_map]; exact h0)
  rw [List.length_map] at e2
  rw [e] at e2
  cases e2
  refine Or.inr ⟨g, 0, rfl, fun i x hx => ?_⟩
  have h4 := h3 i x.row11 (by rw [List.getElem?_map, hx]; rfl)
  exact ⟨by have := h4 0 (i64 x.err) rfl; simpa using this, h4 1 x.v rfl⟩
 ·exact Or.inl (List.eq_nil_of_length_eq_zero (by omega))
theorem infoCp11 : (Tryz.prog.info? 33).map (fun i => (i.zero, i.size, i.bytes)) = some (some (.agg #[.int .i64 0, .slice none 0 0]), 2, 32) := by kernel_rfl
/-- One more copy. -/
theorem XB.one11 {B : Nat} {w w1 : World} {v u : Value} {L : List Cv} {g : Nat} {e : Int} (h : XB 33 2 B w v (L.map Cv.row11)) (hb : Below w.heap.size w w1) (hg : CAt w1 g #[.int .i64 e, u] 33) (hu : u.oneCell' = true) (hn : L.length ≤ 1000) (hB : B ≤ w.heap.size) (bs : List Nat) :
  ∃ po k c w', (Builtin.append_ #[29, 29] 29 #[v, .slice (some ⟨g, 0, none⟩) 1 1]).run Tryz.prog w1 = .ok (.slice po k c) w' ∧ XB 33 2 B w' (.slice po k c) ((L ++ [(⟨e, u, bs⟩ : Cv)]).map Cv.row11) ∧ Below B w1 w' := by
 have h1 := h.below hb
 obtain ⟨v', w', hr, hx, hgr, _⟩ := h1.app (T := 29) (ty := 29) Tryz.underlying29 infoCp11 rfl (by omega) g 0 1 [[.int .i64 e, u]] (by simp) (by intro r hr x hx; simp at hr; subst hr; simp at hx; rcases hx with rfl | rfl; rfl; exact hu)
  (by
   intro i r hi j x hj
   have hi0 : i = 0 := by
    rcases Nat.eq_zero_or_pos i with q | q
    ·exact q
    ·rw [List.getElem?_eq_none (by simp; omega)] at hi; cases hi
   subst hi0
   simp at hi
   subst hi
   rw [show (0 + 0 * 2 + j) = j by omega, hg.cell]
   simpa using hj) (by simp; omega) (by omega) (by have := hb.size; omega)
 obtain ⟨po, k, c, e1, _⟩ : ∃ po k c, v' = .slice po k c ∧ True := by
  obtain ⟨po, c, e, _⟩ := hx.form
  exact ⟨po, _, c, e, trivial⟩
 subst e1
 exact ⟨po, k, c, w', hr, by rw [List.map_append]; exact hx, h1.mono (by have := hb.size; omega) hgr⟩
/-- Files as drives answer them. -/
def cvs (vs : List Value) (Ls : List (List Nat)) : List Cv := (List.range Ls.length).map fun i => ⟨0, vs.getD i (.slice none 0 0), Ls.getD i []⟩
theorem cvs_len (vs : List Value) (Ls : List (List Nat)) : (cvs vs Ls).length = Ls.length := by simp [cvs]
theorem cvs_take (vs : List Value) (Ls : List (List Nat)) (i : Nat) (hi : i < Ls.length) : (cvs vs Ls).take (i + 1) = (cvs vs Ls).take i ++ [⟨0, vs.getD i (.slice none 0 0), Ls.getD i []⟩] := by
 rw [List.take_add_one]
 congr 1
 simp [cvs, hi]
def AllU (w : World) (vs : Array Value) (Ls : List (List Nat)) (e : Ending) (w' : World) : Prop := ∃ u : Value, e = .returned u ∧ XB 33 2 w.heap.size w' u ((cvs vs.toList Ls).map Cv.row11) ∧ Below w.heap.size w w'
theorem buf_cvok {B : Nat} {w : World} {v : Value} {L : List Nat} (e : Int) (h : Buf B w v L) (hs : L.length ≤ 100000) (h8 : ∀ z ∈ L, z < 256) : CvOk w ⟨e, v, L⟩ := by
 obtain ⟨po, c, rfl⟩ := Buf.form h
 exact ⟨⟨po, c, rfl, h.bl, h.cap.2, fun e => by subst e; exact h.capn⟩, hs, h8⟩
set_option maxRecDepth 100000 in
set_option maxHeartbeats 2000000 in
theorem all11_any (B g : Nat) (vs : Array Value) (Ls : List (List Nat)) (w : World) (hc : CAt w g vs 22) (hsz : vs.size = Ls.length) (hr : ∀ (i : Nat) (u : Value) (L : List Nat), vs[i]? = some u → Ls[i]? = some L → Buf B w u L) (hn : Ls.length ≤ 100) :
  Calls Tryz.prog 16 #[.slice (some ⟨g, 0, none⟩) Ls.length Ls.length] w (AllU w vs Ls) := by
 obtain ⟨N, hN⟩ : ∃ N, Ls.length = N := ⟨_, rfl⟩
 have HN := hid hN
 have HC := hid hc
 have HR := hid hr
 have HSZ := hid hsz
 have hn2 : N ≤ 100 := by omega
 rw [hN]
 clear hc hr hsz hN hn
 go_enter Tryz.func16, Tryz.ntmps16
 go_wp2
 go_loopw [3, 4] (fun u q wr => ∃ i : Nat, i ≤ N ∧ q = .int .i64 (i : Int) ∧ ∃ po k c, u = .slice po k c ∧ Hid (XB 33 2 w.heap.size wr u (((cvs vs.toList Ls).take i).map Cv.row11)) ∧ Hid (Below w.heap.size w wr)) (fun _ q _ => (1000000 - intOf q).toNat)
 case atStart => exact ⟨0, Nat.zero_le _, rfl, none, 0, 0, rfl, XB.nil _ _ _ _, Below.refl _ _⟩
 case round =>
  obtain ⟨i, hi, rfl, po, kk, cc, rfl, HX, HB⟩ := hrel
  by_cases hlt : i < N
  ·obtain ⟨u, hu⟩ : ∃ u, vs[i]? = some u := ⟨_, Array.getElem?_eq_getElem (by rw [HSZ.out, HN.out]; exact hlt)⟩
   obtain ⟨L, hL⟩ : ∃ L, Ls[i]? = some L := ⟨_, List.getElem?_eq_getElem (by rw [HN.out]; exact hlt)⟩
   have hbu := HR.out i u L hu hL
   obtain ⟨pu, cu, rfl⟩ := Buf.form hbu
   have cF : wr.cell? ⟨g, i, none⟩ = some (.slice pu L.length cu) := by rw [(HC.out.below HB.out).cell]; exact hu
   have hi' : (i : Int) < (N : Int) := by omega
   have hw : IntKind.i64.wrap ((i : Int) + 1) = (i : Int) + 1 := IntWalk.i64_in _ ⟨by omega, by omega⟩
   have HAP := hid (fun (w1 : World) (g1 : Nat) (hb : Below wr.heap.size wr w1) (hg : CAt w1 g1 #[.int .i64 0, .slice pu L.length cu] 33) => HX.out.one11 hb hg rfl (by rw [List.length_take, cvs_len, HN.out]; omega) HB.out.size L)
   have HT := hid (cvs_take vs.toList Ls i (by rw [HN.out]; exact hlt))
   have HTE := hid (show (⟨0, vs.toList.getD i (.slice none 0 0), Ls.getD i []⟩ : Cv) = ⟨0, .slice pu L.length cu, L⟩ by
    have e1 : vs.toList.getD i (.slice none 0 0) = .slice pu L.length cu := by rw [List.getD_eq_getElem?_getD, Array.getElem?_toList, hu]; rfl
    have e2 : Ls.getD i [] = L := by rw [List.getD_eq_getElem?_getD, hL]; rfl
    rw [e1, e2])
   clear hbu hu hL
   go_wp2_with (first
    | ((with_reducible refine wpList_build_want 33 _ rfl ?_ #[.int .i64 0, .slice pu L.length cu] ?_ ?_); exact rfl; kernel_rfl)
    | ((with_reducible refine wpList_buildX (k := 2) Tryz.underlying29 infoCp11 (by omega) (by omega) rfl _ rfl #[.int .i64 0, .slice pu L.length cu] rfl ?_ ?_); exact rfl; intro w1 g1 hg1 hb1 he1; obtain ⟨p2, k2, c2, w2, hrun, hx2, hb2⟩ := HAP.out w1 g1 hb1 hg1; have HRUN := hid hrun; have HX2 := hid hx2; have HB2 := hid (below_tr HB.out (below_tr (below_less hb1 HB.out.size) hb2)); clear hg1 hb1 he1 hrun hx2 hb2)
    | (at_builtin; refine wpList_append_run _ _ 29 29 rfl rfl _ _ _ rfl rfl HRUN.out ?_))
   go_roundw
   case rel => exact ⟨i + 1, hlt, by congr 1, p2, k2, c2, rfl, (by rw [HT.out, HTE.out]; exact HX2.out), HB2⟩
   case measure => simp [intOf]; omega
  ·have hq : ¬ (i : Int) < (N : Int) := by omega
   have hk' : i = N := by omega
   go_wp2
   go_ret
   have hX := HX.out
   rw [List.take_of_length_le (by rw [cvs_len, HN.out]; omega)] at hX
   exact ⟨_, rfl, hX, HB.out⟩
theorem cps_cvs (vs : List Value) (Ls : List (List Nat)) : cps (cvs vs Ls) = Ls.map (fun L => ⟨0, L⟩) := by
 apply List.ext_getElem?
 intro j
 rw [cps_get]
 unfold cvs
 rw [List.getElem?_map, List.getElem?_map]
 rcases Nat.lt_or_ge j Ls.length with q | q
 ·simp [q, Cv.cp]
 ·simp [q]
theorem cvs_ok {B : Nat} {w : World} {vs : Array Value} {Ls : List (List Nat)} (hsz : vs.size = Ls.length) (hr : ∀ (i : Nat) (u : Value) (L : List Nat), vs[i]? = some u → Ls[i]? = some L → Buf B w u L) (hs : ∀ L ∈ Ls, L.length ≤ 100000) (h8 : ∀ L ∈ Ls, ∀ z ∈ L, z < 256) : ∀ x ∈ cvs vs.toList Ls, CvOk w x := by
 intro x hx
 obtain ⟨j, hj, rfl⟩ := List.mem_map.1 hx
 have hj := List.mem_range.1 hj
 have hL : Ls[j]? = some (Ls.getD j []) := by rw [List.getD_eq_getElem?_getD, List.getElem?_eq_getElem hj]; rfl
 have hv : vs[j]? = some (vs.toList.getD j (.slice none 0 0)) := by
  have : j < vs.size := by rw [hsz]; exact hj
  rw [List.getD_eq_getElem?_getD, Array.getElem?_toList, Array.getElem?_eq_getElem this]; rfl
 exact buf_cvok 0 (hr j _ _ hv hL) (hs _ (List.mem_of_getElem? hL)) (h8 _ (List.mem_of_getElem? hL))
/-- The first copy is written over. -/
theorem xb_set0 {B : Nat} {w : World} {u : Value} {x : Cv} {L : List Cv} (h : XB 33 2 B w u ((x :: L).map Cv.row11)) : ∃ g c, u = .slice (some ⟨g, 0, none⟩) (L.length + 1) c ∧ B ≤ g ∧ (∃ cs, CAt w g cs 33) ∧ w.cell? ⟨g, 0, none⟩ = some (i64 x.err) ∧ w.cell? ⟨g, 1, none⟩ = some x.v ∧ w.frozen? ⟨g, 0, none⟩ = false ∧ w.frozen? ⟨g, 1, none⟩ = false ∧
  ∀ y : Cv, XB 33 2 B ((w.setCell ⟨g, 0, none⟩ (i64 y.err)).setCell ⟨g, 1, none⟩ y.v) u ((y :: L).map Cv.row11) := by
 obtain ⟨g, c, e1, _, _, _, hcell⟩ := h.cells (row11_len _) (by simp)
 rcases h.2 with ⟨e, h0⟩ | ⟨g2, cap, cur, e, hB, hg, h1, h2, h3, h4⟩
 ·rw [e1] at e; cases e
 rw [e1] at e
 cases e
 have hc : CAt w g cur 33 := hg
 refine ⟨g, c, by rw [e1]; simp, hB, ⟨cur, hc⟩, ?_, ?_, hc.free 0, hc.free 1, fun y => ?_⟩
 ·have := hcell 0 _ (by simp; rfl) 0 _ rfl; simpa using this
 ·have := hcell 0 _ (by simp; rfl) 1 _ rfl; simpa using this
 ·refine ⟨?_, .inr ⟨g, c, (cur.setIfInBounds 0 (i64 y.err)).setIfInBounds 1 y.v, by rw [e1]; simp, hB, (hc.set 0 _).set 1 _, by simpa using h1, h2, by simpa using h3, ?_⟩⟩
  ·have hl : ∀ (K : List Cv), ((K.map Cv.row11).flatten).length = K.length * 2 := fun K => by
     induction K with
     | nil => rfl
     | cons a K ih => simp [Cv.row11] at ih ⊢; omega
   rw [hl]; simp
  ·rw [Array.toList_setIfInBounds, Array.toList_setIfInBounds]
   have h5 : cur.toList.take (2 + L.length * 2) = i64 x.err :: x.v :: (L.map Cv.row11).flatten := by
    have e6 : (List.map Cv.row11 (x :: L)).length * 2 = 2 + L.length * 2 := by simp; omega
    rw [← e6]; rw [h4]; simp [Cv.row11]
   have e6 : (List.map Cv.row11 (y :: L)).length * 2 = 2 + L.length * 2 := by simp; omega
   rw [e6]
   match hq : cur.toList with
   | [] => rw [hq] at h5; simp at h5
   | [a] => rw [hq] at h5; simp [Nat.add_comm 2] at h5
   | a :: b :: t =>
    rw [hq] at h5
    rw [show 2 + L.length * 2 = (L.length * 2 + 1) + 1 by omega] at h5 ⊢
    simp only [List.take_succ_cons, List.cons.injEq] at h5
    simp [Cv.row11, h5.2.2]
end Go.Proofs.YtdohmokhfajjpaaGreatDoor

/- What drives answer of the files of bytes: any k that are as they were tell the bytes; fewer tell nothing. No conditions but bounds. -/
namespace Go.Proofs.YtdohmokhfajjpaaGreatDoor
open Go Go.RowKit

theorem okRc_of {n k m : Int} {d : List Nat} (hd : d.length = 32) (hn : 0 ≤ n) (hn2 : n ≤ 65536) (h0 : 1 ≤ k) (h1 : 1 ≤ m) (h : k + m ≤ 16) : okRc ((ofR n k m d).rc []) = true := by
 have e1 : okId (lst ⟨#[110, 117, 108, 108]⟩) = true := by decide
 have e2 : okTag (lst ⟨#[48]⟩) = true := by decide
 have e3 : lst (⟨#[]⟩ : ByteArray) = [] := rfl
 have e4 : okData (lst dat0) = true := by decide
 unfold okRc ofR Rv.rc
 simp only [e1, e2, e3, e4]
 simp [inR, okParts, okPs, hd]
 omega
theorem mayB_of {n k m : Int} {d : List Nat} {l : Nat} (hd : d.length = 32) (hn : 0 ≤ n) (hn2 : n ≤ 65536) (h0 : 1 ≤ k) (h1 : 1 ≤ m) (h : k + m ≤ 16) (hl : (l : Int) = k + m) : mayB (ofR n k m d) [] l = true := by
 unfold mayB
 rw [okRc_of hd hn hn2 h0 h1 h]
 simp [ofR, hl]
/-- A drive's file is as it was, or is not sound. -/
def Wl (k : Nat) (b : List Nat) (l : List Cp) : Prop := ∀ i c, l[i]? = some c → c = ⟨0, flL (shd k b i)⟩ ∨ sdB (U.lgt b.length k) c = false
theorem sd_well {k : Nat} {b : List Nat} (h0 : 1 ≤ k) (hb : b.length ≤ 65536) (i : Nat) : sdB (U.lgt b.length k) ⟨0, flL (shd k b i)⟩ = true ∧ rdB (flL (shd k b i)) (U.lgt b.length k) = shd k b i := by
 have h1 := rd_fl (shd k b i) (by rw [shd_len]; exact U.lgt_le _ _ hb h0)
 rw [shd_len] at h1
 refine ⟨?_, h1.2⟩
 unfold sdB
 simp [h1.1]
theorem read_well {k m : Nat} {b : List Nat} {l : List Cp} (h8 : ∀ z ∈ b, z < 256) (h0 : 1 ≤ k) (h1 : 1 ≤ m) (h : k + m ≤ 16) (hb : b.length ≤ 65536) (hl : l.length = k + m) (hw : Wl k b l) (hc : k ≤ csN (U.lgt b.length k) l l.length) :
  rdrE (ofR b.length k m (dig b)) [] l = 0 ∧ rdrB (ofR b.length k m (dig b)) [] l = b := by
 have hj : jnB k m b.length l = b := jn_all h8 h0 h hl hc fun i c hi hs => by
  rcases hw i c hi with rfl | q
  ·exact (sd_well h0 hb i).2
  ·rw [q] at hs; cases hs
 have hmay : mayB (ofR b.length k m (dig b)) [] l.length = true := mayB_of (dig_len b) (by omega) (by omega) (by omega) (by omega) (by omega) (by rw [hl]; omega)
 have e : whE k m b.length (dig b) l = 0 := by unfold whE; rw [if_neg (by omega), hj, if_pos rfl]
 unfold rdrE rdrB
 rw [hmay, if_pos rfl, if_pos rfl]
 show whE ((k : Int).toNat) ((m : Int).toNat) ((b.length : Int).toNat) (dig b) l = 0 ∧ whB ((k : Int).toNat) ((m : Int).toNat) ((b.length : Int).toNat) (dig b) l = b
 simp only [Int.toNat_natCast]
 refine ⟨e, ?_⟩
 unfold whB
 rw [if_pos e, hj]
theorem read_few {k m : Nat} {b : List Nat} {l : List Cp} (h0 : 1 ≤ k) (h1 : 1 ≤ m) (h : k + m ≤ 16) (hb : b.length ≤ 65536) (hl : l.length = k + m) (hc : csN (U.lgt b.length k) l l.length < k) :
  rdrE (ofR b.length k m (dig b)) [] l = 10 ∧ rdrB (ofR b.length k m (dig b)) [] l = [] := by
 have hmay : mayB (ofR b.length k m (dig b)) [] l.length = true := mayB_of (dig_len b) (by omega) (by omega) (by omega) (by omega) (by omega) (by rw [hl]; omega)
 have e : whE k m b.length (dig b) l = 10 := by unfold whE; rw [if_pos hc]
 unfold rdrE rdrB
 rw [hmay, if_pos rfl, if_pos rfl]
 show whE ((k : Int).toNat) ((m : Int).toNat) ((b.length : Int).toNat) (dig b) l = 10 ∧ whB ((k : Int).toNat) ((m : Int).toNat) ((b.length : Int).toNat) (dig b) l = []
 simp only [Int.toNat_natCast]
 refine ⟨e, ?_⟩
 unfold whB
 rw [if_neg (by rw [e]; decide)]
/-- The chapter's example. -/
def abc : List Nat := [97, 98, 99]
theorem abc8 : ∀ z ∈ abc, z < 256 := by decide
theorem abc_fls_len : ∀ i, (flL (shd 2 abc i)).length = 34 := fun i => by
 rw [flL_len, shd_len]; decide
theorem fls3 : fls 2 1 abc = [flL (shd 2 abc 0), flL (shd 2 abc 1), flL (shd 2 abc 2)] := rfl
theorem sd_off (n : Nat) (e : Int) (b : List Nat) (h : e ≠ 0) : sdB n ⟨e, b⟩ = false := by unfold sdB; simp [h]
theorem cs3 (n : Nat) (a b c : Cp) : csN n [a, b, c] 3 = (if sdB n a = true then 1 else 0) + (if sdB n b = true then 1 else 0) + (if sdB n c = true then 1 else 0) := by
 show 0 + _ + _ + _ = _
 simp
theorem wl3 {a b c : Cp} (h0 : a = ⟨0, flL (shd 2 abc 0)⟩ ∨ sdB (U.lgt abc.length 2) a = false) (h1 : b = ⟨0, flL (shd 2 abc 1)⟩ ∨ sdB (U.lgt abc.length 2) b = false) (h2 : c = ⟨0, flL (shd 2 abc 2)⟩ ∨ sdB (U.lgt abc.length 2) c = false) : Wl 2 abc [a, b, c] := by
 intro i x hx
 match i, hx with
 | 0, hx => cases hx; exact h0
 | 1, hx => cases hx; exact h1
 | 2, hx => cases hx; exact h2
 | n + 3, hx => simp at hx
theorem of3 : ofR ((abc.length : Nat) : Int) ((2 : Nat) : Int) ((1 : Nat) : Int) (dig abc) = ofR 3 2 1 (dig abc) := by
 generalize dig abc = d
 rfl
theorem ab_read (l : List Cp) (hl : l.length = 3) (hw : Wl 2 abc l) (hc : 2 ≤ csN (U.lgt abc.length 2) l 3) : rdrE (ofR 3 2 1 (dig abc)) [] l = 0 ∧ rdrB (ofR 3 2 1 (dig abc)) [] l = abc := by
 have h := read_well (k := 2) (m := 1) (b := abc) (l := l) abc8 (by omega) (by omega) (by omega) (by decide) hl hw (by rw [hl]; exact hc)
 rw [of3] at h
 exact h
theorem ab_all : rdrE (ofR 3 2 1 (dig abc)) [] ((fls 2 1 abc).map fun L => ⟨0, L⟩) = 0 ∧ rdrB (ofR 3 2 1 (dig abc)) [] ((fls 2 1 abc).map fun L => ⟨0, L⟩) = abc := by
 have hs := fun i => (sd_well (k := 2) (b := abc) (by omega) (by decide) i).1
 rw [fls3]
 simp only [List.map_cons, List.map_nil]
 refine ab_read _ rfl (wl3 (.inl rfl) (.inl rfl) (.inl rfl)) ?_
 rw [cs3, hs 0, hs 1, hs 2]; decide
theorem ab_gone (e : Int) (x : List Nat) (h : e ≠ 0 ∨ sdB (U.lgt abc.length 2) ⟨e, x⟩ = false) : rdrE (ofR 3 2 1 (dig abc)) [] [⟨e, x⟩, ⟨0, flL (shd 2 abc 1)⟩, ⟨0, flL (shd 2 abc 2)⟩] = 0 ∧ rdrB (ofR 3 2 1 (dig abc)) [] [⟨e, x⟩, ⟨0, flL (shd 2 abc 1)⟩, ⟨0, flL (shd 2 abc 2)⟩] = abc := by
 have hs := fun i => (sd_well (k := 2) (b := abc) (by omega) (by decide) i).1
 have hx : sdB (U.lgt abc.length 2) ⟨e, x⟩ = false := h.elim (sd_off _ e x) id
 refine ab_read _ rfl (wl3 (.inr hx) (.inl rfl) (.inl rfl)) ?_
 rw [cs3, hx, hs 1, hs 2]; decide
end Go.Proofs.YtdohmokhfajjpaaGreatDoor

/- Formats: the mathematics: which may be, their bytes, which format any bytes are, all formats of k, m and so many sets, how each copy is judged. -/
namespace Go.Proofs.YtdohmokhfajjpaaGreatDoor
open Go Go.RowKit

/-- A format: K, M, Sets, Set, Drive. -/
structure FmV where
 k : Int
 m : Int
 s : Int
 t : Int
 d : Int
deriving DecidableEq
instance : Inhabited FmV := ⟨⟨0, 0, 0, 0, 0⟩⟩
def FmV.cs (f : FmV) : Array Value := #[.int .i64 f.k, .int .i64 f.m, .int .i64 f.s, .int .i64 f.t, .int .i64 f.d]
def okFm (f : FmV) : Bool := decide (1 ≤ f.k ∧ 1 ≤ f.m ∧ f.k + f.m ≤ 16 ∧ 1 ≤ f.s ∧ f.s ≤ 4 ∧ 0 ≤ f.t ∧ f.t < f.s ∧ 0 ≤ f.d ∧ f.d < f.k + f.m)
def erFm (f : FmV) : Nat := if okFm f = true then 0 else 2
theorem okFm_of {f : FmV} (h : okFm f = true) : 1 ≤ f.k ∧ f.k ≤ 15 ∧ 1 ≤ f.m ∧ f.m ≤ 15 ∧ f.k + f.m ≤ 16 ∧ 1 ≤ f.s ∧ f.s ≤ 4 ∧ 0 ≤ f.t ∧ f.t < f.s ∧ 0 ≤ f.d ∧ f.d < f.k + f.m := by
 unfold okFm at h
 simp only [decide_eq_true_eq] at h
 omega
/-- Which format bytes are, and the error. -/
def fmG (L : List Nat) : FmV := ⟨(L.getD 3 0 : Nat), (L.getD 4 0 : Nat), (L.getD 5 0 : Nat), (L.getD 6 0 : Nat), (L.getD 7 0 : Nat)⟩
def rdFe (L : List Nat) : Nat := if L.length ≠ 40 ∨ L.take 3 ≠ [83, 70, 49] then 4 else if dig (L.take 8) ≠ L.drop 8 then 14 else if okFm (fmG L) = true then 0 else 4
def rdFv (L : List Nat) : FmV := if rdFe L = 0 then fmG L else ⟨0, 0, 0, 0, 0⟩
/-- All formats of k, m and so many sets. -/
def okAl (k m s : Int) : Bool := okFm ⟨k, m, s, 0, 0⟩
end Go.Proofs.YtdohmokhfajjpaaGreatDoor

/- A shard file with a byte turned that is read as nothing else is not sound; a file that is cut, or has something behind it, is not. -/
namespace Go.Proofs.YtdohmokhfajjpaaGreatDoor
open Go Go.RowKit

/-- A cut of bytes. -/
def ct (l : List Nat) (a b : Nat) : List Nat := (l.drop a).take (b - a)
theorem ct_len {l : List Nat} {a b : Nat} (hb : b ≤ l.length) : (ct l a b).length = b - a := by unfold ct; rw [List.length_take, List.length_drop]; omega
theorem ct_at {l : List Nat} {a b : Nat} (_ : b ≤ l.length) {j : Nat} (hj : j < b - a) : (ct l a b).getD j 0 = l.getD (a + j) 0 := by
 unfold ct
 simp only [List.getD]
 rw [List.getElem?_take, if_pos hj, List.getElem?_drop]
/-- Where the block t of a file of m bytes ends. -/
def bE (m t : Nat) : Nat := min (288 * t + 288) m
/-- Is the block t another one, with a right digest? -/
def fgK (was now : List Nat) (t : Nat) : Bool := (!decide (ct now (288 * t) (bE now.length t) = ct was (288 * t) (bE now.length t))) && decide (dig (ct now (288 * t + 32) (bE now.length t)) = ct now (288 * t) (288 * t + 32))
def fgQ (m : Nat) : Nat := (m + 256) / 288
theorem fgQ_iff (m t : Nat) : t < fgQ m ↔ 288 * t + 32 ≤ m := by unfold fgQ; omega
/-- What Forged answers, of bytes of one length. -/
def fgB (was now : List Nat) : Bool := (!decide (was = now)) && ((decide ((rdJ dig now).1 = 0) || decide (rdFe now = 0)) || (List.range (fgQ now.length)).any (fgK was now))
theorem snd_fg {n : Nat} {was now : List Nat} (hm : now.length = n + 32 * H.cnt n) (hl : was.length = now.length) {t : Nat} (ht : t < H.cnt n) (hne : ct now (288 * t) (bE now.length t) ≠ ct was (288 * t) (bE now.length t)) (hf : fgK was now t = false) : H.snd (fun j => now.getD j 0) now.length n t = false := by
 have hc : H.cnt n = (n + 255) / 256 := rfl
 have hb : H.bend n t = min (256 * t + 256) n := rfl
 have hE : H.sEnd now.length n t = bE now.length t := by
  unfold H.sEnd bE
  rw [hb]
  split <;> omega
 have hbe : bE now.length t ≤ now.length := Nat.min_le_right _ _
 have hlo : 288 * t + 32 ≤ bE now.length t := by unfold bE; omega
 cases hs : H.snd (fun j => now.getD j 0) now.length n t with
 | false => rfl
 | true =>
  exfalso
  unfold H.snd at hs
  rw [hE] at hs
  simp only [Bool.and_eq_true, decide_eq_true_eq] at hs
  obtain ⟨_, h2⟩ := hs
  unfold H.eqD at h2
  rw [List.all_eq_true] at h2
  have hd : dig (ct now (288 * t + 32) (bE now.length t)) = ct now (288 * t) (288 * t + 32) := by
   refine List.ext_getElem? fun i => ?_
   by_cases hi : i < 32
   ·have h3 := h2 i (List.mem_range.2 hi)
    simp only [decide_eq_true_eq] at h3
    have e1 : i < (dig (ct now (288 * t + 32) (bE now.length t))).length := by rw [dig_len]; exact hi
    have e2 : i < (ct now (288 * t) (288 * t + 32)).length := by rw [ct_len (by omega)]; omega
    have h4 := ct_at (l := now) (a := 288 * t) (b := 288 * t + 32) (by omega) (j := i) (by omega)
    rw [← h3] at h4
    rw [List.getElem?_eq_getElem e1, List.getElem?_eq_getElem e2]
    simp only [List.getD, List.getElem?_eq_getElem e2, Option.getD_some] at h4
    rw [h4]
    congr 1
    simp only [dig, List.getElem_map, List.getElem_range]
    rw [ct_len hbe]
    exact H.sha_congr _ (fun j hj => ct_at hbe hj) i
   ·rw [List.getElem?_eq_none (by rw [dig_len]; omega), List.getElem?_eq_none (by rw [ct_len (by omega)]; omega)]
  unfold fgK at hf
  rw [decide_eq_false hne, decide_eq_true hd] at hf
  cases hf
theorem turned_bad {n : Nat} (_ : n ≤ 65536) {was now : List Nat} (hm : now.length = n + 32 * H.cnt n) (hl : was.length = now.length) (hne : was ≠ now) (hf : fgB was now = false) : rdE now n ≠ 0 := by
 -- a place where they differ, and its block
 obtain ⟨p, hp, hd⟩ : ∃ p, p < now.length ∧ now.getD p 0 ≠ was.getD p 0 := by
  refine Classical.byContradiction fun h => hne ?_
  refine List.ext_getElem? fun j => ?_
  by_cases hj : j < now.length
  ·have h1 : now.getD j 0 = was.getD j 0 := Classical.byContradiction fun k => h ⟨j, hj, k⟩
   simp only [List.getD, List.getElem?_eq_getElem hj, List.getElem?_eq_getElem (show j < was.length by omega), Option.getD_some] at h1
   rw [List.getElem?_eq_getElem hj, List.getElem?_eq_getElem (show j < was.length by omega), h1]
  ·rw [List.getElem?_eq_none (by omega), List.getElem?_eq_none (by omega)]
 have hc : H.cnt n = (n + 255) / 256 := rfl
 have hb : H.bend n (p / 288) = min (256 * (p / 288) + 256) n := rfl
 have ht : p / 288 < H.cnt n := by omega
 have hbe : bE now.length (p / 288) ≤ now.length := Nat.min_le_right _ _
 have hcne : ct now (288 * (p / 288)) (bE now.length (p / 288)) ≠ ct was (288 * (p / 288)) (bE now.length (p / 288)) := fun e => by
  have hj : p - 288 * (p / 288) < bE now.length (p / 288) - 288 * (p / 288) := by unfold bE; omega
  have h1 := congrArg (fun q => q.getD (p - 288 * (p / 288)) 0) e
  rw [ct_at hbe hj, ct_at (by omega) hj, show 288 * (p / 288) + (p - 288 * (p / 288)) = p by omega] at h1
  exact hd h1
 have hfk : fgK was now (p / 288) = false := by
  unfold fgB at hf
  rw [decide_eq_false hne, Bool.not_false, Bool.true_and, Bool.or_eq_false_iff] at hf
  have h2 := hf.2
  rw [List.any_eq_false] at h2
  have h3 := h2 (p / 288) (List.mem_range.2 ((fgQ_iff _ _).2 (by omega)))
  simpa using h3
 have hsn := snd_fg hm hl ht hcne hfk
 intro h0
 unfold rdE H.partE at h0
 split at h0
 ·split at h0
  ·split at h0
   ·rename_i h3
    unfold H.parOK at h3
    rw [List.all_eq_true] at h3
    have h4 := h3 (p / 288) (List.mem_range.2 (by simpa using ht))
    simp only [Int.toNat_natCast] at h4
    rw [hsn, Bool.or_false, decide_eq_true_eq] at h4
    unfold H.phi H.plo at h4
    simp at h4
    omega
   ·cases h0
  ·cases h0
 ·cases h0
/-- A file of another length is not sound. -/
theorem size_bad {n : Nat} {l : List Nat} (hn : n ≤ 65536) (h : l.length ≠ n + 32 * H.cnt n) : rdE l n ≠ 0 := fun h0 => by
 have hc : H.cnt n = (n + 255) / 256 := rfl
 unfold rdE H.partE at h0
 split at h0
 ·split at h0
  ·rename_i h2
   unfold H.szV at h2
   rw [if_pos (by omega)] at h2
   omega
  ·cases h0
 ·cases h0
end Go.Proofs.YtdohmokhfajjpaaGreatDoor

/- What becomes of a file, and how it is then. -/
namespace Go.Proofs.YtdohmokhfajjpaaGreatDoor
open Go Go.RowKit

def shF (k : Nat) (b : List Nat) (i : Nat) : List Nat := flL (shd k b i)
theorem shF_len (k : Nat) (b : List Nat) (i : Nat) : (shF k b i).length = U.lgt b.length k + 32 * H.cnt (U.lgt b.length k) := by unfold shF; rw [flL_len, shd_len]
/-- A drive's answer, and the word for it. -/
def OkE (k : Nat) (b : List Nat) (i : Nat) (c : Cp) (s : Int) : Prop := sttN c (shF k b i) = s ∧ (c = ⟨0, shF k b i⟩ ∨ sdB (U.lgt b.length k) c = false)
theorem sd_bad {n : Nat} {c : Cp} (h : rdE c.b n ≠ 0) : sdB n c = false := by unfold sdB; rw [decide_eq_false h, Bool.and_false]
section
variable {k : Nat} {b : List Nat} {i : Nat}
theorem oke_well : OkE k b i ⟨0, shF k b i⟩ 1 := ⟨by unfold sttN; simp, .inl rfl⟩
theorem oke_gone (l : List Nat) : OkE k b i ⟨6, l⟩ 2 := ⟨by unfold sttN; simp, .inr (sd_off _ _ _ (by decide))⟩
theorem oke_away (l : List Nat) : OkE k b i ⟨12, l⟩ 4 := ⟨by unfold sttN; simp, .inr (sd_off _ _ _ (by decide))⟩
theorem oke_size {l : List Nat} (hn : U.lgt b.length k ≤ 65536) (h : l.length ≠ (shF k b i).length) : OkE k b i ⟨0, l⟩ 3 := by
 refine ⟨?_, .inr (sd_bad (size_bad hn (by rw [← shF_len k b i]; exact h)))⟩
 unfold sttN
 simp [show ¬ l = shF k b i from fun e => h (by rw [e])]
theorem oke_turned {l : List Nat} (hn : U.lgt b.length k ≤ 65536) (h : (shF k b i).length = l.length) (hne : shF k b i ≠ l) (hf : fgB (shF k b i) l = false) : OkE k b i ⟨0, l⟩ 3 := by
 refine ⟨?_, .inr (sd_bad (turned_bad hn (by rw [← h, shF_len]) h hne hf))⟩
 unfold sttN
 simp [show ¬ l = shF k b i from fun e => hne e.symm]
theorem oke_one (h0 : 1 ≤ k) (hb : b.length ≤ 65536) {c : Cp} {s : Int} (h : OkE k b i c s) : sdB (U.lgt b.length k) c = decide (s = 1) := by
 obtain ⟨h1, h2⟩ := h
 by_cases hs : s = 1
 ·rw [decide_eq_true hs]
  rcases h2 with rfl | h2
  ·exact (sd_well h0 hb i).1
  ·exfalso
   unfold sttN at h1
   rw [hs] at h1
   split at h1
   ·rename_i he
    split at h1
    ·rename_i hbb
     obtain ⟨ce, cb⟩ := c
     simp only at he hbb
     subst he
     subst hbb
     unfold shF at h2
     rw [(sd_well h0 hb i).1] at h2
     cases h2
    ·cases h1
   ·split at h1 <;> cases h1
 ·rw [decide_eq_false hs]
  rcases h2 with rfl | h2
  ·exfalso
   unfold sttN at h1
   simp at h1
   exact hs h1.symm
  ·exact h2
end
/-- How many of the words are 1. -/
def onesN (S : List Int) : Nat := S.countP (fun s => decide (s = 1))
/-- The answers and the words for them, one by one. -/
def OkL (k : Nat) (b : List Nat) (C : List Cp) (S : List Int) : Prop := C.length = S.length ∧ ∀ i c s, C[i]? = some c → S[i]? = some s → OkE k b i c s
theorem OkL.nil (k : Nat) (b : List Nat) : OkL k b [] [] := ⟨rfl, fun i c s h => by simp at h⟩
theorem OkL.snoc {k : Nat} {b : List Nat} {C : List Cp} {S : List Int} (h : OkL k b C S) {c : Cp} {s : Int} (hc : OkE k b C.length c s) : OkL k b (C ++ [c]) (S ++ [s]) := by
 refine ⟨by simp [h.1], fun i x y hx hy => ?_⟩
 by_cases hi : i < C.length
 ·rw [List.getElem?_append_left hi] at hx
  rw [List.getElem?_append_left (by rw [← h.1]; exact hi)] at hy
  exact h.2 i x y hx hy
 ·have hi2 : i = C.length := by
    have := (List.getElem?_eq_some_iff.1 hx).1
    simp at this
    omega
  subst hi2
  rw [List.getElem?_append_right (Nat.le_refl _), Nat.sub_self] at hx
  rw [List.getElem?_append_right (by rw [h.1]; exact Nat.le_refl _), ← h.1, Nat.sub_self] at hy
  cases hx
  cases hy
  exact hc
theorem OkL.ones {k : Nat} {b : List Nat} (h0 : 1 ≤ k) (hb : b.length ≤ 65536) {C : List Cp} {S : List Int} (h : OkL k b C S) : csN (U.lgt b.length k) C C.length = onesN S := by
 have key : ∀ i, i ≤ C.length → csN (U.lgt b.length k) C i = onesN (S.take i) := fun i => by
  induction i with
  | zero => intro _; simp [csN, onesN]
  | succ i ih =>
   intro hi
   obtain ⟨c, hc⟩ : ∃ c, C[i]? = some c := ⟨_, List.getElem?_eq_getElem (by omega)⟩
   obtain ⟨s, hs⟩ : ∃ s, S[i]? = some s := ⟨_, List.getElem?_eq_getElem (by have := h.1; omega)⟩
   have h1 := oke_one h0 hb (h.2 i c s hc hs)
   show csN (U.lgt b.length k) C i + (match C[i]? with | some c => if sdB (U.lgt b.length k) c = true then 1 else 0 | none => 0) = _
   rw [ih (by omega), hc]
   simp only
   rw [h1, List.take_add_one, hs]
   simp [onesN, List.countP_append, List.countP_cons]
 have := key C.length (Nat.le_refl _)
 rw [this, List.take_of_length_le (by rw [h.1]; exact Nat.le_refl _)]
theorem OkL.wl {k : Nat} {b : List Nat} {C : List Cp} {S : List Int} (h : OkL k b C S) : Wl k b C := fun i c hc => by
 obtain ⟨s, hs⟩ : ∃ s, S[i]? = some s := ⟨_, List.getElem?_eq_getElem (by have := (List.getElem?_eq_some_iff.1 hc).1; have := h.1; omega)⟩
 exact (h.2 i c s hc hs).2
theorem OkL.stts {k m : Nat} {b : List Nat} {C : List Cp} {S : List Int} (h : OkL k b C S) (hl : C.length = k + m) : stts C (fls k m b) = S := by
 unfold Go.Proofs.YtdohmokhfajjpaaGreatDoor.stts
 refine List.ext_getElem? fun i => ?_
 by_cases hi : i < C.length
 ·obtain ⟨c, hc⟩ : ∃ c, C[i]? = some c := ⟨_, List.getElem?_eq_getElem hi⟩
  obtain ⟨s, hs⟩ : ∃ s, S[i]? = some s := ⟨_, List.getElem?_eq_getElem (by have := h.1; omega)⟩
  have h1 := (h.2 i c s hc hs).1
  rw [hs]
  simp only [List.getElem?_map, List.getElem?_range hi, Option.map_some, List.getD, hc, fls_get k m b i (by omega), Option.getD_some]
  rw [← h1]
  rfl
 ·rw [List.getElem?_eq_none (by simp; omega), List.getElem?_eq_none (by have := h.1; omega)]
end Go.Proofs.YtdohmokhfajjpaaGreatDoor
