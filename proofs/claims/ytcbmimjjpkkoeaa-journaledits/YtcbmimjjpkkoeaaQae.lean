/- Texts laid into one: the remark ahead of each part says what is proved there. -/
import Derived.Test.YtcbmimjjpkkoeaaQad
import Derived.Test.YtcbmimjjpkkoeaaQab
import Derived.Deep.MidRow
import Derived.Laws.Tables
import Derived.Laws.Rows
/- Contract of parts of the reader of package record. -/
namespace Go.Proofs.Ytcbmimjjpkkoeaa
open Go Go.RowKit

def flatP (ps : Ps) : List Value := ps.flatMap fun p => [i64 p.1, i64 p.2]
theorem flatP_len (ps : Ps) : (flatP ps).length = ps.length * 2 := by
  induction ps with
  | nil => rfl
  | cons p r ih => simp [flatP] at ih ⊢; omega
theorem flatP_get : ∀ (ps : Ps) (i : Nat), i < ps.length → (flatP ps)[i * 2]? = some (i64 (ps.getD i (0, 0)).1) ∧ (flatP ps)[i * 2 + 1]? = some (i64 (ps.getD i (0, 0)).2)
  | [], i, h => by simp at h
  | p :: r, 0, _ => by simp [flatP]
  | p :: r, i + 1, h => by
    have ih := flatP_get r i (by simpa using h)
    have e : flatP (p :: r) = i64 p.1 :: i64 p.2 :: flatP r := rfl
    rw [e, show (i + 1) * 2 = i * 2 + 1 + 1 by omega]
    simpa using ih
/-- Parts in a row of their own. -/
def PBuf (B : Nat) (w : World) (v : Value) (ps : Ps) : Prop := w.ownsRow B 52 2 v ps.length (flatP ps)
theorem Try.infoP : (Try.prog.info? 52).map (fun i => (i.zero, i.size, i.bytes)) = some (some (.agg #[.int .i64 0, .int .i64 0]), 2, 16) := by kernel_rfl
/-- Parts in memory of no block below B, that may be written; none only where there is no room. -/
def PLF (B : Nat) (w : World) (v : Value) (ps : Ps) : Prop := PL w v ps ∧ (∀ a n c, v = .slice (some a) n c → ps ≠ [] → B ≤ a.block ∧ ∃ cs, CAt w a.block cs 52) ∧ ∀ n c, v = .slice none n c → c = 0
theorem PLF.nil (B : Nat) (w : World) : PLF B w (.slice none 0 0) [] := ⟨PL.nil w, fun _ _ _ _ h => (h rfl).elim, fun _ _ h => by cases h; rfl⟩
theorem PLF.only {B : Nat} {w w' : World} {v : Value} {ps : Ps} {S : Nat → Prop} (h : PLF B w v ps) (hO : Only S w w') (hS : ∀ i, S i → i < B) : PLF B w' v ps := by
  obtain ⟨⟨po, c, h1, h2, h3, h⟩, hB, hz⟩ := h
  refine ⟨⟨po, c, h1, h2, h3, ?_⟩, fun a n c e hne => ?_, hz⟩
  · rcases h with h | ⟨b, o, hp, h⟩
    · exact Or.inl h
    · refine Or.inr ⟨b, o, hp, fun i hi => ?_⟩
      have hb : B ≤ b := (hB ⟨b, o, none⟩ _ _ (by rw [h1, hp]) (fun e => by rw [e] at hi; cases hi)).1
      have hk : w'.heap[b]? = w.heap[b]? := hO.block b (cell_lt' (a := ⟨b, o + i * 2, none⟩) (by rw [(h i hi).1]; simp)) (fun e => by have := hS _ e; omega)
      exact ⟨(World.cell?_of_block (a := ⟨b, o + i * 2, none⟩) hk).trans (h i hi).1, (World.cell?_of_block (a := ⟨b, o + i * 2 + 1, none⟩) hk).trans (h i hi).2⟩
  · obtain ⟨k1, cs, k2⟩ := hB a n c e hne
    exact ⟨k1, cs, k2.keep (hO.block a.block k2.lt fun k => by have := hS _ k; omega)⟩
theorem PBuf.nil (B : Nat) (w : World) : PBuf B w (.slice none 0 0) [] := World.ownsRow_nil w B _ 2
theorem PBuf.form {B : Nat} {w : World} {v : Value} {ps : Ps} (h : PBuf B w v ps) : ∃ po c, v = .slice po ps.length c ∧ ps.length ≤ c := by
  rcases h.2 with ⟨rfl, h0⟩ | ⟨g, cap, cur, rfl, _, _, h1, _⟩
  · exact ⟨none, 0, by rw [h0], by omega⟩
  · exact ⟨_, cap, rfl, h1⟩
theorem PBuf.pl {B : Nat} {w : World} {po : Option Addr} {n c : Nat} {ps : Ps} (h : PBuf B w (.slice po n c) ps) (hn : ps.length ≤ 100000) (c' : Nat) (hc : ps.length ≤ c') (hz : c' = ps.length ∨ c' = c) : n = ps.length ∧ PLF B w (.slice po ps.length c') ps := by
  rcases h.2 with ⟨e, h0⟩ | ⟨g, cap, cur, e, hB, hg, h1, _, h3, h4⟩
  · simp at e
    exact ⟨by omega, ⟨po, c', rfl, hc, hn, Or.inl (List.eq_nil_of_length_eq_zero h0)⟩, fun a n c _ h => (h (List.eq_nil_of_length_eq_zero h0)).elim, fun n c2 e2 => by cases e2; omega⟩
  · cases e
    refine ⟨rfl, ⟨_, c', rfl, hc, hn, Or.inr ⟨g, 0, rfl, fun i hi => ?_⟩⟩, fun a n c h _ => by cases h; exact ⟨hB, _, hg⟩, fun n c e => by cases e⟩
    have hc2 : CAt w g cur 52 := hg
    obtain ⟨a1, a2⟩ := flatP_get ps i hi
    rw [← h4] at a1 a2
    rw [Nat.zero_add, hc2.cell, hc2.cell]
    constructor
    · rw [List.getElem?_take, if_pos (by omega)] at a1; simpa using a1
    · rw [List.getElem?_take, if_pos (by omega)] at a2; simpa using a2
theorem PBuf.push {B : Nat} {w : World} {v : Value} {ps : Ps} (h : PBuf B w v ps) (x y : Int) (hn : ps.length ≤ 1000000) (hB : B ≤ w.heap.size) :
    ∃ v' w', (Builtin.append_ #[27, 27] 27 #[v, .slice (some ⟨w.heap.size, 0, none⟩) 1 1]).run Try.prog (w.alloc (.cells #[i64 x, i64 y] 52)) = .ok v' w' ∧ PBuf B w' v' (ps ++ [(x, y)]) ∧ (w.alloc (.cells #[i64 x, i64 y] 52)).grownBy w' v.ownBlock := by
  obtain ⟨i0, hi0, hz0, hz1, hz2⟩ := info_parts Try.infoP
  have h2 : (w.alloc (.cells #[i64 x, i64 y] 52)).ownsRow B 52 2 v ps.length (flatP ps) := h.alloc _
  have hc : CAt (w.alloc (.cells #[i64 x, i64 y] 52)) w.heap.size #[i64 x, i64 y] 52 := CAt.made w _ _
  obtain ⟨v', w', hr, h3, h4, _, _⟩ := run_append_own_at (P := Try.prog) (w.alloc (.cells #[i64 x, i64 y] 52)) B 27 27 52 i0 _ 2 16 Try.underlying27 hi0 hz0 hz1 hz2 rfl (by decide) v ps.length (flatP ps) h2 ⟨w.heap.size, 0, none⟩ 1 1 [i64 x, i64 y] rfl (fun j u hj => by
      rw [add_none, Nat.zero_add, hc.cell]
      rcases j with _ | _ | j
      · simpa using hj
      · simpa using hj
      · simp at hj) (by intro u hu; simp at hu; rcases hu with rfl | rfl <;> rfl) (by unfold maxLen; omega) (by omega) (by rw [size_al]; omega)
  refine ⟨v', w', hr, ?_, h4⟩
  unfold PBuf
  rw [show flatP (ps ++ [(x, y)]) = flatP ps ++ [i64 x, i64 y] by simp [flatP]]
  simpa using h3
theorem elemP (w : World) : (sizeOf (Try.prog.elem 27)).run Try.prog w = .ok 2 w := by
  have hi : (Try.prog.info? (Try.prog.elem 27)).map (·.size) = some 2 := by kernel_rfl
  obtain ⟨i, h1, h2⟩ := Option.map_eq_some_iff.1 hi
  simp [sizeOf, typeInfo, h1, h2]
theorem underEP : Try.prog.underlying 27 = some (.slice (Try.prog.elem 27)) := by kernel_rfl
theorem run_clipP (po : Option Addr) (n c : Nat) (h : n ≤ c) (w : World) : (Instr.slice 27 (.slice po n c) none (some (.int .i64 (n : Int))) (some (.int .i64 (n : Int)))).run Try.prog w = .ok (.slice po n n) w := by
  rw [run_slice_hm (P := Try.prog) w 27 po n c underEP .i64 .i64 (n : Int) (n : Int) (by omega) (by omega) (by omega), elemP]
  cases po with
  | none => simp [Result.andThen, sliced]
  | some a =>
    by_cases h0 : n = 0
    · simp [Result.andThen, sliced, h0]
    · simp [Result.andThen, sliced, h0, add_zero']
theorem clipP_any (po : Option Addr) (n c : Nat) (hc : n ≤ c) (w : World) : Calls Try.prog 53 #[.slice po n c] w fun e w' => e = .returned (.slice po n n) ∧ w' = w := by
  have hs := run_clipP po n c hc
  go_enter Try.func53, Try.ntmps53
  go_wp2
  go_ret
  exact ⟨rfl, rfl⟩
/-- How many parts there are, and these. -/
def rdP (s : Option (List Nat)) : Option (Ps × List Nat) := s.bind fun L => (rdU L).bind fun q => if 32 < q.1 then none else rdPs q.1 q.2
theorem rdP_none {s : Option (List Nat)} (h : s.bind rdU = none) : rdP s = none := by
  unfold rdP
  cases s with
  | none => rfl
  | some L => have h' : rdU L = none := h; simp [h']
theorem rdP_some {s : Option (List Nat)} {n : Nat} {c : List Nat} (h : s.bind rdU = some (n, c)) : rdP s = if 32 < n then none else rdPs n c := by
  unfold rdP
  cases s with
  | none => cases h
  | some L => have h' : rdU L = some (n, c) := h; simp [h']
theorem PBuf.keep {B : Nat} {w w' : World} {v : Value} {ps : Ps} (h : PBuf B w v ps) (hk : ∀ b, v.ownBlock = some b → w'.heap[b]? = w.heap[b]?) : PBuf B w' v ps := ownsRow_keep h hk
end Go.Proofs.Ytcbmimjjpkkoeaa

/- Contract of parts of the reader of package record: the loop. -/
namespace Go.Proofs.Ytcbmimjjpkkoeaa
open Go Go.RowKit

/-- So many parts have been read; what is left of them. -/
def PAcc (n : Nat) (c : List Nat) (k : Nat) (qs : Ps) (st : Option (List Nat)) : Prop := qs.length = k ∧ match st with
  | none => rdPs n c = none
  | some d => rdPs n c = (rdPs (n - k) d).map fun q => (qs ++ q.1, q.2)
theorem PAcc.start (n : Nat) (c : List Nat) : PAcc n c 0 [] (some c) := ⟨rfl, by simp⟩
theorem rdPs_succ (n : Nat) (b : List Nat) : rdPs (n + 1) b = (rdU b).bind fun q => (rdU q.2).bind fun q2 => (rdPs n q2.2).bind fun q3 => some (((q.1 : Int), (q2.1 : Int)) :: q3.1, q3.2) := by
  rw [rdPs]; rfl
theorem PAcc.next {n k : Nat} {c d : List Nat} {qs : Ps} (h : PAcc n c k qs (some d)) (hk : k < n) {x y : Int} (hx : ∀ m r, rdU d = some (m, r) → x = m) (hy : ∀ m r, ((rdU d).map (·.2)).bind rdU = some (m, r) → y = m) :
    PAcc n c (k + 1) (qs ++ [(x, y)]) ((((rdU d).map (·.2)).bind rdU).map (·.2)) := by
  refine ⟨by simp [h.1], ?_⟩
  have h2 : rdPs n c = (rdPs (n - k) d).map fun q => (qs ++ q.1, q.2) := h.2
  rw [show n - k = (n - (k + 1)) + 1 by omega, rdPs_succ] at h2
  cases e1 : rdU d with
  | none => rw [e1] at h2; exact h2
  | some q =>
    obtain ⟨m1, d1⟩ := q
    rw [e1] at h2 hy
    simp only [Option.map_some, Option.bind_some] at h2 hy ⊢
    have hx' := hx m1 d1 e1
    cases e2 : rdU d1 with
    | none => rw [e2] at h2; exact h2
    | some q2 =>
      obtain ⟨m2, d2⟩ := q2
      rw [e2] at h2
      have hy' := hy m2 d2 e2
      simp only [Option.bind_some, Option.map_some] at h2 ⊢
      rw [h2, hx', hy']
      cases rdPs (n - (k + 1)) d2 with
      | none => rfl
      | some q3 => simp

end Go.Proofs.Ytcbmimjjpkkoeaa

/- A record in memory, field by field written. -/
namespace Go.Proofs.Ytcbmimjjpkkoeaa
open Go Go.RowKit

theorem Rv.toL (r : Rv) : r.cs.toList = [.string r.id, i64 r.time, .bool r.mark, i64 r.size, .string r.etag, i64 r.k, i64 r.m, .string r.data] ++ (r.sum.map u8 ++ [r.pv, .string r.up]) := by simp [Rv.cs, sumC]
theorem set_lo (r s : Rv) (i : Nat) (v : Value) (hi : i < 8) (h : s.sum = r.sum ∧ s.pv = r.pv ∧ s.up = r.up)
    (he : ([.string r.id, i64 r.time, .bool r.mark, i64 r.size, .string r.etag, i64 r.k, i64 r.m, .string r.data] : List Value).set i v = [.string s.id, i64 s.time, .bool s.mark, i64 s.size, .string s.etag, i64 s.k, i64 s.m, .string s.data]) : r.cs.setIfInBounds i v = s.cs := by
  apply Array.toList_inj.1
  rw [Array.toList_setIfInBounds, Rv.toL, Rv.toL, List.set_append_left _ _ (by simpa using hi), he, h.1, h.2.1, h.2.2]
section
variable {w : World} {g : Nat} {r : Rv} (h : RBox w g r) (ho : r.ok)
include h ho
theorem RBox.set2 (b : Bool) : RBox (w.setCell ⟨g, 2, none⟩ (.bool b)) g { r with mark := b } := RBox.mk' ⟨ho.sl, ho.s8, ho.i, ho.e, ho.d, ho.u⟩ (by rw [← set_lo r { r with mark := b } 2 (.bool b) (by omega) ⟨rfl, rfl, rfl⟩ rfl]; exact h.at_.set 2 _)
theorem RBox.set3 (n : Int) : RBox (w.setCell ⟨g, 3, none⟩ (i64 n)) g { r with size := n } := RBox.mk' ⟨ho.sl, ho.s8, ho.i, ho.e, ho.d, ho.u⟩ (by rw [← set_lo r { r with size := n } 3 (i64 n) (by omega) ⟨rfl, rfl, rfl⟩ rfl]; exact h.at_.set 3 _)
theorem RBox.set4 (s : ByteArray) (hs : s.size ≤ 100000) : RBox (w.setCell ⟨g, 4, none⟩ (.string s)) g { r with etag := s } := RBox.mk' ⟨ho.sl, ho.s8, ho.i, hs, ho.d, ho.u⟩ (by rw [← set_lo r { r with etag := s } 4 (.string s) (by omega) ⟨rfl, rfl, rfl⟩ rfl]; exact h.at_.set 4 _)
theorem RBox.set5 (n : Int) : RBox (w.setCell ⟨g, 5, none⟩ (i64 n)) g { r with k := n } := RBox.mk' ⟨ho.sl, ho.s8, ho.i, ho.e, ho.d, ho.u⟩ (by rw [← set_lo r { r with k := n } 5 (i64 n) (by omega) ⟨rfl, rfl, rfl⟩ rfl]; exact h.at_.set 5 _)
theorem RBox.set6 (n : Int) : RBox (w.setCell ⟨g, 6, none⟩ (i64 n)) g { r with m := n } := RBox.mk' ⟨ho.sl, ho.s8, ho.i, ho.e, ho.d, ho.u⟩ (by rw [← set_lo r { r with m := n } 6 (i64 n) (by omega) ⟨rfl, rfl, rfl⟩ rfl]; exact h.at_.set 6 _)
theorem RBox.set7 (s : ByteArray) (hs : s.size ≤ 100000) : RBox (w.setCell ⟨g, 7, none⟩ (.string s)) g { r with data := s } := RBox.mk' ⟨ho.sl, ho.s8, ho.i, ho.e, hs, ho.u⟩ (by rw [← set_lo r { r with data := s } 7 (.string s) (by omega) ⟨rfl, rfl, rfl⟩ rfl]; exact h.at_.set 7 _)
theorem RBox.set40 (v : Value) : RBox (w.setCell ⟨g, 40, none⟩ v) g { r with pv := v } := RBox.mk' ⟨ho.sl, ho.s8, ho.i, ho.e, ho.d, ho.u⟩ (by
  have e : r.cs.setIfInBounds 40 v = ({ r with pv := v } : Rv).cs := by
    apply Array.toList_inj.1
    rw [Array.toList_setIfInBounds, Rv.toL, Rv.toL, List.set_append_right _ _ (by simp), List.set_append_right _ _ (by simp [ho.sl])]
    simp [ho.sl]
  rw [← e]; exact h.at_.set 40 _)
theorem RBox.set41 (s : ByteArray) (hs : s.size ≤ 100000) : RBox (w.setCell ⟨g, 41, none⟩ (.string s)) g { r with up := s } := RBox.mk' ⟨ho.sl, ho.s8, ho.i, ho.e, ho.d, hs⟩ (by
  have e : r.cs.setIfInBounds 41 (.string s) = ({ r with up := s } : Rv).cs := by
    apply Array.toList_inj.1
    rw [Array.toList_setIfInBounds, Rv.toL, Rv.toL, List.set_append_right _ _ (by simp), List.set_append_right _ _ (by simp [ho.sl])]
    simp [ho.sl]
  rw [← e]; exact h.at_.set 41 _)
end
/-- Cells set one behind the other. -/
def setAll (cs : List Value) (o : Nat) : List Value → List Value
  | [] => cs
  | v :: r => setAll (cs.set o v) (o + 1) r
theorem CAt.setCells {b : Nat} {t : TypeId} : ∀ (vs : List Value) (o : Nat) (cs : Array Value) (w : World), CAt w b cs t → CAt (w.setCells b o vs) b (setAll cs.toList o vs).toArray t
  | [], o, cs, w, h => by simpa [World.setCells, setAll] using h
  | v :: r, o, cs, w, h => by
    rw [World.setCells, setAll]
    have := CAt.setCells r (o + 1) _ _ (h.set o v)
    rw [Array.toList_setIfInBounds] at this
    exact this
theorem setAll_app (pre : List Value) : ∀ (vs mid suf : List Value), vs.length = mid.length → setAll (pre ++ (mid ++ suf)) pre.length vs = pre ++ (vs ++ suf)
  | [], mid, suf, h => by
    have : mid = [] := List.eq_nil_of_length_eq_zero (by simpa using h.symm)
    subst this; rfl
  | v :: r, [], suf, h => by simp at h
  | v :: r, m :: mid, suf, h => by
    rw [setAll]
    have e : (pre ++ (m :: mid ++ suf)).set pre.length v = (pre ++ [v]) ++ (mid ++ suf) := by
      rw [List.set_append_right _ _ (Nat.le_refl _)]; simp
    rw [e]
    have := setAll_app (pre ++ [v]) r mid suf (by simpa using h)
    rw [List.length_append] at this
    rw [show pre.length + 1 = pre.length + [v].length from rfl, this]
    simp
theorem RBox.setSum {w : World} {g : Nat} {r : Rv} (h : RBox w g r) (ho : r.ok) (x : List Nat) (hx : x.length = 32) (h8 : ∀ z ∈ x, z < 256) : RBox (w.setCells g 8 (x.map u8)) g { r with sum := x } := RBox.mk' ⟨hx, h8, ho.i, ho.e, ho.d, ho.u⟩ (by
  have h2 := CAt.setCells (x.map u8) 8 _ _ h.at_
  have e : (setAll r.cs.toList 8 (x.map u8)).toArray = ({ r with sum := x } : Rv).cs := by
    apply Array.toList_inj.1
    rw [Rv.toL, Rv.toL]
    have := setAll_app [.string r.id, i64 r.time, .bool r.mark, i64 r.size, .string r.etag, i64 r.k, i64 r.m, .string r.data] (x.map u8) (r.sum.map u8) [r.pv, .string r.up] (by simp [hx, ho.sl])
    simpa using this
  rw [e] at h2
  exact h2)
theorem only_setCells {S : Nat → Prop} (w : World) (b o : Nat) (vs : List Value) (h : S b) : Only S w (w.setCells b o vs) := by
  induction vs generalizing o w with
  | nil => exact Only.refl _ _
  | cons v r ih => rw [World.setCells]; exact (Only.set w ⟨b, o, none⟩ v h).trans (ih _ _)
/-- copy(v.Sum[:], 32 bytes) -/
theorem run_copySum {w : World} {g : Nat} {r : Rv} (h : RBox w g r) (ho : r.ok) (po : Option Addr) (x : List Nat) (hx : x.length = 32) (hb : BL w po x) (ty : TypeId) :
    (Builtin.copy_ #[68, 68] ty #[.slice (some ⟨g, 8, none⟩) 32 32, .slice po 32 32]).run Try.prog w = .ok (goInt 32) (w.setCells g 8 (x.map u8)) := by
  rcases hb with rfl | ⟨b, o, rfl, hb⟩
  · simp at hx
  have := run_copy_cells (P := Try.prog) w 68 68 ty 5 g 8 32 32 ⟨b, o, none⟩ 32 32 (x.map u8) Try.underlying68 (by kernel_rfl) (by simp [hx])
    (fun j v hj => by
      have hjn : j < x.length := by
        rcases Nat.lt_or_ge j x.length with q | q
        · exact q
        · rw [List.getElem?_eq_none (by simpa using q)] at hj; cases hj
      rw [add_none, hb j hjn]
      simp [hjn] at hj
      rw [← hj]; simp [List.getD, hjn])
    (fun j hj => by
      have hj' : j < 32 := by simpa [hx] using hj
      rw [h.cs j _ (sumC_get (by rw [ho.sl]; exact hj'))]; rfl)
    (fun j _ => h.free _)
    (fun v hv => by obtain ⟨i, _, rfl⟩ := List.mem_map.1 hv; rfl)
  simp only [List.length_map, hx] at this
  exact this
#print axioms run_copySum
end Go.Proofs.Ytcbmimjjpkkoeaa

/- What is appended turns nothing else; numbers and texts laid behind bytes once more, by this. -/
namespace Go.Proofs.Ytcbmimjjpkkoeaa
open Go Go.RowKit

/-- From w0 on the bytes v0 have been appended to: they are L at v now; nothing else that was there has turned. -/
structure AppZ (B : Nat) (v0 : Value) (w0 : World) (L : List Nat) (v : Value) (w : World) : Prop where
  buf : Buf B w v L
  only : Only (fun b => v0.ownBlock = some b) w0 w
  own : ∀ b, v.ownBlock = some b → v0.ownBlock = some b ∨ w0.heap.size ≤ b
theorem AppZ.refl {B : Nat} {v : Value} {w : World} {L : List Nat} (h : Buf B w v L) : AppZ B v w L v w := ⟨h, Only.refl _ _, fun _ h => Or.inl h⟩
theorem AppZ.trans {B : Nat} {v0 v1 v2 : Value} {w0 w1 w2 : World} {L M : List Nat} (h : AppZ B v0 w0 L v1 w1) (k : AppZ B v1 w1 M v2 w2) : AppZ B v0 w0 M v2 w2 :=
  ⟨k.buf, h.only.then k.only fun i hi e => (h.own i e).elim id fun q => by omega, fun b hb => (k.own b hb).elim (h.own b) fun q => Or.inr (Nat.le_trans h.only.size q)⟩
theorem AppZ.below {B : Nat} {v0 v : Value} {w0 w w' : World} {L : List Nat} (h : AppZ B v0 w0 L v w) (hb : Below w.heap.size w w') : AppZ B v0 w0 L v w' :=
  ⟨h.buf.below hb, h.only.trans (Only.of_below hb), h.own⟩
theorem AppZ.start {B : Nat} {v0 v : Value} {w0 w1 w : World} {L : List Nat} (hb : Below w0.heap.size w0 w1) (h : AppZ B v0 w1 L v w) : AppZ B v0 w0 L v w :=
  ⟨h.buf, (Only.of_below hb).trans h.only, fun b e => (h.own b e).imp id fun q => by have := hb.size; omega⟩
theorem Buf.appZ {B : Nat} {w : World} {v : Value} {L : List Nat} (hv : Buf B w v L) (po : Option Addr) (c : Nat) (bs : List Nat) (hb : BL w po bs) (hc : po = none → c = 0) (hn : L.length + bs.length ≤ 2000000) (hB : B ≤ w.heap.size) :
    ∃ v' w', (Builtin.append_ #[68, 68] 68 #[v, .slice po bs.length c]).run Try.prog w = .ok v' w' ∧ AppZ B v w (L ++ bs) v' w' := by
  obtain ⟨i0, hi0, hz0, hz1, hz2⟩ := info_parts Try.info5
  cases po with
  | none =>
    have : bs = [] := by rcases hb with h | ⟨b, o, h, _⟩
                         · exact h
                         · cases h
    subst this
    obtain rfl := hc rfl
    exact ⟨v, w, run_append_owned_none (P := Try.prog) (w := w) B 68 68 5 i0 1 Try.underlying68 hi0 v _ _ hv, by rw [List.append_nil]; exact AppZ.refl hv⟩
  | some a =>
    obtain ⟨v', w', hr, h2, h3, _, h4⟩ := run_append_own_at (P := Try.prog) w B 68 68 5 i0 (.int .u8 0) 1 1 Try.underlying68 hi0 hz0 hz1 hz2 rfl (by decide) v L.length (L.map u8) hv a bs.length c (bs.map u8) (by simp) (fun j u hj => by
        have hjl : j < bs.length := by
          rcases Nat.lt_or_ge j bs.length with q | q
          · exact q
          · rw [List.getElem?_eq_none (by simpa using q)] at hj; cases hj
        have e : u = u8 (bs.getD j 0) := by simp [hjl] at hj; rw [← hj]; simp [List.getD, hjl]
        rcases hb with h | ⟨b, o, e2, h⟩
        · subst h; simp at hjl
        · cases e2
          rw [add_none, e]; exact h j hjl) (by intro u hu; simp at hu; obtain ⟨k, _, rfl⟩ := hu; rfl) (by unfold maxLen; omega) (by omega) hB
    refine ⟨v', w', hr, ?_, Only.of_grown h3 fun k e _ => e, fun b e => ?_⟩
    · unfold Buf; rw [List.length_append, List.map_append]; exact h2
    · rcases h4 with h4 | h4
      · exact Or.inl (h4 ▸ e)
      · rw [h4] at e; cases e; exact Or.inr (Nat.le_refl _)
theorem Buf.pushZ {B : Nat} {w : World} {v : Value} {L : List Nat} (hv : Buf B w v L) (k : Nat) (hn : L.length + 1 ≤ 2000000) (hB : B ≤ w.heap.size) :
    ∃ v' w', (Builtin.append_ #[68, 68] 68 #[v, .slice (some ⟨w.heap.size, 0, none⟩) 1 1]).run Try.prog (w.alloc (.cells #[u8 k] 5)) = .ok v' w' ∧ AppZ B v w (L ++ [k]) v' w' := by
  have h2 := hv.below (below_al w (.cells #[u8 k] 5))
  have hc : CAt (w.alloc (.cells #[u8 k] 5)) w.heap.size #[u8 k] 5 := CAt.made w _ _
  obtain ⟨v', w', h3, h4⟩ := h2.appZ (some ⟨w.heap.size, 0, none⟩) 1 [k] (Or.inr ⟨w.heap.size, 0, rfl, fun i hi => by
    have : i = 0 := by simpa using hi
    subst this; rw [Nat.zero_add, hc.cell]; rfl⟩) (by simp) (by simpa using hn) (by rw [size_al]; omega)
  exact ⟨v', w', h3, AppZ.start (below_al w _) h4⟩
theorem appS_where {B : Nat} {w : World} {v : Value} {L : List Nat} (hv : Buf B w v L) (s : ByteArray) (hn : L.length + s.size ≤ 2000000) {v' : Value} {w' : World} (hr : (Builtin.append_ #[68, 9] 68 #[v, .string s]).run Try.prog w = .ok v' w') :
    v'.ownBlock = v.ownBlock ∨ v'.ownBlock = some w.heap.size := by
  obtain ⟨i0, hi0, hz0, hz1, hz2⟩ := info_parts Try.info5
  have hv0 : w.ownsRow B 5 1 v L.length (L.map u8) := hv
  rcases hv0.2 with ⟨rfl, hl⟩ | ⟨g, cap, cur, rfl, hbg, hg, hnc, hcm, hcs, htake⟩
  · by_cases hm : s.size = 0
    · have hf := Lib.run_firstCells_string (P := Try.prog) w 1 s
      rw [hm] at hf
      have h2 : (Builtin.append_ #[68, 9] 68 #[.slice none 0 0, .string s]).run Try.prog w = .ok (.slice none 0 0) w := by
        simp [Builtin.append_, run_underlying Try.underlying68, run_underlying Try.underlying9, sizeOf, typeInfo, hi0, hz1, Builtin.lenOf, hm, hf]
      rw [h2] at hr; cases hr; exact Or.inl rfl
    · have h2 := run_append_nil_string (P := Try.prog) w 68 9 68 5 i0 (.int .u8 0) Try.underlying68 Try.underlying9 hi0 hz0 s (by omega) (by omega) (by rw [hz2]; omega)
      rw [h2] at hr; cases hr; exact Or.inr rfl
  · by_cases hroom : L.length + s.size ≤ cap
    · have h2 := Lib.run_append_room_string (P := Try.prog) w 68 9 68 5 i0 Try.underlying68 Try.underlying9 hi0 hz1 g L.length cap cur hg s hroom (by omega)
      rw [h2] at hr; cases hr; exact Or.inl rfl
    · have holds : ∀ j u, (L.map u8)[j]? = some u → w.cell? ((⟨g, 0, none⟩ : Addr).add j) = some u := hv0.cells (g := g) rfl
      have h2 := Lib.run_append_grow_string (P := Try.prog) w 68 9 68 5 i0 (.int .u8 0) Try.underlying68 Try.underlying9 hi0 hz0 ⟨g, 0, none⟩ L.length cap (L.map u8) (by rw [hz1]; simp) holds s (by omega) (by omega) (by rw [hz2]; exact growslice_fits (by omega) (by omega))
      rw [h2] at hr; cases hr; exact Or.inr rfl
theorem Buf.appSZ {B : Nat} {w : World} {v : Value} {L : List Nat} (hv : Buf B w v L) (s : ByteArray) (hn : L.length + s.size ≤ 2000000) (hB : B ≤ w.heap.size) :
    ∃ v' w', (Builtin.append_ #[68, 9] 68 #[v, .string s]).run Try.prog w = .ok v' w' ∧ AppZ B v w (L ++ lst s) v' w' := by
  obtain ⟨i0, hi0, hz0, hz1, hz2⟩ := info_parts Try.info5
  obtain ⟨v', w', hr, h2, h3, _⟩ := Lib.run_append_own_string (P := Try.prog) w B 68 9 68 5 i0 Try.underlying68 Try.underlying9 hi0 hz0 hz1 hz2 v L.length (L.map u8) hv s (by unfold maxLen; omega) (by omega) hB
  refine ⟨v', w', hr, ?_, Only.of_grown h3 fun k e _ => e, fun b e => ?_⟩
  · unfold Buf; rw [List.length_append, List.map_append, lst_len, ← strCells_lst]; exact h2
  · rcases appS_where hv s hn hr with h4 | h4
    · exact Or.inl (h4 ▸ e)
    · rw [h4] at e; cases e; exact Or.inr (Nat.le_refl _)
def ZS (B : Nat) (v : Value) (w : World) (L : List Nat) (e : Ending) (w' : World) : Prop := ∃ v', e = .returned v' ∧ AppZ B v w L v' w'

end Go.Proofs.Ytcbmimjjpkkoeaa

/- Contract of appendVersion of package record. -/
namespace Go.Proofs.Ytcbmimjjpkkoeaa
open Go Go.RowKit

theorem below_drewN (w : World) (n : Nat) : Below w.heap.size w (w.drewN n) := ⟨rfl, rfl, rfl, Nat.le_refl _, fun _ _ => rfl⟩
theorem below_drew (w : World) : Below w.heap.size w w.drew := (Below.refl _ _).drew
def ZT (B : Nat) (v0 : Value) (w0 : World) (L : List Nat) (e : Ending) (w' : World) : Prop := ∃ v', e = .returned v' ∧ AppZ B v0 w0 L v' w'
section
variable {B : Nat} {v0 v : Value} {w0 w : World} {L : List Nat}
end
theorem RBox.only {w w' : World} {g : Nat} {r : Rv} {S : Nat → Prop} (h : RBox w g r) (ho : r.ok) (hO : Only S w w') (hS : ¬ S g) : RBox w' g r := RBox.mk' ho (h.at_.keep (hO.block g h.at_.lt hS))
theorem ib_le {n : Int} (h : n ≤ 1099511627776) : (ib n).length ≤ 6 := nb_le (by omega)
theorem tb_le {s : ByteArray} (h : s.size ≤ 65536) : (tb (lst s)).length ≤ s.size + 6 := by
  unfold tb; rw [List.length_append, lst_len]; have := nb_le (n := s.size) (by omega); omega
/-- What only a record of no mark has, as bytes. -/
def vB (r : Rv) (ps : Ps) : List Nat := ib r.size ++ (tb (lst r.etag) ++ (ib r.k ++ (ib r.m ++ (tb (lst r.data) ++ (r.sum ++ (nb ps.length ++ (psB ps ++ tb (lst r.up))))))))
theorem versOk_iff {r : Rv} {ps : Ps} (h : versOk r ps = true) : 0 ≤ r.size ∧ r.size ≤ 65536 ∧ r.etag.size ≤ 40 ∧ 1 ≤ r.k ∧ r.k ≤ 16 ∧ 1 ≤ r.m ∧ r.m ≤ 16 ∧ r.data.size ≤ 32 ∧ ps.length ≤ 32 ∧ okPs 0 ps = true ∧ r.up.size ≤ 32 := by
  unfold versOk at h
  simp only [Bool.and_eq_true] at h
  obtain ⟨h1, h2, h3, h4, h5, h6, h7⟩ := h
  have a1 := inR_iff.1 h1
  have a3 := inR_iff.1 h3
  have a4 := inR_iff.1 h4
  have a2 := okOf_len h2
  have a5 := okOf_len h5
  rw [lst_len] at a2 a5
  unfold okParts at h6
  simp only [Bool.and_eq_true, decide_eq_true_eq] at h6
  have a7 : r.up.size ≤ 32 := by
    unfold upOk at h7
    rw [Bool.or_eq_true] at h7
    rcases h7 with h | h
    · rw [isEmpty_lst] at h
      have : (lst r.up).length = 0 := by simpa using h
      rw [lst_len] at this; omega
    · have := okOf_len h; rw [lst_len] at this; omega
  exact ⟨a1.1, a1.2, a2.2, a3.1, a3.2, a4.1, by omega, a5.2, h6.1.1, h6.1.2, a7⟩
theorem okPs_at : ∀ {ps : Ps} {last : Int}, 0 ≤ last → okPs last ps = true → ∀ i, i < ps.length → 0 ≤ (ps.getD i (0, 0)).1 ∧ (ps.getD i (0, 0)).1 ≤ 10000 ∧ 0 ≤ (ps.getD i (0, 0)).2 ∧ (ps.getD i (0, 0)).2 ≤ 65536
  | [], _, _, _, i, hi => by simp at hi
  | p :: r, last, h0, h, i, hi => by
    simp [okPs, inR] at h
    cases i with
    | zero => simp; omega
    | succ i => simpa using okPs_at (ps := r) (last := p.1) (by omega) h.2 i (by simpa using hi)
theorem run_sum (g : Nat) (w : World) : (Instr.sliceAt 26 (.pointer (some ⟨g, 8, none⟩)) none none none).run Try.prog w = .ok (.slice (some ⟨g, 8, none⟩) 32 32) w := by kernel_rfl
theorem psB_take {ps : Ps} {k : Nat} (h : k < ps.length) : psB (ps.take (k + 1)) = psB (ps.take k) ++ (ib (ps.getD k (0, 0)).1 ++ ib (ps.getD k (0, 0)).2) := by
  have e : ps.take (k + 1) = ps.take k ++ [ps.getD k (0, 0)] := by rw [List.take_succ_eq_append_getElem h]; simp [List.getD, h]
  rw [e]
  unfold psB
  rw [List.map_append, List.flatten_append]
  simp
theorem psB_le {ps : Ps} (h : ∀ i, i < ps.length → (ps.getD i (0, 0)).1 ≤ 10000 ∧ (ps.getD i (0, 0)).2 ≤ 65536) : ∀ k, k ≤ ps.length → (psB (ps.take k)).length ≤ 12 * k
  | 0, _ => by simp [psB]
  | k + 1, hk => by
    have ih := psB_le h k (by omega)
    have h1 := h k (by omega)
    rw [psB_take (by omega), List.length_append, List.length_append]
    have := ib_le (n := (ps.getD k (0, 0)).1) (by omega)
    have := ib_le (n := (ps.getD k (0, 0)).2) (by omega)
    omega
theorem step_append_ex {P : Program} {w : World} {ops : Array Oper} {o : Oper} {a : Act} {K : Act → World → Prop} {Q : Exit → Act → World → Prop} {E : Prop} {R : Value → World → Prop} (hgd : o.guard = none) (s x : Operand) (t : TypeId)
    (ho : o.op = .call { callee := .builtin .append, args := #[s, x], argTypes := #[t, t] }) (v xv : Value) (hs : a.eval s = v) (hx : a.eval x = xv)
    (hr : ∃ v' w', (Builtin.append_ #[t, t] o.type #[v, xv]).run P w = .ok v' w' ∧ R v' w') (h : ∀ v' w', R v' w' → K (a.put o.dst v') w') : if Region.wanted o (yielded ops a.tmps) = true then Oper.wp P o a w K Q else E := by
  have hw : Region.wanted o (yielded ops a.tmps) = true := by simp [Region.wanted, hgd]
  rw [if_pos hw]
  obtain ⟨v', w', hr, hR⟩ := hr
  unfold Oper.wp execOp
  simp only [ho, resolve, invoke, builtin, Sem.run_bind, Sem.run_pure, Result.andThen_ok, List.map_toArray, List.map_cons, List.map_nil, hs, hx, hr]
  exact h _ _ hR
theorem AppZ.sumA {B : Nat} {v0 v : Value} {w0 w : World} {L : List Nat} (h : AppZ B v0 w0 L v w) {g : Nat} {r : Rv} (hr : r.ok) (hg : RBox w g r) (hL : L.length ≤ 900000) (hB : B ≤ w0.heap.size) (W : World) (hW : Below w.heap.size w W) :
    ∃ v' w', (Builtin.append_ #[68, 68] 68 #[v, .slice (some ⟨g, 8, none⟩) 32 32]).run Try.prog W = .ok v' w' ∧ AppZ B v0 w0 (L ++ r.sum) v' w' := by
  have h2 := h.below hW
  have hg2 := hg.below hr hW
  obtain ⟨v', w', h3, h4⟩ := h2.buf.appZ (some ⟨g, 8, none⟩) 32 r.sum (Or.inr ⟨g, 8, rfl, fun i hi => hg2.cs i _ (sumC_get hi)⟩) (by simp) (by rw [hr.sl]; omega) (by have := h2.only.size; omega)
  rw [hr.sl] at h3
  exact ⟨v', w', h3, h2.trans h4⟩

end Go.Proofs.Ytcbmimjjpkkoeaa

/- Contract of version of the reader of package record. -/
namespace Go.Proofs.Ytcbmimjjpkkoeaa
open Go Go.RowKit

def tk32 (b : List Nat) : Option (List Nat) := if b.length < 32 then none else some (b.drop 32)
def st1 (s : Option (List Nat)) : Option (List Nat) := (s.bind rdU).map (·.2)
def stT (s : Option (List Nat)) : Option (List Nat) := (s.bind rdT).map (·.2)
def stP (s : Option (List Nat)) : Option (List Nat) := (rdP s).map (·.2)
theorem rdD_end (s : Option (List Nat)) (id : List Nat) (t : Nat) : (s.bind (rdD id t)).map (·.2) = stT (stP ((stT (st1 (st1 (stT (st1 s))))).bind tk32)) := by
  unfold st1 stT stP tk32 rdP
  cases s with
  | none => rfl
  | some L =>
  simp only [Option.bind_some]
  unfold rdD
  cases h1 : rdU L with
  | none => rfl
  | some q1 =>
  obtain ⟨a1, L1⟩ := q1
  simp only [Option.bind_eq_bind, Option.bind_some, Option.map_some]
  cases h2 : rdT L1 with
  | none => rfl
  | some q2 =>
  obtain ⟨a2, L2⟩ := q2
  simp only [Option.bind_some, Option.map_some]
  cases h3 : rdU L2 with
  | none => rfl
  | some q3 =>
  obtain ⟨a3, L3⟩ := q3
  simp only [Option.bind_some, Option.map_some]
  cases h4 : rdU L3 with
  | none => rfl
  | some q4 =>
  obtain ⟨a4, L4⟩ := q4
  simp only [Option.bind_some, Option.map_some]
  cases h5 : rdT L4 with
  | none => rfl
  | some q5 =>
  obtain ⟨a5, L5⟩ := q5
  simp only [Option.bind_some, Option.map_some]
  by_cases hl : L5.length < 32
  · rw [if_pos hl, if_pos hl]; rfl
  rw [if_neg hl, if_neg hl]
  simp only [Option.bind_some]
  cases h6 : rdU (L5.drop 32) with
  | none => rfl
  | some q6 =>
  obtain ⟨n, L6⟩ := q6
  simp only [Option.bind_some]
  by_cases hn : 32 < n
  · rw [if_pos hn, if_pos hn]; rfl
  rw [if_neg hn, if_neg hn]
  cases h7 : rdPs n L6 with
  | none => rfl
  | some q7 =>
  obtain ⟨ps, L7⟩ := q7
  simp only [Option.bind_some, Option.map_some]
  cases h8 : rdT L7 with
  | none => rfl
  | some q8 => rfl
theorem rdD_val {s : Option (List Nat)} {id : List Nat} {t : Nat} {rc : Rc} {c : List Nat} (h : s.bind (rdD id t) = some (rc, c)) :
    ∃ size etag k m data L5 ps up, s.bind rdU = some (size, (st1 s).getD []) ∧ (st1 s).bind rdT = some (etag, (stT (st1 s)).getD []) ∧ (stT (st1 s)).bind rdU = some (k, (st1 (stT (st1 s))).getD []) ∧ (st1 (stT (st1 s))).bind rdU = some (m, (st1 (st1 (stT (st1 s)))).getD []) ∧
      (st1 (st1 (stT (st1 s)))).bind rdT = some (data, L5) ∧ stT (st1 (st1 (stT (st1 s)))) = some L5 ∧ 32 ≤ L5.length ∧ rdP (some (L5.drop 32)) = some (ps, (stP (some (L5.drop 32))).getD []) ∧ (stP (some (L5.drop 32))).bind rdT = some (up, c) ∧ rc = ⟨id, t, false, size, etag, k, m, data, L5.take 32, ps, up⟩ := by
  cases s with
  | none => cases h
  | some L =>
  simp only [Option.bind_some] at h
  unfold rdD at h
  cases h1 : rdU L with
  | none => rw [h1] at h; cases h
  | some q1 =>
  obtain ⟨a1, L1⟩ := q1
  rw [h1] at h
  simp only [Option.bind_eq_bind, Option.bind_some] at h
  have e1 : st1 (some L) = some L1 := by unfold st1; simp [h1]
  rw [e1]
  cases h2 : rdT L1 with
  | none => rw [h2] at h; cases h
  | some q2 =>
  obtain ⟨a2, L2⟩ := q2
  rw [h2] at h
  simp only [Option.bind_some] at h
  have e2 : stT (some L1) = some L2 := by unfold stT; simp [h2]
  rw [e2]
  cases h3 : rdU L2 with
  | none => rw [h3] at h; cases h
  | some q3 =>
  obtain ⟨a3, L3⟩ := q3
  rw [h3] at h
  simp only [Option.bind_some] at h
  have e3 : st1 (some L2) = some L3 := by unfold st1; simp [h3]
  rw [e3]
  cases h4 : rdU L3 with
  | none => rw [h4] at h; cases h
  | some q4 =>
  obtain ⟨a4, L4⟩ := q4
  rw [h4] at h
  simp only [Option.bind_some] at h
  have e4 : st1 (some L3) = some L4 := by unfold st1; simp [h4]
  rw [e4]
  cases h5 : rdT L4 with
  | none => rw [h5] at h; cases h
  | some q5 =>
  obtain ⟨a5, L5⟩ := q5
  rw [h5] at h
  simp only [Option.bind_some] at h
  have e5 : stT (some L4) = some L5 := by unfold stT; simp [h5]
  rw [e5]
  by_cases hl : L5.length < 32
  · rw [if_pos hl] at h; cases h
  rw [if_neg hl] at h
  cases h6 : rdU (L5.drop 32) with
  | none => rw [h6] at h; cases h
  | some q6 =>
  obtain ⟨n, L6⟩ := q6
  rw [h6] at h
  simp only [Option.bind_some] at h
  by_cases hn : 32 < n
  · rw [if_pos hn] at h; cases h
  rw [if_neg hn] at h
  cases h7 : rdPs n L6 with
  | none => rw [h7] at h; cases h
  | some q7 =>
  obtain ⟨ps, L7⟩ := q7
  rw [h7] at h
  simp only [Option.bind_some] at h
  have e7 : rdP (some (L5.drop 32)) = some (ps, L7) := by rw [rdP_some (s := some (L5.drop 32)) (n := n) (c := L6) h6, if_neg hn, h7]
  have e8 : stP (some (L5.drop 32)) = some L7 := by unfold stP; rw [e7]; rfl
  cases h8 : rdT L7 with
  | none => rw [h8] at h; cases h
  | some q8 =>
  obtain ⟨up, L8⟩ := q8
  rw [h8] at h
  simp only [Option.bind_some, Option.pure_def, Option.some.injEq, Prod.mk.injEq] at h
  obtain ⟨rfl, rfl⟩ := h
  exact ⟨a1, a2, a3, a4, a5, L5, ps, up, h1, h2, h3, h4, h5, rfl, by omega, by rw [e8]; exact e7, by rw [e8]; exact h8, rfl⟩
theorem step_copy_ex {P : Program} {w : World} {ops : Array Oper} {o : Oper} {a : Act} {K : Act → World → Prop} {Q : Exit → Act → World → Prop} {E : Prop} {R : Value → World → Prop} (hgd : o.guard = none) (s x : Operand) (t : TypeId)
    (ho : o.op = .call { callee := .builtin .copy, args := #[s, x], argTypes := #[t, t] }) (v xv : Value) (hs : a.eval s = v) (hx : a.eval x = xv)
    (hr : ∃ v' w', (Builtin.copy_ #[t, t] o.type #[v, xv]).run P w = .ok v' w' ∧ R v' w') (h : ∀ v' w', R v' w' → K (a.put o.dst v') w') : if Region.wanted o (yielded ops a.tmps) = true then Oper.wp P o a w K Q else E := by
  have hw : Region.wanted o (yielded ops a.tmps) = true := by simp [Region.wanted, hgd]
  rw [if_pos hw]
  obtain ⟨v', w', hr, hR⟩ := hr
  unfold Oper.wp execOp
  simp only [ho, resolve, invoke, builtin, Sem.run_bind, Sem.run_pure, Result.andThen_ok, List.map_toArray, List.map_cons, List.map_nil, hs, hx, hr]
  exact h _ _ hR
theorem PLF.base {B B' : Nat} {w : World} {v : Value} {ps : Ps} (h : PLF B w v ps) (hB : B' ≤ B) : PLF B' w v ps := ⟨h.1, fun a n c e e' => ⟨Nat.le_trans hB (h.2.1 a n c e e').1, (h.2.1 a n c e e').2⟩, h.2.2⟩
theorem PLF.form {B : Nat} {w : World} {v : Value} {ps : Ps} (h : PLF B w v ps) : ∃ po n c, v = .slice po n c := by obtain ⟨⟨po, c, h, _⟩, _⟩ := h; exact ⟨_, _, _, h⟩
section


end

end Go.Proofs.Ytcbmimjjpkkoeaa

/- Contract of Bytes of package record. -/
namespace Go.Proofs.Ytcbmimjjpkkoeaa
open Go Go.RowKit

theorem AppZ.pushA {B : Nat} {v0 v : Value} {w0 w : World} {L : List Nat} (h : AppZ B v0 w0 L v w) (k : Nat) (hL : L.length ≤ 900000) (hB : B ≤ w0.heap.size) (W : World) (hW : Below w.heap.size w W) (g : Nat) (hg : g = W.heap.size) :
    ∃ v' w', (Builtin.append_ #[68, 68] 68 #[v, .slice (some ⟨g, 0, none⟩) 1 1]).run Try.prog (W.alloc (.cells #[u8 k] 5)) = .ok v' w' ∧ AppZ B v0 w0 (L ++ [k]) v' w' := by
  subst hg
  have h2 := h.below hW
  obtain ⟨v', w', h3, h4⟩ := h2.buf.pushZ k (by omega) (by have := h2.only.size; omega)
  exact ⟨v', w', h3, h2.trans h4⟩
theorem rcB_mark {r : Rv} {ps : Ps} (h : r.mark = true) : rcB (r.rc ps) = tb (lst r.id) ++ (ib r.time ++ [1]) := by
  unfold rcB Rv.rc; simp [h]
theorem rcB_vers {r : Rv} {ps : Ps} (h : r.mark = false) : rcB (r.rc ps) = tb (lst r.id) ++ (ib r.time ++ ([0] ++ vB r ps)) := by
  unfold rcB Rv.rc vB; simp [h]
theorem run_loadR {w : World} {g : Nat} {r : Rv} (hr : r.ok) (h : RBox w g r) : (Instr.loadAt 29 (.pointer (some ⟨g, 0, none⟩))).run Try.prog w = .ok (.agg r.cs) w := by
  simp only [Instr.loadAt, Instr.sureAddr, Sem.run_bind, Sem.run_pure, Result.andThen_ok, run_loadVar_at w g 0 29 r.cs _ h.whole underRec rfl (by rw [hr.size]; exact sizeR)]
theorem exec_load {a : Act} {o : Oper} {ty : TypeId} {x : Operand} {p v : Value} {W : World} (ho : o.op = .load ty x) (hx : a.eval x = p) (h : (Instr.loadAt ty p).run Try.prog W = .ok v W) : (execOp a.eval o).run Try.prog W = .ok (.value v) W := by
  unfold execOp
  simp only [ho, hx, Sem.run_bind, h, Result.andThen_ok, Sem.run_pure]
theorem rangeR {w : World} {g : Nat} {r : Rv} (h : RBox w g r) : w.rangeAt g 0 r.cs.toList := fun j v hv => h.whole j v (by simpa using hv)
theorem okRc_id {r : Rv} {ps : Ps} (h : okRc (r.rc ps) = true) : r.id.size ≤ 32 ∧ 0 ≤ r.time ∧ r.time ≤ 1048576 := by
  unfold okRc Rv.rc at h
  simp only [Bool.and_eq_true] at h
  have h1 := okOf_len h.1.1
  have h2 := inR_iff.1 h.1.2
  rw [lst_len] at h1
  exact ⟨h1.2, h2.1, h2.2⟩


end Go.Proofs.Ytcbmimjjpkkoeaa

/- Contract of record of the reader of package record. -/
namespace Go.Proofs.Ytcbmimjjpkkoeaa
open Go Go.RowKit

def zR : Rv := ⟨⟨#[]⟩, 0, false, 0, ⟨#[]⟩, 0, 0, ⟨#[]⟩, zeroD, .slice none 0 0, ⟨#[]⟩⟩
theorem zR_ok : zR.ok := ⟨rfl, by simp [zR, zeroD], by simp [zR, ByteArray.size], by simp [zR, ByteArray.size], by simp [zR, ByteArray.size], by simp [zR, ByteArray.size]⟩
theorem zeroR : (Try.prog.info? 29).map (·.zero) = some (some (.agg zR.cs)) := by kernel_rfl
theorem built_head (id : ByteArray) (time : Int) : Try.prog.built 29 [(0, .string id), (1, i64 time)] = some ({ zR with id := id, time := time } : Rv).cs := by kernel_rfl
theorem headR_ok {t : ByteArray} {v : Int} (h : t.size ≤ 65536) : ({ zR with id := t, time := v } : Rv).ok := ⟨zR_ok.sl, zR_ok.s8, by show t.size ≤ _; omega, zR_ok.e, zR_ok.d, zR_ok.u⟩
theorem Rv.one {r : Rv} (h : r.pv.oneCell' = true) : r.cs.all (·.oneCell') = true := by
  rw [Array.all_eq_true_iff_forall_mem]
  intro v hv
  rw [← Array.mem_toList_iff, Rv.toL] at hv
  simp only [List.mem_append, List.mem_cons, List.not_mem_nil, or_false, List.mem_map] at hv
  rcases hv with (rfl | rfl | rfl | rfl | rfl | rfl | rfl | rfl) | ⟨_, _, rfl⟩ | rfl | rfl <;> first | rfl | exact h
theorem only_setRow {S : Nat → Prop} (w : World) (g : Nat) (cs : Array Value) (h : S g) : Only S w (w.setRow g cs) := ⟨rfl, rfl, rfl, by simp, fun k _ hk => setRow_other w g k cs fun e => hk (e ▸ h)⟩
theorem run_storeR {w : World} {g : Nat} {r0 r : Rv} (h0 : r0.ok) (hr : r.ok) (hpv : r.pv.oneCell' = true) (hb : RBox w g r0) : (Instr.storeAt 29 (.pointer (some ⟨g, 0, none⟩)) (.agg r.cs)).run Try.prog w = .ok () (w.setRow g r.cs) ∧ RBox (w.setRow g r.cs) g r := by
  have e := run_storeVar_row (P := Try.prog) w g 29 29 r0.cs r.cs hb.at_ (by rw [hr.size]; exact sizeR) (by rw [h0.size, hr.size]) (Rv.one hpv)
  refine ⟨?_, RBox.mk' hr (setRow_heap w g r0.cs r.cs _ _ hb.at_)⟩
  simp only [Instr.storeAt, Instr.sureAddr, Sem.run_bind, Sem.run_pure, Result.andThen_ok, e]
theorem wpList_allocR {ops : Array Oper} {rest : List Oper} {o : Oper} {a : Act} {w : World} {Q : Exit → Act → World → Prop} (hg : o.guard = none) (ho : o.op = .alloc 29)
    (h : ∀ w1 g, RBox w1 g zR → Below w.heap.size w w1 → w.heap.size = g → wpList Try.prog ops Q rest (a.put o.dst (ptr g)) w1) : wpList Try.prog ops Q (o :: rest) a w := by
  refine wpList_plain hg fun _ hK => ?_
  obtain ⟨i, hq, hz'⟩ := Option.map_eq_some_iff.1 zeroR
  unfold Oper.wp execOp
  simp only [ho, Instr.alloc, zeroValue, typeInfo, Sem.run_bind, newVar, newRow]
  simp [hq, hz', Value.cells]
  exact hK _ _ (h _ _ (RBox.mk' zR_ok (CAt.made _ _ _)) (below_al _ _) rfl)
theorem wpList_storeR {ops : Array Oper} {rest : List Oper} {o : Oper} {a : Act} {w : World} {Q : Exit → Act → World → Prop} (hg : o.guard = none) (hdst : o.dst = none) (x y : Operand) (ho : o.op = .store 29 x y) (g : Nat) (hx : a.eval x = ptr g) {r0 r : Rv} (hy : a.eval y = .agg r.cs) (h0 : r0.ok) (hr : r.ok) (hpv : r.pv.oneCell' = true) (hb : RBox w g r0)
    (h : ∀ w1, RBox w1 g r → Only (fun b => b = g) w w1 → wpList Try.prog ops Q rest a w1) : wpList Try.prog ops Q (o :: rest) a w := by
  refine wpList_plain hg fun _ hK => ?_
  obtain ⟨e1, e2⟩ := run_storeR h0 hr hpv hb
  unfold Oper.wp execOp
  simp only [ho, hx, hy, ptr, Sem.run_bind, e1, Result.andThen_ok, Sem.run_pure]
  refine hK (a.put o.dst undef) _ ?_
  rw [hdst]
  exact h _ e2 (only_setRow _ _ _ rfl)
section


end
theorem rdAny_eq (s : Option (List Nat)) : s.bind rdAny = (s.bind rdT).bind fun q => ((stT s).bind rdU).bind fun q2 => (st1 (stT s)).bind fun b => match b with
  | [] => none
  | c :: b => if 1 < c then none else if c = 1 then some (⟨q.1, q2.1, true, 0, [], 0, 0, [], zeroD, [], []⟩, b) else rdD q.1 q2.1 b := by
  cases s with
  | none => rfl
  | some L =>
  simp only [Option.bind_some, stT, st1]
  unfold rdAny
  cases h1 : rdT L with
  | none => rfl
  | some q =>
  obtain ⟨id, L1⟩ := q
  simp only [Option.bind_eq_bind, Option.bind_some, Option.map_some]
  cases h2 : rdU L1 with
  | none => rfl
  | some q2 => obtain ⟨t, L2⟩ := q2; rfl
theorem rdR_eq (s : Option (List Nat)) : s.bind rdR = (s.bind rdAny).bind fun q => if okRc q.1 then some q else none := by
  cases s with
  | none => rfl
  | some L => simp only [Option.bind_some]; unfold rdR; cases rdAny L <;> rfl
theorem ret_rowR {fn : Func} {q : Tmp} (h : fn.results = #[.cell q 29]) {R : Ending → World → Prop} {a : Act} {w : World} (g : Nat) {r : Rv}
    (hd0 : a.defers = []) (hp : a.tmps.getD q undef = .pointer (some ⟨g, 0, none⟩)) (hb : RBox w g r) (hr : r.ok) (hR : R (.returned (.agg r.cs)) w) : bodyPost Try.prog fn R .ret a w :=
  ⟨hd0, _, results_cell_row h _ _ g 29 r.cs (0, 0) _ hp hb.at_ underRec rfl (by rw [hr.size]; exact sizeR), hR⟩
#print axioms ret_rowR
end Go.Proofs.Ytcbmimjjpkkoeaa
