/- Texts laid into one, cut to what is needed: the remark ahead of each part says what is proved there. -/
import Derived.Test.YtdohmokhfajjpaaGreatDoorPau
import Derived.Test.YtdohmokhfajjpaaGreatDoorPaq
import Derived.Deep.MidRow
import Derived.Laws.Tables
import Derived.Laws.Rows
/- A record in memory, field by field written. -/
namespace Go.Proofs.YtdohmokhfajjpaaGreatDoor
open Go Go.RowKit

theorem Rv.toL (r : Rv) : r.cs.toList = [.string r.id, i64 r.time, .bool r.mark, i64 r.size, .string r.etag, i64 r.k, i64 r.m, .string r.data] ++ (r.sum.map u8 ++ [r.pv, .string r.up]) := by simp [Rv.cs, sumC]
theorem set_lo (r s : Rv) (i : Nat) (v : Value) (hi : i < 8) (h : s.sum = r.sum ∧ s.pv = r.pv ∧ s.up = r.up)
  (he : ([.string r.id, i64 r.time, .bool r.mark, i64 r.size, .string r.etag, i64 r.k, i64 r.m, .string r.data] : List Value).set i v = [.string s.id, i64 s.time, .bool s.mark, i64 s.size, .string s.etag, i64 s.k, i64 s.m, .string s.data]) : r.cs.setIfInBounds i v = s.cs := by
 apply Array.toList_inj.1
 rw [Array.toList_setIfInBounds, Rv.toL, Rv.toL, List.set_append_left _ _ (by simpa using hi), he, h.1, h.2.1, h.2.2]
section
variable {w : World} {g : Nat} {r : Rv} (h : RBox w g r) (ho : r.ok)
include h ho
theorem RBox.set2 (b : Bool) : RBox (w.setCell ⟨g, 2, none⟩ (.bool b)) g { r with mark := b } := RBox.mk' ⟨ho.sl, ho.s8, ho.i, ho.e, ho.d, ho.u⟩ (by rw [← set_lo r { r with mark := b } 2 (.bool b) (by omega) ⟨rfl, rfl, rfl⟩ rfl]; exact h.at_.set 2 _)
theorem RBox.set3 (n : Int) : RBox (w.setCell ⟨g, 3, none⟩ (i64 n)) g { r with size := n } := RBox.mk' ⟨ho.sl, ho.s8, ho.i, ho.e, ho.d, ho.u⟩ (by rw [← set_lo r { r with size := n } 3 (i64 n) (by omega) ⟨rfl, rfl, rfl⟩ rfl]; exact h.at_.set 3 _)
theorem RBox.set4 (s : ByteArray) (hs : s.size ≤ 100000) : RBox (w.setCell ⟨g, 4, none⟩ (.string s)) g { r with etag := s } := RBox.mk' ⟨ho.sl, ho.s8, ho.i, hs, ho.d, ho.u⟩ (by rw [← set_lo r { r with etag := s } 4 (.string s) (by omega) ⟨rfl, rfl, rfl⟩ rfl]; exact h.at_.set 4 _)
theorem RBox.set5 (n : Int) : RBox (w.setCell ⟨g, 5, none⟩ (i64 n)) g { r with k := n } := RBox.mk' ⟨ho.sl, ho.s8, ho.i, ho.e, ho.d, ho.u⟩ (by rw [← set_lo r { r with k := n } 5 (i64 n) (by omega) ⟨rfl, rfl, rfl⟩ rfl]; exact h.at_.set 5 _)
theorem RBox.set6 (n : Int) : RBox (w.setCell ⟨g, 6, none⟩ (i64 n)) g { r with m := n } := RBox.mk' ⟨ho.sl, ho.s8, ho.i, ho.e, ho.d, ho.u⟩ (by rw [← set_lo r { r with m := n } 6 (i64 n) (by omega) ⟨rfl, rfl, rfl⟩ rfl]; exact h.at_.set 6 _)
theorem RBox.set7 (s : ByteArray) (hs : s.size ≤ 100000) : RBox (w.setCell ⟨g, 7, none⟩ (.string s)) g { r with data := s } := RBox.mk' ⟨ho.sl, ho.s8, ho.i, ho.e, hs, ho.u⟩ (by rw [← set_lo r { r with data := s } 7 (.string s) (by omega) ⟨rfl, rfl, rfl⟩ rfl]; exact h.at_.set 7 _)
theorem RBox.set40 (v : Value) : RBox (w.setCell ⟨g, 40, none⟩ v) g { r with pv := v } := RBox.mk' ⟨ho.sl, ho.s8, ho.i, ho.e, ho.d, ho.u⟩ (by
 have e : r.cs.setIfInBounds 40 v = ({ r with pv := v } : Rv).cs := by
  apply Array.toList_inj.1
  rw [Array.toList_setIfInBounds, Rv.toL, Rv.toL, List.set_append_right _ _ (by simp), List.set_append_right _ _ (by simp [ho.sl])]
  simp [ho.sl]
 rw [← e]; exact h.at_.set 40 _)
theorem RBox.set41 (s : ByteArray) (hs : s.size ≤ 100000) : RBox (w.setCell ⟨g, 41, none⟩ (.string s)) g { r with up := s } := RBox.mk' ⟨ho.sl, ho.s8, ho.i, ho.e, ho.d, hs⟩ (by
 have e : r.cs.setIfInBounds 41 (.string s) = ({ r with up := s } : Rv).cs := by
  apply Array.toList_inj.1
  rw [Array.toList_setIfInBounds, Rv.toL, Rv.toL, List.set_append_right _ _ (by simp), List.set_append_right _ _ (by simp [ho.sl])]
  simp [ho.sl]
 rw [← e]; exact h.at_.set 41 _)
end
/-- Cells set one behind the other. -/
def setAll (cs : List Value) (o : Nat) : List Value → List Value
 | [] => cs
 | v :: r => setAll (cs.set o v) (o + 1) r
theorem CAt.setCells {b : Nat} {t : TypeId} : ∀ (vs : List Value) (o : Nat) (cs : Array Value) (w : World), CAt w b cs t → CAt (w.setCells b o vs) b (setAll cs.toList o vs).toArray t
 | [], o, cs, w, h => by simpa [World.setCells, setAll] using h
 | v :: r, o, cs, w, h => by
  rw [World.setCells, setAll]
  have := CAt.setCells r (o + 1) _ _ (h.set o v)
  rw [Array.toList_setIfInBounds] at this
  exact this
theorem setAll_app (pre : List Value) : ∀ (vs mid suf : List Value), vs.length = mid.length → setAll (pre ++ (mid ++ suf)) pre.length vs = pre ++ (vs ++ suf)
 | [], mid, suf, h => by
  have : mid = [] := List.eq_nil_of_length_eq_zero (by simpa using h.symm)
  subst this; rfl
 | v :: r, [], suf, h => by simp at h
 | v :: r, m :: mid, suf, h => by
  rw [setAll]
  have e : (pre ++ (m :: mid ++ suf)).set pre.length v = (pre ++ [v]) ++ (mid ++ suf) := by
   rw [List.set_append_right _ _ (Nat.le_refl _)]; simp
  rw [e]
  have := setAll_app (pre ++ [v]) r mid suf (by simpa using h)
  rw [List.length_append] at this
  rw [show pre.length + 1 = pre.length + [v].length from rfl, this]
  simp
theorem RBox.setSum {w : World} {g : Nat} {r : Rv} (h : RBox w g r) (ho : r.ok) (x : List Nat) (hx : x.length = 32) (h8 : ∀ z ∈ x, z < 256) : RBox (w.setCells g 8 (x.map u8)) g { r with sum := x } := RBox.mk' ⟨hx, h8, ho.i, ho.e, ho.d, ho.u⟩ (by
 have h2 := CAt.setCells (x.map u8) 8 _ _ h.at_
 have e : (setAll r.cs.toList 8 (x.map u8)).toArray = ({ r with sum := x } : Rv).cs := by
  apply Array.toList_inj.1
  rw [Rv.toL, Rv.toL]
  have := setAll_app [.string r.id, i64 r.time, .bool r.mark, i64 r.size, .string r.etag, i64 r.k, i64 r.m, .string r.data] (x.map u8) (r.sum.map u8) [r.pv, .string r.up] (by simp [hx, ho.sl])
  simpa using this
 rw [e] at h2
 exact h2)
theorem only_setCells {S : Nat → Prop} (w : World) (b o : Nat) (vs : List Value) (h : S b) : Only S w (w.setCells b o vs) := by
 induction vs generalizing o w with
 | nil => exact Only.refl _ _
 | cons v r ih => rw [World.setCells]; exact (Only.set w ⟨b, o, none⟩ v h).trans (ih _ _)
/-- copy(v.Sum[:], 32 bytes) -/
theorem run_copySum {w : World} {g : Nat} {r : Rv} (h : RBox w g r) (ho : r.ok) (po : Option Addr) (x : List Nat) (hx : x.length = 32) (hb : BL w po x) (ty : TypeId) :
  (Builtin.copy_ #[22, 22] ty #[.slice (some ⟨g, 8, none⟩) 32 32, .slice po 32 32]).run Tryz.prog w = .ok (goInt 32) (w.setCells g 8 (x.map u8)) := by
 rcases hb with rfl | ⟨b, o, rfl, hb⟩
 ·simp at hx
 have := run_copy_cells (P := Tryz.prog) w 22 22 ty 5 g 8 32 32 ⟨b, o, none⟩ 32 32 (x.map u8) Tryz.underlying22 (by kernel_rfl) (by simp [hx])
  (fun j v hj => by
   have hjn : j < x.length := by
    rcases Nat.lt_or_ge j x.length with q | q
    ·exact q
    ·rw [List.getElem?_eq_none (by simpa using q)] at hj; cases hj
   rw [add_none, hb j hjn]
   simp [hjn] at hj
   rw [← hj]; simp [List.getD, hjn])
  (fun j hj => by
   have hj' : j < 32 := by simpa [hx] using hj
   rw [h.cs j _ (sumC_get (by rw [ho.sl]; exact hj'))]; rfl)
  (fun j _ => h.free _)
  (fun v hv => by obtain ⟨i, _, rfl⟩ := List.mem_map.1 hv; rfl)
 simp only [List.length_map, hx] at this
 exact this
end Go.Proofs.YtdohmokhfajjpaaGreatDoor

/- What is appended turns nothing else; numbers and texts laid behind bytes once more, by this. -/
namespace Go.Proofs.YtdohmokhfajjpaaGreatDoor
open Go Go.RowKit

/-- From w0 on the bytes v0 have been appended to: they are L at v now; nothing else that was there has turned. -/
structure AppZ (B : Nat) (v0 : Value) (w0 : World) (L : List Nat) (v : Value) (w : World) : Prop where
 buf : Buf B w v L
 only : Only (fun b => v0.ownBlock = some b) w0 w
 own : ∀ b, v.ownBlock = some b → v0.ownBlock = some b ∨ w0.heap.size ≤ b
theorem AppZ.refl {B : Nat} {v : Value} {w : World} {L : List Nat} (h : Buf B w v L) : AppZ B v w L v w := ⟨h, Only.refl _ _, fun _ h => Or.inl h⟩
theorem AppZ.trans {B : Nat} {v0 v1 v2 : Value} {w0 w1 w2 : World} {L M : List Nat} (h : AppZ B v0 w0 L v1 w1) (k : AppZ B v1 w1 M v2 w2) : AppZ B v0 w0 M v2 w2 :=
 ⟨k.buf, h.only.then k.only fun i hi e => (h.own i e).elim id fun q => by omega, fun b hb => (k.own b hb).elim (h.own b) fun q => Or.inr (Nat.le_trans h.only.size q)⟩
theorem AppZ.below {B : Nat} {v0 v : Value} {w0 w w' : World} {L : List Nat} (h : AppZ B v0 w0 L v w) (hb : Below w.heap.size w w') : AppZ B v0 w0 L v w' :=
 ⟨h.buf.below hb, h.only.trans (Only.of_below hb), h.own⟩
theorem AppZ.start {B : Nat} {v0 v : Value} {w0 w1 w : World} {L : List Nat} (hb : Below w0.heap.size w0 w1) (h : AppZ B v0 w1 L v w) : AppZ B v0 w0 L v w :=
 ⟨h.buf, (Only.of_below hb).trans h.only, fun b e => (h.own b e).imp id fun q => by have := hb.size; omega⟩
end Go.Proofs.YtdohmokhfajjpaaGreatDoor

/- Contract of appendVersion of package record. -/
namespace Go.Proofs.YtdohmokhfajjpaaGreatDoor
open Go Go.RowKit

theorem below_drewN (w : World) (n : Nat) : Below w.heap.size w (w.drewN n) := ⟨rfl, rfl, rfl, Nat.le_refl _, fun _ _ => rfl⟩
theorem below_drew (w : World) : Below w.heap.size w w.drew := (Below.refl _ _).drew
section
variable {B : Nat} {v0 v : Value} {w0 w : World} {L : List Nat}
end
theorem RBox.only {w w' : World} {g : Nat} {r : Rv} {S : Nat → Prop} (h : RBox w g r) (ho : r.ok) (hO : Only S w w') (hS : ¬ S g) : RBox w' g r := RBox.mk' ho (h.at_.keep (hO.block g h.at_.lt hS))
theorem run_sum (g : Nat) (w : World) : (Instr.sliceAt 41 (.pointer (some ⟨g, 8, none⟩)) none none none).run Tryz.prog w = .ok (.slice (some ⟨g, 8, none⟩) 32 32) w := by kernel_rfl
theorem step_append_ex {P : Program} {w : World} {ops : Array Oper} {o : Oper} {a : Act} {K : Act → World → Prop} {Q : Exit → Act → World → Prop} {E : Prop} {R : Value → World → Prop} (hgd : o.guard = none) (s x : Operand) (t : TypeId)
  (ho : o.op = .call { callee := .builtin .append, args := #[s, x], argTypes := #[t, t] }) (v xv : Value) (hs : a.eval s = v) (hx : a.eval x = xv)
  (hr : ∃ v' w', (Builtin.append_ #[t, t] o.type #[v, xv]).run P w = .ok v' w' ∧ R v' w') (h : ∀ v' w', R v' w' → K (a.put o.dst v') w') : if Region.wanted o (yielded ops a.tmps) = true then Oper.wp P o a w K Q else E := by
 have hw : Region.wanted o (yielded ops a.tmps) = true := by simp [Region.wanted, hgd]
 rw [if_pos hw]
 obtain ⟨v', w', hr, hR⟩ := hr
 unfold Oper.wp execOp
 simp only [ho, resolve, invoke, builtin, Sem.run_bind, Sem.run_pure, Result.andThen_ok, List.map_toArray, List.map_cons, List.map_nil, hs, hx, hr]
 exact h _ _ hR
end Go.Proofs.YtdohmokhfajjpaaGreatDoor

/- Contract of version of the reader of package record. -/
namespace Go.Proofs.YtdohmokhfajjpaaGreatDoor
open Go Go.RowKit

def tk32 (b : List Nat) : Option (List Nat) := if b.length < 32 then none else some (b.drop 32)
def st1 (s : Option (List Nat)) : Option (List Nat) := (s.bind rdU).map (·.2)
def stT (s : Option (List Nat)) : Option (List Nat) := (s.bind rdT).map (·.2)
def stP (s : Option (List Nat)) : Option (List Nat) := (rdP s).map (·.2)
theorem rdD_end (s : Option (List Nat)) (id : List Nat) (t : Nat) : (s.bind (rdD id t)).map (·.2) = stT (stP ((stT (st1 (st1 (stT (st1 s))))).bind tk32)) := by
 unfold st1 stT stP tk32 rdP
 cases s with
 | none => rfl
 | some L =>
 simp only [Option.bind_some]
 unfold rdD
 cases h1 : rdU L with
 | none => rfl
 | some q1 =>
 obtain ⟨a1, L1⟩ := q1
 simp only [Option.bind_eq_bind, Option.bind_some, Option.map_some]
 cases h2 : rdT L1 with
 | none => rfl
 | some q2 =>
 obtain ⟨a2, L2⟩ := q2
 simp only [Option.bind_some, Option.map_some]
 cases h3 : rdU L2 with
 | none => rfl
 | some q3 =>
 obtain ⟨a3, L3⟩ := q3
 simp only [Option.bind_some, Option.map_some]
 cases h4 : rdU L3 with
 | none => rfl
 | some q4 =>
 obtain ⟨a4, L4⟩ := q4
 simp only [Option.bind_some, Option.map_some]
 cases h5 : rdT L4 with
 | none => rfl
 | some q5 =>
 obtain ⟨a5, L5⟩ := q5
 simp only [Option.bind_some, Option.map_some]
 by_cases hl : L5.length < 32
 ·rw [if_pos hl, if_pos hl]; rfl
 rw [if_neg hl, if_neg hl]
 simp only [Option.bind_some]
 cases h6 : rdU (L5.drop 32) with
 | none => rfl
 | some q6 =>
 obtain ⟨n, L6⟩ := q6
 simp only [Option.bind_some]
 by_cases hn : 32 < n
 ·rw [if_pos hn, if_pos hn]; rfl
 rw [if_neg hn, if_neg hn]
 cases h7 : rdPs n L6 with
 | none => rfl
 | some q7 =>
 obtain ⟨ps, L7⟩ := q7
 simp only [Option.bind_some, Option.map_some]
 cases h8 : rdT L7 with
 | none => rfl
 | some q8 => rfl
theorem rdD_val {s : Option (List Nat)} {id : List Nat} {t : Nat} {rc : Rc} {c : List Nat} (h : s.bind (rdD id t) = some (rc, c)) :
  ∃ size etag k m data L5 ps up, s.bind rdU = some (size, (st1 s).getD []) ∧ (st1 s).bind rdT = some (etag, (stT (st1 s)).getD []) ∧ (stT (st1 s)).bind rdU = some (k, (st1 (stT (st1 s))).getD []) ∧ (st1 (stT (st1 s))).bind rdU = some (m, (st1 (st1 (stT (st1 s)))).getD []) ∧
   (st1 (st1 (stT (st1 s)))).bind rdT = some (data, L5) ∧ stT (st1 (st1 (stT (st1 s)))) = some L5 ∧ 32 ≤ L5.length ∧ rdP (some (L5.drop 32)) = some (ps, (stP (some (L5.drop 32))).getD []) ∧ (stP (some (L5.drop 32))).bind rdT = some (up, c) ∧ rc = ⟨id, t, false, size, etag, k, m, data, L5.take 32, ps, up⟩ := by
 cases s with
 | none => cases h
 | some L =>
 simp only [Option.bind_some] at h
 unfold rdD at h
 cases h1 : rdU L with
 | none => rw [h1] at h; cases h
 | some q1 =>
 obtain ⟨a1, L1⟩ := q1
 rw [h1] at h
 simp only [Option.bind_eq_bind, Option.bind_some] at h
 have e1 : st1 (some L) = some L1 := by unfold st1; simp [h1]
 rw [e1]
 cases h2 : rdT L1 with
 | none => rw [h2] at h; cases h
 | some q2 =>
 obtain ⟨a2, L2⟩ := q2
 rw [h2] at h
 simp only [Option.bind_some] at h
 have e2 : stT (some L1) = some L2 := by unfold stT; simp [h2]
 rw [e2]
 cases h3 : rdU L2 with
 | none => rw [h3] at h; cases h
 | some q3 =>
 obtain ⟨a3, L3⟩ := q3
 rw [h3] at h
 simp only [Option.bind_some] at h
 have e3 : st1 (some L2) = some L3 := by unfold st1; simp [h3]
 rw [e3]
 cases h4 : rdU L3 with
 | none => rw [h4] at h; cases h
 | some q4 =>
 obtain ⟨a4, L4⟩ := q4
 rw [h4] at h
 simp only [Option.bind_some] at h
 have e4 : st1 (some L3) = some L4 := by unfold st1; simp [h4]
 rw [e4]
 cases h5 : rdT L4 with
 | none => rw [h5] at h; cases h
 | some q5 =>
 obtain ⟨a5, L5⟩ := q5
 rw [h5] at h
 simp only [Option.bind_some] at h
 have e5 : stT (some L4) = some L5 := by unfold stT; simp [h5]
 rw [e5]
 by_cases hl : L5.length < 32
 ·rw [if_pos hl] at h; cases h
 rw [if_neg hl] at h
 cases h6 : rdU (L5.drop 32) with
 | none => rw [h6] at h; cases h
 | some q6 =>
 obtain ⟨n, L6⟩ := q6
 rw [h6] at h
 simp only [Option.bind_some] at h
 by_cases hn : 32 < n
 ·rw [if_pos hn] at h; cases h
 rw [if_neg hn] at h
 cases h7 : rdPs n L6 with
 | none => rw [h7] at h; cases h
 | some q7 =>
 obtain ⟨ps, L7⟩ := q7
 rw [h7] at h
 simp only [Option.bind_some] at h
 have e7 : rdP (some (L5.drop 32)) = some (ps, L7) := by rw [rdP_some (s := some (L5.drop 32)) (n := n) (c := L6) h6, if_neg hn, h7]
 have e8 : stP (some (L5.drop 32)) = some L7 := by unfold stP; rw [e7]; rfl
 cases h8 : rdT L7 with
 | none => rw [h8] at h; cases h
 | some q8 =>
 obtain ⟨up, L8⟩ := q8
 rw [h8] at h
 simp only [Option.bind_some, Option.pure_def, Option.some.injEq, Prod.mk.injEq] at h
 obtain ⟨rfl, rfl⟩ := h
 exact ⟨a1, a2, a3, a4, a5, L5, ps, up, h1, h2, h3, h4, h5, rfl, by omega, by rw [e8]; exact e7, by rw [e8]; exact h8, rfl⟩
theorem step_copy_ex {P : Program} {w : World} {ops : Array Oper} {o : Oper} {a : Act} {K : Act → World → Prop} {Q : Exit → Act → World → Prop} {E : Prop} {R : Value → World → Prop} (hgd : o.guard = none) (s x : Operand) (t : TypeId)
  (ho : o.op = .call { callee := .builtin .copy, args := #[s, x], argTypes := #[t, t] }) (v xv : Value) (hs : a.eval s = v) (hx : a.eval x = xv)
  (hr : ∃ v' w', (Builtin.copy_ #[t, t] o.type #[v, xv]).run P w = .ok v' w' ∧ R v' w') (h : ∀ v' w', R v' w' → K (a.put o.dst v') w') : if Region.wanted o (yielded ops a.tmps) = true then Oper.wp P o a w K Q else E := by
 have hw : Region.wanted o (yielded ops a.tmps) = true := by simp [Region.wanted, hgd]
 rw [if_pos hw]
 obtain ⟨v', w', hr, hR⟩ := hr
 unfold Oper.wp execOp
 simp only [ho, resolve, invoke, builtin, Sem.run_bind, Sem.run_pure, Result.andThen_ok, List.map_toArray, List.map_cons, List.map_nil, hs, hx, hr]
 exact h _ _ hR
theorem PLF.base {B B' : Nat} {w : World} {v : Value} {ps : Ps} (h : PLF B w v ps) (hB : B' ≤ B) : PLF B' w v ps := ⟨h.1, fun a n c e e' => ⟨Nat.le_trans hB (h.2.1 a n c e e').1, (h.2.1 a n c e e').2⟩, h.2.2⟩
theorem PLF.form {B : Nat} {w : World} {v : Value} {ps : Ps} (h : PLF B w v ps) : ∃ po n c, v = .slice po n c := by obtain ⟨⟨po, c, h, _⟩, _⟩ := h; exact ⟨_, _, _, h⟩
/-- A reader's block and a record's block behind it. -/
structure V2 (w0 : World) (p g : Nat) (r : Rv) (s : Option (List Nat)) (w : World) : Prop where
 ok : r.ok
 lt : p < g
 rb : RBox w g r
 rd : Rd w p s
 only : Only (fun b => b = p ∨ b = g) w0 w
theorem V2.below {w0 w w' : World} {p g : Nat} {r : Rv} {s : Option (List Nat)} (h : V2 w0 p g r s w) (hb : Below w.heap.size w w') : V2 w0 p g r s w' :=
 ⟨h.ok, h.lt, h.rb.below h.ok hb, h.rd.below hb, h.only.trans (Only.of_below hb)⟩
theorem V2.p {w0 w w' : World} {p g : Nat} {r : Rv} {s s' : Option (List Nat)} (h : V2 w0 p g r s w) (hr : Rd w' p s') (ho : Only (fun b => b = p) w w') : V2 w0 p g r s' w' :=
 ⟨h.ok, h.lt, h.rb.only h.ok ho (by have := h.lt; omega), hr, h.only.trans (ho.mono fun _ e => Or.inl e)⟩
theorem V2.g {w0 w w' : World} {p g : Nat} {r r' : Rv} {s : Option (List Nat)} (h : V2 w0 p g r s w) (hr : RBox w' g r') (hk : r'.ok) (ho : Only (fun b => b = g) w w') : V2 w0 p g r' s w' :=
 ⟨hk, h.lt, hr, h.rd.only ho (fun i e => by have := h.lt; omega), h.only.trans (ho.mono fun _ e => Or.inr e)⟩
section
variable {w0 w : World} {p g : Nat} {r : Rv} {s : Option (List Nat)} (h : V2 w0 p g r s w)
include h
theorem V2.set3 (n : Int) : V2 w0 p g { r with size := n } s (w.setCell ⟨g, 3, none⟩ (i64 n)) := h.g (h.rb.set3 h.ok n) ⟨h.ok.sl, h.ok.s8, h.ok.i, h.ok.e, h.ok.d, h.ok.u⟩ (Only.set w _ _ rfl)
theorem V2.set4 (t : ByteArray) (ht : t.size ≤ 65536) : V2 w0 p g { r with etag := t } s (w.setCell ⟨g, 4, none⟩ (.string t)) := h.g (h.rb.set4 h.ok t (by omega)) ⟨h.ok.sl, h.ok.s8, h.ok.i, by show t.size ≤ _; omega, h.ok.d, h.ok.u⟩ (Only.set w _ _ rfl)
theorem V2.set5 (n : Int) : V2 w0 p g { r with k := n } s (w.setCell ⟨g, 5, none⟩ (i64 n)) := h.g (h.rb.set5 h.ok n) ⟨h.ok.sl, h.ok.s8, h.ok.i, h.ok.e, h.ok.d, h.ok.u⟩ (Only.set w _ _ rfl)
theorem V2.set6 (n : Int) : V2 w0 p g { r with m := n } s (w.setCell ⟨g, 6, none⟩ (i64 n)) := h.g (h.rb.set6 h.ok n) ⟨h.ok.sl, h.ok.s8, h.ok.i, h.ok.e, h.ok.d, h.ok.u⟩ (Only.set w _ _ rfl)
theorem V2.set7 (t : ByteArray) (ht : t.size ≤ 65536) : V2 w0 p g { r with data := t } s (w.setCell ⟨g, 7, none⟩ (.string t)) := h.g (h.rb.set7 h.ok t (by omega)) ⟨h.ok.sl, h.ok.s8, h.ok.i, h.ok.e, by show t.size ≤ _; omega, h.ok.u⟩ (Only.set w _ _ rfl)
theorem V2.set40 (v : Value) : V2 w0 p g { r with pv := v } s (w.setCell ⟨g, 40, none⟩ v) := h.g (h.rb.set40 h.ok v) ⟨h.ok.sl, h.ok.s8, h.ok.i, h.ok.e, h.ok.d, h.ok.u⟩ (Only.set w _ _ rfl)
theorem V2.set41 (t : ByteArray) (ht : t.size ≤ 65536) : V2 w0 p g { r with up := t } s (w.setCell ⟨g, 41, none⟩ (.string t)) := h.g (h.rb.set41 h.ok t (by omega)) ⟨h.ok.sl, h.ok.s8, h.ok.i, h.ok.e, h.ok.d, by show t.size ≤ _; omega⟩ (Only.set w _ _ rfl)
theorem V2.num : Calls Tryz.prog 112 #[ptr p] w fun e w' => ∃ v : Int, e = .returned (i64 v) ∧ V2 w0 p g r (st1 s) w' ∧ Only (fun b => b = p) w w' ∧ ∀ n c, s.bind rdU = some (n, c) → v = n :=
 (number_any w p s h.rd).mono fun _ _ ⟨v, h1, h2, h3, h4⟩ => ⟨v, h1, h.p h2 h3, h3, h4⟩
theorem V2.text : Calls Tryz.prog 115 #[ptr p] w fun e w' => ∃ t : ByteArray, e = .returned (.string t) ∧ V2 w0 p g r (stT s) w' ∧ Only (fun b => b = p) w w' ∧ t.size ≤ 65536 ∧ ∀ x c, s.bind rdT = some (x, c) → lst t = x :=
 (text_any w p s h.rd).mono fun _ _ ⟨v, h1, h2, h3, h4, h5⟩ => ⟨v, h1, h.p h2 h3, h3, h4, h5⟩
theorem V2.parts : Calls Tryz.prog 125 #[ptr p] w fun e w' => ∃ (v : Value) (ps : Ps), e = .returned v ∧ V2 w0 p g r (stP s) w' ∧ PLF w.heap.size w' v ps ∧ ∀ qs c, rdP s = some (qs, c) → ps = qs :=
 (parts_any w p s h.rd).mono fun _ _ ⟨v, ps, h1, h2, h3, h4, h5⟩ => ⟨v, ps, h1, h.p h3 h4, h2, h5⟩
theorem V2.take : Calls Tryz.prog 124 #[ptr p, i64 32] w fun e w' => ∃ (po : Option Addr) (x : List Nat), e = .returned (.slice po x.length x.length) ∧ V2 w0 p g r (s.bind tk32) w' ∧ BL w' po x ∧ (x = [] ∧ po = none ∨ x.length = 32) ∧ (∀ z ∈ x, z < 256) ∧ ∀ L, s = some L → 32 ≤ L.length → x = L.take 32 := by
 by_cases hb : ∀ L, s = some L → (L.length : Int) < 32
 ·refine (take_bad w p 32 s h.rd hb).mono ?_
  rintro e w' ⟨rfl, h2, h3⟩
  refine ⟨none, [], rfl, ?_, Or.inl rfl, Or.inl ⟨rfl, rfl⟩, by simp, fun L h1 h2 => by have := hb L h1; omega⟩
  have e : s.bind tk32 = none := by
   cases s with
   | none => rfl
   | some L => have := hb L rfl; show tk32 L = none; unfold tk32; rw [if_pos (by omega)]
  rw [e]; exact h.p h2 h3
 ·cases s with
  | none => exact (hb fun L e => by cases e).elim
  | some L =>
   have hl : 32 ≤ L.length := by
    rcases Nat.lt_or_ge L.length 32 with q | q
    ·exact (hb fun L' e => by cases e; omega).elim
    ·exact q
   refine (take_ok w p 32 L h.rd hl).mono ?_
   rintro e w' ⟨po, rfl, h2, h3, h4, h5⟩
   have e1 : (L.take 32).length = 32 := by rw [List.length_take]; omega
   refine ⟨po, L.take 32, by rw [e1], ?_, h2, Or.inr e1, fun z hz => h.rd.bytes.2 z (List.mem_of_mem_take hz), fun L' e _ => by cases e; rfl⟩
   have e2 : (some L).bind tk32 = some (L.drop 32) := by show tk32 L = _; unfold tk32; rw [if_neg (by omega)]
   rw [e2]; exact h.p h3 h4
theorem V2.copy {po : Option Addr} {x : List Nat} (hb : BL w po x) (hx : x = [] ∧ po = none ∨ x.length = 32) (h8 : ∀ z ∈ x, z < 256) (ty : TypeId) : ∀ w2, Below w.heap.size w w2 → ∃ v' w', (Builtin.copy_ #[22, 22] ty #[.slice (some ⟨g, 8, none⟩) 32 32, .slice po x.length x.length]).run Tryz.prog w2 = .ok v' w' ∧ ∃ y, V2 w0 p g { r with sum := y } s w' ∧ (x.length = 32 → y = x) := by
 intro w2 hw
 have h2 := h.below hw
 rcases hx with ⟨rfl, rfl⟩ | hx
 ·refine ⟨_, _, run_copy_none (P := Tryz.prog) w2 22 22 ty 5 _ _ 32 32 0 0 Tryz.underlying22 (by kernel_rfl) rfl, r.sum, h2, fun e => by cases e⟩
 ·have := run_copySum h2.rb h2.ok po x hx (hb.below hw) ty
  rw [← hx] at this
  refine ⟨_, _, by rw [hx] at this ⊢; exact this, x, h2.g (h2.rb.setSum h2.ok x hx h8) ⟨hx, h8, h.ok.i, h.ok.e, h.ok.d, h.ok.u⟩ (only_setCells _ _ _ _ rfl), fun _ => rfl⟩
end
def VerS (w : World) (p g : Nat) (r : Rv) (s : Option (List Nat)) (e : Ending) (w' : World) : Prop :=
 ∃ (r' : Rv) (ps : Ps), e = .returned (.tuple #[]) ∧ r'.id = r.id ∧ r'.time = r.time ∧ r'.mark = r.mark ∧ V2 w p g r' (stT (stP ((stT (st1 (st1 (stT (st1 s))))).bind tk32))) w' ∧ PLF w.heap.size w' r'.pv ps ∧
  ∀ t rc c, s.bind (rdD (lst r.id) t) = some (rc, c) → r'.rc ps = { rc with time := r.time, mark := r.mark }
set_option maxRecDepth 100000 in
set_option maxHeartbeats 2000000 in
theorem version_any (w : World) (p g : Nat) (r : Rv) (s : Option (List Nat)) (h : V2 w p g r s w) : Calls Tryz.prog 118 #[ptr p, ptr g] w (VerS w p g r s) := by
 have hnum := h.num
 have HL : Hid (g < w.heap.size ∧ p < g) := hid ⟨h.rb.at_.lt, h.lt⟩
 clear h
 go_enter Tryz.func118, Tryz.ntmps118
 go_wp2_with (first
  | (go_at_call 112; refine hnum.mono ?_; rintro e w1 ⟨v1, rfl, k1, _, f1⟩; clear hnum; have K1 := hid k1; have F1 := hid f1; clear k1 f1)
  | (go_at_call 115; refine K1.out.text.mono ?_; rintro e w2 ⟨t2, rfl, k2, _, l2, f2⟩; have c3 := k2.rb.c3; have c4 := (k2.set3 v1).rb.c4; have z := k2.rb.free; have z' := (k2.set3 v1).rb.free; have K2 := hid ((k2.set3 v1).set4 t2 l2); have F2 := hid f2; clear k2 f2 K1)
  | (go_at_call 112; refine K2.out.num.mono ?_; rintro e w3 ⟨v3, rfl, k3, _, f3⟩; have K3 := hid k3; have F3 := hid f3; clear k3 f3 K2 c3 c4 z z')
  | (go_at_call 112; refine K3.out.num.mono ?_; rintro e w4 ⟨v4, rfl, k4, _, f4⟩; have c5 := k4.rb.c5; have c6 := (k4.set5 v3).rb.c6; have z := k4.rb.free; have z' := (k4.set5 v3).rb.free; have K4 := hid ((k4.set5 v3).set6 v4); have F4 := hid f4; clear k4 f4 K3)
  | (go_at_call 115; refine K4.out.text.mono ?_; rintro e w5 ⟨t5, rfl, k5, _, l5, f5⟩; clear c5 c6 z z'; have c7 := k5.rb.c7; have z := k5.rb.free; have K5 := hid (k5.set7 t5 l5); have F5 := hid f5; clear k5 f5 K4))
 clear c7 z
 generalize hw6 : w5.setCell ⟨g, 7, none⟩ (.string t5) = w6 at K5
 have hsl := run_sum g
 go_region_held3 (fun w' => True) (trivial) (first
  | (go_at_call 124; (first | refine (K5.out.below (below_drewN _ _)).take.mono ?_ | refine K5.out.take.mono ?_); rintro e w7 ⟨po, x, rfl, k7, hb7, hx7, h8, f7⟩; have K7 := hid k7; have F7 := hid f7; have HB7 := hid hb7; have H8 := hid h8; have HX7 := hid hx7; clear k7 f7 hb7 h8 hx7 K5)
  | ((first | refine step_copy_ex (by rfl) (.tmp 32) (.tmp 34) 22 (by rfl) (.slice (some ⟨g, 8, none⟩) 32 32) _ (by rfl) (by rfl) (K7.out.copy HB7.out HX7.out H8.out _ _ (below_drewN _ _)) ?_ | refine step_copy_ex (by rfl) (.tmp 32) (.tmp 34) 22 (by rfl) (.slice (some ⟨g, 8, none⟩) 32 32) _ (by rfl) (by rfl) (K7.out.copy HB7.out HX7.out H8.out _ _ (Below.refl _ _)) ?_); rintro v8 w8 ⟨y, k8, f8⟩; have K8 := hid k8; have F8 := hid f8; clear k8 f8 K7))
 clear hsl HB7 H8 hw6
 go_wp2_with (first
  | (go_at_call 125; refine K8.out.parts.mono ?_; rintro e w9 ⟨v9, ps, rfl, k9, hp9, f9⟩; obtain ⟨po9, n9, c9, hv9⟩ := hp9.form; subst hv9; have c40 := k9.rb.c40; have z := k9.rb.free; have K9 := hid (k9.set40 (.slice po9 n9 c9)); have F9 := hid f9; have HP9 := hid ((hp9.base K8.out.only.size).only (Only.set (S := fun b => b = g) w9 ⟨g, 40, none⟩ (.slice po9 n9 c9) rfl) (fun i e => by have := HL.out; omega)); clear k9 f9 hp9 K8)
  | (go_at_call 115; refine K9.out.text.mono ?_; rintro e w10 ⟨t10, rfl, k10, o10, l10, f10⟩; clear c40 z; have c41 := k10.rb.c41; have z := k10.rb.free; have K10 := hid (k10.set41 t10 l10); have F10 := hid f10; have HP10 := hid ((HP9.out.only o10 (fun i e => by have := HL.out; omega)).only (Only.set (S := fun b => b = g) w10 ⟨g, 41, none⟩ (.string t10) rfl) (fun i e => by have := HL.out; omega)); clear k10 f10 K9 o10))
 go_end0
 refine ⟨{ r with size := v1, etag := t2, k := v3, m := v4, data := t5, sum := y, pv := .slice po9 n9 c9, up := t10 }, ps, rfl, rfl, rfl, rfl, K10.out, HP10.out, fun t rc c hs => ?_⟩
 obtain ⟨size, etag, k, m, data, L5, qs, up, a1, a2, a3, a4, a5, a6, a7, a8, a9, rfl⟩ := rdD_val hs
 have e32 : (stT (st1 (st1 (stT (st1 s))))).bind tk32 = some (L5.drop 32) := by rw [a6]; show tk32 L5 = _; unfold tk32; rw [if_neg (by omega)]
 have b7 := F7.out L5 a6 a7
 have b8 := F8.out (by rw [b7, List.length_take]; omega)
 have b9 := F9.out
 have b10 := F10.out
 rw [e32] at b9 b10
 unfold Rv.rc
 simp only [F1.out _ _ a1, F2.out _ _ a2, F3.out _ _ a3, F4.out _ _ a4, F5.out _ _ a5, b8, b7, b9 _ _ a8, b10 _ _ a9]
end Go.Proofs.YtdohmokhfajjpaaGreatDoor

/- Contract of Bytes of package record. -/
namespace Go.Proofs.YtdohmokhfajjpaaGreatDoor
open Go Go.RowKit

theorem run_loadR {w : World} {g : Nat} {r : Rv} (hr : r.ok) (h : RBox w g r) : (Instr.loadAt 44 (.pointer (some ⟨g, 0, none⟩))).run Tryz.prog w = .ok (.agg r.cs) w := by
 simp only [Instr.loadAt, Instr.sureAddr, Sem.run_bind, Sem.run_pure, Result.andThen_ok, run_loadVar_at w g 0 44 r.cs _ h.whole underRec rfl (by rw [hr.size]; exact sizeR)]
theorem exec_load {a : Act} {o : Oper} {ty : TypeId} {x : Operand} {p v : Value} {W : World} (ho : o.op = .load ty x) (hx : a.eval x = p) (h : (Instr.loadAt ty p).run Tryz.prog W = .ok v W) : (execOp a.eval o).run Tryz.prog W = .ok (.value v) W := by
 unfold execOp
 simp only [ho, hx, Sem.run_bind, h, Result.andThen_ok, Sem.run_pure]
end Go.Proofs.YtdohmokhfajjpaaGreatDoor

/- Contract of record of the reader of package record. -/
namespace Go.Proofs.YtdohmokhfajjpaaGreatDoor
open Go Go.RowKit

def zR : Rv := ⟨⟨#[]⟩, 0, false, 0, ⟨#[]⟩, 0, 0, ⟨#[]⟩, zeroD, .slice none 0 0, ⟨#[]⟩⟩
theorem zR_ok : zR.ok := ⟨rfl, by simp [zR, zeroD], by simp [zR, ByteArray.size], by simp [zR, ByteArray.size], by simp [zR, ByteArray.size], by simp [zR, ByteArray.size]⟩
theorem zeroR : (Tryz.prog.info? 44).map (·.zero) = some (some (.agg zR.cs)) := by kernel_rfl
theorem built_head (id : ByteArray) (time : Int) : Tryz.prog.built 44 [(0, .string id), (1, i64 time)] = some ({ zR with id := id, time := time } : Rv).cs := by kernel_rfl
theorem headR_ok {t : ByteArray} {v : Int} (h : t.size ≤ 65536) : ({ zR with id := t, time := v } : Rv).ok := ⟨zR_ok.sl, zR_ok.s8, by show t.size ≤ _; omega, zR_ok.e, zR_ok.d, zR_ok.u⟩
theorem Rv.one {r : Rv} (h : r.pv.oneCell' = true) : r.cs.all (·.oneCell') = true := by
 rw [Array.all_eq_true_iff_forall_mem]
 intro v hv
 rw [← Array.mem_toList_iff, Rv.toL] at hv
 simp only [List.mem_append, List.mem_cons, List.not_mem_nil, or_false, List.mem_map] at hv
 rcases hv with (rfl | rfl | rfl | rfl | rfl | rfl | rfl | rfl) | ⟨_, _, rfl⟩ | rfl | rfl <;> first | rfl | exact h
theorem only_setRow {S : Nat → Prop} (w : World) (g : Nat) (cs : Array Value) (h : S g) : Only S w (w.setRow g cs) := ⟨rfl, rfl, rfl, by simp, fun k _ hk => setRow_other w g k cs fun e => hk (e ▸ h)⟩
theorem run_storeR {w : World} {g : Nat} {r0 r : Rv} (h0 : r0.ok) (hr : r.ok) (hpv : r.pv.oneCell' = true) (hb : RBox w g r0) : (Instr.storeAt 44 (.pointer (some ⟨g, 0, none⟩)) (.agg r.cs)).run Tryz.prog w = .ok () (w.setRow g r.cs) ∧ RBox (w.setRow g r.cs) g r := by
 have e := run_storeVar_row (P := Tryz.prog) w g 44 44 r0.cs r.cs hb.at_ (by rw [hr.size]; exact sizeR) (by rw [h0.size, hr.size]) (Rv.one hpv)
 refine ⟨?_, RBox.mk' hr (setRow_heap w g r0.cs r.cs _ _ hb.at_)⟩
 simp only [Instr.storeAt, Instr.sureAddr, Sem.run_bind, Sem.run_pure, Result.andThen_ok, e]
theorem wpList_allocR {ops : Array Oper} {rest : List Oper} {o : Oper} {a : Act} {w : World} {Q : Exit → Act → World → Prop} (hg : o.guard = none) (ho : o.op = .alloc 44)
  (h : ∀ w1 g, RBox w1 g zR → Below w.heap.size w w1 → w.heap.size = g → wpList Tryz.prog ops Q rest (a.put o.dst (ptr g)) w1) : wpList Tryz.prog ops Q (o :: rest) a w := by
 refine wpList_plain hg fun _ hK => ?_
 obtain ⟨i, hq, hz'⟩ := Option.map_eq_some_iff.1 zeroR
 unfold Oper.wp execOp
 simp only [ho, Instr.alloc, zeroValue, typeInfo, Sem.run_bind, newVar, newRow]
 simp [hq, hz', Value.cells]
 exact hK _ _ (h _ _ (RBox.mk' zR_ok (CAt.made _ _ _)) (below_al _ _) rfl)
theorem wpList_storeR {ops : Array Oper} {rest : List Oper} {o : Oper} {a : Act} {w : World} {Q : Exit → Act → World → Prop} (hg : o.guard = none) (hdst : o.dst = none) (x y : Operand) (ho : o.op = .store 44 x y) (g : Nat) (hx : a.eval x = ptr g) {r0 r : Rv} (hy : a.eval y = .agg r.cs) (h0 : r0.ok) (hr : r.ok) (hpv : r.pv.oneCell' = true) (hb : RBox w g r0)
  (h : ∀ w1, RBox w1 g r → Only (fun b => b = g) w w1 → wpList Tryz.prog ops Q rest a w1) : wpList Tryz.prog ops Q (o :: rest) a w := by
 refine wpList_plain hg fun _ hK => ?_
 obtain ⟨e1, e2⟩ := run_storeR h0 hr hpv hb
 unfold Oper.wp execOp
 simp only [ho, hx, hy, ptr, Sem.run_bind, e1, Result.andThen_ok, Sem.run_pure]
 refine hK (a.put o.dst undef) _ ?_
 rw [hdst]
 exact h _ e2 (only_setRow _ _ _ rfl)
/-- The reader's block, the block of the result and that of the record. -/
structure RR (w : World) (p g2 g : Nat) (r : Rv) (s : Option (List Nat)) (W : World) : Prop where
 ok : r.ok
 zb : RBox W g2 zR
 rb : RBox W g r
 rd : Rd W p s
 only : Only (fun b => b = p) w W
 h1 : p < w.heap.size
 h2 : w.heap.size ≤ g2
 h3 : g2 < g
section
variable {w W W' : World} {p g2 g : Nat} {r r' : Rv} {s s' : Option (List Nat)} (h : RR w p g2 g r s W)
include h
theorem RR.below (hb : Below W.heap.size W W') : RR w p g2 g r s W' := ⟨h.ok, h.zb.below zR_ok hb, h.rb.below h.ok hb, h.rd.below hb, h.only.trans (Only.of_below hb), h.h1, h.h2, h.h3⟩
theorem RR.pp (hr : Rd W' p s') (ho : Only (fun b => b = p) W W') : RR w p g2 g r s' W' :=
 ⟨h.ok, h.zb.only zR_ok ho (by have := h.h1; have := h.h2; omega), h.rb.only h.ok ho (by have := h.h1; have := h.h2; have := h.h3; omega), hr, h.only.trans ho, h.h1, h.h2, h.h3⟩
theorem RR.v2 : V2 W p g r s W := ⟨h.ok, by have := h.h1; have := h.h2; have := h.h3; omega, h.rb, h.rd, Only.refl _ _⟩
theorem RR.ver (k : V2 W p g r' s' W') : RR w p g2 g r' s' W' :=
 ⟨k.ok, h.zb.only zR_ok k.only (by have := h.h1; have := h.h2; have := h.h3; omega), k.rb, k.rd, h.only.then k.only (fun i hi e => by have := h.h1; have := h.h2; have := h.h3; omega), h.h1, h.h2, h.h3⟩
theorem RR.set2 (b : Bool) : RR w p g2 g { r with mark := b } s (W.setCell ⟨g, 2, none⟩ (.bool b)) := by
 have ho : Only (fun b => b = g) W (W.setCell ⟨g, 2, none⟩ (.bool b)) := Only.set W _ _ rfl
 exact ⟨⟨h.ok.sl, h.ok.s8, h.ok.i, h.ok.e, h.ok.d, h.ok.u⟩, h.zb.only zR_ok ho (by have := h.h3; omega), h.rb.set2 h.ok b, h.rd.only ho (fun i e => by have := h.h1; have := h.h2; have := h.h3; omega), h.only.then ho (fun i hi e => by have := h.h1; have := h.h2; have := h.h3; omega), h.h1, h.h2, h.h3⟩
end
theorem RR.mk1 {w w1 w2 w3 w4 : World} {p g2 g : Nat} {r : Rv} {s : Option (List Nat)} (hp : p < w.heap.size) (hz : RBox w1 g2 zR) (hb : Below w.heap.size w w1) (hg : w.heap.size = g2) (hr : Rd w2 p s) (ho : Only (fun b => b = p) w1 w2)
  (hb3 : Below w2.heap.size w2 w3) (hg3 : w2.heap.size = g) (h4 : RBox w4 g r) (hk : r.ok) (ho4 : Only (fun b => b = g) w3 w4) : RR w p g2 g r s w4 := by
 have l1 := hz.at_.lt
 have l2 := ho.size
 have z2 := hz.only zR_ok ho (by omega)
 have z3 := z2.below zR_ok hb3
 have r3 := hr.below hb3
 exact ⟨hk, z3.only zR_ok ho4 (by omega), h4, r3.only ho4 (fun i e => by omega), ((((Only.of_below hb).trans ho).trans (Only.of_below hb3)).then ho4 fun i hi e => by have := hb.size; omega), hp, by omega, by omega⟩
theorem rdAny_eq (s : Option (List Nat)) : s.bind rdAny = (s.bind rdT).bind fun q => ((stT s).bind rdU).bind fun q2 => (st1 (stT s)).bind fun b => match b with
 | [] => none
 | c :: b => if 1 < c then none else if c = 1 then some (⟨q.1, q2.1, true, 0, [], 0, 0, [], zeroD, [], []⟩, b) else rdD q.1 q2.1 b := by
 cases s with
 | none => rfl
 | some L =>
 simp only [Option.bind_some, stT, st1]
 unfold rdAny
 cases h1 : rdT L with
 | none => rfl
 | some q =>
 obtain ⟨id, L1⟩ := q
 simp only [Option.bind_eq_bind, Option.bind_some, Option.map_some]
 cases h2 : rdU L1 with
 | none => rfl
 | some q2 => obtain ⟨t, L2⟩ := q2; rfl
theorem rdR_eq (s : Option (List Nat)) : s.bind rdR = (s.bind rdAny).bind fun q => if okRc q.1 then some q else none := by
 cases s with
 | none => rfl
 | some L => simp only [Option.bind_some]; unfold rdR; cases rdAny L <;> rfl
def RecS (w : World) (p : Nat) (s : Option (List Nat)) (e : Ending) (w' : World) : Prop :=
 ∃ (r : Rv) (ps : Ps), e = .returned (.agg r.cs) ∧ r.ok ∧ PLF w.heap.size w' r.pv ps ∧ Rd w' p ((s.bind rdR).map (·.2)) ∧ Only (fun b => b = p) w w' ∧ ∀ rc c, s.bind rdR = some (rc, c) → r.rc ps = rc
theorem ret_rowR {fn : Func} {q : Tmp} (h : fn.results = #[.cell q 44]) {R : Ending → World → Prop} {a : Act} {w : World} (g : Nat) {r : Rv}
  (hd0 : a.defers = []) (hp : a.tmps.getD q undef = .pointer (some ⟨g, 0, none⟩)) (hb : RBox w g r) (hr : r.ok) (hR : R (.returned (.agg r.cs)) w) : bodyPost Tryz.prog fn R .ret a w :=
 ⟨hd0, _, results_cell_row h _ _ g 44 r.cs (0, 0) _ hp hb.at_ underRec rfl (by rw [hr.size]; exact sizeR), hR⟩
end Go.Proofs.YtdohmokhfajjpaaGreatDoor
