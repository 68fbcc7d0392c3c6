/- Texts laid into one: the remark ahead of each part says what is proved there. -/
import Derived.Test.YtcbmimjjpkkoeaaDoorQal
import Derived.Test.YtcbmimjjpkkoeaaDoorQaw
/- JournalGrows: what is carried; what Add tells, by cases. -/
namespace Go.Proofs.YtcbmimjjpkkoeaaDoor
open Go Go.RowKit

/-- The journal in its box, the records that are wanted in a list of the call's own. -/
structure Gr (w : World) (B gj : Nat) (s : Int) (vj vw : Value) (mj mw : List Rp) (W : World) : Prop where
  below : Below w.heap.size w W
  cj : CAt W gj (jC s vj) 24
  hg : w.heap.size ≤ gj ∧ gj < B
  hB : B ≤ W.heap.size
  rj : Rs B W vj mj
  bw : RBuf B W vw mw
  ew : ∀ x ∈ mw, RpOk w x
  eq : rcs mj = rcs mw
  ok : okA ⟨s, rcs mw⟩ = true
theorem Gr.on {w W W' : World} {B gj : Nat} {s : Int} {vj vw : Value} {mj mw : List Rp} (h : Gr w B gj s vj vw mj mw W) (hb : Below W.heap.size W W') : Gr w B gj s vj vw mj mw W' :=
  ⟨below_on h.below hb, h.cj.below hb, h.hg, Nat.le_trans h.hB hb.size, h.rj.below hb, h.bw.below hb, h.ew, h.eq, h.ok⟩
theorem Gr.len {w W : World} {B gj : Nat} {s : Int} {vj vw : Value} {mj mw : List Rp} (h : Gr w B gj s vj vw mj mw W) : mw.length ≤ 64 ∧ mj.length ≤ 64 ∧ 0 ≤ s := by
  obtain ⟨h1, _, h2, _⟩ := okA_parts h.ok
  have h3 := congrArg List.length h.eq
  simp only [rcs_len] at h2 h3
  exact ⟨by omega, by omega, h1⟩
theorem Gr.rlj {w W : World} {B gj : Nat} {s : Int} {vj vw : Value} {mj mw : List Rp} (h : Gr w B gj s vj vw mj mw W) : RL W vj mj := h.rj.rl (by have := h.len; omega)
theorem Gr.rlw {w W : World} {B gj : Nat} {s : Int} {vj vw : Value} {mj mw : List Rp} (h : Gr w B gj s vj vw mj mw W) : RL W vw mw := h.bw.rl (fun x hx => (h.ew x hx).below h.below) (by have := h.len; omega)
theorem Gr.init (w W : World) (gj : Nat) (hb : Below w.heap.size w W) (hg : w.heap.size ≤ gj) (hc : CAt W gj (jC 0 (.slice none 0 0)) 24) : Gr w W.heap.size gj 0 (.slice none 0 0) (.slice none 0 0) [] [] W :=
  ⟨hb, hc, ⟨hg, hc.lt⟩, Nat.le_refl _, Rs.nil _ _, RBuf.nil _ _, (fun x hx => by cases hx), rfl, by decide +kernel⟩
/-- Add, by its error's number: E, and what it tells. -/
def AddN (W : World) (E : Nat) (S : Int) (R : List Rc) (e : Ending) (w' : World) : Prop := ∃ v m, e = .returned (.tuple #[.agg (jC S v), i64 E]) ∧ Rs W.heap.size w' v m ∧ rcs m = R ∧ Below W.heap.size W w'
/-- The three ways of Add at a journal that may be added to, far from its last number. -/
inductive Way (s : Int) (R : List Rc) (x : Rc) : Nat → Int → List Rc → Prop
  | bad : okRc x = false → Way s R x 2 0 []
  | full : okRc x = true → 64 ≤ (wout R x.id).length → Way s R x 8 0 []
  | good : okRc x = true → (wout R x.id).length < 64 → Way s R x 0 (s + 1) (x :: wout R x.id)
theorem way_of {s : Int} {R : List Rc} (hA : okA ⟨s, R⟩ = true) (hs : s ≤ 1000) (x : Rc) : ∃ E S T, Way s R x E S T ∧ addJ ⟨s, R⟩ x = (E, if E = 0 then some ⟨S, T⟩ else none) := by
  unfold addJ
  cases hx : okRc x with
  | false => exact ⟨2, 0, [], .bad hx, by simp⟩
  | true =>
    by_cases h : 64 ≤ (wout R x.id).length
    · exact ⟨8, 0, [], .full hx h, by simp [hA, h]⟩
    · exact ⟨0, s + 1, _, .good hx (by omega), by simp [hA, h, show ¬ s = 1099511627776 by omega]⟩
theorem addN_any {w W : World} {B gj : Nat} {s : Int} {vj vw : Value} {mj mw : List Rp} (h : Gr w B gj s vj vw mj mw W) {x : Rp} (hx : RpOk w x) {E : Nat} {S : Int} {T : List Rc} (ha : addJ ⟨s, rcs mw⟩ x.rc = (E, if E = 0 then some ⟨S, T⟩ else none)) (hw : Way s (rcs mw) x.rc E S T) : ∀ W', Below W.heap.size W W' → Calls Tryd.prog 15 #[.agg (jC s vj), .agg x.r.cs] W' (AddN W' E S T) := fun W' hW => by
  refine (add_any s vj mj x W' (h.rlj.below hW) (hx.below (below_on h.below hW))).mono fun e w' hA => ?_
  rw [h.eq, ha] at hA
  unfold AddS at hA
  cases hw with
  | bad _ => obtain ⟨rfl, hb⟩ := hA; exact ⟨_, [], rfl, Rs.nil _ _, rfl, hb⟩
  | full _ _ => obtain ⟨rfl, hb⟩ := hA; exact ⟨_, [], rfl, Rs.nil _ _, rfl, hb⟩
  | good _ _ =>
    obtain ⟨v, m, rfl, hr, he, hb⟩ := hA
    exact ⟨v, m, rfl, hr, he, hb⟩
/-- The records but one's, as they lie. -/
def filt (id : ByteArray) (l : List Rp) : List Rp := l.filter fun y => decide (y.r.id ≠ id)
theorem lst_inj' {a b : ByteArray} : lst a = lst b ↔ a = b := ⟨lst_inj, fun h => by rw [h]⟩
theorem filt_rcs (id : ByteArray) (l : List Rp) : rcs (filt id l) = wout (rcs l) (lst id) := by
  unfold filt wout rcs
  rw [List.filter_map]
  congr 1
  apply List.filter_congr
  intro y _
  simp only [Function.comp, rc_id]
  exact decide_eq_decide.2 (not_congr lst_inj'.symm)
theorem filt_take {id : ByteArray} {l : List Rp} {k : Nat} {y : Rp} (h : l[k]? = some y) : filt id (l.take (k + 1)) = filt id (l.take k) ++ (if y.r.id = id then [] else [y]) := by
  unfold filt
  rw [List.take_add_one, h, List.filter_append]
  congr 1
  by_cases e : y.r.id = id <;> simp [e]
theorem filt_mem {id : ByteArray} {l : List Rp} {y : Rp} (h : y ∈ filt id l) : y ∈ l := (List.mem_filter.1 h).1
theorem filt_len (id : ByteArray) (l : List Rp) : (filt id l).length ≤ l.length := List.length_filter_le _ _
theorem one_rbuf {B : Nat} {w : World} {g : Nat} {y : Rp} (hy : y.r.ok) (hc : CAt w g y.r.cs 44) (hB : B ≤ g) : RBuf B w (.slice (some ⟨g, 0, none⟩) 1 1) [y] := by
  refine ⟨?_, Or.inr ⟨g, 1, y.r.cs, rfl, hB, hc, Nat.le_refl _, by unfold maxLen; omega, by rw [hy.size], ?_⟩⟩
  · simp [flatR, hy.size]
  · simp [flatR]
    exact List.take_of_length_le (Nat.le_of_eq (sizeR42 hy))
theorem Gr.next {w W W1 : World} {B gj : Nat} {s : Int} {vj vw v5 v9 : Value} {mj mw m5 : List Rp} {x : Rp} (h : Gr w B gj s vj vw mj mw W) (hx : RpOk w x) (hgood : okRc x.rc = true) (h64 : (wout (rcs mw) x.rc.id).length < 64) (hs : s ≤ 1000)
    (h5 : Rs B W v5 m5) (he : rcs m5 = x.rc :: wout (rcs mw) x.rc.id) (h9 : RBuf B W v9 (x :: filt x.r.id mw)) (hap : ∀ b, v9.ownBlock = some b → b ≠ gj) (hc : CAt W1 gj (jC (s + 1) v5) 24) (ho : Only (fun b => b = gj) W W1) : Gr w B gj (s + 1) v5 v9 m5 (x :: filt x.r.id mw) W1 := by
  have e : rcs (x :: filt x.r.id mw) = x.rc :: wout (rcs mw) x.rc.id := by rw [rc_id, ← filt_rcs]; rfl
  refine ⟨below_tr h.below (ho.below h.below.size (fun i hi => by have := h.hg; omega)), hc, h.hg, Nat.le_trans h.hB ho.size, h5.only ho (fun i hi => by have := h.hg; omega), h9.keep (fun b hb => ho.block b (own_ge h9 b hb).2 (hap b hb)), ?_, by rw [he, e], ?_⟩
  · intro y hy
    rcases List.mem_cons.1 hy with rfl | hy
    · exact hx
    · exact h.ew y (filt_mem hy)
  · rw [e]
    have ha : addJ ⟨s, rcs mw⟩ x.rc = (0, some ⟨s + 1, x.rc :: wout (rcs mw) x.rc.id⟩) := by
      unfold addJ; simp [h.ok, hgood, show ¬ s = 1099511627776 by omega, show ¬ 64 ≤ (wout (rcs mw) x.rc.id).length by omega]
    have := (okA_next h.ok x.rc).1
    rw [ha] at this
    exact this
/-- append of a list to a list of one. -/
theorem app_one {w w8 : World} {g8 : Nat} {x : Rp} (hok : x.r.ok) (hc : CAt w8 g8 x.r.cs 44) (hb : Below w.heap.size w w8) (hg : w.heap.size = g8) {u : Value} {L : List Rp} (hL : RL w8 u L) (hn : L.length ≤ 1000) : ∃ p9 n9 c9 w9, (Builtin.append_ #[22, 22] 22 #[.slice (some ⟨g8, 0, none⟩) 1 1, u]).run Tryd.prog w8 = .ok (.slice p9 n9 c9) w9 ∧ RBuf w.heap.size w9 (.slice p9 n9 c9) (x :: L) ∧ Below w.heap.size w w9 := by
  have h1 := one_rbuf (y := x) (B := w.heap.size) hok hc (by omega)
  obtain ⟨v9, w9, hr9, hrb9, hg9⟩ := RBuf.app h1 u L hL (by have : [x].length = 1 := rfl; omega) hb.size
  obtain ⟨p9, c9, hv9, _⟩ := hrb9.form
  subst hv9
  exact ⟨p9, _, c9, w9, hr9, hrb9, below_grown hb hg9 (Nat.le_refl _) (fun b hb => (own_ge h1 b hb).1)⟩
theorem exec_allocR {a : Act} {o : Oper} {W : World} (ho : o.op = .alloc 44) : (execOp a.eval o).run Tryd.prog W = .ok (.value (ptr W.heap.size)) (W.alloc (.cells zR.cs 44)) := by
  obtain ⟨i, hq, hz'⟩ := Option.map_eq_some_iff.1 zeroR
  unfold execOp
  simp only [ho, Instr.alloc, zeroValue, typeInfo, Sem.run_bind, newVar, newRow]
  simp [hq, hz', Value.cells, ptr]
theorem okJ_ne {s : Int} {R : List Rc} (h : okA ⟨s, R⟩ = true) (hn : R ≠ []) : okJ ⟨s, R⟩ = true := by
  unfold okA at h
  rw [Bool.or_eq_true] at h
  rcases h with h | h
  · simp only [Bool.and_eq_true, List.isEmpty_iff] at h
    exact absurd h.2 hn
  · exact h
/-- Find, at a place of the list that is wanted. -/
theorem find_at {w W : World} {B gj : Nat} {s : Int} {vj vw : Value} {mj mw : List Rp} (h : Gr w B gj s vj vw mj mw W) {k : Nat} {y : Rp} (hy : mw[k]? = some y) : ∀ W', Below W.heap.size W W' → Calls Tryd.prog 18 #[.agg (jC s vj), .string y.r.id] W' (RecE W' y.rc #[i64 k, i64 0]) := fun W' hW => by
  have hk := (List.getElem?_eq_some_iff.1 hy).1
  have hj := congrArg List.length h.eq
  simp only [rcs_len] at hj
  obtain ⟨z, hz⟩ : ∃ z, mj[k]? = some z := ⟨_, List.getElem?_eq_getElem (by omega)⟩
  have hzy : z.rc = y.rc := by
    have h1 : (rcs mj)[k]? = some z.rc := by rw [rcs_get, hz]; rfl
    have h2 : (rcs mw)[k]? = some y.rc := by rw [rcs_get, hy]; rfl
    rw [h.eq, h2] at h1
    exact (Option.some.inj h1).symm
  have hok : okJ ⟨s, rcs mj⟩ = true := by rw [h.eq]; exact okJ_ne h.ok (fun e => by have := congrArg List.length e; rw [rcs_len] at this; simp at this; rw [this] at hk; simp at hk)
  have hnd := (okJ_parts hok).2.2.2.2
  have hkl : k < (rcs mj).length := by rw [rcs_len]; omega
  have hat := atI_at hnd k hkl
  have hid : (rcs mj)[k].id = lst y.r.id := by
    have h1 : (rcs mj)[k]? = some z.rc := by rw [rcs_get, hz]; rfl
    rw [List.getElem?_eq_getElem hkl] at h1
    rw [Option.some.inj h1, hzy, rc_id]
  have hat : atI (rcs mj) (lst y.r.id) = some k := by rw [← hid]; exact hat
  have := find_ok s vj mj y.r.id W' (h.rlj.below hW) hok k hat z hz
  rw [hzy] at this
  exact this
#print axioms find_at
#print axioms addN_any
end Go.Proofs.YtcbmimjjpkkoeaaDoor

/- JournalGrows: early ends. -/
namespace Go.Proofs.YtcbmimjjpkkoeaaDoor
open Go Go.RowKit

theorem builtJ8 (po : Option Addr) (n c : Nat) : Tryd.prog.built 24 [(1, .slice po n c)] = some (jC 0 (.slice po n c)) := by kernel_rfl
set_option maxRecDepth 100000 in
theorem grow_long (a0 a1 : Addr) (v : Value) (l : List Rp) (which : Int) (w : World) (he : Ers w a0 a1) (hl : IsJ w v l) (hb : 70 < l.length) : Calls Tryd.prog 4 #[v, i64 which] w fun e w' => e = .returned (.bool true) ∧ Below w.heap.size w w' := by
  have HAW := hid (awake8_any a0 a1 w he)
  obtain ⟨po, c, rfl, _⟩ := hl
  have hb' : 70 < (l.length : Int) := by omega
  clear he
  go_enter Tryd.func4, Tryd.ntmps4
  go_wp2_with ((go_at_call 6; (with_reducible refine HAW.out.mono ?_); rintro e w1 ⟨rfl, hb1⟩; have HB := hid hb1; clear hb1))
  go_ret
  exact ⟨rfl, HB.out⟩
set_option maxRecDepth 100000 in
theorem grow_big (a0 a1 : Addr) (v : Value) (l : List Rp) (which : Int) (w : World) (he : Ers w a0 a1) (hl : IsJ w v l) (hb : ¬ 70 < l.length) (hB : bigJ l = true) : Calls Tryd.prog 4 #[v, i64 which] w fun e w' => e = .returned (.bool true) ∧ Below w.heap.size w w' := by
  have HAW := hid (awake8_any a0 a1 w he)
  have HLG : Hid (∀ W, Below w.heap.size w W → Calls Tryd.prog 7 #[.agg (jC 0 v)] W fun e w' => e = .returned (.bool true) ∧ Below W.heap.size W w') := hid (fun W hW => by have := Large_any 0 v l W (hl.below hW); rw [hB] at this; exact this)
  obtain ⟨po, c, rfl, _⟩ := hl
  have hb' : ¬ 70 < (l.length : Int) := by omega
  clear he
  go_enter Tryd.func4, Tryd.ntmps4
  go_wp2_with (first
    | (go_at_call 6; (with_reducible refine HAW.out.mono ?_); rintro e w1 ⟨rfl, hb1⟩; have HB := hid hb1; clear hb1)
    | ((with_reducible refine wpList_build_want 24 _ rfl ?_ (jC 0 (.slice po l.length c)) ?_ ?_); exact rfl; exact builtJ8 _ _ _)
    | (go_at_call 7; refine (HLG.out _ HB.out).mono ?_; rintro e w2 ⟨rfl, hb2⟩; replace HB := hid (below_on HB.out hb2); clear hb2))
  go_ret
  exact ⟨rfl, HB.out⟩
#print axioms grow_big
end Go.Proofs.YtcbmimjjpkkoeaaDoor

/- JournalGrows: parts of a list of records; Remove, Find and Newest at the list that is wanted. -/
namespace Go.Proofs.YtcbmimjjpkkoeaaDoor
open Go Go.RowKit

theorem RL.headR {W : World} {po : Option Addr} {c : Nat} {m : List Rp} (h : RL W (.slice po m.length c) m) {q : Nat} (hq : q ≤ m.length) : RL W (.slice po q c) (m.take q) := by
  obtain ⟨po', c', e, h1, h2, h3, h4, h5⟩ := h
  cases e
  refine ⟨po, c, by rw [List.length_take, Nat.min_eq_left hq], by rw [List.length_take]; omega, by rw [List.length_take]; omega, h3, ?_, fun x hx => h5 x (List.mem_of_mem_take hx)⟩
  rcases h4 with h4 | ⟨b, o, e, h4⟩
  · left; rw [h4]; simp
  · right
    refine ⟨b, o, e, fun i x hx => h4 i x ?_⟩
    rw [List.getElem?_take] at hx
    split at hx
    · exact hx
    · cases hx
theorem fromR {b o c : Nat} {m : List Rp} {q : Nat} (hq : q ≤ m.length) (hc : m.length ≤ c) : ∃ p' n' c', (∀ w, (Instr.slice 22 (.slice (some ⟨b, o, none⟩) m.length c) (some (.int .i64 (q : Int))) none none).run Tryd.prog w = .ok (.slice p' n' c') w) ∧ ∀ W, RL W (.slice (some ⟨b, o, none⟩) m.length c) m → RL W (.slice p' n' c') (m.drop q) := by
  by_cases e : c = q
  · refine ⟨some ⟨b, o, none⟩, m.length - q, c - q, fun w => ?_, fun W h => ?_⟩
    · rw [run_slice_l (P := Tryd.prog) w 22 _ m.length c underERc .i64 (q : Int) (by omega) (by omega), elemRc]
      simp [Result.andThen, sliced, e]
    · have hl : m.drop q = [] := List.drop_of_length_le (by omega)
      rw [hl]
      refine ⟨_, _, by rw [show m.length - q = 0 by omega]; rfl, by simp, by simp, (fun h => by cases h), Or.inl rfl, fun x hx => by cases hx⟩
  · refine ⟨some ⟨b, o + q * 42, none⟩, m.length - q, c - q, fun w => ?_, fun W h => ?_⟩
    · rw [run_slice_l (P := Tryd.prog) w 22 _ m.length c underERc .i64 (q : Int) (by omega) (by omega), elemRc]
      simp [Result.andThen, sliced, e, add_none]
    · obtain ⟨po', c', e', h1, h2, h3, h4, h5⟩ := h
      cases e'
      refine ⟨_, _, by rw [List.length_drop], by rw [List.length_drop]; omega, by rw [List.length_drop]; omega, (fun h => by cases h), ?_, fun x hx => h5 x (List.mem_of_mem_drop hx)⟩
      rcases h4 with h4 | ⟨b', o', e', h4⟩
      · left; rw [h4]; simp
      · cases e'
        right
        refine ⟨b, o + q * 42, rfl, fun i x hx j v hv => ?_⟩
        rw [List.getElem?_drop] at hx
        have := h4 (q + i) x hx j v hv
        rwa [show o + (q + i) * 42 + j = o + q * 42 + i * 42 + j by rw [Nat.add_mul]; omega] at this
theorem Gr.at {w W : World} {B gj : Nat} {s : Int} {vj vw : Value} {mj mw : List Rp} (h : Gr w B gj s vj vw mj mw W) {k : Nat} {y : Rp} (hy : mw[k]? = some y) : okJ ⟨s, rcs mj⟩ = true ∧ atI (rcs mj) (lst y.r.id) = some k ∧ (∃ z, mj[k]? = some z ∧ z.rc = y.rc) ∧ wout (rcs mj) (lst y.r.id) = rcs (mw.take k ++ mw.drop (k + 1)) ∧ okJ ⟨s + 1, wout (rcs mj) (lst y.r.id)⟩ = true ∨ 1000 < s := by
  by_cases hs : 1000 < s
  · exact Or.inr hs
  left
  have hk := (List.getElem?_eq_some_iff.1 hy).1
  have hj := congrArg List.length h.eq
  simp only [rcs_len] at hj
  obtain ⟨z, hz⟩ : ∃ z, mj[k]? = some z := ⟨_, List.getElem?_eq_getElem (by omega)⟩
  have h1 : (rcs mj)[k]? = some z.rc := by rw [rcs_get, hz]; rfl
  have hzy : z.rc = y.rc := by
    have h2 : (rcs mw)[k]? = some y.rc := by rw [rcs_get, hy]; rfl
    have h3 := h1
    rw [h.eq, h2] at h3
    exact (Option.some.inj h3).symm
  have hok : okJ ⟨s, rcs mj⟩ = true := by rw [h.eq]; exact okJ_ne h.ok (fun e => by have := congrArg List.length e; rw [rcs_len] at this; simp at this; rw [this] at hk; simp at hk)
  obtain ⟨k1, k2, k3, k4, hnd⟩ := okJ_parts hok
  have hkl : k < (rcs mj).length := by rw [rcs_len]; omega
  have hid : (rcs mj)[k].id = lst y.r.id := by
    have h3 := h1
    rw [List.getElem?_eq_getElem hkl] at h3
    rw [Option.some.inj h3, hzy, rc_id]
  refine ⟨hok, by rw [← hid]; exact atI_at hnd k hkl, ⟨z, hz, hzy⟩, ?_, okJ_mk (by simp only at k1 ⊢; omega) (by simp only at k2 ⊢; omega) (Nat.le_trans (wout_len _ _) k3) (wout_all k4 _) (wout_nodup hnd _)⟩
  rw [← hid, wout_at hnd k hkl, h.eq]
  unfold rcs
  rw [List.map_append, List.map_take, List.map_drop]
theorem rem_at {w W : World} {B gj : Nat} {s : Int} {vj vw : Value} {mj mw : List Rp} (h : Gr w B gj s vj vw mj mw W) (hs : s ≤ 1000) {k : Nat} {y : Rp} (hy : mw[k]? = some y) : ∀ W', Below W.heap.size W W' → Calls Tryd.prog 20 #[.agg (jC s vj), .string y.r.id] W' (JouE W' (s + 1) (rcs (mw.take k ++ mw.drop (k + 1)))) := fun W' hW => by
  rcases h.at hy with ⟨h1, h2, ⟨z, hz, _⟩, h4, _⟩ | h9
  · have := rem_ok s vj mj y.r.id W' (h.rlj.below hW) h1 k h2 z hz h.len.2.2 (by omega)
    rw [h4] at this
    exact this
  · omega
/-- Find in what is left when a version is removed. -/
theorem gone_at {w W : World} {B gj : Nat} {s : Int} {vj vw : Value} {mj mw : List Rp} (h : Gr w B gj s vj vw mj mw W) (hs : s ≤ 1000) {k : Nat} {y : Rp} (hy : mw[k]? = some y) {vg : Value} {mg : List Rp} (he : rcs mg = rcs (mw.take k ++ mw.drop (k + 1))) : ∀ W', RL W' vg mg → Calls Tryd.prog 18 #[.agg (jC (s + 1) vg), .string y.r.id] W' fun e w' => e = .returned (.tuple #[.agg zR.cs, i64 0, i64 6]) ∧ Below W'.heap.size W' w' := fun W' hR => by
  rcases h.at hy with ⟨h1, h2, _, h4, h5⟩ | h9
  · refine find_miss (s + 1) vg mg y.r.id W' hR (by rw [he, ← h4]; exact h5) ?_
    rw [he, ← h4, atI_none]
    exact wout_not _ _
  · omega
theorem new_at {w W : World} {B gj : Nat} {s : Int} {vj vw : Value} {mj mw : List Rp} (h : Gr w B gj s vj vw mj mw W) (hs : s ≤ 1000) {y : Rp} (hy : mw[0]? = some y) : ∀ W', Below W.heap.size W W' → Calls Tryd.prog 21 #[.agg (jC s vj)] W' (RecE W' y.rc #[i64 0]) := fun W' hW => by
  rcases h.at hy with ⟨h1, _, ⟨z, hz, hzy⟩, _⟩ | h9
  · have := newest_ok s vj mj W' (h.rlj.below hW) h1 z hz
    rw [hzy] at this
    exact this
  · omega
theorem mem_cut {m : List Rp} {q : Nat} {y : Rp} (h : y ∈ m.take q ++ m.drop (q + 1)) : y ∈ m := by
  rcases List.mem_append.1 h with h | h
  · exact List.mem_of_mem_take h
  · exact List.mem_of_mem_drop h
#print axioms new_at
#print axioms gone_at
end Go.Proofs.YtcbmimjjpkkoeaaDoor
